/- bonsailaw01.SetTells, walked. -/
import Derived.Test.YtgekfdmamingjaaDoorLawM
import Derived.Test.YtgekfdmamingjaaDoorRef5
import Derived.Deep.RegionHeld3
namespace Go.Proofs.YtgekfdmamingjaaDoor
open Go.RowKit Bset

def rangeS (a b : Nat) : Nat → Bool := fun m => decide (a ≤ m) && decide (m ≤ b)
theorem range_o (a b : Nat) (ha : a < 256) (hb : b < 256) (w : World) : Calls Tryd.prog 10 #[.int .u8 a, .int .u8 b] w fun e w' => e = .returned (setV (rangeS a b)) ∧ Below w.heap.size w w' := range_any a b ha hb w
theorem rrange_o (a b : Nat) (ha : a < 256) (hb : b < 256) (w : World) : Calls Tryd.prog 24 #[.int .u8 a, .int .u8 b] w fun e w' => e = .returned (setV (rangeS a b)) ∧ Below w.heap.size w w' := rrange_any a b ha hb w
theorem rof_s (s : ByteArray) (h : s.size ≤ 5000) (w : World) : Calls Tryd.prog 23 #[.string s] w fun e w' => e = .returned (setV (ofS s)) ∧ Below w.heap.size w w' :=
  rof_any s (by unfold maxLen; omega) w
theorem awake_L {w W : World} (h : Lies w W) : Calls Tryd.prog 9 #[] W fun e w' => e = .returned (.bool true) ∧ Below W.heap.size W w' := awake_any W h.tab h.pos
theorem len_L {w W : World} (S : Nat → Bool) (_h : Lies w W) : Calls Tryd.prog 14 #[setV S] W fun e w' => e = .returned (.int .i64 ((mem S).length : Nat)) ∧ Below W.heap.size W w' := len_any S W
theorem same_self (S : Nat → Bool) : sameS S S = true := sameS_iff.2 fun _ _ => rfl

theorem x_keep {w W W' : World} {X : Nat → Bool} (hb : Below W.heap.size W W') (h : W.cell? ⟨w.heap.size, 0, none⟩ = some (.int .u64 (word X 0 : Nat)) ∧ W.cell? ⟨w.heap.size, 1, none⟩ = some (.int .u64 (word X 1 : Nat)) ∧ W.cell? ⟨w.heap.size, 2, none⟩ = some (.int .u64 (word X 2 : Nat)) ∧ W.cell? ⟨w.heap.size, 3, none⟩ = some (.int .u64 (word X 3 : Nat)) ∧ Lies w W) : W'.cell? ⟨w.heap.size, 0, none⟩ = some (.int .u64 (word X 0 : Nat)) ∧ W'.cell? ⟨w.heap.size, 1, none⟩ = some (.int .u64 (word X 1 : Nat)) ∧ W'.cell? ⟨w.heap.size, 2, none⟩ = some (.int .u64 (word X 2 : Nat)) ∧ W'.cell? ⟨w.heap.size, 3, none⟩ = some (.int .u64 (word X 3 : Nat)) ∧ Lies w W' := by
  obtain ⟨a0, a1, a2, a3, hL⟩ := h
  have l0 := World.block_lt_of_cell? W _ a0
  exact ⟨(hb.cell (p := ⟨w.heap.size, 0, none⟩) l0).trans a0, (hb.cell (p := ⟨w.heap.size, 1, none⟩) l0).trans a1, (hb.cell (p := ⟨w.heap.size, 2, none⟩) l0).trans a2, (hb.cell (p := ⟨w.heap.size, 3, none⟩) l0).trans a3, hL.step hb⟩
theorem x_drew {w W : World} {X : Nat → Bool} (h : W.cell? ⟨w.heap.size, 0, none⟩ = some (.int .u64 (word X 0 : Nat)) ∧ W.cell? ⟨w.heap.size, 1, none⟩ = some (.int .u64 (word X 1 : Nat)) ∧ W.cell? ⟨w.heap.size, 2, none⟩ = some (.int .u64 (word X 2 : Nat)) ∧ W.cell? ⟨w.heap.size, 3, none⟩ = some (.int .u64 (word X 3 : Nat)) ∧ Lies w W) : W.drew.cell? ⟨w.heap.size, 0, none⟩ = some (.int .u64 (word X 0 : Nat)) ∧ W.drew.cell? ⟨w.heap.size, 1, none⟩ = some (.int .u64 (word X 1 : Nat)) ∧ W.drew.cell? ⟨w.heap.size, 2, none⟩ = some (.int .u64 (word X 2 : Nat)) ∧ W.drew.cell? ⟨w.heap.size, 3, none⟩ = some (.int .u64 (word X 3 : Nat)) ∧ Lies w W.drew := by
  obtain ⟨a0, a1, a2, a3, hL⟩ := h
  exact ⟨a0, a1, a2, a3, hL.drew⟩
theorem x_low {w W : World} {X : Nat → Bool} (h : W.cell? ⟨w.heap.size, 0, none⟩ = some (.int .u64 (word X 0 : Nat)) ∧ W.cell? ⟨w.heap.size, 1, none⟩ = some (.int .u64 (word X 1 : Nat)) ∧ W.cell? ⟨w.heap.size, 2, none⟩ = some (.int .u64 (word X 2 : Nat)) ∧ W.cell? ⟨w.heap.size, 3, none⟩ = some (.int .u64 (word X 3 : Nat)) ∧ Lies w W) : Below w.heap.size w W := h.2.2.2.2.low
theorem x_lies {w W : World} {X : Nat → Bool} (h : W.cell? ⟨w.heap.size, 0, none⟩ = some (.int .u64 (word X 0 : Nat)) ∧ W.cell? ⟨w.heap.size, 1, none⟩ = some (.int .u64 (word X 1 : Nat)) ∧ W.cell? ⟨w.heap.size, 2, none⟩ = some (.int .u64 (word X 2 : Nat)) ∧ W.cell? ⟨w.heap.size, 3, none⟩ = some (.int .u64 (word X 3 : Nat)) ∧ Lies w W) : Lies w W := h.2.2.2.2
theorem x_begin {w : World} {X : Nat → Bool} (hT : TabIn w) (hg : 0 < w.heap.size) : ∀ W, W = w.alloc (.cells (setC X) 26) → W.cell? ⟨w.heap.size, 0, none⟩ = some (.int .u64 (word X 0 : Nat)) ∧ W.cell? ⟨w.heap.size, 1, none⟩ = some (.int .u64 (word X 1 : Nat)) ∧ W.cell? ⟨w.heap.size, 2, none⟩ = some (.int .u64 (word X 2 : Nat)) ∧ W.cell? ⟨w.heap.size, 3, none⟩ = some (.int .u64 (word X 3 : Nat)) ∧ Lies w W := by
  rintro W rfl
  have a := Cl.new w 26 (setC X)
  exact ⟨a.word 0 (by decide), a.word 1 (by decide), a.word 2 (by decide), a.word 3 (by decide), (Lies.start hT hg).alloc _⟩

set_option maxRecDepth 100000 in
set_option maxHeartbeats 1000000 in
/-- A text of more than 5000 bytes: the examples alone. -/
theorem tells_long (X : Nat → Bool) (a b : Nat) (s : ByteArray) (hs : s.size ≤ maxLen) (hl : 5000 < s.size) (w : World) (hT : TabIn w) (hg : 0 < w.heap.size) :
    Calls Tryd.prog 4 #[.string s, .int .u8 a, .int .u8 b, setV X] w fun e w' => e = .returned (.bool true) ∧ Below w.heap.size w w' := by
  unfold maxLen at hs
  have h0 := x_begin (X := X) hT hg _ rfl
  have hli : (5000 : Int) < (s.size : Int) := by omega
  go_enter Tryd.func4, Tryd.ntmps4
  go_wp2_with (fail)
  refine (awake_L (x_lies h0)).mono ?_
  rintro e W1 ⟨rfl, hb1⟩
  have h1 := (x_lies h0).step hb1
  go_wp2
  go_ret
  exact ⟨rfl, h1.low⟩

set_option maxRecDepth 100000 in
set_option maxHeartbeats 4000000 in
theorem tells_short (X : Nat → Bool) (a b : Nat) (ha8 : a < 256) (hb8 : b < 256) (s : ByteArray) (hl : s.size ≤ 5000) (w : World) (hT : TabIn w) (hg : 0 < w.heap.size) :
    Calls Tryd.prog 4 #[.string s, .int .u8 a, .int .u8 b, setV X] w fun e w' => e = .returned (.bool true) ∧ Below w.heap.size w w' := by
  have h0 := x_begin (X := X) hT hg _ rfl
  have hli : (s.size : Int) ≤ 5000 := by omega
  have hd : decide (5000 < (s.size : Int)) = false := by simp; omega
  go_enter Tryd.func4, Tryd.ntmps4
  obtain ⟨x0, x1, x2, x3, hL⟩ := h0
  go_wp2_with (fail)
  refine (only_any X _ hL.tab hL.pos).mono ?_
  rintro e W1 ⟨rfl, hb1⟩
  have h1 := x_keep hb1 ⟨x0, x1, x2, x3, hL⟩
  clear hb1 x0 x1 x2 x3 hL
  obtain ⟨x0, x1, x2, x3, hL⟩ := h1
  go_wp2_with (fail)
  refine (ronly_any X _).mono ?_
  rintro e W2 ⟨rfl, hb2⟩
  have h2 := x_keep hb2 ⟨x0, x1, x2, x3, hL⟩
  clear hb2 x0 x1 x2 x3 hL
  have e1 := run_same (same_self (ofS s))
  have e2 := run_same (same_self (rangeS a b))
  go_wp2_with (fail)
  go_region_held3 (fun w' => w'.cell? ⟨w.heap.size, 0, none⟩ = some (.int .u64 (word X 0 : Nat)) ∧ w'.cell? ⟨w.heap.size, 1, none⟩ = some (.int .u64 (word X 1 : Nat)) ∧ w'.cell? ⟨w.heap.size, 2, none⟩ = some (.int .u64 (word X 2 : Nat)) ∧ w'.cell? ⟨w.heap.size, 3, none⟩ = some (.int .u64 (word X 3 : Nat)) ∧ Lies w w')
    (first | (with_reducible assumption) | exact x_drew (by assumption) | exact x_keep hb (by assumption))
    (first
      | (go_at_call 12; refine (of_s s hl _).mono ?_; rintro e w' ⟨rfl, hb⟩)
      | (go_at_call 23; refine (rof_s s hl _).mono ?_; rintro e w' ⟨rfl, hb⟩)
      | (go_at_call 10; refine (range_o a b ha8 hb8 _).mono ?_; rintro e w' ⟨rfl, hb⟩)
      | (go_at_call 24; refine (rrange_o a b ha8 hb8 _).mono ?_; rintro e w' ⟨rfl, hb⟩)
      | (go_at_call 13; refine (has_any X a ha8 _).mono ?_; rintro e w' ⟨rfl, hb⟩)
      | (go_at_call 25; refine (rhas_any X a ha8 _).mono ?_; rintro e w' ⟨rfl, hb⟩)
      | (go_at_call 14; refine (len_any X _).mono ?_; rintro e w' ⟨rfl, hb⟩)
      | (go_at_call 26; refine (rlen_any X _).mono ?_; rintro e w' ⟨rfl, hb⟩)
      | (go_at_call 18; refine (list_L (w := w) X ?_).mono ?_; (first | (go_split_ands; assumption) | (go_split_ands; exact Lies.drew (by assumption))); rintro e w' ⟨rfl, hb⟩)
      | (go_at_call 27; refine (rlist_o X _).mono ?_; rintro e w' ⟨rfl, hb⟩)
      | (go_at_call 9; refine (awake_L (w := w) ?_).mono ?_; (first | (go_split_ands; assumption) | (go_split_ands; exact Lies.drew (by assumption))); rintro e w' ⟨rfl, hb⟩))
  have hlow := (x_low (by assumption) : Below w.heap.size w w')
  go_wp2
  go_ret
  exact ⟨rfl, hlow⟩
end Go.Proofs.YtgekfdmamingjaaDoor

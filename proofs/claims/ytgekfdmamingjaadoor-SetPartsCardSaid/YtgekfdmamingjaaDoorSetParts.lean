/- bonsailaw01.SetParts, walked. -/
import Derived.Test.YtgekfdmamingjaaDoorSetLaws
import Derived.Test.YtgekfdmamingjaaDoorSetTells
import Derived.Test.YtgekfdmamingjaaDoorRef8
import Derived.Laws.OwnMore
import Derived.Deep.RegionHeld3
namespace Go.Proofs.YtgekfdmamingjaaDoor
open Go.RowKit Bset

theorem ror_o (S T : Nat → Bool) (w : World) : Calls Tryd.prog 31 #[setV S, setV T] w fun e w' => e = .returned (setV (orS S T)) ∧ Below w.heap.size w w' := ror_any S T w
theorem rand_o (S T : Nat → Bool) (w : World) : Calls Tryd.prog 33 #[setV S, setV T] w fun e w' => e = .returned (setV (andS S T)) ∧ Below w.heap.size w w' := rand_any S T w
theorem rminus_o (S T : Nat → Bool) (w : World) : Calls Tryd.prog 35 #[setV S, setV T] w fun e w' => e = .returned (setV (minusS S T)) ∧ Below w.heap.size w w' := rminus_any S T w
theorem rnot_o (S : Nat → Bool) (w : World) : Calls Tryd.prog 36 #[setV S] w fun e w' => e = .returned (setV (notS S)) ∧ Below w.heap.size w w' := rnot_any S w
theorem compare_L2 {w W : World} (S T : Nat → Bool) (h : Lies w W) : Calls Tryd.prog 21 #[setV S, setV T] W fun e w' => e = .returned (.int .i64 (cmpS S T)) ∧ Below W.heap.size W w' := compare_any S T W h.tab h.pos
theorem runs_L {w W : World} (S : Nat → Bool) (h : Lies w W) : Calls Tryd.prog 16 #[setV S] W fun e w' => ∃ v, e = .returned v ∧ w'.ownsRow W.heap.size 40 2 v (runsOf S).length (runC (runsOf S)) ∧ Below W.heap.size W w' :=
  (runs_any S W h.tab h.pos).mono fun _ _ ⟨v, e1, e2, _, e3⟩ => ⟨v, e1, e2, e3⟩

theorem two_low {w W : World} {X Y : Nat → Bool} (h : W.cell? ⟨w.heap.size, 0, none⟩ = some (.int .u64 (word X 0 : Nat)) ∧ W.cell? ⟨w.heap.size, 1, none⟩ = some (.int .u64 (word X 1 : Nat)) ∧ W.cell? ⟨w.heap.size, 2, none⟩ = some (.int .u64 (word X 2 : Nat)) ∧ W.cell? ⟨w.heap.size, 3, none⟩ = some (.int .u64 (word X 3 : Nat)) ∧ W.cell? ⟨w.heap.size + 1, 0, none⟩ = some (.int .u64 (word Y 0 : Nat)) ∧ W.cell? ⟨w.heap.size + 1, 1, none⟩ = some (.int .u64 (word Y 1 : Nat)) ∧ W.cell? ⟨w.heap.size + 1, 2, none⟩ = some (.int .u64 (word Y 2 : Nat)) ∧ W.cell? ⟨w.heap.size + 1, 3, none⟩ = some (.int .u64 (word Y 3 : Nat)) ∧ Lies w W) : Below w.heap.size w W := h.2.2.2.2.2.2.2.2.low
theorem two_lies {w W : World} {X Y : Nat → Bool} (h : W.cell? ⟨w.heap.size, 0, none⟩ = some (.int .u64 (word X 0 : Nat)) ∧ W.cell? ⟨w.heap.size, 1, none⟩ = some (.int .u64 (word X 1 : Nat)) ∧ W.cell? ⟨w.heap.size, 2, none⟩ = some (.int .u64 (word X 2 : Nat)) ∧ W.cell? ⟨w.heap.size, 3, none⟩ = some (.int .u64 (word X 3 : Nat)) ∧ W.cell? ⟨w.heap.size + 1, 0, none⟩ = some (.int .u64 (word Y 0 : Nat)) ∧ W.cell? ⟨w.heap.size + 1, 1, none⟩ = some (.int .u64 (word Y 1 : Nat)) ∧ W.cell? ⟨w.heap.size + 1, 2, none⟩ = some (.int .u64 (word Y 2 : Nat)) ∧ W.cell? ⟨w.heap.size + 1, 3, none⟩ = some (.int .u64 (word Y 3 : Nat)) ∧ Lies w W) : Lies w W := h.2.2.2.2.2.2.2.2
theorem two_set {w W : World} {X Y : Nat → Bool} (hg : 0 < w.heap.size) {p : Addr} (hp : w.heap.size + 2 ≤ p.block) (u : Value) (h : W.cell? ⟨w.heap.size, 0, none⟩ = some (.int .u64 (word X 0 : Nat)) ∧ W.cell? ⟨w.heap.size, 1, none⟩ = some (.int .u64 (word X 1 : Nat)) ∧ W.cell? ⟨w.heap.size, 2, none⟩ = some (.int .u64 (word X 2 : Nat)) ∧ W.cell? ⟨w.heap.size, 3, none⟩ = some (.int .u64 (word X 3 : Nat)) ∧ W.cell? ⟨w.heap.size + 1, 0, none⟩ = some (.int .u64 (word Y 0 : Nat)) ∧ W.cell? ⟨w.heap.size + 1, 1, none⟩ = some (.int .u64 (word Y 1 : Nat)) ∧ W.cell? ⟨w.heap.size + 1, 2, none⟩ = some (.int .u64 (word Y 2 : Nat)) ∧ W.cell? ⟨w.heap.size + 1, 3, none⟩ = some (.int .u64 (word Y 3 : Nat)) ∧ Lies w W) : (W.setCell p u).cell? ⟨w.heap.size, 0, none⟩ = some (.int .u64 (word X 0 : Nat)) ∧ (W.setCell p u).cell? ⟨w.heap.size, 1, none⟩ = some (.int .u64 (word X 1 : Nat)) ∧ (W.setCell p u).cell? ⟨w.heap.size, 2, none⟩ = some (.int .u64 (word X 2 : Nat)) ∧ (W.setCell p u).cell? ⟨w.heap.size, 3, none⟩ = some (.int .u64 (word X 3 : Nat)) ∧ (W.setCell p u).cell? ⟨w.heap.size + 1, 0, none⟩ = some (.int .u64 (word Y 0 : Nat)) ∧ (W.setCell p u).cell? ⟨w.heap.size + 1, 1, none⟩ = some (.int .u64 (word Y 1 : Nat)) ∧ (W.setCell p u).cell? ⟨w.heap.size + 1, 2, none⟩ = some (.int .u64 (word Y 2 : Nat)) ∧ (W.setCell p u).cell? ⟨w.heap.size + 1, 3, none⟩ = some (.int .u64 (word Y 3 : Nat)) ∧ Lies w (W.setCell p u) := by
  have n0 : w.heap.size ≠ p.block := by omega
  have n1 : w.heap.size + 1 ≠ p.block := by omega
  have cn : ∀ b j, b ≠ p.block → (W.setCell p u).cell? ⟨b, j, none⟩ = W.cell? ⟨b, j, none⟩ := fun b j hb => by simp only [World.cell?, Below.heap_setCell W p u b hb]
  rw [cn _ _ n0, cn _ _ n0, cn _ _ n0, cn _ _ n0, cn _ _ n1, cn _ _ n1, cn _ _ n1, cn _ _ n1]
  obtain ⟨a0, a1, a2, a3, b0, b1, b2, b3, hL⟩ := h
  exact ⟨a0, a1, a2, a3, b0, b1, b2, b3, hL.setCell (by omega) hg u⟩

set_option maxRecDepth 100000 in
set_option maxHeartbeats 8000000 in
theorem setParts_walk (X Y : Nat → Bool) (w : World) (hT : TabIn w) (hg : 0 < w.heap.size) :
    Calls Tryd.prog 5 #[setV X, setV Y] w fun e w' => e = .returned (.bool true) ∧ Below w.heap.size w w' := by
  have h0 := two_begin (X := X) (Y := Y) hT hg _ rfl
  have z0 : ((w.alloc (.cells (setC X) 26)).alloc (.cells (setC Y) 26)).heap.size = w.heap.size + 2 := by simp
  go_enter Tryd.func5, Tryd.ntmps5
  obtain ⟨a0, a1, a2, a3, b0, b1, b2, b3, hL⟩ := h0
  go_wp2_with (fail)
  refine (runs_L X hL).mono ?_
  rintro e W1 ⟨v1, rfl, hr1, hb1⟩
  have h1 := two_keep hb1 ⟨a0, a1, a2, a3, b0, b1, b2, b3, hL⟩
  rw [z0] at hr1
  clear hb1 a0 a1 a2 a3 b0 b1 b2 b3 hL z0
  obtain ⟨a0, a1, a2, a3, b0, b1, b2, b3, hL⟩ := h1
  go_wp2_with (fail)
  refine (rruns_any X _).mono ?_
  rintro e W2 ⟨v2, rfl, hr2, hb2⟩
  have h2 := two_keep hb2 ⟨a0, a1, a2, a3, b0, b1, b2, b3, hL⟩
  replace hr1 := ownsRow_below hr1 hb2
  clear hb2 a0 a1 a2 a3 b0 b1 b2 b3 hL
  go_wp2_with (fail)
  refine (rsame_true _ (runs_len X) _ _ _ _ _ hr1 hr2).mono ?_
  rintro e W3 ⟨rfl, hb3⟩
  replace h2 := two_keep hb3 h2
  replace hr1 := ownsRow_below hr1 hb3
  clear hb3 hr2
  go_wp2_with (fail)
  obtain ⟨L, hLen⟩ : ∃ L, L = (runsOf X).length := ⟨_, rfl⟩
  rw [← hLen] at hr1
  have hL256 := runs_len X
  rw [← hLen] at hL256
  generalize runC (runsOf X) = xs0 at hr1
  clear hLen
  go_loopw [7] (fun i wr => ∃ (n : Nat) (xs : List Value), i = .int .i64 n ∧ n ≤ L ∧ wr.ownsRow (w.heap.size + 2) 40 2 v1 L xs ∧ Hid (wr.cell? ⟨w.heap.size, 0, none⟩ = some (.int .u64 (word X 0 : Nat)) ∧ wr.cell? ⟨w.heap.size, 1, none⟩ = some (.int .u64 (word X 1 : Nat)) ∧ wr.cell? ⟨w.heap.size, 2, none⟩ = some (.int .u64 (word X 2 : Nat)) ∧ wr.cell? ⟨w.heap.size, 3, none⟩ = some (.int .u64 (word X 3 : Nat)) ∧ wr.cell? ⟨w.heap.size + 1, 0, none⟩ = some (.int .u64 (word Y 0 : Nat)) ∧ wr.cell? ⟨w.heap.size + 1, 1, none⟩ = some (.int .u64 (word Y 1 : Nat)) ∧ wr.cell? ⟨w.heap.size + 1, 2, none⟩ = some (.int .u64 (word Y 2 : Nat)) ∧ wr.cell? ⟨w.heap.size + 1, 3, none⟩ = some (.int .u64 (word Y 3 : Nat)) ∧ Lies w wr)) (fun i _ => L - (intOf i).toNat)
  case atStart => exact ⟨0, xs0, rfl, by omega, hr1, Lib.hid h2⟩
  case round =>
    clear hr1 h2
    obtain ⟨n, xs, rfl, hn, hr1, HS⟩ := hrel
    obtain ⟨A, cap, rfl, hA⟩ : ∃ A cap, v1 = .slice A L cap ∧ Hid (0 < L → ∃ g, A = some ⟨g, 0, none⟩ ∧ w.heap.size + 2 ≤ g) := by
      rcases hr1.2 with ⟨rfl, h0⟩ | ⟨g, cap, cur, rfl, hgb, _⟩
      · exact ⟨none, 0, by rw [h0], fun h => by omega⟩
      · exact ⟨_, cap, rfl, fun _ => ⟨g, rfl, hgb⟩⟩
    by_cases hlt : n < L
    · obtain ⟨g, rfl, hgb⟩ := hA.out (by omega)
      have hxl : xs.length = L * 2 := hr1.1
      obtain ⟨u, hu⟩ : ∃ u, xs[n * 2]? = some u := ⟨_, List.getElem?_eq_getElem (by omega)⟩
      have hc := hr1.cellAt (n * 2) (by omega)
      rw [hu] at hc
      have hf := hr1.frozenAt (n * 2)
      have hst := (hr1.stored (n * 2) (.int .u8 77)).1
      have hni : (n : Int) < (L : Int) := by omega
      have hn0 : (0 : Int) ≤ (n : Int) := by omega
      have HU := Lib.hid hu
      have HXL := Lib.hid hxl
      clear hu hxl
      go_wp2_with (fail)
      go_roundw
      case rel => exact ⟨n + 1, _, by go_num, by omega, hst, Lib.hid (two_set hg (p := ⟨g, n * 2, none⟩) hgb _ HS.out)⟩
      case measure => simp [intOf]; omega
    · have hS := HS.out
      clear HS hr1 hA
      have e1 := run_same (same_self (orS X Y))
      have e2 := run_same (same_self (andS X Y))
      have e3 := run_same (same_self (minusS X Y))
      have e4 := run_same (same_self (notS X))
      have rl := Lib.hid (runs_len X)
      go_wp2_with (fail)
      simp only [List.append_eq, List.cons_append, List.nil_append]
      go_region_held3 (fun w' => w'.cell? ⟨w.heap.size, 0, none⟩ = some (.int .u64 (word X 0 : Nat)) ∧ w'.cell? ⟨w.heap.size, 1, none⟩ = some (.int .u64 (word X 1 : Nat)) ∧ w'.cell? ⟨w.heap.size, 2, none⟩ = some (.int .u64 (word X 2 : Nat)) ∧ w'.cell? ⟨w.heap.size, 3, none⟩ = some (.int .u64 (word X 3 : Nat)) ∧ w'.cell? ⟨w.heap.size + 1, 0, none⟩ = some (.int .u64 (word Y 0 : Nat)) ∧ w'.cell? ⟨w.heap.size + 1, 1, none⟩ = some (.int .u64 (word Y 1 : Nat)) ∧ w'.cell? ⟨w.heap.size + 1, 2, none⟩ = some (.int .u64 (word Y 2 : Nat)) ∧ w'.cell? ⟨w.heap.size + 1, 3, none⟩ = some (.int .u64 (word Y 3 : Nat)) ∧ Lies w w')
        (first | (with_reducible assumption) | exact two_drew (by assumption) | exact two_keep hb (by assumption))
        (first
          | (go_at_call 16; refine (runs_L (w := w) X ?_).mono ?_; (first | (go_split_ands; assumption) | (go_split_ands; exact Lies.drew (by assumption))); rintro e w' ⟨v1, rfl, hr1, hb⟩; (try replace hr2 := ownsRow_below hr2 hb))
          | (go_at_call 29; refine (rruns_any X _).mono ?_; rintro e w' ⟨v2, rfl, hr2, hb⟩; (try replace hr1 := ownsRow_below hr1 hb))
          | (go_at_call 28; refine (rsame_true _ rl.out _ _ _ _ _ hr1 hr2).mono ?_; rintro e w' ⟨rfl, hb⟩)
          | (go_at_call 30; refine (or_o X Y _).mono ?_; rintro e w' ⟨rfl, hb⟩)
          | (go_at_call 31; refine (ror_o X Y _).mono ?_; rintro e w' ⟨rfl, hb⟩)
          | (go_at_call 32; refine (and_o X Y _).mono ?_; rintro e w' ⟨rfl, hb⟩)
          | (go_at_call 33; refine (rand_o X Y _).mono ?_; rintro e w' ⟨rfl, hb⟩)
          | (go_at_call 34; refine (minus_o X Y _).mono ?_; rintro e w' ⟨rfl, hb⟩)
          | (go_at_call 35; refine (rminus_o X Y _).mono ?_; rintro e w' ⟨rfl, hb⟩)
          | (go_at_call 15; refine (not_o X _).mono ?_; rintro e w' ⟨rfl, hb⟩)
          | (go_at_call 36; refine (rnot_o X _).mono ?_; rintro e w' ⟨rfl, hb⟩)
          | (go_at_call 19; refine (subset_any X Y _).mono ?_; rintro e w' ⟨rfl, hb⟩)
          | (go_at_call 37; refine (rsubset_any X Y _).mono ?_; rintro e w' ⟨rfl, hb⟩)
          | (go_at_call 20; refine (meets_any X Y _).mono ?_; rintro e w' ⟨rfl, hb⟩)
          | (go_at_call 38; refine (rmeets_any X Y _).mono ?_; rintro e w' ⟨rfl, hb⟩)
          | (go_at_call 21; refine (compare_L2 (w := w) X Y ?_).mono ?_; (first | (go_split_ands; assumption) | (go_split_ands; exact Lies.drew (by assumption))); rintro e w' ⟨rfl, hb⟩)
          | (go_at_call 39; refine (rcompare_any X Y _).mono ?_; rintro e w' ⟨rfl, hb⟩)
          | (go_at_call 9; refine (awake_L (w := w) ?_).mono ?_; (first | (go_split_ands; assumption) | (go_split_ands; exact Lies.drew (by assumption))); rintro e w' ⟨rfl, hb⟩))
      all_goals
        have hlow := (two_low (by assumption) : Below w.heap.size w w')
        go_wp2
        go_ret
        exact ⟨rfl, hlow⟩
end Go.Proofs.YtgekfdmamingjaaDoor

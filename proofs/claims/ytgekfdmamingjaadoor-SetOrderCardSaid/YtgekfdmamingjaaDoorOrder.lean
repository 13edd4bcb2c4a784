/- bonsailaw01.SetOrder, walked. -/
import Derived.Test.YtgekfdmamingjaaDoorAwake
import Derived.Test.YtgekfdmamingjaaDoorCmpM
import Derived.Deep.RegionHeld3
namespace Go.Proofs.YtgekfdmamingjaaDoor
open Go.RowKit Bset

theorem compare_L {w W : World} (S T : Nat → Bool) (h : Lies w W) : Calls Tryd.prog 21 #[setV S, setV T] W fun e w' => e = .returned (.int .i64 (cmpS S T)) ∧ Below W.heap.size W w' := compare_any S T W h.tab h.pos

theorem below_at {W W' : World} (hb : Below W.heap.size W W') {b j : Nat} {v : Value} (l : b < W.heap.size) (h : W.cell? ⟨b, j, none⟩ = some v) : W'.cell? ⟨b, j, none⟩ = some v := (hb.cell (p := ⟨b, j, none⟩) l).trans h

theorem three_keep {w W W' : World} {X Y Z : Nat → Bool} (hb : Below W.heap.size W W') (h : W.cell? ⟨w.heap.size, 0, none⟩ = some (.int .u64 (word X 0 : Nat)) ∧ W.cell? ⟨w.heap.size, 1, none⟩ = some (.int .u64 (word X 1 : Nat)) ∧ W.cell? ⟨w.heap.size, 2, none⟩ = some (.int .u64 (word X 2 : Nat)) ∧ W.cell? ⟨w.heap.size, 3, none⟩ = some (.int .u64 (word X 3 : Nat)) ∧ W.cell? ⟨w.heap.size + 1, 0, none⟩ = some (.int .u64 (word Y 0 : Nat)) ∧ W.cell? ⟨w.heap.size + 1, 1, none⟩ = some (.int .u64 (word Y 1 : Nat)) ∧ W.cell? ⟨w.heap.size + 1, 2, none⟩ = some (.int .u64 (word Y 2 : Nat)) ∧ W.cell? ⟨w.heap.size + 1, 3, none⟩ = some (.int .u64 (word Y 3 : Nat)) ∧ W.cell? ⟨w.heap.size + 1 + 1, 0, none⟩ = some (.int .u64 (word Z 0 : Nat)) ∧ W.cell? ⟨w.heap.size + 1 + 1, 1, none⟩ = some (.int .u64 (word Z 1 : Nat)) ∧ W.cell? ⟨w.heap.size + 1 + 1, 2, none⟩ = some (.int .u64 (word Z 2 : Nat)) ∧ W.cell? ⟨w.heap.size + 1 + 1, 3, none⟩ = some (.int .u64 (word Z 3 : Nat)) ∧ Lies w W) : W'.cell? ⟨w.heap.size, 0, none⟩ = some (.int .u64 (word X 0 : Nat)) ∧ W'.cell? ⟨w.heap.size, 1, none⟩ = some (.int .u64 (word X 1 : Nat)) ∧ W'.cell? ⟨w.heap.size, 2, none⟩ = some (.int .u64 (word X 2 : Nat)) ∧ W'.cell? ⟨w.heap.size, 3, none⟩ = some (.int .u64 (word X 3 : Nat)) ∧ W'.cell? ⟨w.heap.size + 1, 0, none⟩ = some (.int .u64 (word Y 0 : Nat)) ∧ W'.cell? ⟨w.heap.size + 1, 1, none⟩ = some (.int .u64 (word Y 1 : Nat)) ∧ W'.cell? ⟨w.heap.size + 1, 2, none⟩ = some (.int .u64 (word Y 2 : Nat)) ∧ W'.cell? ⟨w.heap.size + 1, 3, none⟩ = some (.int .u64 (word Y 3 : Nat)) ∧ W'.cell? ⟨w.heap.size + 1 + 1, 0, none⟩ = some (.int .u64 (word Z 0 : Nat)) ∧ W'.cell? ⟨w.heap.size + 1 + 1, 1, none⟩ = some (.int .u64 (word Z 1 : Nat)) ∧ W'.cell? ⟨w.heap.size + 1 + 1, 2, none⟩ = some (.int .u64 (word Z 2 : Nat)) ∧ W'.cell? ⟨w.heap.size + 1 + 1, 3, none⟩ = some (.int .u64 (word Z 3 : Nat)) ∧ Lies w W' := by
  obtain ⟨a0, a1, a2, a3, b0, b1, b2, b3, c0, c1, c2, c3, hL⟩ := h
  have l0 := World.block_lt_of_cell? W _ a0
  have l1 := World.block_lt_of_cell? W _ b0
  have l2 := World.block_lt_of_cell? W _ c0
  exact ⟨below_at hb l0 a0, below_at hb l0 a1, below_at hb l0 a2, below_at hb l0 a3, below_at hb l1 b0, below_at hb l1 b1, below_at hb l1 b2, below_at hb l1 b3,
    below_at hb l2 c0, below_at hb l2 c1, below_at hb l2 c2, below_at hb l2 c3, hL.step hb⟩

theorem three_drew {w W : World} {X Y Z : Nat → Bool} (h : W.cell? ⟨w.heap.size, 0, none⟩ = some (.int .u64 (word X 0 : Nat)) ∧ W.cell? ⟨w.heap.size, 1, none⟩ = some (.int .u64 (word X 1 : Nat)) ∧ W.cell? ⟨w.heap.size, 2, none⟩ = some (.int .u64 (word X 2 : Nat)) ∧ W.cell? ⟨w.heap.size, 3, none⟩ = some (.int .u64 (word X 3 : Nat)) ∧ W.cell? ⟨w.heap.size + 1, 0, none⟩ = some (.int .u64 (word Y 0 : Nat)) ∧ W.cell? ⟨w.heap.size + 1, 1, none⟩ = some (.int .u64 (word Y 1 : Nat)) ∧ W.cell? ⟨w.heap.size + 1, 2, none⟩ = some (.int .u64 (word Y 2 : Nat)) ∧ W.cell? ⟨w.heap.size + 1, 3, none⟩ = some (.int .u64 (word Y 3 : Nat)) ∧ W.cell? ⟨w.heap.size + 1 + 1, 0, none⟩ = some (.int .u64 (word Z 0 : Nat)) ∧ W.cell? ⟨w.heap.size + 1 + 1, 1, none⟩ = some (.int .u64 (word Z 1 : Nat)) ∧ W.cell? ⟨w.heap.size + 1 + 1, 2, none⟩ = some (.int .u64 (word Z 2 : Nat)) ∧ W.cell? ⟨w.heap.size + 1 + 1, 3, none⟩ = some (.int .u64 (word Z 3 : Nat)) ∧ Lies w W) : W.drew.cell? ⟨w.heap.size, 0, none⟩ = some (.int .u64 (word X 0 : Nat)) ∧ W.drew.cell? ⟨w.heap.size, 1, none⟩ = some (.int .u64 (word X 1 : Nat)) ∧ W.drew.cell? ⟨w.heap.size, 2, none⟩ = some (.int .u64 (word X 2 : Nat)) ∧ W.drew.cell? ⟨w.heap.size, 3, none⟩ = some (.int .u64 (word X 3 : Nat)) ∧ W.drew.cell? ⟨w.heap.size + 1, 0, none⟩ = some (.int .u64 (word Y 0 : Nat)) ∧ W.drew.cell? ⟨w.heap.size + 1, 1, none⟩ = some (.int .u64 (word Y 1 : Nat)) ∧ W.drew.cell? ⟨w.heap.size + 1, 2, none⟩ = some (.int .u64 (word Y 2 : Nat)) ∧ W.drew.cell? ⟨w.heap.size + 1, 3, none⟩ = some (.int .u64 (word Y 3 : Nat)) ∧ W.drew.cell? ⟨w.heap.size + 1 + 1, 0, none⟩ = some (.int .u64 (word Z 0 : Nat)) ∧ W.drew.cell? ⟨w.heap.size + 1 + 1, 1, none⟩ = some (.int .u64 (word Z 1 : Nat)) ∧ W.drew.cell? ⟨w.heap.size + 1 + 1, 2, none⟩ = some (.int .u64 (word Z 2 : Nat)) ∧ W.drew.cell? ⟨w.heap.size + 1 + 1, 3, none⟩ = some (.int .u64 (word Z 3 : Nat)) ∧ Lies w W.drew := by
  obtain ⟨a0, a1, a2, a3, b0, b1, b2, b3, c0, c1, c2, c3, hL⟩ := h
  exact ⟨a0, a1, a2, a3, b0, b1, b2, b3, c0, c1, c2, c3, hL.drew⟩

theorem three_low {w W : World} {X Y Z : Nat → Bool} (h : W.cell? ⟨w.heap.size, 0, none⟩ = some (.int .u64 (word X 0 : Nat)) ∧ W.cell? ⟨w.heap.size, 1, none⟩ = some (.int .u64 (word X 1 : Nat)) ∧ W.cell? ⟨w.heap.size, 2, none⟩ = some (.int .u64 (word X 2 : Nat)) ∧ W.cell? ⟨w.heap.size, 3, none⟩ = some (.int .u64 (word X 3 : Nat)) ∧ W.cell? ⟨w.heap.size + 1, 0, none⟩ = some (.int .u64 (word Y 0 : Nat)) ∧ W.cell? ⟨w.heap.size + 1, 1, none⟩ = some (.int .u64 (word Y 1 : Nat)) ∧ W.cell? ⟨w.heap.size + 1, 2, none⟩ = some (.int .u64 (word Y 2 : Nat)) ∧ W.cell? ⟨w.heap.size + 1, 3, none⟩ = some (.int .u64 (word Y 3 : Nat)) ∧ W.cell? ⟨w.heap.size + 1 + 1, 0, none⟩ = some (.int .u64 (word Z 0 : Nat)) ∧ W.cell? ⟨w.heap.size + 1 + 1, 1, none⟩ = some (.int .u64 (word Z 1 : Nat)) ∧ W.cell? ⟨w.heap.size + 1 + 1, 2, none⟩ = some (.int .u64 (word Z 2 : Nat)) ∧ W.cell? ⟨w.heap.size + 1 + 1, 3, none⟩ = some (.int .u64 (word Z 3 : Nat)) ∧ Lies w W) : Below w.heap.size w W := h.2.2.2.2.2.2.2.2.2.2.2.2.low

/-- Meets by its words. -/
theorem run_neq_meet (X Y : Nat → Bool) (w : World) : (binOp .neq 26 (setV fun n => X n && Y n) (.agg #[.int .u64 0, .int .u64 0, .int .u64 0, .int .u64 0])).run Tryd.prog w = .ok (.bool (meetS X Y)) w := by
  have h := run_neq_set w (fun n => X n && Y n) (fun _ => false)
  rw [setV_none] at h
  exact h

theorem run_eql_or (X Y : Nat → Bool) (w : World) : (binOp .eql 26 (setV fun n => X n || Y n) (setV Y)).run Tryd.prog w = .ok (.bool (subS X Y)) w := by
  have h := run_eql_set w (fun n => X n || Y n) Y
  rw [subS_or] at h
  exact h

theorem three_start {w : World} {X Y Z : Nat → Bool} (hT : TabIn w) (hg : 0 < w.heap.size) :
    ∀ W, W = ((w.alloc (.cells (setC X) 26)).alloc (.cells (setC Y) 26)).alloc (.cells (setC Z) 26) → W.cell? ⟨w.heap.size, 0, none⟩ = some (.int .u64 (word X 0 : Nat)) ∧ W.cell? ⟨w.heap.size, 1, none⟩ = some (.int .u64 (word X 1 : Nat)) ∧ W.cell? ⟨w.heap.size, 2, none⟩ = some (.int .u64 (word X 2 : Nat)) ∧ W.cell? ⟨w.heap.size, 3, none⟩ = some (.int .u64 (word X 3 : Nat)) ∧ W.cell? ⟨w.heap.size + 1, 0, none⟩ = some (.int .u64 (word Y 0 : Nat)) ∧ W.cell? ⟨w.heap.size + 1, 1, none⟩ = some (.int .u64 (word Y 1 : Nat)) ∧ W.cell? ⟨w.heap.size + 1, 2, none⟩ = some (.int .u64 (word Y 2 : Nat)) ∧ W.cell? ⟨w.heap.size + 1, 3, none⟩ = some (.int .u64 (word Y 3 : Nat)) ∧ W.cell? ⟨w.heap.size + 1 + 1, 0, none⟩ = some (.int .u64 (word Z 0 : Nat)) ∧ W.cell? ⟨w.heap.size + 1 + 1, 1, none⟩ = some (.int .u64 (word Z 1 : Nat)) ∧ W.cell? ⟨w.heap.size + 1 + 1, 2, none⟩ = some (.int .u64 (word Z 2 : Nat)) ∧ W.cell? ⟨w.heap.size + 1 + 1, 3, none⟩ = some (.int .u64 (word Z 3 : Nat)) ∧ Lies w W := by
  rintro W rfl
  have a : Cl (((w.alloc (.cells (setC X) 26)).alloc (.cells (setC Y) 26)).alloc (.cells (setC Z) 26)) w.heap.size 26 (setC X) := ((Cl.new' (by simp) _ _).alloc _).alloc _
  have b : Cl (((w.alloc (.cells (setC X) 26)).alloc (.cells (setC Y) 26)).alloc (.cells (setC Z) 26)) (w.heap.size + 1) 26 (setC Y) := (Cl.new' (by simp) _ _).alloc _
  have c : Cl (((w.alloc (.cells (setC X) 26)).alloc (.cells (setC Y) 26)).alloc (.cells (setC Z) 26)) (w.heap.size + 1 + 1) 26 (setC Z) := Cl.new' (by simp) _ _
  exact ⟨a.word 0 (by decide), a.word 1 (by decide), a.word 2 (by decide), a.word 3 (by decide), b.word 0 (by decide), b.word 1 (by decide), b.word 2 (by decide), b.word 3 (by decide), c.word 0 (by decide), c.word 1 (by decide), c.word 2 (by decide), c.word 3 (by decide),
    (((Lies.start hT hg).alloc _).alloc _).alloc _⟩

set_option maxRecDepth 100000 in
set_option maxHeartbeats 4000000 in
theorem order_lt_le (X Y Z : Nat → Bool) (ha : cmpS X Y = -1) (hy : cmpS Y X = 1) (hs : sameS X Y = false) (hb0 : cmpS Y Z < 0) (hb1 : cmpS Y Z ≤ 0) (t1 : decide (0 ≤ cmpS X Z) = false) (t2 : decide (0 < cmpS X Z) = false) (w : World) (hT : TabIn w) (hg : 0 < w.heap.size) :
    Calls Tryd.prog 8 #[setV X, setV Y, setV Z] w fun e w' => e = .returned (.bool true) ∧ Below w.heap.size w w' := by
  have h0 := three_start (X := X) (Y := Y) (Z := Z) hT hg
  go_enter Tryd.func8, Tryd.ntmps8
  go_wp2_with (fail)
  have h1 := h0 _ rfl
  refine (awake_any _ (h1.2.2.2.2.2.2.2.2.2.2.2.2).tab (h1.2.2.2.2.2.2.2.2.2.2.2.2).pos).mono ?_
  rintro e W1 ⟨rfl, hb1⟩
  have h2 := three_keep hb1 h1
  clear h0 h1 hb1
  go_wp2_with (fail)
  go_region_held3 (fun w' => w'.cell? ⟨w.heap.size, 0, none⟩ = some (.int .u64 (word X 0 : Nat)) ∧ w'.cell? ⟨w.heap.size, 1, none⟩ = some (.int .u64 (word X 1 : Nat)) ∧ w'.cell? ⟨w.heap.size, 2, none⟩ = some (.int .u64 (word X 2 : Nat)) ∧ w'.cell? ⟨w.heap.size, 3, none⟩ = some (.int .u64 (word X 3 : Nat)) ∧ w'.cell? ⟨w.heap.size + 1, 0, none⟩ = some (.int .u64 (word Y 0 : Nat)) ∧ w'.cell? ⟨w.heap.size + 1, 1, none⟩ = some (.int .u64 (word Y 1 : Nat)) ∧ w'.cell? ⟨w.heap.size + 1, 2, none⟩ = some (.int .u64 (word Y 2 : Nat)) ∧ w'.cell? ⟨w.heap.size + 1, 3, none⟩ = some (.int .u64 (word Y 3 : Nat)) ∧ w'.cell? ⟨w.heap.size + 1 + 1, 0, none⟩ = some (.int .u64 (word Z 0 : Nat)) ∧ w'.cell? ⟨w.heap.size + 1 + 1, 1, none⟩ = some (.int .u64 (word Z 1 : Nat)) ∧ w'.cell? ⟨w.heap.size + 1 + 1, 2, none⟩ = some (.int .u64 (word Z 2 : Nat)) ∧ w'.cell? ⟨w.heap.size + 1 + 1, 3, none⟩ = some (.int .u64 (word Z 3 : Nat)) ∧ Lies w w')
    (first | (with_reducible assumption) | exact three_drew (by assumption) | exact three_keep hb (by assumption))
    ((go_at_call 21; refine (compare_L (w := w) _ _ ?_).mono ?_; (first | (go_split_ands; assumption) | (go_split_ands; exact Lies.drew (by assumption))); rintro e w' ⟨rfl, hb⟩))
  have hS : w'.cell? ⟨w.heap.size, 0, none⟩ = some (.int .u64 (word X 0 : Nat)) ∧ w'.cell? ⟨w.heap.size, 1, none⟩ = some (.int .u64 (word X 1 : Nat)) ∧ w'.cell? ⟨w.heap.size, 2, none⟩ = some (.int .u64 (word X 2 : Nat)) ∧ w'.cell? ⟨w.heap.size, 3, none⟩ = some (.int .u64 (word X 3 : Nat)) ∧ w'.cell? ⟨w.heap.size + 1, 0, none⟩ = some (.int .u64 (word Y 0 : Nat)) ∧ w'.cell? ⟨w.heap.size + 1, 1, none⟩ = some (.int .u64 (word Y 1 : Nat)) ∧ w'.cell? ⟨w.heap.size + 1, 2, none⟩ = some (.int .u64 (word Y 2 : Nat)) ∧ w'.cell? ⟨w.heap.size + 1, 3, none⟩ = some (.int .u64 (word Y 3 : Nat)) ∧ w'.cell? ⟨w.heap.size + 1 + 1, 0, none⟩ = some (.int .u64 (word Z 0 : Nat)) ∧ w'.cell? ⟨w.heap.size + 1 + 1, 1, none⟩ = some (.int .u64 (word Z 1 : Nat)) ∧ w'.cell? ⟨w.heap.size + 1 + 1, 2, none⟩ = some (.int .u64 (word Z 2 : Nat)) ∧ w'.cell? ⟨w.heap.size + 1 + 1, 3, none⟩ = some (.int .u64 (word Z 3 : Nat)) ∧ Lies w w' := by assumption
  have e1 := fun w => run_eql_set w X Y
  have e2 := run_eql_or X Y
  have e3 := run_neq_meet X Y
  have s1 := subS_and X Y
  have s2 := subS_self_or X Y
  have hS0 := hS
  obtain ⟨a0, a1, a2, a3, b0, b1, b2, b3, c0, c1, c2, c3, hL⟩ := hS0
  rw [hs] at e1
  clear hs
  go_wp2_with (go_at_call 21; refine (compare_L (w := w) _ _ hL).mono ?_; rintro e w1 ⟨rfl, hb1⟩; have hS1 := three_keep hb1 hS; have hS2 := hS1; obtain ⟨x0, x1, x2, x3, y0, y1, y2, y3, z0, z1, z2, z3, hL1⟩ := hS2)
  go_region_held3 (fun w' => w'.cell? ⟨w.heap.size, 0, none⟩ = some (.int .u64 (word X 0 : Nat)) ∧ w'.cell? ⟨w.heap.size, 1, none⟩ = some (.int .u64 (word X 1 : Nat)) ∧ w'.cell? ⟨w.heap.size, 2, none⟩ = some (.int .u64 (word X 2 : Nat)) ∧ w'.cell? ⟨w.heap.size, 3, none⟩ = some (.int .u64 (word X 3 : Nat)) ∧ w'.cell? ⟨w.heap.size + 1, 0, none⟩ = some (.int .u64 (word Y 0 : Nat)) ∧ w'.cell? ⟨w.heap.size + 1, 1, none⟩ = some (.int .u64 (word Y 1 : Nat)) ∧ w'.cell? ⟨w.heap.size + 1, 2, none⟩ = some (.int .u64 (word Y 2 : Nat)) ∧ w'.cell? ⟨w.heap.size + 1, 3, none⟩ = some (.int .u64 (word Y 3 : Nat)) ∧ w'.cell? ⟨w.heap.size + 1 + 1, 0, none⟩ = some (.int .u64 (word Z 0 : Nat)) ∧ w'.cell? ⟨w.heap.size + 1 + 1, 1, none⟩ = some (.int .u64 (word Z 1 : Nat)) ∧ w'.cell? ⟨w.heap.size + 1 + 1, 2, none⟩ = some (.int .u64 (word Z 2 : Nat)) ∧ w'.cell? ⟨w.heap.size + 1 + 1, 3, none⟩ = some (.int .u64 (word Z 3 : Nat)) ∧ Lies w w')
    (first | (with_reducible assumption) | exact three_drew (by assumption) | exact three_keep hb (by assumption))
    (first
      | (go_at_call 19; refine (subset_any _ _ _).mono ?_; rintro e w' ⟨rfl, hb⟩)
      | (go_at_call 30; refine (or_any _ _ _).mono ?_; rintro e w' ⟨rfl, hb⟩)
      | (go_at_call 32; refine (and_any _ _ _).mono ?_; rintro e w' ⟨rfl, hb⟩)
      | (go_at_call 20; refine (meets_any _ _ _).mono ?_; rintro e w' ⟨rfl, hb⟩))
  all_goals
    have hlow := (three_low (by assumption) : Below w.heap.size w w')
    go_wp2
    go_ret
    exact ⟨rfl, hlow⟩

set_option maxRecDepth 100000 in
set_option maxHeartbeats 4000000 in
theorem order_lt_eq (X Y Z : Nat → Bool) (ha : cmpS X Y = -1) (hy : cmpS Y X = 1) (hs : sameS X Y = false) (t0 : decide (cmpS Y Z < 0) = false) (hb1 : cmpS Y Z ≤ 0) (t2 : decide (0 < cmpS X Z) = false) (w : World) (hT : TabIn w) (hg : 0 < w.heap.size) :
    Calls Tryd.prog 8 #[setV X, setV Y, setV Z] w fun e w' => e = .returned (.bool true) ∧ Below w.heap.size w w' := by
  have h0 := three_start (X := X) (Y := Y) (Z := Z) hT hg
  go_enter Tryd.func8, Tryd.ntmps8
  go_wp2_with (fail)
  have h1 := h0 _ rfl
  refine (awake_any _ (h1.2.2.2.2.2.2.2.2.2.2.2.2).tab (h1.2.2.2.2.2.2.2.2.2.2.2.2).pos).mono ?_
  rintro e W1 ⟨rfl, hb1⟩
  have h2 := three_keep hb1 h1
  clear h0 h1 hb1
  go_wp2_with (fail)
  go_region_held3 (fun w' => w'.cell? ⟨w.heap.size, 0, none⟩ = some (.int .u64 (word X 0 : Nat)) ∧ w'.cell? ⟨w.heap.size, 1, none⟩ = some (.int .u64 (word X 1 : Nat)) ∧ w'.cell? ⟨w.heap.size, 2, none⟩ = some (.int .u64 (word X 2 : Nat)) ∧ w'.cell? ⟨w.heap.size, 3, none⟩ = some (.int .u64 (word X 3 : Nat)) ∧ w'.cell? ⟨w.heap.size + 1, 0, none⟩ = some (.int .u64 (word Y 0 : Nat)) ∧ w'.cell? ⟨w.heap.size + 1, 1, none⟩ = some (.int .u64 (word Y 1 : Nat)) ∧ w'.cell? ⟨w.heap.size + 1, 2, none⟩ = some (.int .u64 (word Y 2 : Nat)) ∧ w'.cell? ⟨w.heap.size + 1, 3, none⟩ = some (.int .u64 (word Y 3 : Nat)) ∧ w'.cell? ⟨w.heap.size + 1 + 1, 0, none⟩ = some (.int .u64 (word Z 0 : Nat)) ∧ w'.cell? ⟨w.heap.size + 1 + 1, 1, none⟩ = some (.int .u64 (word Z 1 : Nat)) ∧ w'.cell? ⟨w.heap.size + 1 + 1, 2, none⟩ = some (.int .u64 (word Z 2 : Nat)) ∧ w'.cell? ⟨w.heap.size + 1 + 1, 3, none⟩ = some (.int .u64 (word Z 3 : Nat)) ∧ Lies w w')
    (first | (with_reducible assumption) | exact three_drew (by assumption) | exact three_keep hb (by assumption))
    ((go_at_call 21; refine (compare_L (w := w) _ _ ?_).mono ?_; (first | (go_split_ands; assumption) | (go_split_ands; exact Lies.drew (by assumption))); rintro e w' ⟨rfl, hb⟩))
  have hS : w'.cell? ⟨w.heap.size, 0, none⟩ = some (.int .u64 (word X 0 : Nat)) ∧ w'.cell? ⟨w.heap.size, 1, none⟩ = some (.int .u64 (word X 1 : Nat)) ∧ w'.cell? ⟨w.heap.size, 2, none⟩ = some (.int .u64 (word X 2 : Nat)) ∧ w'.cell? ⟨w.heap.size, 3, none⟩ = some (.int .u64 (word X 3 : Nat)) ∧ w'.cell? ⟨w.heap.size + 1, 0, none⟩ = some (.int .u64 (word Y 0 : Nat)) ∧ w'.cell? ⟨w.heap.size + 1, 1, none⟩ = some (.int .u64 (word Y 1 : Nat)) ∧ w'.cell? ⟨w.heap.size + 1, 2, none⟩ = some (.int .u64 (word Y 2 : Nat)) ∧ w'.cell? ⟨w.heap.size + 1, 3, none⟩ = some (.int .u64 (word Y 3 : Nat)) ∧ w'.cell? ⟨w.heap.size + 1 + 1, 0, none⟩ = some (.int .u64 (word Z 0 : Nat)) ∧ w'.cell? ⟨w.heap.size + 1 + 1, 1, none⟩ = some (.int .u64 (word Z 1 : Nat)) ∧ w'.cell? ⟨w.heap.size + 1 + 1, 2, none⟩ = some (.int .u64 (word Z 2 : Nat)) ∧ w'.cell? ⟨w.heap.size + 1 + 1, 3, none⟩ = some (.int .u64 (word Z 3 : Nat)) ∧ Lies w w' := by assumption
  have e1 := fun w => run_eql_set w X Y
  have e2 := run_eql_or X Y
  have e3 := run_neq_meet X Y
  have s1 := subS_and X Y
  have s2 := subS_self_or X Y
  have hS0 := hS
  obtain ⟨a0, a1, a2, a3, b0, b1, b2, b3, c0, c1, c2, c3, hL⟩ := hS0
  rw [hs] at e1
  clear hs
  go_wp2_with (go_at_call 21; refine (compare_L (w := w) _ _ hL).mono ?_; rintro e w1 ⟨rfl, hb1⟩; have hS1 := three_keep hb1 hS; have hS2 := hS1; obtain ⟨x0, x1, x2, x3, y0, y1, y2, y3, z0, z1, z2, z3, hL1⟩ := hS2)
  go_region_held3 (fun w' => w'.cell? ⟨w.heap.size, 0, none⟩ = some (.int .u64 (word X 0 : Nat)) ∧ w'.cell? ⟨w.heap.size, 1, none⟩ = some (.int .u64 (word X 1 : Nat)) ∧ w'.cell? ⟨w.heap.size, 2, none⟩ = some (.int .u64 (word X 2 : Nat)) ∧ w'.cell? ⟨w.heap.size, 3, none⟩ = some (.int .u64 (word X 3 : Nat)) ∧ w'.cell? ⟨w.heap.size + 1, 0, none⟩ = some (.int .u64 (word Y 0 : Nat)) ∧ w'.cell? ⟨w.heap.size + 1, 1, none⟩ = some (.int .u64 (word Y 1 : Nat)) ∧ w'.cell? ⟨w.heap.size + 1, 2, none⟩ = some (.int .u64 (word Y 2 : Nat)) ∧ w'.cell? ⟨w.heap.size + 1, 3, none⟩ = some (.int .u64 (word Y 3 : Nat)) ∧ w'.cell? ⟨w.heap.size + 1 + 1, 0, none⟩ = some (.int .u64 (word Z 0 : Nat)) ∧ w'.cell? ⟨w.heap.size + 1 + 1, 1, none⟩ = some (.int .u64 (word Z 1 : Nat)) ∧ w'.cell? ⟨w.heap.size + 1 + 1, 2, none⟩ = some (.int .u64 (word Z 2 : Nat)) ∧ w'.cell? ⟨w.heap.size + 1 + 1, 3, none⟩ = some (.int .u64 (word Z 3 : Nat)) ∧ Lies w w')
    (first | (with_reducible assumption) | exact three_drew (by assumption) | exact three_keep hb (by assumption))
    (first
      | (go_at_call 19; refine (subset_any _ _ _).mono ?_; rintro e w' ⟨rfl, hb⟩)
      | (go_at_call 30; refine (or_any _ _ _).mono ?_; rintro e w' ⟨rfl, hb⟩)
      | (go_at_call 32; refine (and_any _ _ _).mono ?_; rintro e w' ⟨rfl, hb⟩)
      | (go_at_call 20; refine (meets_any _ _ _).mono ?_; rintro e w' ⟨rfl, hb⟩))
  all_goals
    have hlow := (three_low (by assumption) : Below w.heap.size w w')
    go_wp2
    go_ret
    exact ⟨rfl, hlow⟩

set_option maxRecDepth 100000 in
set_option maxHeartbeats 4000000 in
theorem order_lt_gt (X Y Z : Nat → Bool) (ha : cmpS X Y = -1) (hy : cmpS Y X = 1) (hs : sameS X Y = false) (t0 : decide (cmpS Y Z < 0) = false) (t1 : decide (cmpS Y Z ≤ 0) = false) (w : World) (hT : TabIn w) (hg : 0 < w.heap.size) :
    Calls Tryd.prog 8 #[setV X, setV Y, setV Z] w fun e w' => e = .returned (.bool true) ∧ Below w.heap.size w w' := by
  have h0 := three_start (X := X) (Y := Y) (Z := Z) hT hg
  go_enter Tryd.func8, Tryd.ntmps8
  go_wp2_with (fail)
  have h1 := h0 _ rfl
  refine (awake_any _ (h1.2.2.2.2.2.2.2.2.2.2.2.2).tab (h1.2.2.2.2.2.2.2.2.2.2.2.2).pos).mono ?_
  rintro e W1 ⟨rfl, hb1⟩
  have h2 := three_keep hb1 h1
  clear h0 h1 hb1
  go_wp2_with (fail)
  go_region_held3 (fun w' => w'.cell? ⟨w.heap.size, 0, none⟩ = some (.int .u64 (word X 0 : Nat)) ∧ w'.cell? ⟨w.heap.size, 1, none⟩ = some (.int .u64 (word X 1 : Nat)) ∧ w'.cell? ⟨w.heap.size, 2, none⟩ = some (.int .u64 (word X 2 : Nat)) ∧ w'.cell? ⟨w.heap.size, 3, none⟩ = some (.int .u64 (word X 3 : Nat)) ∧ w'.cell? ⟨w.heap.size + 1, 0, none⟩ = some (.int .u64 (word Y 0 : Nat)) ∧ w'.cell? ⟨w.heap.size + 1, 1, none⟩ = some (.int .u64 (word Y 1 : Nat)) ∧ w'.cell? ⟨w.heap.size + 1, 2, none⟩ = some (.int .u64 (word Y 2 : Nat)) ∧ w'.cell? ⟨w.heap.size + 1, 3, none⟩ = some (.int .u64 (word Y 3 : Nat)) ∧ w'.cell? ⟨w.heap.size + 1 + 1, 0, none⟩ = some (.int .u64 (word Z 0 : Nat)) ∧ w'.cell? ⟨w.heap.size + 1 + 1, 1, none⟩ = some (.int .u64 (word Z 1 : Nat)) ∧ w'.cell? ⟨w.heap.size + 1 + 1, 2, none⟩ = some (.int .u64 (word Z 2 : Nat)) ∧ w'.cell? ⟨w.heap.size + 1 + 1, 3, none⟩ = some (.int .u64 (word Z 3 : Nat)) ∧ Lies w w')
    (first | (with_reducible assumption) | exact three_drew (by assumption) | exact three_keep hb (by assumption))
    ((go_at_call 21; refine (compare_L (w := w) _ _ ?_).mono ?_; (first | (go_split_ands; assumption) | (go_split_ands; exact Lies.drew (by assumption))); rintro e w' ⟨rfl, hb⟩))
  have hS : w'.cell? ⟨w.heap.size, 0, none⟩ = some (.int .u64 (word X 0 : Nat)) ∧ w'.cell? ⟨w.heap.size, 1, none⟩ = some (.int .u64 (word X 1 : Nat)) ∧ w'.cell? ⟨w.heap.size, 2, none⟩ = some (.int .u64 (word X 2 : Nat)) ∧ w'.cell? ⟨w.heap.size, 3, none⟩ = some (.int .u64 (word X 3 : Nat)) ∧ w'.cell? ⟨w.heap.size + 1, 0, none⟩ = some (.int .u64 (word Y 0 : Nat)) ∧ w'.cell? ⟨w.heap.size + 1, 1, none⟩ = some (.int .u64 (word Y 1 : Nat)) ∧ w'.cell? ⟨w.heap.size + 1, 2, none⟩ = some (.int .u64 (word Y 2 : Nat)) ∧ w'.cell? ⟨w.heap.size + 1, 3, none⟩ = some (.int .u64 (word Y 3 : Nat)) ∧ w'.cell? ⟨w.heap.size + 1 + 1, 0, none⟩ = some (.int .u64 (word Z 0 : Nat)) ∧ w'.cell? ⟨w.heap.size + 1 + 1, 1, none⟩ = some (.int .u64 (word Z 1 : Nat)) ∧ w'.cell? ⟨w.heap.size + 1 + 1, 2, none⟩ = some (.int .u64 (word Z 2 : Nat)) ∧ w'.cell? ⟨w.heap.size + 1 + 1, 3, none⟩ = some (.int .u64 (word Z 3 : Nat)) ∧ Lies w w' := by assumption
  have e1 := fun w => run_eql_set w X Y
  have e2 := run_eql_or X Y
  have e3 := run_neq_meet X Y
  have s1 := subS_and X Y
  have s2 := subS_self_or X Y
  have hS0 := hS
  obtain ⟨a0, a1, a2, a3, b0, b1, b2, b3, c0, c1, c2, c3, hL⟩ := hS0
  rw [hs] at e1
  clear hs
  go_wp2_with (go_at_call 21; refine (compare_L (w := w) _ _ hL).mono ?_; rintro e w1 ⟨rfl, hb1⟩; have hS1 := three_keep hb1 hS; have hS2 := hS1; obtain ⟨x0, x1, x2, x3, y0, y1, y2, y3, z0, z1, z2, z3, hL1⟩ := hS2)
  go_region_held3 (fun w' => w'.cell? ⟨w.heap.size, 0, none⟩ = some (.int .u64 (word X 0 : Nat)) ∧ w'.cell? ⟨w.heap.size, 1, none⟩ = some (.int .u64 (word X 1 : Nat)) ∧ w'.cell? ⟨w.heap.size, 2, none⟩ = some (.int .u64 (word X 2 : Nat)) ∧ w'.cell? ⟨w.heap.size, 3, none⟩ = some (.int .u64 (word X 3 : Nat)) ∧ w'.cell? ⟨w.heap.size + 1, 0, none⟩ = some (.int .u64 (word Y 0 : Nat)) ∧ w'.cell? ⟨w.heap.size + 1, 1, none⟩ = some (.int .u64 (word Y 1 : Nat)) ∧ w'.cell? ⟨w.heap.size + 1, 2, none⟩ = some (.int .u64 (word Y 2 : Nat)) ∧ w'.cell? ⟨w.heap.size + 1, 3, none⟩ = some (.int .u64 (word Y 3 : Nat)) ∧ w'.cell? ⟨w.heap.size + 1 + 1, 0, none⟩ = some (.int .u64 (word Z 0 : Nat)) ∧ w'.cell? ⟨w.heap.size + 1 + 1, 1, none⟩ = some (.int .u64 (word Z 1 : Nat)) ∧ w'.cell? ⟨w.heap.size + 1 + 1, 2, none⟩ = some (.int .u64 (word Z 2 : Nat)) ∧ w'.cell? ⟨w.heap.size + 1 + 1, 3, none⟩ = some (.int .u64 (word Z 3 : Nat)) ∧ Lies w w')
    (first | (with_reducible assumption) | exact three_drew (by assumption) | exact three_keep hb (by assumption))
    (first
      | (go_at_call 19; refine (subset_any _ _ _).mono ?_; rintro e w' ⟨rfl, hb⟩)
      | (go_at_call 30; refine (or_any _ _ _).mono ?_; rintro e w' ⟨rfl, hb⟩)
      | (go_at_call 32; refine (and_any _ _ _).mono ?_; rintro e w' ⟨rfl, hb⟩)
      | (go_at_call 20; refine (meets_any _ _ _).mono ?_; rintro e w' ⟨rfl, hb⟩))
  all_goals
    have hlow := (three_low (by assumption) : Below w.heap.size w w')
    go_wp2
    go_ret
    exact ⟨rfl, hlow⟩

set_option maxRecDepth 100000 in
set_option maxHeartbeats 4000000 in
theorem order_eq_le (X Y Z : Nat → Bool) (ha : cmpS X Y = 0) (hy : cmpS Y X = 0) (hs : sameS X Y = true) (hb1 : cmpS Y Z ≤ 0) (t2 : decide (0 < cmpS X Z) = false) (w : World) (hT : TabIn w) (hg : 0 < w.heap.size) :
    Calls Tryd.prog 8 #[setV X, setV Y, setV Z] w fun e w' => e = .returned (.bool true) ∧ Below w.heap.size w w' := by
  have h0 := three_start (X := X) (Y := Y) (Z := Z) hT hg
  go_enter Tryd.func8, Tryd.ntmps8
  go_wp2_with (fail)
  have h1 := h0 _ rfl
  refine (awake_any _ (h1.2.2.2.2.2.2.2.2.2.2.2.2).tab (h1.2.2.2.2.2.2.2.2.2.2.2.2).pos).mono ?_
  rintro e W1 ⟨rfl, hb1⟩
  have h2 := three_keep hb1 h1
  clear h0 h1 hb1
  go_wp2_with (fail)
  go_region_held3 (fun w' => w'.cell? ⟨w.heap.size, 0, none⟩ = some (.int .u64 (word X 0 : Nat)) ∧ w'.cell? ⟨w.heap.size, 1, none⟩ = some (.int .u64 (word X 1 : Nat)) ∧ w'.cell? ⟨w.heap.size, 2, none⟩ = some (.int .u64 (word X 2 : Nat)) ∧ w'.cell? ⟨w.heap.size, 3, none⟩ = some (.int .u64 (word X 3 : Nat)) ∧ w'.cell? ⟨w.heap.size + 1, 0, none⟩ = some (.int .u64 (word Y 0 : Nat)) ∧ w'.cell? ⟨w.heap.size + 1, 1, none⟩ = some (.int .u64 (word Y 1 : Nat)) ∧ w'.cell? ⟨w.heap.size + 1, 2, none⟩ = some (.int .u64 (word Y 2 : Nat)) ∧ w'.cell? ⟨w.heap.size + 1, 3, none⟩ = some (.int .u64 (word Y 3 : Nat)) ∧ w'.cell? ⟨w.heap.size + 1 + 1, 0, none⟩ = some (.int .u64 (word Z 0 : Nat)) ∧ w'.cell? ⟨w.heap.size + 1 + 1, 1, none⟩ = some (.int .u64 (word Z 1 : Nat)) ∧ w'.cell? ⟨w.heap.size + 1 + 1, 2, none⟩ = some (.int .u64 (word Z 2 : Nat)) ∧ w'.cell? ⟨w.heap.size + 1 + 1, 3, none⟩ = some (.int .u64 (word Z 3 : Nat)) ∧ Lies w w')
    (first | (with_reducible assumption) | exact three_drew (by assumption) | exact three_keep hb (by assumption))
    ((go_at_call 21; refine (compare_L (w := w) _ _ ?_).mono ?_; (first | (go_split_ands; assumption) | (go_split_ands; exact Lies.drew (by assumption))); rintro e w' ⟨rfl, hb⟩))
  have hS : w'.cell? ⟨w.heap.size, 0, none⟩ = some (.int .u64 (word X 0 : Nat)) ∧ w'.cell? ⟨w.heap.size, 1, none⟩ = some (.int .u64 (word X 1 : Nat)) ∧ w'.cell? ⟨w.heap.size, 2, none⟩ = some (.int .u64 (word X 2 : Nat)) ∧ w'.cell? ⟨w.heap.size, 3, none⟩ = some (.int .u64 (word X 3 : Nat)) ∧ w'.cell? ⟨w.heap.size + 1, 0, none⟩ = some (.int .u64 (word Y 0 : Nat)) ∧ w'.cell? ⟨w.heap.size + 1, 1, none⟩ = some (.int .u64 (word Y 1 : Nat)) ∧ w'.cell? ⟨w.heap.size + 1, 2, none⟩ = some (.int .u64 (word Y 2 : Nat)) ∧ w'.cell? ⟨w.heap.size + 1, 3, none⟩ = some (.int .u64 (word Y 3 : Nat)) ∧ w'.cell? ⟨w.heap.size + 1 + 1, 0, none⟩ = some (.int .u64 (word Z 0 : Nat)) ∧ w'.cell? ⟨w.heap.size + 1 + 1, 1, none⟩ = some (.int .u64 (word Z 1 : Nat)) ∧ w'.cell? ⟨w.heap.size + 1 + 1, 2, none⟩ = some (.int .u64 (word Z 2 : Nat)) ∧ w'.cell? ⟨w.heap.size + 1 + 1, 3, none⟩ = some (.int .u64 (word Z 3 : Nat)) ∧ Lies w w' := by assumption
  have e1 := fun w => run_eql_set w X Y
  have e2 := run_eql_or X Y
  have e3 := run_neq_meet X Y
  have s1 := subS_and X Y
  have s2 := subS_self_or X Y
  have hS0 := hS
  obtain ⟨a0, a1, a2, a3, b0, b1, b2, b3, c0, c1, c2, c3, hL⟩ := hS0
  rw [hs] at e1
  clear hs
  go_wp2_with (go_at_call 21; refine (compare_L (w := w) _ _ hL).mono ?_; rintro e w1 ⟨rfl, hb1⟩; have hS1 := three_keep hb1 hS; have hS2 := hS1; obtain ⟨x0, x1, x2, x3, y0, y1, y2, y3, z0, z1, z2, z3, hL1⟩ := hS2)
  go_region_held3 (fun w' => w'.cell? ⟨w.heap.size, 0, none⟩ = some (.int .u64 (word X 0 : Nat)) ∧ w'.cell? ⟨w.heap.size, 1, none⟩ = some (.int .u64 (word X 1 : Nat)) ∧ w'.cell? ⟨w.heap.size, 2, none⟩ = some (.int .u64 (word X 2 : Nat)) ∧ w'.cell? ⟨w.heap.size, 3, none⟩ = some (.int .u64 (word X 3 : Nat)) ∧ w'.cell? ⟨w.heap.size + 1, 0, none⟩ = some (.int .u64 (word Y 0 : Nat)) ∧ w'.cell? ⟨w.heap.size + 1, 1, none⟩ = some (.int .u64 (word Y 1 : Nat)) ∧ w'.cell? ⟨w.heap.size + 1, 2, none⟩ = some (.int .u64 (word Y 2 : Nat)) ∧ w'.cell? ⟨w.heap.size + 1, 3, none⟩ = some (.int .u64 (word Y 3 : Nat)) ∧ w'.cell? ⟨w.heap.size + 1 + 1, 0, none⟩ = some (.int .u64 (word Z 0 : Nat)) ∧ w'.cell? ⟨w.heap.size + 1 + 1, 1, none⟩ = some (.int .u64 (word Z 1 : Nat)) ∧ w'.cell? ⟨w.heap.size + 1 + 1, 2, none⟩ = some (.int .u64 (word Z 2 : Nat)) ∧ w'.cell? ⟨w.heap.size + 1 + 1, 3, none⟩ = some (.int .u64 (word Z 3 : Nat)) ∧ Lies w w')
    (first | (with_reducible assumption) | exact three_drew (by assumption) | exact three_keep hb (by assumption))
    (first
      | (go_at_call 19; refine (subset_any _ _ _).mono ?_; rintro e w' ⟨rfl, hb⟩)
      | (go_at_call 30; refine (or_any _ _ _).mono ?_; rintro e w' ⟨rfl, hb⟩)
      | (go_at_call 32; refine (and_any _ _ _).mono ?_; rintro e w' ⟨rfl, hb⟩)
      | (go_at_call 20; refine (meets_any _ _ _).mono ?_; rintro e w' ⟨rfl, hb⟩))
  all_goals
    have hlow := (three_low (by assumption) : Below w.heap.size w w')
    go_wp2
    go_ret
    exact ⟨rfl, hlow⟩

set_option maxRecDepth 100000 in
set_option maxHeartbeats 4000000 in
theorem order_eq_gt (X Y Z : Nat → Bool) (ha : cmpS X Y = 0) (hy : cmpS Y X = 0) (hs : sameS X Y = true) (t1 : decide (cmpS Y Z ≤ 0) = false) (w : World) (hT : TabIn w) (hg : 0 < w.heap.size) :
    Calls Tryd.prog 8 #[setV X, setV Y, setV Z] w fun e w' => e = .returned (.bool true) ∧ Below w.heap.size w w' := by
  have h0 := three_start (X := X) (Y := Y) (Z := Z) hT hg
  go_enter Tryd.func8, Tryd.ntmps8
  go_wp2_with (fail)
  have h1 := h0 _ rfl
  refine (awake_any _ (h1.2.2.2.2.2.2.2.2.2.2.2.2).tab (h1.2.2.2.2.2.2.2.2.2.2.2.2).pos).mono ?_
  rintro e W1 ⟨rfl, hb1⟩
  have h2 := three_keep hb1 h1
  clear h0 h1 hb1
  go_wp2_with (fail)
  go_region_held3 (fun w' => w'.cell? ⟨w.heap.size, 0, none⟩ = some (.int .u64 (word X 0 : Nat)) ∧ w'.cell? ⟨w.heap.size, 1, none⟩ = some (.int .u64 (word X 1 : Nat)) ∧ w'.cell? ⟨w.heap.size, 2, none⟩ = some (.int .u64 (word X 2 : Nat)) ∧ w'.cell? ⟨w.heap.size, 3, none⟩ = some (.int .u64 (word X 3 : Nat)) ∧ w'.cell? ⟨w.heap.size + 1, 0, none⟩ = some (.int .u64 (word Y 0 : Nat)) ∧ w'.cell? ⟨w.heap.size + 1, 1, none⟩ = some (.int .u64 (word Y 1 : Nat)) ∧ w'.cell? ⟨w.heap.size + 1, 2, none⟩ = some (.int .u64 (word Y 2 : Nat)) ∧ w'.cell? ⟨w.heap.size + 1, 3, none⟩ = some (.int .u64 (word Y 3 : Nat)) ∧ w'.cell? ⟨w.heap.size + 1 + 1, 0, none⟩ = some (.int .u64 (word Z 0 : Nat)) ∧ w'.cell? ⟨w.heap.size + 1 + 1, 1, none⟩ = some (.int .u64 (word Z 1 : Nat)) ∧ w'.cell? ⟨w.heap.size + 1 + 1, 2, none⟩ = some (.int .u64 (word Z 2 : Nat)) ∧ w'.cell? ⟨w.heap.size + 1 + 1, 3, none⟩ = some (.int .u64 (word Z 3 : Nat)) ∧ Lies w w')
    (first | (with_reducible assumption) | exact three_drew (by assumption) | exact three_keep hb (by assumption))
    ((go_at_call 21; refine (compare_L (w := w) _ _ ?_).mono ?_; (first | (go_split_ands; assumption) | (go_split_ands; exact Lies.drew (by assumption))); rintro e w' ⟨rfl, hb⟩))
  have hS : w'.cell? ⟨w.heap.size, 0, none⟩ = some (.int .u64 (word X 0 : Nat)) ∧ w'.cell? ⟨w.heap.size, 1, none⟩ = some (.int .u64 (word X 1 : Nat)) ∧ w'.cell? ⟨w.heap.size, 2, none⟩ = some (.int .u64 (word X 2 : Nat)) ∧ w'.cell? ⟨w.heap.size, 3, none⟩ = some (.int .u64 (word X 3 : Nat)) ∧ w'.cell? ⟨w.heap.size + 1, 0, none⟩ = some (.int .u64 (word Y 0 : Nat)) ∧ w'.cell? ⟨w.heap.size + 1, 1, none⟩ = some (.int .u64 (word Y 1 : Nat)) ∧ w'.cell? ⟨w.heap.size + 1, 2, none⟩ = some (.int .u64 (word Y 2 : Nat)) ∧ w'.cell? ⟨w.heap.size + 1, 3, none⟩ = some (.int .u64 (word Y 3 : Nat)) ∧ w'.cell? ⟨w.heap.size + 1 + 1, 0, none⟩ = some (.int .u64 (word Z 0 : Nat)) ∧ w'.cell? ⟨w.heap.size + 1 + 1, 1, none⟩ = some (.int .u64 (word Z 1 : Nat)) ∧ w'.cell? ⟨w.heap.size + 1 + 1, 2, none⟩ = some (.int .u64 (word Z 2 : Nat)) ∧ w'.cell? ⟨w.heap.size + 1 + 1, 3, none⟩ = some (.int .u64 (word Z 3 : Nat)) ∧ Lies w w' := by assumption
  have e1 := fun w => run_eql_set w X Y
  have e2 := run_eql_or X Y
  have e3 := run_neq_meet X Y
  have s1 := subS_and X Y
  have s2 := subS_self_or X Y
  have hS0 := hS
  obtain ⟨a0, a1, a2, a3, b0, b1, b2, b3, c0, c1, c2, c3, hL⟩ := hS0
  rw [hs] at e1
  clear hs
  go_wp2_with (go_at_call 21; refine (compare_L (w := w) _ _ hL).mono ?_; rintro e w1 ⟨rfl, hb1⟩; have hS1 := three_keep hb1 hS; have hS2 := hS1; obtain ⟨x0, x1, x2, x3, y0, y1, y2, y3, z0, z1, z2, z3, hL1⟩ := hS2)
  go_region_held3 (fun w' => w'.cell? ⟨w.heap.size, 0, none⟩ = some (.int .u64 (word X 0 : Nat)) ∧ w'.cell? ⟨w.heap.size, 1, none⟩ = some (.int .u64 (word X 1 : Nat)) ∧ w'.cell? ⟨w.heap.size, 2, none⟩ = some (.int .u64 (word X 2 : Nat)) ∧ w'.cell? ⟨w.heap.size, 3, none⟩ = some (.int .u64 (word X 3 : Nat)) ∧ w'.cell? ⟨w.heap.size + 1, 0, none⟩ = some (.int .u64 (word Y 0 : Nat)) ∧ w'.cell? ⟨w.heap.size + 1, 1, none⟩ = some (.int .u64 (word Y 1 : Nat)) ∧ w'.cell? ⟨w.heap.size + 1, 2, none⟩ = some (.int .u64 (word Y 2 : Nat)) ∧ w'.cell? ⟨w.heap.size + 1, 3, none⟩ = some (.int .u64 (word Y 3 : Nat)) ∧ w'.cell? ⟨w.heap.size + 1 + 1, 0, none⟩ = some (.int .u64 (word Z 0 : Nat)) ∧ w'.cell? ⟨w.heap.size + 1 + 1, 1, none⟩ = some (.int .u64 (word Z 1 : Nat)) ∧ w'.cell? ⟨w.heap.size + 1 + 1, 2, none⟩ = some (.int .u64 (word Z 2 : Nat)) ∧ w'.cell? ⟨w.heap.size + 1 + 1, 3, none⟩ = some (.int .u64 (word Z 3 : Nat)) ∧ Lies w w')
    (first | (with_reducible assumption) | exact three_drew (by assumption) | exact three_keep hb (by assumption))
    (first
      | (go_at_call 19; refine (subset_any _ _ _).mono ?_; rintro e w' ⟨rfl, hb⟩)
      | (go_at_call 30; refine (or_any _ _ _).mono ?_; rintro e w' ⟨rfl, hb⟩)
      | (go_at_call 32; refine (and_any _ _ _).mono ?_; rintro e w' ⟨rfl, hb⟩)
      | (go_at_call 20; refine (meets_any _ _ _).mono ?_; rintro e w' ⟨rfl, hb⟩))
  all_goals
    have hlow := (three_low (by assumption) : Below w.heap.size w w')
    go_wp2
    go_ret
    exact ⟨rfl, hlow⟩

set_option maxRecDepth 100000 in
set_option maxHeartbeats 4000000 in
theorem order_gt (X Y Z : Nat → Bool) (ha : cmpS X Y = 1) (hy : cmpS Y X = -1) (hs : sameS X Y = false) (w : World) (hT : TabIn w) (hg : 0 < w.heap.size) :
    Calls Tryd.prog 8 #[setV X, setV Y, setV Z] w fun e w' => e = .returned (.bool true) ∧ Below w.heap.size w w' := by
  have h0 := three_start (X := X) (Y := Y) (Z := Z) hT hg
  go_enter Tryd.func8, Tryd.ntmps8
  go_wp2_with (fail)
  have h1 := h0 _ rfl
  refine (awake_any _ (h1.2.2.2.2.2.2.2.2.2.2.2.2).tab (h1.2.2.2.2.2.2.2.2.2.2.2.2).pos).mono ?_
  rintro e W1 ⟨rfl, hb1⟩
  have h2 := three_keep hb1 h1
  clear h0 h1 hb1
  go_wp2_with (fail)
  go_region_held3 (fun w' => w'.cell? ⟨w.heap.size, 0, none⟩ = some (.int .u64 (word X 0 : Nat)) ∧ w'.cell? ⟨w.heap.size, 1, none⟩ = some (.int .u64 (word X 1 : Nat)) ∧ w'.cell? ⟨w.heap.size, 2, none⟩ = some (.int .u64 (word X 2 : Nat)) ∧ w'.cell? ⟨w.heap.size, 3, none⟩ = some (.int .u64 (word X 3 : Nat)) ∧ w'.cell? ⟨w.heap.size + 1, 0, none⟩ = some (.int .u64 (word Y 0 : Nat)) ∧ w'.cell? ⟨w.heap.size + 1, 1, none⟩ = some (.int .u64 (word Y 1 : Nat)) ∧ w'.cell? ⟨w.heap.size + 1, 2, none⟩ = some (.int .u64 (word Y 2 : Nat)) ∧ w'.cell? ⟨w.heap.size + 1, 3, none⟩ = some (.int .u64 (word Y 3 : Nat)) ∧ w'.cell? ⟨w.heap.size + 1 + 1, 0, none⟩ = some (.int .u64 (word Z 0 : Nat)) ∧ w'.cell? ⟨w.heap.size + 1 + 1, 1, none⟩ = some (.int .u64 (word Z 1 : Nat)) ∧ w'.cell? ⟨w.heap.size + 1 + 1, 2, none⟩ = some (.int .u64 (word Z 2 : Nat)) ∧ w'.cell? ⟨w.heap.size + 1 + 1, 3, none⟩ = some (.int .u64 (word Z 3 : Nat)) ∧ Lies w w')
    (first | (with_reducible assumption) | exact three_drew (by assumption) | exact three_keep hb (by assumption))
    ((go_at_call 21; refine (compare_L (w := w) _ _ ?_).mono ?_; (first | (go_split_ands; assumption) | (go_split_ands; exact Lies.drew (by assumption))); rintro e w' ⟨rfl, hb⟩))
  have hS : w'.cell? ⟨w.heap.size, 0, none⟩ = some (.int .u64 (word X 0 : Nat)) ∧ w'.cell? ⟨w.heap.size, 1, none⟩ = some (.int .u64 (word X 1 : Nat)) ∧ w'.cell? ⟨w.heap.size, 2, none⟩ = some (.int .u64 (word X 2 : Nat)) ∧ w'.cell? ⟨w.heap.size, 3, none⟩ = some (.int .u64 (word X 3 : Nat)) ∧ w'.cell? ⟨w.heap.size + 1, 0, none⟩ = some (.int .u64 (word Y 0 : Nat)) ∧ w'.cell? ⟨w.heap.size + 1, 1, none⟩ = some (.int .u64 (word Y 1 : Nat)) ∧ w'.cell? ⟨w.heap.size + 1, 2, none⟩ = some (.int .u64 (word Y 2 : Nat)) ∧ w'.cell? ⟨w.heap.size + 1, 3, none⟩ = some (.int .u64 (word Y 3 : Nat)) ∧ w'.cell? ⟨w.heap.size + 1 + 1, 0, none⟩ = some (.int .u64 (word Z 0 : Nat)) ∧ w'.cell? ⟨w.heap.size + 1 + 1, 1, none⟩ = some (.int .u64 (word Z 1 : Nat)) ∧ w'.cell? ⟨w.heap.size + 1 + 1, 2, none⟩ = some (.int .u64 (word Z 2 : Nat)) ∧ w'.cell? ⟨w.heap.size + 1 + 1, 3, none⟩ = some (.int .u64 (word Z 3 : Nat)) ∧ Lies w w' := by assumption
  have e1 := fun w => run_eql_set w X Y
  have e2 := run_eql_or X Y
  have e3 := run_neq_meet X Y
  have s1 := subS_and X Y
  have s2 := subS_self_or X Y
  have hS0 := hS
  obtain ⟨a0, a1, a2, a3, b0, b1, b2, b3, c0, c1, c2, c3, hL⟩ := hS0
  rw [hs] at e1
  clear hs
  go_wp2_with (go_at_call 21; refine (compare_L (w := w) _ _ hL).mono ?_; rintro e w1 ⟨rfl, hb1⟩; have hS1 := three_keep hb1 hS; have hS2 := hS1; obtain ⟨x0, x1, x2, x3, y0, y1, y2, y3, z0, z1, z2, z3, hL1⟩ := hS2)
  go_region_held3 (fun w' => w'.cell? ⟨w.heap.size, 0, none⟩ = some (.int .u64 (word X 0 : Nat)) ∧ w'.cell? ⟨w.heap.size, 1, none⟩ = some (.int .u64 (word X 1 : Nat)) ∧ w'.cell? ⟨w.heap.size, 2, none⟩ = some (.int .u64 (word X 2 : Nat)) ∧ w'.cell? ⟨w.heap.size, 3, none⟩ = some (.int .u64 (word X 3 : Nat)) ∧ w'.cell? ⟨w.heap.size + 1, 0, none⟩ = some (.int .u64 (word Y 0 : Nat)) ∧ w'.cell? ⟨w.heap.size + 1, 1, none⟩ = some (.int .u64 (word Y 1 : Nat)) ∧ w'.cell? ⟨w.heap.size + 1, 2, none⟩ = some (.int .u64 (word Y 2 : Nat)) ∧ w'.cell? ⟨w.heap.size + 1, 3, none⟩ = some (.int .u64 (word Y 3 : Nat)) ∧ w'.cell? ⟨w.heap.size + 1 + 1, 0, none⟩ = some (.int .u64 (word Z 0 : Nat)) ∧ w'.cell? ⟨w.heap.size + 1 + 1, 1, none⟩ = some (.int .u64 (word Z 1 : Nat)) ∧ w'.cell? ⟨w.heap.size + 1 + 1, 2, none⟩ = some (.int .u64 (word Z 2 : Nat)) ∧ w'.cell? ⟨w.heap.size + 1 + 1, 3, none⟩ = some (.int .u64 (word Z 3 : Nat)) ∧ Lies w w')
    (first | (with_reducible assumption) | exact three_drew (by assumption) | exact three_keep hb (by assumption))
    (first
      | (go_at_call 19; refine (subset_any _ _ _).mono ?_; rintro e w' ⟨rfl, hb⟩)
      | (go_at_call 30; refine (or_any _ _ _).mono ?_; rintro e w' ⟨rfl, hb⟩)
      | (go_at_call 32; refine (and_any _ _ _).mono ?_; rintro e w' ⟨rfl, hb⟩)
      | (go_at_call 20; refine (meets_any _ _ _).mono ?_; rintro e w' ⟨rfl, hb⟩))
  all_goals
    have hlow := (three_low (by assumption) : Below w.heap.size w w')
    go_wp2
    go_ret
    exact ⟨rfl, hlow⟩


theorem setOrder_walk (X Y Z : Nat → Bool) (w : World) (hT : TabIn w) (hg : 0 < w.heap.size) :
    Calls Tryd.prog 8 #[setV X, setV Y, setV Z] w fun e w' => e = .returned (.bool true) ∧ Below w.heap.size w w' := by
  have tr := cmpS_trans X Y Z
  have hy := cmpS_anti X Y
  have hz := cmpS_zero X Y
  have no : cmpS X Y ≠ 0 → sameS X Y = false := fun h => by
    cases e : sameS X Y
    · rfl
    · exact absurd (hz.2 e) h
  rcases cmpS_range X Y with ha | ha | ha
  · rw [ha] at hy
    by_cases hb : cmpS Y Z ≤ 0
    · obtain ⟨h1, h2⟩ := tr (by omega) hb
      have h3 := h2 (by omega)
      by_cases hb2 : cmpS Y Z < 0
      · exact order_lt_le X Y Z ha hy (no (by omega)) hb2 hb (by simp; omega) (by simp; omega) w hT hg
      · exact order_lt_eq X Y Z ha hy (no (by omega)) (by simp; omega) hb (by simp; omega) w hT hg
    · exact order_lt_gt X Y Z ha hy (no (by omega)) (by simp; omega) (by simp; omega) w hT hg
  · rw [ha] at hy
    by_cases hb : cmpS Y Z ≤ 0
    · obtain ⟨h1, h2⟩ := tr (by omega) hb
      exact order_eq_le X Y Z ha hy (hz.1 ha) hb (by simp; omega) w hT hg
    · exact order_eq_gt X Y Z ha hy (hz.1 ha) (by simp; omega) w hT hg
  · rw [ha] at hy
    exact order_gt X Y Z ha hy (no (by omega)) w hT hg
end Go.Proofs.YtgekfdmamingjaaDoor

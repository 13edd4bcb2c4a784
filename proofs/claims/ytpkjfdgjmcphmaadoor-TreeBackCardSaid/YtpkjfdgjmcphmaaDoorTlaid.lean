/- What each row of this seat lists: the table of how many kids a kind has; the start that fits. -/
import Derived.Test.YtpkjfdgjmcphmaaDoorTrow
namespace Go.Proofs.YtpkjfdgjmcphmaaDoor
open Go.Deep Go.ChangeShapes Go.WideShapes Go.ChangeAt Go.WideMaps Go.WideElems Go.RowKit Bset Tm

theorem gTab : Tryd.prog.globalNamed "bonsai/tree.kidsOf" = some 0 := by kernel_rfl
theorem tTab : (Tryd.prog.globals[0]?).map (·.type) = some 78 := by kernel_rfl
theorem cBounds : Tryd.prog.cellsOf 77 = 2 := by kernel_rfl

abbrev laidL : List (String × DataW Unit) := [("bonsai/tree.kidsOf", Rows.laid_bonsai_tree_kidsOf)]

set_option maxRecDepth 100000 in
theorem tab_data : ∀ j, j < 10 → (match (Rows.laid_bonsai_tree_kidsOf : DataW Unit) with | .agg l => l[j]? | _ => none) = some (.agg [.lit (.int .i64 (kidsTab.getD (2 * j) 0)), .lit (.int .i64 (kidsTab.getD (2 * j + 1) 0))]) := by
  intro j hj
  have h : ∀ j : Fin 10, (match (Rows.laid_bonsai_tree_kidsOf : DataW Unit) with | .agg l => l[j.1]? | _ => none) = some (.agg [.lit (.int .i64 (kidsTab.getD (2 * j.1) 0)), .lit (.int .i64 (kidsTab.getD (2 * j.1 + 1) 0))]) := by
    intro j
    match j with
    | ⟨j, hj⟩ =>
      iterate 10 (rcases j with _ | j; · rfl)
      omega
  exact h ⟨j, hj⟩

set_option maxRecDepth 100000 in
/-- What the row's condition gives the walks: the table's cells; and it lies in the heap. -/
theorem of_laid {W : World} (h : laidMetH Tryd.prog laidL W) : Env W := by
  rw [MakeChecks.laidMetH_plain _ _ _ (by kernel_rfl)] at h
  obtain ⟨ps, ⟨g0, t0, cs0, f0, p0, q0, hg0, ht0, hv0, hd0, _⟩, _⟩ := h
  obtain rfl := Option.some.inj (gTab.symm.trans hg0)
  obtain rfl := Option.some.inj (tTab.symm.trans ht0)
  obtain ⟨xs, m1, rfl, hx1, hlen, hn, hel⟩ := DataW.trod_array Tryd.underlying78 hd0
  have key : ∀ j, j < 10 → W.cell? ⟨0, 2 * j, none⟩ = some (.int .i64 (kidsTab.getD (2 * j) 0)) ∧ W.cell? ⟨0, 2 * j + 1, none⟩ = some (.int .i64 (kidsTab.getD (2 * j + 1) 0)) := by
    intro j hj
    have h0 := hel j hj
    rw [cBounds] at h0
    have hxj : j < xs.length := by omega
    rw [List.getElem?_eq_getElem hxj] at h0
    obtain ⟨y0, y1, m, hy, hl, i0, i1⟩ := trod_struct2 Tryd.underlying77 h0
    have i0' : DataW.trod _ Tryd.prog W _ _ _ m 3 ((((cs0.toList.drop (j * 2)).take 2).drop 0).take 1) = some y0 := i0
    have i1' : DataW.trod _ Tryd.prog W _ _ _ m 3 ((((cs0.toList.drop (j * 2)).take 2).drop 1).take 1) = some y1 := i1
    obtain ⟨k0, e0, r0, _⟩ := DataW.trod_int Tryd.underlying3 i0'
    obtain ⟨k1, e1, r1, _⟩ := DataW.trod_int Tryd.underlying3 i1'
    have hd := tab_data j hj
    simp only [Prod.mk.injEq] at hx1
    rw [hx1.1] at hd
    have hk : (xs.map (·.1))[j]? = some (.agg [.lit (.int .i64 k0), .lit (.int .i64 k1)]) := by
      rw [List.getElem?_map, List.getElem?_eq_getElem hxj, hy, r0, r1]
      rfl
    simp only at hd
    rw [hk] at hd
    simp only [Option.some.injEq, DataW.agg.injEq, List.cons.injEq, DataW.lit.injEq, Lit.int.injEq, true_and, and_true] at hd
    obtain ⟨a0, a1⟩ := hd
    have c0 := World.var?_cell hg0 hv0 (2 * j)
    have c1 := World.var?_cell hg0 hv0 (2 * j + 1)
    have d0 := congrArg (fun l => l[0]?) e0
    have d1 := congrArg (fun l => l[0]?) e1
    rw [c0, c1, ← a0, ← a1]
    constructor
    · simpa [Nat.mul_comm] using d0
    · simpa [Nat.mul_comm, Nat.add_comm] using d1
  have hcell : TabK W := fun j hj => by
    have hj' : j < 20 := hj
    obtain ⟨h1, h2⟩ := key (j / 2) (by omega)
    by_cases e : j % 2 = 0
    · have : 2 * (j / 2) = j := by omega
      rw [this] at h1
      simpa [List.getD, hj] using h1
    · have : 2 * (j / 2) + 1 = j := by omega
      rw [this] at h2
      simpa [List.getD, hj] using h2
  exact ⟨hcell, World.block_lt_of_cell? W _ (hcell 0 (by decide))⟩

set_option maxRecDepth 100000 in
/-- The door's own heap meets the condition. -/
theorem door_met (os : Os) (args : Array Value) : laidMetH Tryd.prog laidL ((World.doorLaid Tryd.prog 24 os).forCall (fun _ _ => 0) ⟨#[], args, []⟩).memory :=
  laidMetH_of_parts3 (fuel := 8) (laidMet_of_run' 8 (by kernel_rfl) (by kernel_rfl)) (by kernel_rfl) (by kernel_rfl)
end Go.Proofs.YtpkjfdgjmcphmaaDoor

/- What each row of this seat wants: the table out of what the row lists; an argument that is a set; the start that fits. -/
import Derived.Test.YtkhokhmdiagckaaDoorRows
import Derived.Test.YtkhokhmdiagckaaDoorLie
import Derived.ProofKit
import Derived.LaidMore
import Derived.OpenShut
import Derived.Stop.Joined
import Derived.Laws.IdiomArrays
import Derived.Lib.SmallJoins
namespace Go.Proofs.YtkhokhmdiagckaaDoor
open Go.ChangeShapes Go.WideShapes Go.ChangeAt Go.WideMaps Go.WideElems Go.RowKit Bset

theorem own : ownKnob Tryd.prog.godebug = none := by kernel_rfl
theorem laidOut : laidOutB Tryd.prog = true := by kernel_rfl
theorem gTab : Tryd.prog.globalNamed "math/bits.deBruijn64tab" = some 0 := by kernel_rfl
theorem tTab : (Tryd.prog.globals[0]?).map (·.type) = some 88 := by kernel_rfl
theorem c1 : Tryd.prog.cellsOf 5 = 1 := by kernel_rfl

abbrev laidL : List (String × DataW Unit) := [("math/bits.deBruijn64tab", Rows.laid_math_bits_deBruijn64tab)]

theorem tab_data : ∀ j, j < 64 → (match (Rows.laid_math_bits_deBruijn64tab : DataW Unit) with | .agg l => l[j]? | _ => none) = some (.lit (.int .u8 (Lib.deBruijn64tab.getD j 0 : Nat))) := by
  intro j hj
  have h : ∀ j : Fin 64, (match (Rows.laid_math_bits_deBruijn64tab : DataW Unit) with | .agg l => l[j.1]? | _ => none) = some (.lit (.int .u8 (Lib.deBruijn64tab.getD j.1 0 : Nat))) := by
    intro j
    match j with
    | ⟨j, hj⟩ =>
      iterate 64 (rcases j with _ | j; · rfl)
      omega
  exact h ⟨j, hj⟩

/-- What the row's condition gives the walks: the table's cells; and it lies in the heap. -/
theorem of_laid {W : World} (h : laidMetH Tryd.prog laidL W) : TabIn W ∧ 0 < W.heap.size := by
  rw [MakeChecks.laidMetH_plain _ _ _ (by kernel_rfl)] at h
  obtain ⟨ps, ⟨g0, t0, cs0, f0, p0, q0, hg0, ht0, hv0, hd0, _⟩, _⟩ := h
  obtain rfl := Option.some.inj (gTab.symm.trans hg0)
  obtain rfl := Option.some.inj (tTab.symm.trans ht0)
  obtain ⟨xs, m1, rfl, hx1, hlen, hn, hel⟩ := DataW.trod_array Tryd.underlying88 hd0
  have key : ∀ j, j < 64 → W.cell? ⟨0, j, none⟩ = some (.int .u8 (Lib.deBruijn64tab.getD j 0 : Nat)) := by
    intro j hj
    have h0 := hel j hj
    rw [c1, Nat.mul_one] at h0
    have hxj : j < xs.length := by omega
    rw [List.getElem?_eq_getElem hxj] at h0
    obtain ⟨k, e1, e2, _⟩ := DataW.trod_int Tryd.underlying5 h0
    have hd := tab_data j hj
    simp only [Prod.mk.injEq] at hx1
    rw [hx1.1] at hd
    have hk : (xs.map (·.1))[j]? = some (.lit (.int .u8 k)) := by
      rw [List.getElem?_map, List.getElem?_eq_getElem hxj]
      simp [e2]
    simp only at hd
    rw [hk] at hd
    have hk2 : k = (Lib.deBruijn64tab.getD j 0 : Nat) := by simpa using hd
    subst hk2
    have hcell := World.var?_cell hg0 hv0 j
    rw [hcell]
    have hdrop : cs0.toList[j]? = some (.int .u8 (Lib.deBruijn64tab.getD j 0 : Nat)) := by
      have := congrArg (fun l => l[0]?) e1
      simpa using this
    simpa using hdrop
  refine ⟨fun j hj => key j (by simpa [Lib.deBruijn64tab] using hj), ?_⟩
  have := key 0 (by decide)
  exact World.block_lt_of_cell? W _ this

theorem c4 : Tryd.prog.cellsOf 24 = 4 := by kernel_rfl
theorem c64 : Tryd.prog.cellsOf 22 = 1 := by kernel_rfl

/-- An argument that is a set. -/
theorem open_set {H : Type} {enc : TypeId × Value → H} {W : World} {base : Nat} {v : Value} {d : DataW H} {p : List MemPlace} (hv : Value.okWide Tryd.prog W .any base 24 v)
    (h : DataW.Trod enc Tryd.prog W 0 (fun _ => true) true 24 v d p) : ∃ S, v = setV S := by
  unfold Value.okWide at hv
  rw [Tryd.underlying24] at hv
  obtain ⟨cs, rfl, hsz, _⟩ := hv
  obtain ⟨a, b, c, e, rfl⟩ := Joins.array4 (hsz.trans c4)
  obtain ⟨fuel, hf⟩ := h
  obtain ⟨y0, y1, y2, y3, n, _, h0, h1, h2, h3⟩ := trod_array4 Tryd.underlying24 c64 hf
  obtain ⟨k0, e0, _, w0⟩ := DataW.trod_int Tryd.underlying22 h0
  obtain ⟨k1, e1, _, w1⟩ := DataW.trod_int Tryd.underlying22 h1
  obtain ⟨k2, e2, _, w2⟩ := DataW.trod_int Tryd.underlying22 h2
  obtain ⟨k3, e3, _, w3⟩ := DataW.trod_int Tryd.underlying22 h3
  simp only [List.cons.injEq, and_true] at e0 e1 e2 e3
  subst e0 e1 e2 e3
  have b0 := bounds_u64 w0
  have b1 := bounds_u64 w1
  have b2 := bounds_u64 w2
  have b3 := bounds_u64 w3
  obtain ⟨S, r0, r1, r2, r3⟩ := ofWs b0.1 b0.2 b1.1 b1.2 b2.1 b2.2 b3.1 b3.2
  exact ⟨S, by rw [r0, r1, r2, r3]⟩

/-- The door's own heap meets the condition. -/
theorem door_met (os : Os) (args : Array Value) : laidMetH Tryd.prog laidL ((World.doorLaid Tryd.prog 14 os).forCall (fun _ _ => 0) ⟨#[], args, []⟩).memory :=
  laidMetH_of_parts3 (fuel := 8) (laidMet_of_run' 8 (by kernel_rfl) (by kernel_rfl)) (by kernel_rfl) (by kernel_rfl)
end Go.Proofs.YtkhokhmdiagckaaDoor

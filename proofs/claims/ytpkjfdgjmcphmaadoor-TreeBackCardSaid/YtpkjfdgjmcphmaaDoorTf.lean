/- Package tree: within, repeats. -/
import Derived.Test.YtpkjfdgjmcphmaaDoorTd
import Derived.Test.YtpkjfdgjmcphmaaDoorTeq
import Derived.Test.YtpkjfdgjmcphmaaDoorN1
namespace Go.Proofs.YtpkjfdgjmcphmaaDoor
open Go.RowKit Bset Tm

theorem sameS_set (a b : BitVec 256) : sameS (setN a) (setN b) = decide (a = b) := by
  rw [Bool.eq_iff_iff, sameS_iff]
  simp only [decide_eq_true_eq]
  constructor
  · intro h
    exact BitVec.eq_of_getLsbD_eq fun i hi => h i hi
  · intro h n _
    rw [h]
theorem setN_zero : setN 0#256 = fun _ => false := by
  funext n
  simp
theorem set_eql (a b : BitVec 256) (w : World) : (binOp .eql 35 (setV (setN a)) (setV (setN b))).run Tryd.prog w = .ok (.bool (decide (a = b))) w := by
  rw [run_eql_set, sameS_set]
theorem set_neq (a b : BitVec 256) (w : World) : (binOp .neq 35 (setV (setN a)) (setV (setN b))).run Tryd.prog w = .ok (.bool (!decide (a = b))) w := by
  rw [run_neq_set, sameS_set]
theorem set_eql_none (a : BitVec 256) (w : World) : (binOp .eql 35 (setV (setN a)) (.agg #[.int .u64 0, .int .u64 0, .int .u64 0, .int .u64 0])).run Tryd.prog w = .ok (.bool (decide (a = 0#256))) w := by
  have := set_eql a 0#256 w
  rwa [setN_zero, setV_none] at this

/-- The table of how many kids a kind has. -/
def kidsTab : List Int := [0, 0, 0, 0, 0, 0, 0, 0, 2, -1, 2, -1, 1, 1, 1, 1, 1, 1, 1, 1]
def TabK (w : World) : Prop := ∀ j (h : j < kidsTab.length), w.cell? ⟨0, j, none⟩ = some (.int .i64 kidsTab[j])
theorem TabK.below {n : Nat} {w w' : World} (h : TabK w) (hb : Below n w w') (hg : 0 < n) : TabK w' :=
  fun j hj => (hb.cell (p := ⟨0, j, none⟩) hg).trans (h j hj)

set_option maxRecDepth 100000 in
set_option maxHeartbeats 1000000 in
theorem within_any (a b m : Int) (w : World) :
    Calls Tryd.prog 75 #[.agg #[.int .i64 a, .int .i64 b], .int .i64 m] w fun e w' => e = .returned (.bool (decide (a ≤ m) && (decide (b = -1) || decide (m ≤ b)))) ∧ Below w.heap.size w w' := by
  go_enter Tryd.func75, Tryd.ntmps75
  go_wp2
  all_goals go_ret
  all_goals exact ⟨congrArg (fun x => Ending.returned (.bool x)) (by rw [Bool.eq_iff_iff]; simp; try omega), (Below.refl _ _).alloc (Nat.le_refl _) _⟩

set_option maxRecDepth 100000 in
set_option maxHeartbeats 1000000 in
theorem repeats_any (a b : Int) (w : World) :
    Calls Tryd.prog 77 #[.int .i64 a, .int .i64 b] w fun e w' => e = .returned (.bool (reps a b)) ∧ w' = w := by
  go_enter Tryd.func77, Tryd.ntmps77
  go_wp2
  all_goals go_ret
  all_goals exact ⟨congrArg (fun x => Ending.returned (.bool x)) (by unfold reps; rw [Bool.eq_iff_iff]; simp; try omega), rfl⟩
end Go.Proofs.YtpkjfdgjmcphmaaDoor

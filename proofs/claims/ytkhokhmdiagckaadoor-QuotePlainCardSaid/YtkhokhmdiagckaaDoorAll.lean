/- Walks over package set: all. -/
import Derived.Test.YtkhokhmdiagckaaDoorSw0
import Derived.Test.YtkhokhmdiagckaaDoorCl
namespace Go.Proofs.YtkhokhmdiagckaaDoor
open Go.RowKit Bset

theorem not_none (w : World) :
    Calls Tryd.prog 12 #[.agg #[.int .u64 0, .int .u64 0, .int .u64 0, .int .u64 0]] w fun e w' => e = .returned (setV fun _ => true) ∧ Below w.heap.size w w' := by
  have h := not_any (fun _ => false) w
  rw [setV_none] at h
  exact h

set_option maxHeartbeats 1000000 in
theorem all_any (w : World) :
    Calls Tryd.prog 10 #[] w fun e w' => e = .returned (setV fun _ => true) ∧ Below w.heap.size w w' := by
  go_enter Tryd.func10, Tryd.ntmps10
  go_wp2_with (go_at_call 12; refine (not_none _).mono ?_; rintro e w1 ⟨rfl, hb⟩; obtain ⟨hc, hf⟩ := bcell hb; have hz : w.heap.size + 1 ≤ w1.heap.size := by have := hb.size; simp at this; omega)
  exact bodyPost_ret (v := setV fun _ => true) (by simp [results, Tryd.results10, go_sem, hc]) rfl
    ⟨rfl, (((((((Below.refl _ _).alloc (Nat.le_refl _) _).trans (hb.mono (by simp))).setCell (by simp) _).setCell (by simp) _).setCell (by simp) _).setCell (by simp) _)⟩
end Go.Proofs.YtkhokhmdiagckaaDoor

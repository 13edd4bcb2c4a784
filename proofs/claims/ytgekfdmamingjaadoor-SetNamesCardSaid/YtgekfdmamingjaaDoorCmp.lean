/- Package set's Subset, Meets, Compare. -/
import Derived.Test.YtgekfdmamingjaaDoorOnly
namespace Go.Proofs.YtgekfdmamingjaaDoor
open Go.RowKit Bset

def subS (S T : Nat → Bool) : Bool := sameS (fun n => S n && T n) S
def meetS (S T : Nat → Bool) : Bool := !sameS (fun n => S n && T n) (fun _ => false)
def cmpS (S T : Nat → Bool) : Int := if sameS S T then 0 else Lib.compareBytes (bytesOf S) (bytesOf T)

theorem two_step {w w' : World} {S T : Nat → Bool} {n : Nat} (hb : Below ((w.alloc (.cells (setC S) 26)).alloc (.cells (setC T) 26)).heap.size (((w.alloc (.cells (setC S) 26)).alloc (.cells (setC T) 26)).drewN n) w') :
    Cl w' w.heap.size 26 (setC S) ∧ Cl w' (w.heap.size + 1) 26 (setC T) ∧ Below w.heap.size w w' ∧ w.heap.size + 2 ≤ w'.heap.size := by
  have a0 : Cl ((w.alloc (.cells (setC S) 26)).alloc (.cells (setC T) 26)) w.heap.size 26 (setC S) := (Cl.new' (by simp) _ _).alloc _
  have a1 : Cl ((w.alloc (.cells (setC S) 26)).alloc (.cells (setC T) 26)) (w.heap.size + 1) 26 (setC T) := Cl.new' (by simp) _ _
  refine ⟨Cl.below (a0.drewN n) hb a0.lt, Cl.below (a1.drewN n) hb a1.lt, ?_, ?_⟩
  · exact (bdrewN (((Below.refl _ w).alloc (Nat.le_refl _) _).alloc (by simp) _)).trans (hb.mono (by simp; omega))
  · have := hb.size
    simp at this
    omega

set_option maxHeartbeats 1000000 in
theorem subset_any (S T : Nat → Bool) (w : World) :
    Calls Tryd.prog 19 #[setV S, setV T] w fun e w' => e = .returned (.bool (subS S T)) ∧ Below w.heap.size w w' := by
  have he := fun w => run_eql_set w (fun n => S n && T n) S
  go_enter Tryd.func19, Tryd.ntmps19
  go_wp2
  go_region_with (go_at_call 32; refine (and_any S T _).mono ?_; rintro e w' ⟨rfl, hb⟩; obtain ⟨q0, q1, hB, hz⟩ := two_step (n := 1) hb; have v0 := q0.word 0 (by decide); have v1 := q0.word 1 (by decide); have v2 := q0.word 2 (by decide); have v3 := q0.word 3 (by decide))
  all_goals
    go_wp2
    go_ret
    exact ⟨rfl, hB⟩

set_option maxHeartbeats 1000000 in
theorem meets_any (S T : Nat → Bool) (w : World) :
    Calls Tryd.prog 20 #[setV S, setV T] w fun e w' => e = .returned (.bool (meetS S T)) ∧ Below w.heap.size w w' := by
  have he := fun w => run_neq_set w (fun n => S n && T n) (fun _ => false)
  rw [setV_none] at he
  go_enter Tryd.func20, Tryd.ntmps20
  go_wp2_with (go_at_call 32; refine (and_any S T _).mono ?_; rintro e w' ⟨rfl, hb⟩; obtain ⟨q0, q1, hB, hz⟩ := two_step (n := 0) hb)
  go_ret
  exact ⟨rfl, hB⟩
end Go.Proofs.YtgekfdmamingjaaDoor

/- The examples of package quote: how the laws ask for them. -/
import Derived.Test.YtkhokhmdiagckaaDoorQ9
import Derived.Test.YtkhokhmdiagckaaDoorQ11
import Derived.Test.YtkhokhmdiagckaaDoorQ13
import Derived.Test.YtkhokhmdiagckaaDoorLie
namespace Go.Proofs.YtkhokhmdiagckaaDoor
open Go.RowKit Go.Maps Go.Shelf Bset Qm

theorem strOf (s : ByteArray) : (⟨s.data.toList.toArray⟩ : ByteArray) = s := by cases s; rfl

set_option maxHeartbeats 1000000 in
theorem text_any (t s : ByteArray) (k : Nat) (ht : t.size ≤ 1048576) (h : unlit t.data.toList = (s.data.toList, k, 0)) (w : World) :
    Calls Tryd.prog 13 #[.string t, .string s, .int .i64 k] w fun e w' => e = .returned (.bool true) ∧ Below w.heap.size w w' := by
  go_enter Tryd.func13, Tryd.ntmps13
  go_wp2_with (go_at_call 8; refine (unliteral_any t ht _).mono ?_; rintro e w1 ⟨rfl, hb1⟩; rw [h, litV, strOf])
  go_wp2
  go_ret
  exact ⟨rfl, hb1⟩

set_option maxHeartbeats 1000000 in
theorem wrong_any (t : ByteArray) (n k : Nat) (ht : t.size ≤ 1048576) (hne : t.toList.isEmpty = false) (h0 : ∀ w, (Instr.index 9 (.string t) (.int .i64 0)).run Tryd.prog w = .ok (.int .u8 91) w) (h : uncls t.data.toList = (fun _ => false, n, k)) (w : World) :
    Calls Tryd.prog 15 #[.string t, .int .i64 n, .int .i64 k] w fun e w' => e = .returned (.bool true) ∧ Below w.heap.size w w' := by
  have he := fun w => run_eql_set w (fun _ => false) (fun _ => false)
  rw [show sameS (fun _ => false) (fun _ => false) = true from by decide +kernel, setV_none] at he
  go_enter Tryd.func15, Tryd.ntmps15
  go_wp2_with (go_at_call 11; refine (unclass_any t ht _).mono ?_; rintro e w1 ⟨rfl, hb1⟩; rw [h, clsV, setV_none])
  go_wp2
  go_ret
  exact ⟨rfl, hb1.trans ((Below.refl _ _).alloc hb1.size _)⟩
end Go.Proofs.YtkhokhmdiagckaaDoor

/- Walks over package set: what makes and reads words; all but And. -/
import Derived.Test.YtkhokhmdiagckaaDoorSv
namespace Go.Proofs.YtkhokhmdiagckaaDoor
open Go.RowKit Bset

set_option maxHeartbeats 400000 in
theorem bit_any (b : Nat) (hb : b < 256) (w : World) :
    Calls Tryd.prog 29 #[.int .u8 b] w fun e w' => e = .returned (.int .u64 (bt b : Nat)) ∧ w = w' := by
  have h := bt_wrap b
  go_enter Tryd.func29, Tryd.ntmps29
  go_wp2
  go_ret
  exact ⟨ret_int h, rfl⟩

set_option maxHeartbeats 400000 in
theorem has_any (S : Nat → Bool) (b : Nat) (hb : b < 256) (w : World) :
    Calls Tryd.prog 32 #[setV S, .int .u8 b] w fun e w' => e = .returned (.bool (S b)) ∧ Below w.heap.size w w' := by
  obtain ⟨k, hk⟩ : ∃ k, k = b / 64 := ⟨_, rfl⟩
  have hc := cellW w S k (by omega) 24
  have hi : (k : Int) < 4 := by omega
  have hi0 : (0 : Int) ≤ (k : Int) := by omega
  have hq : IntKind.u8.wrap ((b : Int) / 64) = (k : Int) := by rw [IntWalk.u8_in _ (by omega)]; omega
  have HK := Lib.hid hk; clear hk
  go_enter Tryd.func32, Tryd.ntmps32
  go_wp2
  go_quiet ((go_at_call 29; exact Calls.quiet_of_same (qeq (bit_any _ hb _))))
  go_wp2
  go_ret
  exact ⟨ret_bool (has_bit S b k HK.out), bdrewN ((Below.refl _ _).alloc (Nat.le_refl _) _)⟩


theorem idx0 (a b c d : Value) (w : World) : (Instr.index 24 (.agg #[a, b, c, d]) (.int .i64 0)).run Tryd.prog w = .ok a w := by kernel_rfl
theorem idx1 (a b c d : Value) (w : World) : (Instr.index 24 (.agg #[a, b, c, d]) (.int .i64 1)).run Tryd.prog w = .ok b w := by kernel_rfl
theorem idx2 (a b c d : Value) (w : World) : (Instr.index 24 (.agg #[a, b, c, d]) (.int .i64 2)).run Tryd.prog w = .ok c w := by kernel_rfl
theorem idx3 (a b c d : Value) (w : World) : (Instr.index 24 (.agg #[a, b, c, d]) (.int .i64 3)).run Tryd.prog w = .ok d w := by kernel_rfl


set_option maxHeartbeats 1000000 in
theorem not_any (S : Nat → Bool) (w : World) :
    Calls Tryd.prog 12 #[setV S] w fun e w' => e = .returned (setV fun n => !S n) ∧ Below w.heap.size w w' := by
  have i0 := idx0
  have i1 := idx1
  have i2 := idx2
  have i3 := idx3
  go_enter Tryd.func12, Tryd.ntmps12
  go_wp2
  go_rounds 5
  exact bodyPost_ret (v := setV fun n => !S n) (by simp [results, Tryd.results12, go_sem, not_w]) rfl
    ⟨rfl, ((Below.refl _ _).alloc (Nat.le_refl _) _).alloc (by simp) _⟩

set_option maxHeartbeats 1000000 in
theorem or_any (S T : Nat → Bool) (w : World) :
    Calls Tryd.prog 27 #[setV S, setV T] w fun e w' => e = .returned (setV fun n => S n || T n) ∧ Below w.heap.size w w' := by
  have i0 := idx0
  have i1 := idx1
  have i2 := idx2
  have i3 := idx3
  go_enter Tryd.func27, Tryd.ntmps27
  go_wp2
  go_rounds 5
  exact bodyPost_ret (v := setV fun n => S n || T n) (by simp [results, Tryd.results27, go_sem, or_w]) rfl
    ⟨rfl, by repeat (first | exact Below.refl _ _ | refine Below.alloc ?_ (by simp; try omega) _)⟩

set_option maxHeartbeats 1000000 in
theorem minus_any (S T : Nat → Bool) (w : World) :
    Calls Tryd.prog 37 #[setV S, setV T] w fun e w' => e = .returned (setV fun n => S n && !T n) ∧ Below w.heap.size w w' := by
  have i0 := idx0
  have i1 := idx1
  have i2 := idx2
  have i3 := idx3
  go_enter Tryd.func37, Tryd.ntmps37
  go_wp2
  go_rounds 5
  exact bodyPost_ret (v := setV fun n => S n && !T n) (by simp [results, Tryd.results37, go_sem, minus_w]) rfl
    ⟨rfl, by repeat (first | exact Below.refl _ _ | refine Below.alloc ?_ (by simp; try omega) _)⟩

end Go.Proofs.YtkhokhmdiagckaaDoor

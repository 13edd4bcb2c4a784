/- Package lex: read, where no word begins so. -/
import Derived.Test.YtjeogbdeagkomaaDoorVL10
namespace Go.Proofs.YtjeogbdeagkomaaDoor
open Go.RowKit Nm Bset Lm

set_option maxRecDepth 100000 in
set_option maxHeartbeats 4000000 in
theorem read_none (s : ByteArray) (h0 : 0 < s.size) (w : World) (b : Nat) (v : Value)
    (hl1 : (Instr.lookup 135 (.map (some b)) (.int .u8 s[0].toNat) true).run Tryd.prog (w.alloc (.cells lwZ 64)) = .ok (.tuple #[v, .bool false]) (w.alloc (.cells lwZ 64))) :
    Calls Tryd.prog 128 #[.map (some b), .string s] w fun e w' => e = .returned (.tuple #[lwV ⟨0, 0, 0, ⟨#[]⟩, nul, 0, 0⟩, .bool false]) ∧ Below w.heap.size w w' := by
  obtain ⟨q0, q1, q2, q3⟩ := word_nul
  obtain ⟨W1, hW1⟩ : ∃ W1, w.alloc (.cells lwZ 64) = W1 := ⟨_, rfl⟩
  rw [hW1] at hl1
  have k1 : Cl W1 w.heap.size 64 lwZ := by rw [← hW1]; exact Cl.new w _ _
  have b1 : Below w.heap.size w W1 := by rw [← hW1]; exact (Below.refl w.heap.size w).alloc (Nat.le_refl _) _
  have hi : (0 : Int) < (s.size : Int) := by omega
  go_enter Tryd.func128, Tryd.ntmps128
  go_upto_region 1 with fail
  clear hW1
  obtain ⟨⟨z0, z1, z2, z3, z4, z5, z6, z7, z8, z9⟩, zf⟩ := k1.ten
  go_wp2
  refine end_word_bool (T := 64) (Cl.set10 k1 _ _ _ _ _ _ _ _ _ _) rfl rfl rfl rfl ⟨?_, below_set10 b1 (Nat.le_refl _) _ _ _ _ _ _ _ _ _ _⟩
  simp only [lwV, lwC, q0, q1, q2, q3]
  rfl
end Go.Proofs.YtjeogbdeagkomaaDoor

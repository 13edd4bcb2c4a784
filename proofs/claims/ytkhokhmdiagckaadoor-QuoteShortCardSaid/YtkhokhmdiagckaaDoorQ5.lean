/- Package quote: what stands behind the parts. -/
import Derived.Test.YtkhokhmdiagckaaDoorQ3
namespace Go.Proofs.YtkhokhmdiagckaaDoor
open Go.RowKit Go.Maps Bset Qm

theorem Spell.drewN {w : World} {p : Sp} {bb ba : Nat} (h : Spell w p bb ba) (n : Nat) : Spell (w.drewN n) p bb ba := ⟨h.isp, h.beh, h.ahd⟩

abbrev endT (r : Nat × Nat) : Value := .tuple #[.int .i64 (r.1 : Nat), .int .i64 (r.2 : Nat)]

set_option maxHeartbeats 2000000 in
set_option maxRecDepth 100000 in
theorem ended_any (p : Sp) (bb ba : Nat) (s : ByteArray) (hs : s.size ≤ maxLen) (k : Nat) (hk : k ≤ s.size) (w : World) (h : Spell w p bb ba) :
    Calls Tryd.prog 24 #[spV p bb ba, .string s, .int .i64 k] w fun e w' => e = .returned (endT (ended p s.data.toList k)) ∧ Below w.heap.size w w' := by
  have hs2 := hs
  unfold maxLen at hs
  have hc := spell_cells w p bb ba
  have hb0 : Below w.heap.size w (w.alloc (.cells (spC p bb ba) 44)) := (Below.refl _ w).alloc (Nat.le_refl _) _
  have h1 := h.alloc (.cells (spC p bb ba) 44)
  have hl : s.data.toList.length = s.size := by simp
  have hlast : p.last < 256 := by rcases h.isp with rfl | rfl <;> decide
  have c0 := hc 0
  have c1 := hc 1
  have c2 := hc 2
  have c3 := hc 3
  have c4 := hc 4
  have c5 := hc 5
  have c6 := hc 6
  have c7 := hc 7
  clear hc
  by_cases hyes : (s.data.toList.drop k).head? = some (UInt8.ofNat p.last)
  · have he : ended p s.data.toList k = (k + 1, 0) := by unfold ended; rw [if_pos hyes]
    have hlt : k < s.size := by
      rcases Nat.lt_or_ge k s.size with h2 | h2
      · exact h2
      · rw [drop_end s k h2] at hyes
        cases hyes
    rw [head_at s k hlt] at hyes
    have hv : s[k].toNat = p.last := by rw [Option.some.inj hyes, u8 hlast]
    have t1 : ((s[k].toNat : Int) == (p.last : Int)) = true := by simp [hv]
    have t2 : decide ((k : Int) < (s.size : Int)) = true := by simp; omega
    have n0 : (0 : Int) ≤ (k : Int) := by omega
    have n1 : (k : Int) < (s.size : Int) := by omega
    have HE := Lib.hid he
    clear he hyes hv hl hlast
    go_enter Tryd.func24, Tryd.ntmps24
    go_wp2
    go_quiet (fail)
    go_wp2
    go_ret2
    exact ⟨ret_tup (by rw [HE.out]; simp), bdrewN hb0⟩
  · have he : ended p s.data.toList k = (k + (pt p (s.data.toList.drop k)).2.2.1, fau s.size (k + (pt p (s.data.toList.drop k)).2.2.1)) := by unfold ended; rw [if_neg hyes, hl]
    obtain ⟨lo, hi, n, ok, hp⟩ : ∃ lo hi n ok, pt p (s.data.toList.drop k) = (lo, hi, n, ok) := ⟨_, _, _, _, rfl⟩
    have hpa := fun W hW => part_any p bb ba s hs2 k hk W hW
    have hfa := fun W => fault_any s hs2 (k + n) W
    rw [hp] at he hpa
    simp only at he
    have ec : (((k + n : Nat) : Int)) = (k : Int) + (n : Int) := by omega
    rw [ec] at hfa
    have HE := Lib.hid he
    by_cases hlt : k < s.size
    · rw [head_at s k hlt] at hyes
      have hv : s[k].toNat ≠ p.last := fun e => hyes (by congr 1; exact UInt8.toNat_inj.1 (by rw [e, u8 hlast]))
      have t1 : ((s[k].toNat : Int) == (p.last : Int)) = false := by simp; omega
      have t2 : decide ((k : Int) < (s.size : Int)) = true := by simp; omega
      have n0 : (0 : Int) ≤ (k : Int) := by omega
      have n1 : (k : Int) < (s.size : Int) := by omega
      clear he hyes hv hl hlast hp ec
      go_enter Tryd.func24, Tryd.ntmps24
      go_wp2
      go_quiet (fail)
      go_wp2_with (go_at_call 35; refine (hpa _ (h1.drewN _)).mono ?_; rintro e w1 ⟨rfl, hb1⟩)
      go_quiet ((go_at_call 22; exact Calls.quiet_of_same (qeq (hfa _))))
      go_wp2
      go_ret2
      exact ⟨ret_tup (by rw [HE.out]; simp), bdrewN ((((bdrewN hb0).trans (hb1.mono hb0.size)).alloc (Nat.le_trans hb0.size hb1.size) _))⟩
    · have t2 : decide (k < s.size) = false := by simp; omega
      clear he hyes hl hlast hp ec hlt
      go_enter Tryd.func24, Tryd.ntmps24
      go_wp2
      go_quiet (fail)
      go_wp2_with (go_at_call 35; refine (hpa _ (h1.drewN _)).mono ?_; rintro e w1 ⟨rfl, hb1⟩)
      go_quiet ((go_at_call 22; exact Calls.quiet_of_same (qeq (hfa _))))
      go_wp2
      go_ret2
      exact ⟨ret_tup (by rw [HE.out]; simp), bdrewN ((((bdrewN hb0).trans (hb1.mono hb0.size)).alloc (Nat.le_trans hb0.size hb1.size) _))⟩
end Go.Proofs.YtkhokhmdiagckaaDoor

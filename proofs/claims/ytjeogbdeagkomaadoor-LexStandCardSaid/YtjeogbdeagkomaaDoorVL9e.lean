/- Package lex: May, the signs, and what is none. Printed by l9gen.py. -/
import Derived.Test.YtjeogbdeagkomaaDoorVL9
namespace Go.Proofs.YtjeogbdeagkomaaDoor
open Go.RowKit Nm Bset Lm

set_option maxRecDepth 100000 in
set_option maxHeartbeats 4000000 in
theorem lmay_sign (ki kl : Int) (kt : ByteArray) (ks : Nat → Bool) (klo khi : Int) (_hs : kt.size < 9223372036854775807) (w : World) (k : Nat) (n1 : ¬ k = 1) (n2 : ¬ k = 14) (n3 : ¬ k = 15) (n4 : ¬ k = 16) (hk : k < 256) (h1 : 1 ≤ k) (h2 : k ≤ 16) :
    Calls Tryd.prog 60 #[lwV ⟨k, ki, kl, kt, ks, klo, khi⟩] w fun e w' => e = .returned (.bool (mayW ⟨k, ki, kl, kt, ks, klo, khi⟩)) ∧ Below w.heap.size w w' := by
  obtain ⟨q0, q1, q2, q3⟩ := word_nul
  obtain ⟨g, hg⟩ : ∃ g, g = w.heap.size := ⟨_, rfl⟩
  have hal := fun W => alone_any ⟨k, ki, kl, kt, ks, klo, khi⟩ W
  have t1 : ((k : Int) == 1) = false := by simp; omega
  have t2 : ((k : Int) == 14) = false := by simp; omega
  have t3 : ((k : Int) == 15) = false := by simp; omega
  have t4 : ((k : Int) == 16) = false := by simp; omega
  have u1 : (1 : Int) ≤ (k : Int) := by omega
  have u2 : (k : Int) ≤ 16 := by omega
  have he := fun W => run_eql_word ⟨k, 0, 0, kt, ks, klo, khi⟩ ⟨k, 0, 0, ⟨#[]⟩, nul, 0, 0⟩ W
  have hmay : mayW ⟨k, ki, kl, kt, ks, klo, khi⟩ = (true && sameW ⟨k, 0, 0, kt, ks, klo, khi⟩ ⟨k, 0, 0, ⟨#[]⟩, nul, 0, 0⟩) := by unfold mayW fitsW justW; simp only [n1, n2, n3, n4, if_false]; rw [show (decide (1 ≤ k) && decide (k ≤ 16)) = true from by simp; omega]
  rw [hmay]
  have c0 : ((0 : Nat) : Int) = 0 := rfl
  simp only [lwV, lwC, q0, q1, q2, q3, c0] at he
  simp only [lwV, lwC] at hal
  have HE := Lib.hid he
  have HA := Lib.hid hal
  generalize sameW ⟨k, 0, 0, kt, ks, klo, khi⟩ ⟨k, 0, 0, ⟨#[]⟩, nul, 0, 0⟩ = sm at *
  clear he hal hmay
  go_enter Tryd.func60, Tryd.ntmps60
  go_upto_region 12 with fail
  obtain ⟨W1, hW1⟩ : ∃ W1, (w.alloc (.cells (lwC ⟨k, ki, kl, kt, ks, klo, khi⟩) 64)).alloc (.cells #[.int .u8 (k : Nat), .int .i64 0, .int .i64 0, .string ⟨#[]⟩, .int .u64 0, .int .u64 0, .int .u64 0, .int .u64 0, .int .i64 0, .int .i64 0] 64) = W1 := ⟨_, rfl⟩
  have s0 : Cl W1 g 64 (lwC ⟨k, ki, kl, kt, ks, klo, khi⟩) := by rw [← hW1, hg]; exact (Cl.new _ _ _).alloc _
  have s1 : Cl W1 (g + 1) 64 #[.int .u8 (k : Nat), .int .i64 0, .int .i64 0, .string ⟨#[]⟩, .int .u64 0, .int .u64 0, .int .u64 0, .int .u64 0, .int .i64 0, .int .i64 0] := by rw [← hW1, hg]; exact Cl.new' (by simp) _ _
  have b1 : Below w.heap.size w W1 := by rw [← hW1]; exact ((Below.refl _ w).alloc (Nat.le_refl _) _).alloc (by simp) _
  change Code.wp _ _ _ _ ((w.alloc (.cells (lwC ⟨k, ki, kl, kt, ks, klo, khi⟩) 64)).alloc (.cells #[.int .u8 (k : Nat), .int .i64 0, .int .i64 0, .string ⟨#[]⟩, .int .u64 0, .int .u64 0, .int .u64 0, .int .u64 0, .int .i64 0, .int .i64 0] 64))
  rw [hW1, ← hg]
  obtain ⟨⟨x0, x1, x2, x3, x4, x5, x6, x7, x8, x9⟩, xf⟩ := s0.ten
  obtain ⟨⟨y0, y1, y2, y3, y4, y5, y6, y7, y8, y9⟩, yf⟩ := s1.ten
  have HG := Lib.hid hg
  clear hW1 hg
  have s2 := s1
  have s3 := s0
  have b2 := b1
  generalize W1 = W2 at *
  obtain ⟨⟨x0, x1, x2, x3, x4, x5, x6, x7, x8, x9⟩, xf⟩ := s3.ten
  obtain ⟨⟨y0, y1, y2, y3, y4, y5, y6, y7, y8, y9⟩, yf⟩ := s2.ten
  have he := HE.out
  go_region_with (go_at_call 96; refine (HA.out _).mono ?_; rintro e w3 ⟨rfl, hb3⟩; obtain ⟨⟨x0, x1, x2, x3, x4, x5, x6, x7, x8, x9⟩, xf⟩ := (s3.drew.below hb3 s3.lt).ten; obtain ⟨⟨y0, y1, y2, y3, y4, y5, y6, y7, y8, y9⟩, yf⟩ := (s2.drew.below hb3 s2.lt).ten)
  all_goals
    go_wp2
    go_ret
    exact ⟨rfl, (b2.drew.trans (hb3.mono b2.size))⟩

set_option maxRecDepth 100000 in
set_option maxHeartbeats 4000000 in
theorem lmay_zero (ki kl : Int) (kt : ByteArray) (ks : Nat → Bool) (klo khi : Int) (_hs : kt.size < 9223372036854775807) (w : World) (k : Nat) (n1 : ¬ k = 1) (n2 : ¬ k = 14) (n3 : ¬ k = 15) (n4 : ¬ k = 16) (hk : k < 256) (h1 : k < 1) :
    Calls Tryd.prog 60 #[lwV ⟨k, ki, kl, kt, ks, klo, khi⟩] w fun e w' => e = .returned (.bool (mayW ⟨k, ki, kl, kt, ks, klo, khi⟩)) ∧ Below w.heap.size w w' := by
  obtain ⟨q0, q1, q2, q3⟩ := word_nul
  obtain ⟨g, hg⟩ : ∃ g, g = w.heap.size := ⟨_, rfl⟩
  have hal := fun W => alone_any ⟨k, ki, kl, kt, ks, klo, khi⟩ W
  have t1 : ((k : Int) == 1) = false := by simp; omega
  have t2 : ((k : Int) == 14) = false := by simp; omega
  have t3 : ((k : Int) == 15) = false := by simp; omega
  have t4 : ((k : Int) == 16) = false := by simp; omega
  have u1 : ¬ (1 : Int) ≤ (k : Int) := by omega
  have he := fun W => run_eql_word ⟨k, 0, 0, kt, ks, klo, khi⟩ ⟨k, 0, 0, ⟨#[]⟩, nul, 0, 0⟩ W
  have hmay : mayW ⟨k, ki, kl, kt, ks, klo, khi⟩ = (false && sameW ⟨k, 0, 0, kt, ks, klo, khi⟩ ⟨k, 0, 0, ⟨#[]⟩, nul, 0, 0⟩) := by unfold mayW fitsW justW; simp only [n1, n2, n3, n4, if_false]; rw [show (decide (1 ≤ k) && decide (k ≤ 16)) = false from by simp; omega]
  rw [hmay]
  have c0 : ((0 : Nat) : Int) = 0 := rfl
  simp only [lwV, lwC, q0, q1, q2, q3, c0] at he
  simp only [lwV, lwC] at hal
  have HE := Lib.hid he
  have HA := Lib.hid hal
  generalize sameW ⟨k, 0, 0, kt, ks, klo, khi⟩ ⟨k, 0, 0, ⟨#[]⟩, nul, 0, 0⟩ = sm at *
  clear he hal hmay
  go_enter Tryd.func60, Tryd.ntmps60
  go_upto_region 12 with fail
  obtain ⟨W1, hW1⟩ : ∃ W1, (w.alloc (.cells (lwC ⟨k, ki, kl, kt, ks, klo, khi⟩) 64)).alloc (.cells #[.int .u8 (k : Nat), .int .i64 0, .int .i64 0, .string ⟨#[]⟩, .int .u64 0, .int .u64 0, .int .u64 0, .int .u64 0, .int .i64 0, .int .i64 0] 64) = W1 := ⟨_, rfl⟩
  have s0 : Cl W1 g 64 (lwC ⟨k, ki, kl, kt, ks, klo, khi⟩) := by rw [← hW1, hg]; exact (Cl.new _ _ _).alloc _
  have s1 : Cl W1 (g + 1) 64 #[.int .u8 (k : Nat), .int .i64 0, .int .i64 0, .string ⟨#[]⟩, .int .u64 0, .int .u64 0, .int .u64 0, .int .u64 0, .int .i64 0, .int .i64 0] := by rw [← hW1, hg]; exact Cl.new' (by simp) _ _
  have b1 : Below w.heap.size w W1 := by rw [← hW1]; exact ((Below.refl _ w).alloc (Nat.le_refl _) _).alloc (by simp) _
  change Code.wp _ _ _ _ ((w.alloc (.cells (lwC ⟨k, ki, kl, kt, ks, klo, khi⟩) 64)).alloc (.cells #[.int .u8 (k : Nat), .int .i64 0, .int .i64 0, .string ⟨#[]⟩, .int .u64 0, .int .u64 0, .int .u64 0, .int .u64 0, .int .i64 0, .int .i64 0] 64))
  rw [hW1, ← hg]
  obtain ⟨⟨x0, x1, x2, x3, x4, x5, x6, x7, x8, x9⟩, xf⟩ := s0.ten
  obtain ⟨⟨y0, y1, y2, y3, y4, y5, y6, y7, y8, y9⟩, yf⟩ := s1.ten
  have HG := Lib.hid hg
  clear hW1 hg
  have s2 := s1
  have s3 := s0
  have b2 := b1
  generalize W1 = W2 at *
  obtain ⟨⟨x0, x1, x2, x3, x4, x5, x6, x7, x8, x9⟩, xf⟩ := s3.ten
  obtain ⟨⟨y0, y1, y2, y3, y4, y5, y6, y7, y8, y9⟩, yf⟩ := s2.ten
  have he := HE.out
  go_quiet (fail)
  go_wp2
  go_ret
  exact ⟨rfl, below_drewN b2 _⟩

set_option maxRecDepth 100000 in
set_option maxHeartbeats 4000000 in
theorem lmay_over (ki kl : Int) (kt : ByteArray) (ks : Nat → Bool) (klo khi : Int) (_hs : kt.size < 9223372036854775807) (w : World) (k : Nat) (n1 : ¬ k = 1) (n2 : ¬ k = 14) (n3 : ¬ k = 15) (n4 : ¬ k = 16) (hk : k < 256) (h2 : 16 < k) :
    Calls Tryd.prog 60 #[lwV ⟨k, ki, kl, kt, ks, klo, khi⟩] w fun e w' => e = .returned (.bool (mayW ⟨k, ki, kl, kt, ks, klo, khi⟩)) ∧ Below w.heap.size w w' := by
  obtain ⟨q0, q1, q2, q3⟩ := word_nul
  obtain ⟨g, hg⟩ : ∃ g, g = w.heap.size := ⟨_, rfl⟩
  have hal := fun W => alone_any ⟨k, ki, kl, kt, ks, klo, khi⟩ W
  have t1 : ((k : Int) == 1) = false := by simp; omega
  have t2 : ((k : Int) == 14) = false := by simp; omega
  have t3 : ((k : Int) == 15) = false := by simp; omega
  have t4 : ((k : Int) == 16) = false := by simp; omega
  have u1 : (1 : Int) ≤ (k : Int) := by omega
  have u2 : ¬ (k : Int) ≤ 16 := by omega
  have he := fun W => run_eql_word ⟨k, 0, 0, kt, ks, klo, khi⟩ ⟨k, 0, 0, ⟨#[]⟩, nul, 0, 0⟩ W
  have hmay : mayW ⟨k, ki, kl, kt, ks, klo, khi⟩ = (false && sameW ⟨k, 0, 0, kt, ks, klo, khi⟩ ⟨k, 0, 0, ⟨#[]⟩, nul, 0, 0⟩) := by unfold mayW fitsW justW; simp only [n1, n2, n3, n4, if_false]; rw [show (decide (1 ≤ k) && decide (k ≤ 16)) = false from by simp; omega]
  rw [hmay]
  have c0 : ((0 : Nat) : Int) = 0 := rfl
  simp only [lwV, lwC, q0, q1, q2, q3, c0] at he
  simp only [lwV, lwC] at hal
  have HE := Lib.hid he
  have HA := Lib.hid hal
  generalize sameW ⟨k, 0, 0, kt, ks, klo, khi⟩ ⟨k, 0, 0, ⟨#[]⟩, nul, 0, 0⟩ = sm at *
  clear he hal hmay
  go_enter Tryd.func60, Tryd.ntmps60
  go_upto_region 12 with fail
  obtain ⟨W1, hW1⟩ : ∃ W1, (w.alloc (.cells (lwC ⟨k, ki, kl, kt, ks, klo, khi⟩) 64)).alloc (.cells #[.int .u8 (k : Nat), .int .i64 0, .int .i64 0, .string ⟨#[]⟩, .int .u64 0, .int .u64 0, .int .u64 0, .int .u64 0, .int .i64 0, .int .i64 0] 64) = W1 := ⟨_, rfl⟩
  have s0 : Cl W1 g 64 (lwC ⟨k, ki, kl, kt, ks, klo, khi⟩) := by rw [← hW1, hg]; exact (Cl.new _ _ _).alloc _
  have s1 : Cl W1 (g + 1) 64 #[.int .u8 (k : Nat), .int .i64 0, .int .i64 0, .string ⟨#[]⟩, .int .u64 0, .int .u64 0, .int .u64 0, .int .u64 0, .int .i64 0, .int .i64 0] := by rw [← hW1, hg]; exact Cl.new' (by simp) _ _
  have b1 : Below w.heap.size w W1 := by rw [← hW1]; exact ((Below.refl _ w).alloc (Nat.le_refl _) _).alloc (by simp) _
  change Code.wp _ _ _ _ ((w.alloc (.cells (lwC ⟨k, ki, kl, kt, ks, klo, khi⟩) 64)).alloc (.cells #[.int .u8 (k : Nat), .int .i64 0, .int .i64 0, .string ⟨#[]⟩, .int .u64 0, .int .u64 0, .int .u64 0, .int .u64 0, .int .i64 0, .int .i64 0] 64))
  rw [hW1, ← hg]
  obtain ⟨⟨x0, x1, x2, x3, x4, x5, x6, x7, x8, x9⟩, xf⟩ := s0.ten
  obtain ⟨⟨y0, y1, y2, y3, y4, y5, y6, y7, y8, y9⟩, yf⟩ := s1.ten
  have HG := Lib.hid hg
  clear hW1 hg
  have s2 := s1
  have s3 := s0
  have b2 := b1
  generalize W1 = W2 at *
  obtain ⟨⟨x0, x1, x2, x3, x4, x5, x6, x7, x8, x9⟩, xf⟩ := s3.ten
  obtain ⟨⟨y0, y1, y2, y3, y4, y5, y6, y7, y8, y9⟩, yf⟩ := s2.ten
  have he := HE.out
  go_quiet (fail)
  go_wp2
  go_ret
  exact ⟨rfl, below_drewN b2 _⟩
end Go.Proofs.YtjeogbdeagkomaaDoor

/- Package lex: May, classes. Printed by l9gen.py. -/
import Derived.Test.YtjeogbdeagkomaaDoorVL9
namespace Go.Proofs.YtjeogbdeagkomaaDoor
open Go.RowKit Nm Bset Lm

set_option maxRecDepth 100000 in
set_option maxHeartbeats 4000000 in
theorem lmay_class (ki kl : Int) (kt : ByteArray) (ks : Nat → Bool) (klo khi : Int) (_hs : kt.size < 9223372036854775807) (w : World) :
    Calls Tryd.prog 60 #[lwV ⟨16, ki, kl, kt, ks, klo, khi⟩] w fun e w' => e = .returned (.bool (mayW ⟨16, ki, kl, kt, ks, klo, khi⟩)) ∧ Below w.heap.size w w' := by
  obtain ⟨q0, q1, q2, q3⟩ := word_nul
  obtain ⟨g, hg⟩ : ∃ g, g = w.heap.size := ⟨_, rfl⟩
  have hal := fun W => alone_any ⟨16, ki, kl, kt, ks, klo, khi⟩ W
  have he := fun W => run_eql_word ⟨16, 0, 0, kt, ks, klo, khi⟩ ⟨16, 0, 0, ⟨#[]⟩, ks, 0, 0⟩ W
  have hmay : mayW ⟨16, ki, kl, kt, ks, klo, khi⟩ = (true && sameW ⟨16, 0, 0, kt, ks, klo, khi⟩ ⟨16, 0, 0, ⟨#[]⟩, ks, 0, 0⟩) := rfl
  rw [hmay]
  have c0 : ((0 : Nat) : Int) = 0 := rfl
  have c1 : ((16 : Nat) : Int) = 16 := rfl
  simp only [lwV, lwC, c1] at he
  simp only [lwV, lwC, c1] at hal
  have HE := Lib.hid he
  have HA := Lib.hid hal
  generalize sameW ⟨16, 0, 0, kt, ks, klo, khi⟩ ⟨16, 0, 0, ⟨#[]⟩, ks, 0, 0⟩ = sm at *
  clear he hal hmay
  go_enter Tryd.func60, Tryd.ntmps60
  go_upto_region 11 with fail
  obtain ⟨W1, hW1⟩ : ∃ W1, (w.alloc (.cells (lwC ⟨16, ki, kl, kt, ks, klo, khi⟩) 64)).alloc (.cells #[.int .u8 16, .int .i64 0, .int .i64 0, .string ⟨#[]⟩, .int .u64 0, .int .u64 0, .int .u64 0, .int .u64 0, .int .i64 0, .int .i64 0] 64) = W1 := ⟨_, rfl⟩
  have s0 : Cl W1 g 64 (lwC ⟨16, ki, kl, kt, ks, klo, khi⟩) := by rw [← hW1, hg]; exact (Cl.new _ _ _).alloc _
  have s1 : Cl W1 (g + 1) 64 #[.int .u8 16, .int .i64 0, .int .i64 0, .string ⟨#[]⟩, .int .u64 0, .int .u64 0, .int .u64 0, .int .u64 0, .int .i64 0, .int .i64 0] := by rw [← hW1, hg]; exact Cl.new' (by simp) _ _
  have b1 : Below w.heap.size w W1 := by rw [← hW1]; exact ((Below.refl _ w).alloc (Nat.le_refl _) _).alloc (by simp) _
  change Code.wp _ _ _ _ ((w.alloc (.cells (lwC ⟨16, ki, kl, kt, ks, klo, khi⟩) 64)).alloc (.cells #[.int .u8 16, .int .i64 0, .int .i64 0, .string ⟨#[]⟩, .int .u64 0, .int .u64 0, .int .u64 0, .int .u64 0, .int .i64 0, .int .i64 0] 64))
  rw [hW1, ← hg]
  obtain ⟨⟨x0, x1, x2, x3, x4, x5, x6, x7, x8, x9⟩, xf⟩ := s0.ten
  obtain ⟨⟨y0, y1, y2, y3, y4, y5, y6, y7, y8, y9⟩, yf⟩ := s1.ten
  have HG := Lib.hid hg
  clear hW1 hg
  go_upto_region 12 with fail
  clear x0 x1 x2 x3 x4 x5 x6 x7 x8 x9 xf y0 y1 y2 y3 y4 y5 y6 y7 y8 y9 yf
  have p1 := s1.put 4 (.int .u64 (word ks 0 : Nat))
  have r1 := s0.other (p := ⟨g + 1, 4, none⟩) (by simp) (.int .u64 (word ks 0 : Nat))
  have b_1 := b1.setCell (p := ⟨g + 1, 4, none⟩) (by have := HG.out; simp; omega) (.int .u64 (word ks 0 : Nat))
  have p2 := p1.put 5 (.int .u64 (word ks 1 : Nat))
  have r2 := r1.other (p := ⟨g + 1, 5, none⟩) (by simp) (.int .u64 (word ks 1 : Nat))
  have b_2 := b_1.setCell (p := ⟨g + 1, 5, none⟩) (by have := HG.out; simp; omega) (.int .u64 (word ks 1 : Nat))
  have p3 := p2.put 6 (.int .u64 (word ks 2 : Nat))
  have r3 := r2.other (p := ⟨g + 1, 6, none⟩) (by simp) (.int .u64 (word ks 2 : Nat))
  have b_3 := b_2.setCell (p := ⟨g + 1, 6, none⟩) (by have := HG.out; simp; omega) (.int .u64 (word ks 2 : Nat))
  have p4 := p3.put 7 (.int .u64 (word ks 3 : Nat))
  have r4 := r3.other (p := ⟨g + 1, 7, none⟩) (by simp) (.int .u64 (word ks 3 : Nat))
  have b_4 := b_3.setCell (p := ⟨g + 1, 7, none⟩) (by have := HG.out; simp; omega) (.int .u64 (word ks 3 : Nat))
  have s2 := p4
  have s3 := r4
  have b2 := b_4
  clear s0 s1 b1 p1 r1 b_1 p2 r2 b_2 p3 r3 b_3 p4 r4 b_4
  generalize ((((W1.setCell ⟨g + 1, 4, none⟩ (.int .u64 (word ks 0 : Nat))).setCell ⟨g + 1, 5, none⟩ (.int .u64 (word ks 1 : Nat))).setCell ⟨g + 1, 6, none⟩ (.int .u64 (word ks 2 : Nat))).setCell ⟨g + 1, 7, none⟩ (.int .u64 (word ks 3 : Nat))) = W2 at *
  obtain ⟨⟨x0, x1, x2, x3, x4, x5, x6, x7, x8, x9⟩, xf⟩ := s3.ten
  obtain ⟨⟨y0, y1, y2, y3, y4, y5, y6, y7, y8, y9⟩, yf⟩ := s2.ten
  have he := HE.out
  go_region_with (go_at_call 96; refine (HA.out _).mono ?_; rintro e w3 ⟨rfl, hb3⟩; obtain ⟨⟨x0, x1, x2, x3, x4, x5, x6, x7, x8, x9⟩, xf⟩ := (s3.drew.below hb3 s3.lt).ten; obtain ⟨⟨y0, y1, y2, y3, y4, y5, y6, y7, y8, y9⟩, yf⟩ := (s2.drew.below hb3 s2.lt).ten)
  all_goals
    go_wp2
    go_ret
    exact ⟨rfl, (b2.drew.trans (hb3.mono b2.size))⟩
end Go.Proofs.YtjeogbdeagkomaaDoor

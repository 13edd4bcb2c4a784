/- Package lex: May, literals. Printed by l9gen.py. -/
import Derived.Test.YtjeogbdeagkomaaDoorVL9
import Derived.BigRegion
namespace Go.Proofs.YtjeogbdeagkomaaDoor
open Go.RowKit Nm Bset Lm

set_option maxRecDepth 100000 in
set_option maxHeartbeats 4000000 in
theorem lmay_lit (ki kl : Int) (kt : ByteArray) (ks : Nat → Bool) (klo khi : Int) (hs : kt.size < 9223372036854775807) (w : World) :
    Calls Tryd.prog 60 #[lwV ⟨15, ki, kl, kt, ks, klo, khi⟩] w fun e w' => e = .returned (.bool (mayW ⟨15, ki, kl, kt, ks, klo, khi⟩)) ∧ Below w.heap.size w w' := by
  obtain ⟨q0, q1, q2, q3⟩ := word_nul
  obtain ⟨g, hg⟩ : ∃ g, g = w.heap.size := ⟨_, rfl⟩
  have hal := fun W => alone_any ⟨15, ki, kl, kt, ks, klo, khi⟩ W
  obtain ⟨mb, hmb⟩ : ∃ mb, mb = decide ((kt.size : Int) ≤ 255) := ⟨_, rfl⟩
  have hmb2 : decide (kt.size ≤ 255) = mb := by rw [hmb]; exact decide_eq_decide.2 (by omega)
  have hmb3 := hmb.symm
  have he := fun W => run_eql_word ⟨15, 0, 0, kt, ks, klo, khi⟩ ⟨15, 0, 0, kt, nul, 0, 0⟩ W
  have hmay : mayW ⟨15, ki, kl, kt, ks, klo, khi⟩ = (mb && sameW ⟨15, 0, 0, kt, ks, klo, khi⟩ ⟨15, 0, 0, kt, nul, 0, 0⟩) := by unfold mayW fitsW; rw [← hmb2]; rfl
  rw [hmay]
  have c0 : ((0 : Nat) : Int) = 0 := rfl
  have c1 : ((15 : Nat) : Int) = 15 := rfl
  simp only [lwV, lwC, q0, q1, q2, q3, c0, c1] at he
  simp only [lwV, lwC, c1] at hal
  have HE := Lib.hid he
  have HA := Lib.hid hal
  generalize sameW ⟨15, 0, 0, kt, ks, klo, khi⟩ ⟨15, 0, 0, kt, nul, 0, 0⟩ = sm at *
  clear he hal hmay hmb hmb2
  go_enter Tryd.func60, Tryd.ntmps60
  go_upto_region 9 with fail
  obtain ⟨W1, hW1⟩ : ∃ W1, (w.alloc (.cells (lwC ⟨15, ki, kl, kt, ks, klo, khi⟩) 64)).alloc (.cells #[.int .u8 15, .int .i64 0, .int .i64 0, .string ⟨#[]⟩, .int .u64 0, .int .u64 0, .int .u64 0, .int .u64 0, .int .i64 0, .int .i64 0] 64) = W1 := ⟨_, rfl⟩
  have s0 : Cl W1 g 64 (lwC ⟨15, ki, kl, kt, ks, klo, khi⟩) := by rw [← hW1, hg]; exact (Cl.new _ _ _).alloc _
  have s1 : Cl W1 (g + 1) 64 #[.int .u8 15, .int .i64 0, .int .i64 0, .string ⟨#[]⟩, .int .u64 0, .int .u64 0, .int .u64 0, .int .u64 0, .int .i64 0, .int .i64 0] := by rw [← hW1, hg]; exact Cl.new' (by simp) _ _
  have b1 : Below w.heap.size w W1 := by rw [← hW1]; exact ((Below.refl _ w).alloc (Nat.le_refl _) _).alloc (by simp) _
  change Code.wp _ _ _ _ ((w.alloc (.cells (lwC ⟨15, ki, kl, kt, ks, klo, khi⟩) 64)).alloc (.cells #[.int .u8 15, .int .i64 0, .int .i64 0, .string ⟨#[]⟩, .int .u64 0, .int .u64 0, .int .u64 0, .int .u64 0, .int .i64 0, .int .i64 0] 64))
  rw [hW1, ← hg]
  obtain ⟨⟨x0, x1, x2, x3, x4, x5, x6, x7, x8, x9⟩, xf⟩ := s0.ten
  obtain ⟨⟨y0, y1, y2, y3, y4, y5, y6, y7, y8, y9⟩, yf⟩ := s1.ten
  have HG := Lib.hid hg
  clear hW1 hg
  go_region
  all_goals go_upto_region 12 with fail
  all_goals
    clear x0 x1 x2 x3 x4 x5 x6 x7 x8 x9 xf y0 y1 y2 y3 y4 y5 y6 y7 y8 y9 yf
    have p1 := s1.put 3 (.string kt)
    have r1 := s0.other (p := ⟨g + 1, 3, none⟩) (by simp) (.string kt)
    have b_1 := b1.setCell (p := ⟨g + 1, 3, none⟩) (by have := HG.out; simp; omega) (.string kt)
    have s2 := p1.drew
    have s3 := r1.drew
    have b2 := b_1.drew
    clear s0 s1 b1 p1 r1 b_1
    generalize (W1.setCell ⟨g + 1, 3, none⟩ (.string kt)).drew = W2 at *
    obtain ⟨⟨x0, x1, x2, x3, x4, x5, x6, x7, x8, x9⟩, xf⟩ := s3.ten
    obtain ⟨⟨y0, y1, y2, y3, y4, y5, y6, y7, y8, y9⟩, yf⟩ := s2.ten
    have he := HE.out
    cases mb with
    | false =>
      go_quiet (fail)
      go_wp2
      go_ret
      exact ⟨rfl, below_drewN b2 _⟩
    | true =>
      go_region_with (go_at_call 96; refine (HA.out _).mono ?_; rintro e w3 ⟨rfl, hb3⟩; obtain ⟨⟨x0, x1, x2, x3, x4, x5, x6, x7, x8, x9⟩, xf⟩ := (s3.drew.below hb3 s3.lt).ten; obtain ⟨⟨y0, y1, y2, y3, y4, y5, y6, y7, y8, y9⟩, yf⟩ := (s2.drew.below hb3 s2.lt).ten)
      all_goals
        go_wp2
        go_ret
        exact ⟨rfl, (b2.drew.trans (hb3.mono b2.size))⟩
end Go.Proofs.YtjeogbdeagkomaaDoor

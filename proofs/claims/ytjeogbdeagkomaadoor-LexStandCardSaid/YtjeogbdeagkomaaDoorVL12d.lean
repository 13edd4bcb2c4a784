/- Package lex: read, by dot. Printed by l12gen.py. -/
import Derived.Test.YtjeogbdeagkomaaDoorVL10
import Derived.Test.YtjeogbdeagkomaaDoorVL11
namespace Go.Proofs.YtjeogbdeagkomaaDoor
open Go.RowKit Nm Bset Lm

set_option maxRecDepth 100000 in
set_option maxHeartbeats 4000000 in
theorem read_dot (s : ByteArray) (h0 : 0 < s.size) (x : Lw) (hk : x.kind < 256) (ht : x.text.size < 9223372036854775807) (w : World) (b : Nat)
    (hl : ∀ o, (Instr.lookup 135 (.map (some b)) (.int .u8 s[0].toNat) true).run Tryd.prog (w.alloc o) = .ok (.tuple #[.func (.func 146) #[] #[], .bool true]) (w.alloc o))
    (hc : ∀ W, Below w.heap.size w W → Calls Tryd.prog 146 #[.string s] W fun e w' => e = .returned (.tuple #[lwV x, .bool true]) ∧ Below W.heap.size W w') :
    Calls Tryd.prog 128 #[.map (some b), .string s] w fun e w' => e = .returned (.tuple #[lwV x, .bool (true && mayW x)]) ∧ Below w.heap.size w w' := by
  have hm := fun W => lmay_any x hk ht W
  have hl1 := hl (.cells lwZ 64)
  obtain ⟨W1, hW1⟩ : ∃ W1, w.alloc (.cells lwZ 64) = W1 := ⟨_, rfl⟩
  rw [hW1] at hl1
  have k1 : Cl W1 w.heap.size 64 lwZ := by rw [← hW1]; exact Cl.new w _ _
  have b1 : Below w.heap.size w W1 := by rw [← hW1]; exact (Below.refl w.heap.size w).alloc (Nat.le_refl _) _
  have hi : (0 : Int) < (s.size : Int) := by omega
  have HC := Lib.hid (hc W1 b1)
  have HM := Lib.hid hm
  clear hc hm hl
  go_enter Tryd.func128, Tryd.ntmps128
  go_upto_region 1 with fail
  clear hW1
  go_upto_region 5 with (go_at_call 146; refine HC.out.mono ?_; rintro e w2 ⟨rfl, hb2⟩)
  have hw2 : w.heap.size < w2.heap.size := (k1.below hb2 k1.lt).lt
  obtain ⟨g2, hg2⟩ : ∃ g2, g2 = w2.heap.size := ⟨_, rfl⟩
  obtain ⟨W2, hW2⟩ : ∃ W2, w2.alloc (.cells (lwC x) 64) = W2 := ⟨_, rfl⟩
  have h2 : Cl W2 w.heap.size 64 lwZ := by rw [← hW2]; exact (k1.below hb2 k1.lt).alloc _
  have s2 : Cl W2 g2 64 (lwC x) := by rw [← hW2, hg2]; exact Cl.new _ _ _
  have f2 : Below w.heap.size w W2 := by rw [← hW2]; exact (b1.trans (hb2.mono b1.size)).alloc (by omega) _
  rw [← hg2]
  change Code.wp _ _ _ _ (w2.alloc (.cells (lwC x) 64))
  rw [hW2]
  clear hW2 hg2 k1 b1 hb2 HC hl1 hw2
  obtain ⟨⟨y0, y1, y2, y3, y4, y5, y6, y7, y8, y9⟩, yf⟩ := s2.ten
  obtain ⟨⟨z0, z1, z2, z3, z4, z5, z6, z7, z8, z9⟩, zf⟩ := h2.ten
  go_region_with (go_at_call 60; refine (HM.out _).mono ?_; rintro e w3 ⟨rfl, hb3⟩; obtain ⟨⟨y0, y1, y2, y3, y4, y5, y6, y7, y8, y9⟩, yf⟩ := (s2.drew.below hb3 s2.lt).ten; obtain ⟨⟨z0, z1, z2, z3, z4, z5, z6, z7, z8, z9⟩, zf⟩ := (h2.drew.below hb3 h2.lt).ten; have h3 := h2.drew.below hb3 h2.lt; have f3 := f2.drew.trans (hb3.mono f2.size))
  all_goals go_wp2
  all_goals exact end_word_bool (T := 64) (Cl.set10 h3 _ _ _ _ _ _ _ _ _ _) rfl rfl rfl rfl ⟨rfl, below_set10 f3 (Nat.le_refl _) _ _ _ _ _ _ _ _ _ _⟩
end Go.Proofs.YtjeogbdeagkomaaDoor

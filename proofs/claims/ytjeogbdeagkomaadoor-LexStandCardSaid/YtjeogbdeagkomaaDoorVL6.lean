/- Package lex: dot, a sign. -/
import Derived.Test.YtjeogbdeagkomaaDoorVL1
import Derived.Test.YtjeogbdeagkomaaDoorVLf
import Derived.RegionTactic
import Derived.BigRegion
namespace Go.Proofs.YtjeogbdeagkomaaDoor
open Go.RowKit Nm Bset Lm
open Qm (unlit uncls)

/-- The class of all, as it is read. -/
abbrev dotL : List UInt8 := [91, 94, 93]
theorem uncls_dot : (uncls dotL).2.2 = 0 ∧ (uncls dotL).2.1 = 3 ∧ ∀ n, n < 256 → (uncls dotL).1 n = true := by
  refine ⟨by decide +kernel, by decide +kernel, by decide +kernel⟩

set_option maxRecDepth 100000 in
set_option maxHeartbeats 2000000 in
theorem dot_rd (s : ByteArray) (w : World) :
    Calls Tryd.prog 146 #[.string s] w fun e w' => e = .returned (.tuple #[lwV ⟨16, 0, 1, ⟨#[]⟩, (uncls dotL).1, 0, 0⟩, .bool true]) ∧ Below w.heap.size w w' := by
  have k1 : Cl (w.alloc (.cells lwZ 64)) w.heap.size 64 lwZ := Cl.new w _ _
  have b0 := (Below.refl w.heap.size w).alloc (Nat.le_refl _) (.cells lwZ 64)
  have hc := fun w => class_rd ⟨#[91, 94, 93]⟩ (by decide) w
  have e0 := uncls_dot.1
  have hd : (⟨#[91, 94, 93]⟩ : ByteArray).data.toList = dotL := rfl
  rw [hd] at hc
  obtain ⟨S, hS⟩ : ∃ S, S = (uncls dotL).1 := ⟨_, rfl⟩
  obtain ⟨K, hK⟩ : ∃ K : Int, K = ((uncls dotL).2.1 : Int) := ⟨_, rfl⟩
  rw [e0, ← hS, ← hK] at hc
  rw [← hS]
  have HC := Lib.hid hc
  clear hc hS hK e0 hd
  go_enter Tryd.func146, Tryd.ntmps146
  go_upto_region 2 with (go_at_call 149; refine (HC.out _).mono ?_; rintro e w' ⟨rfl, hb⟩; have h1 := k1.below hb k1.lt)
  have f0 : Below w.heap.size w w' := b0.trans (hb.mono (by simp))
  obtain ⟨g2, hg2⟩ : ∃ g2, g2 = w'.heap.size := ⟨_, rfl⟩
  obtain ⟨W2, hW2⟩ : ∃ W2, w'.alloc (.cells (lwC ⟨16, 0, K, ⟨#[]⟩, S, 0, 0⟩) 64) = W2 := ⟨_, rfl⟩
  have h2 : Cl W2 w.heap.size 64 lwZ := by rw [← hW2]; exact h1.alloc _
  have s2 : Cl W2 g2 64 (lwC ⟨16, 0, K, ⟨#[]⟩, S, 0, 0⟩) := by rw [← hW2, hg2]; exact Cl.new _ _ _
  have f2 : Below w.heap.size w W2 := by rw [← hW2]; exact f0.alloc f0.size _
  have hne : w.heap.size ≠ g2 := by have := h1.lt; omega
  have hle : w.heap.size ≤ g2 := by have := h1.lt; omega
  rw [← hg2]
  change Code.wp _ _ _ _ (w'.alloc (.cells (lwC ⟨16, 0, K, ⟨#[]⟩, S, 0, 0⟩) 64))
  rw [hW2]
  clear hW2 hg2 k1 b0 hb h1 f0
  obtain ⟨⟨y0, y1, y2, y3, y4, y5, y6, y7, y8, y9⟩, yf⟩ := s2.ten
  go_upto_region 3 with fail
  have s3 := s2.put 2 (.int .i64 1)
  have h3 := h2.other (p := ⟨g2, 2, none⟩) hne (.int .i64 1)
  have f3 := f2.setCell (p := ⟨g2, 2, none⟩) hle (.int .i64 1)
  clear y0 y1 y2 y3 y4 y5 y6 y7 y8 y9 yf s2 h2 f2
  generalize W2.setCell ⟨g2, 2, none⟩ (.int .i64 1) = W3 at *
  obtain ⟨⟨y0, y1, y2, y3, y4, y5, y6, y7, y8, y9⟩, yf⟩ := s3.ten
  obtain ⟨⟨z0, z1, z2, z3, z4, z5, z6, z7, z8, z9⟩, zf⟩ := h3.ten
  go_wp2
  exact end_word_bool (Cl.set10 h3 _ _ _ _ _ _ _ _ _ _) rfl rfl rfl rfl ⟨rfl, below_set10 f3 (Nat.le_refl _) _ _ _ _ _ _ _ _ _ _⟩

/-- The table of signs. -/
abbrev SignsIn (w : World) : Prop := ∀ j, j < 14 → w.cell? ⟨1, j, none⟩ = some (.string ⟨(sgn j).toArray⟩)

set_option maxRecDepth 100000 in
set_option maxHeartbeats 2000000 in
theorem lsign_any (k : Nat) (w : World) :
    Calls Tryd.prog 151 #[.int .u8 k] w fun e w' => e = .returned (fxV (171, some w.heap.size)) ∧ w' = w.alloc (.cells #[.int .u8 k] 5) := by
  go_enter Tryd.func151, Tryd.ntmps151
  go_wp2
  go_ret
  exact ⟨rfl, rfl⟩

set_option maxRecDepth 100000 in
set_option maxHeartbeats 2000000 in
theorem sign1_rd (k b : Nat) (hk : k < 14) (s : ByteArray) (w : World) (hb : Cl w b 5 #[.int .u8 k]) (hs : SignsIn w) :
    Calls Tryd.prog 171 #[.string s, .pointer (some ⟨b, 0, none⟩)] w fun e w' => e = .returned (.tuple #[lwV ⟨k, 0, (sgn k).length, ⟨#[]⟩, nul, 0, 0⟩, .bool true]) ∧ Below w.heap.size w w' := by
  obtain ⟨q0, q1, q2, q3⟩ := word_nul
  obtain ⟨W1, hW1⟩ : ∃ W1, w.alloc (.cells lwZ 64) = W1 := ⟨_, rfl⟩
  have k1 : Cl W1 w.heap.size 64 lwZ := by rw [← hW1]; exact Cl.new w _ _
  have b0 : Below w.heap.size w W1 := by rw [← hW1]; exact (Below.refl w.heap.size w).alloc (Nat.le_refl _) _
  have hg : 1 < w.heap.size := World.block_lt_of_cell? w _ (hs k hk)
  have c1 : W1.cell? ⟨1, k, none⟩ = some (.string ⟨(sgn k).toArray⟩) := (b0.cell (p := ⟨1, k, none⟩) hg).trans (hs k hk)
  have c0 : W1.cell? ⟨b, 0, none⟩ = some (.int .u8 k) := (b0.cell (p := ⟨b, 0, none⟩) hb.lt).trans (hb.cell 0)
  have hz : (⟨(sgn k).toArray⟩ : ByteArray).size = (sgn k).length := by show (sgn k).toArray.size = _; simp
  have n0 : (0 : Int) ≤ (k : Int) := by omega
  have n1 : (k : Int) < 14 := by omega
  obtain ⟨⟨y0, y1, y2, y3, y4, y5, y6, y7, y8, y9⟩, yf⟩ := k1.ten
  go_enter Tryd.func171, Tryd.ntmps171
  go_upto_region 1 with fail
  clear hW1 hs hb
  go_region
  all_goals
    go_wp2
    refine end_word_bool (T := 64) (Cl.drew (Cl.set10 k1 _ _ _ _ _ _ _ _ _ _)) rfl rfl rfl rfl ⟨?_, (below_set10 b0 (Nat.le_refl _) _ _ _ _ _ _ _ _ _ _).drew⟩
    simp only [lwV, lwC, q0, q1, q2, q3]
    rfl
end Go.Proofs.YtjeogbdeagkomaaDoor

/- Package lex: less. -/
namespace Go.Proofs.YtjeogbdeagkomaaDoor
open Go.RowKit Nm Bset Lm

def lessK (t : List UInt8) : Nat := if [60, 45].isPrefixOf t then 2 else 11

set_option maxRecDepth 100000 in
set_option maxHeartbeats 4000000 in
theorem less_rd (s : ByteArray) (_hs : s.size ≤ 1048576) (w : World) (hT : SignsIn w) :
    Calls Tryd.prog 152 #[.string s] w fun e w' => e = .returned (.tuple #[lwV ⟨lessK s.data.toList, 0, (sgn (lessK s.data.toList)).length, ⟨#[]⟩, nul, 0, 0⟩, .bool true]) ∧ Below w.heap.size w w' := by
  obtain ⟨W1, hW1⟩ : ∃ W1, w.alloc (.cells lwZ 64) = W1 := ⟨_, rfl⟩
  have k1 : Cl W1 w.heap.size 64 lwZ := by rw [← hW1]; exact Cl.new w _ _
  have b0 : Below w.heap.size w W1 := by rw [← hW1]; exact (Below.refl w.heap.size w).alloc (Nat.le_refl _) _
  have hg : 1 < w.heap.size := World.block_lt_of_cell? w _ (hT 2 (by omega))
  have T1 : SignsIn W1 := fun j hj => (b0.cell (p := ⟨1, j, none⟩) hg).trans (hT j hj)
  have c1 : W1.cell? ⟨1, 2, none⟩ = some (.string ⟨#[60, 45]⟩) := T1 2 (by omega)
  have hpre := fun w => (sh_strings_HasPrefix s ⟨#[60, 45]⟩ w).mono fun _ _ h => (⟨h.1, h.2.symm⟩ : _ ∧ w = _)
  have hpl : (⟨#[60, 45]⟩ : ByteArray).data.toList = [60, 45] := rfl
  rw [hpl] at hpre
  obtain ⟨q0, q1, q2, q3⟩ := word_nul
  obtain ⟨p, hp⟩ : ∃ p, p = Lib.hasPrefix s.data.toList [60, 45] := ⟨_, rfl⟩
  have hK : lessK s.data.toList = if p = true then 2 else 11 := by rw [hp]; rfl
  rw [hK]
  rw [← hp] at hpre
  have hlt : w.heap.size < W1.heap.size := k1.lt
  have hS : ∀ k : Nat, k < 14 → Calls Tryd.prog 171 #[.string s, .pointer (some ⟨W1.heap.size, 0, none⟩)] (W1.alloc (.cells #[.int .u8 k] 5)) fun e w' => e = .returned (.tuple #[lwV ⟨k, 0, (sgn k).length, ⟨#[]⟩, nul, 0, 0⟩, .bool true]) ∧ Cl w' w.heap.size 64 lwZ ∧ Below w.heap.size w w' := fun k hk =>
    (sign1_rd k W1.heap.size hk s _ (Cl.new _ _ _) (fun j hj => (((Below.refl _ W1).alloc (Nat.le_refl _) _).cell (p := ⟨1, j, none⟩) (by show 1 < W1.heap.size; omega)).trans (T1 j hj))).mono fun e w' ⟨h1, h2⟩ => ⟨h1, (k1.alloc _).below h2 (by simp; omega), (b0.alloc (by omega) _).trans (h2.mono (by simp; omega))⟩
  have H2 := Lib.hid (hS 2 (by omega))
  have H11 := Lib.hid (hS 11 (by omega))
  clear hS hp hpl hK T1 hT
  cases p with
  | true =>
    go_enter Tryd.func152, Tryd.ntmps152
    go_upto_region 1 with fail
    clear hW1
    go_wp2_with (first
      | (go_at_call 172; refine (hpre _).mono ?_; rintro e w' ⟨rfl, rfl⟩)
      | (go_at_call 151; refine (lsign_any 2 _).mono ?_; rintro e w' ⟨rfl, rfl⟩)
      | (go_at_call 171; refine H2.out.mono ?_; rintro e w3 ⟨rfl, h3, f3⟩; obtain ⟨⟨y0, y1, y2, y3, y4, y5, y6, y7, y8, y9⟩, yf⟩ := h3.ten))
    exact end_word_bool (T := 64) (Cl.set10 h3 _ _ _ _ _ _ _ _ _ _) rfl rfl rfl rfl ⟨rfl, below_set10 f3 (Nat.le_refl _) _ _ _ _ _ _ _ _ _ _⟩
  | false =>
    go_enter Tryd.func152, Tryd.ntmps152
    go_upto_region 1 with fail
    clear hW1
    go_wp2_with (first
      | (go_at_call 172; refine (hpre _).mono ?_; rintro e w' ⟨rfl, rfl⟩)
      | (go_at_call 151; refine (lsign_any 11 _).mono ?_; rintro e w' ⟨rfl, rfl⟩)
      | (go_at_call 171; refine H11.out.mono ?_; rintro e w3 ⟨rfl, h3, f3⟩; obtain ⟨⟨y0, y1, y2, y3, y4, y5, y6, y7, y8, y9⟩, yf⟩ := h3.ten))
    exact end_word_bool (T := 64) (Cl.set10 h3 _ _ _ _ _ _ _ _ _ _) rfl rfl rfl rfl ⟨rfl, below_set10 f3 (Nat.le_refl _) _ _ _ _ _ _ _ _ _ _⟩
end Go.Proofs.YtjeogbdeagkomaaDoor

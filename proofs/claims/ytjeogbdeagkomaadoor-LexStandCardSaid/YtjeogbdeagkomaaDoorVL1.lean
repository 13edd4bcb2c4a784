/- Package lex: counts, alone, parting. -/
import Derived.Test.YtjeogbdeagkomaaDoorVLsh
import Derived.Test.YtjeogbdeagkomaaDoorVLw
import Derived.Test.YtjeogbdeagkomaaDoorVNm2
import Derived.Test.YtjeogbdeagkomaaDoorVQ13
import Derived.Deep.Cut
namespace Go.Proofs.YtjeogbdeagkomaaDoor
open Go.RowKit Nm Bset Lm

/-- The library's word of what it goes over at once. -/
abbrev MaxL (w : World) : Prop := ∃ m : Int, w.cell? ⟨3, 0, none⟩ = some (.int .i64 m)

theorem indexByte_upto (c : UInt8) : ∀ l : List UInt8, Lib.indexByte l c = if (upto c l).length < l.length then ((upto c l).length : Int) else -1
  | [] => rfl
  | b :: l => by
    have ih := indexByte_upto c l
    by_cases h : b = c
    · subst h
      simp [Lib.indexByte, upto]
    · have e : upto c (b :: l) = b :: upto c l := by
        unfold upto
        rw [List.takeWhile_cons]
        simp [h]
      have hb : (b == c) = false := by simpa using h
      rw [e]
      have e2 : Lib.indexByte (b :: l) c = if Lib.indexByte l c == -1 then -1 else Lib.indexByte l c + 1 := by
        show (if b == c then _ else _) = _
        rw [hb]
        rfl
      rw [e2, List.length_cons, List.length_cons]
      by_cases hl : (upto c l).length < l.length
      · rw [if_pos hl] at ih
        rw [ih]
        have : ((((upto c l).length : Int) == -1) = false) := by
          rw [beq_eq_false_iff_ne]
          omega
        rw [this, if_pos (show (upto c l).length + 1 < l.length + 1 by omega)]
        simp
      · rw [if_neg hl] at ih
        rw [ih, if_neg (show ¬ (upto c l).length + 1 < l.length + 1 by omega)]
        rfl
theorem upto_take (c : UInt8) (l : List UInt8) : l.take (upto c l).length = upto c l := by
  induction l with
  | nil => rfl
  | cons b l ih =>
    by_cases h : b = c
    · subst h
      simp [upto]
    · have e : upto c (b :: l) = b :: upto c l := by
        unfold upto
        rw [List.takeWhile_cons]
        simp [h]
      rw [e, List.length_cons, List.take_succ_cons, ih]
theorem cut_upto (l : List UInt8) (c : UInt8) : Lib.cut l [c] = (upto c l, l.drop ((upto c l).length + 1), decide ((upto c l).length < l.length)) := by
  unfold Lib.cut
  rw [Lib.index_one, indexByte_upto]
  have ht := upto_take c l
  by_cases h : (upto c l).length < l.length
  · rw [if_pos h, if_pos (by omega)]
    simp [h, ht]
  · rw [if_neg h, if_neg (by omega)]
    have hl := upto_le c l
    have e : upto c l = l := by rw [← ht]; exact List.take_of_length_le (by omega)
    rw [e]
    simp

theorem pg_line (r : List UInt8) (h : r.head? = some 35) : pg r = (upto 10 r).length + pg (r.drop (upto 10 r).length) ∧ 1 ≤ (upto 10 r).length := by
  have hS : ∀ l : List UInt8, pgS true l = (upto 10 l).length + pgS false (l.drop (upto 10 l).length) := by
    intro l
    induction l with
    | nil => rfl
    | cons b l ih =>
      by_cases hb : b = 10
      · subst hb
        simp [pgS, upto]
      · have e : upto 10 (b :: l) = b :: upto 10 l := by
          unfold upto
          rw [List.takeWhile_cons]
          simp [hb]
        have hn : ¬ b.toNat = 10 := fun h => hb (by rw [← UInt8.toNat_inj]; exact h)
        rw [e, pgS, if_neg hn, ih, List.length_cons, List.drop_succ_cons]
        omega
  cases r with
  | nil => cases h
  | cons b l =>
    have hb : b = 35 := by simpa using h
    subst hb
    have e : upto 10 (35 :: l) = 35 :: upto 10 l := rfl
    have e2 : pg (35 :: l) = pgS true l + 1 := rfl
    rw [e, e2, hS l, List.length_cons, List.drop_succ_cons]
    exact ⟨by unfold pg; omega, by omega⟩
theorem pg_blank (b : UInt8) (l : List UInt8) (h : b.toNat = 32 ∨ b.toNat = 9 ∨ b.toNat = 13 ∨ b.toNat = 10) : pg (b :: l) = pg l + 1 := by
  unfold pg
  rw [pgS, if_pos h]
theorem pg_none (b : UInt8) (l : List UInt8) (h : ¬(b.toNat = 32 ∨ b.toNat = 9 ∨ b.toNat = 13 ∨ b.toNat = 10)) (h2 : b.toNat ≠ 35) : pg (b :: l) = 0 := by
  unfold pg
  rw [pgS, if_neg h, if_neg h2]

set_option maxRecDepth 100000 in
set_option maxHeartbeats 2000000 in
theorem counts_any (lo hi : Int) (w : World) :
    Calls Tryd.prog 95 #[.int .i64 lo, .int .i64 hi] w fun e w' => e = .returned (.bool (Lm.counts lo hi)) ∧ w' = w := by
  go_enter Tryd.func95, Tryd.ntmps95
  go_wp2
  all_goals go_ret
  all_goals refine ⟨congrArg (fun x => Ending.returned (.bool x)) ?_, rfl⟩
  all_goals (unfold Lm.counts; rw [Bool.eq_iff_iff]; simp; try omega)
end Go.Proofs.YtjeogbdeagkomaaDoor

/- Package lex: alone. -/
namespace Go.Proofs.YtjeogbdeagkomaaDoor
open Go.RowKit Nm Bset Lm
set_option maxRecDepth 100000 in
set_option maxHeartbeats 2000000 in
theorem alone_any (x : Lw) (w : World) :
    Calls Tryd.prog 96 #[lwV x] w fun e w' => e = .returned (lwV x.bare) ∧ Below w.heap.size w w' := by
  have k2 : Cl ((w.alloc (.cells (lwC x.bare) 64)).alloc (.cells (lwC x.bare) 64)) (w.heap.size + 1) 64 (lwC x.bare) := Cl.new' (by simp) _ _
  have b0 := ((Below.refl w.heap.size w).alloc (Nat.le_refl _) (.cells (lwC x.bare) 64)).alloc (by simp) (.cells (lwC x.bare) 64)
  go_enter Tryd.func96, Tryd.ntmps96
  go_wp2
  exact end_word k2 rfl rfl rfl ⟨rfl, b0⟩
end Go.Proofs.YtjeogbdeagkomaaDoor

/- Package lex: named, literal, class. -/
namespace Go.Proofs.YtjeogbdeagkomaaDoor
open Go.RowKit Nm Bset Lm
open Qm (unlit uncls)

theorem word_nul : word nul 0 = 0 ∧ word nul 1 = 0 ∧ word nul 2 = 0 ∧ word nul 3 = 0 := by decide +kernel

set_option maxRecDepth 100000 in
set_option maxHeartbeats 2000000 in
theorem named_any (s : ByteArray) (hs : s.size ≤ 281474976710656) (w : World) :
    Calls Tryd.prog 150 #[.string s] w fun e w' => e = .returned (.tuple #[lwV ⟨1, 0, (taken s.data.toList : Nat), takeS s, nul, 0, 0⟩, .bool true]) ∧ Below w.heap.size w w' := by
  obtain ⟨z0, z1, z2, z3⟩ := word_nul
  have k1 : Cl (w.alloc (.cells lwZ 64)) w.heap.size 64 lwZ := Cl.new w _ _
  have b0 := (Below.refl w.heap.size w).alloc (Nat.le_refl _) (.cells lwZ 64)
  have hts := takeS_size s
  go_enter Tryd.func150, Tryd.ntmps150
  go_wp2_with (go_at_call 170; refine (take_any s hs _).mono ?_; rintro e w' ⟨rfl, hb⟩; obtain ⟨⟨y0, y1, y2, y3, y4, y5, y6, y7, y8, y9⟩, yf⟩ := (k1.below hb k1.lt).ten; have hz : w.heap.size + 1 ≤ w'.heap.size := by (have := hb.size; simp at this; omega))
  have h1 := k1.below hb k1.lt
  have f0 : Below w.heap.size w w' := b0.trans (hb.mono (by simp))
  clear y0 y1 y2 y3 y4 y5 y6 y7 y8 y9 yf
  refine end_word_bool (Cl.set10 h1 _ _ _ _ _ _ _ _ _ _) rfl rfl rfl rfl ⟨?_, below_set10 f0 (Nat.le_refl _) _ _ _ _ _ _ _ _ _ _⟩
  simp only [lwV, lwC, z0, z1, z2, z3]
  rfl

set_option maxRecDepth 100000 in
set_option maxHeartbeats 2000000 in
theorem literal_rd (s : ByteArray) (hs : s.size ≤ 1048576) (w : World) :
    Calls Tryd.prog 148 #[.string s] w fun e w' => e = .returned (.tuple #[lwV ⟨15, 0, ((unlit s.data.toList).2.1 : Nat), ⟨(unlit s.data.toList).1.toArray⟩, nul, 0, 0⟩, .bool (((unlit s.data.toList).2.2 : Int) == 0)]) ∧ Below w.heap.size w w' := by
  obtain ⟨z0, z1, z2, z3⟩ := word_nul
  have k1 : Cl (w.alloc (.cells lwZ 64)) w.heap.size 64 lwZ := Cl.new w _ _
  have b0 := (Below.refl w.heap.size w).alloc (Nat.le_refl _) (.cells lwZ 64)
  go_enter Tryd.func148, Tryd.ntmps148
  go_wp2_with (go_at_call 168; refine (unliteral_any s hs _).mono ?_; rintro e w' ⟨rfl, hb⟩; obtain ⟨⟨y0, y1, y2, y3, y4, y5, y6, y7, y8, y9⟩, yf⟩ := (k1.below hb k1.lt).ten; have hz : w.heap.size + 1 ≤ w'.heap.size := by (have := hb.size; simp at this; omega))
  have h1 := k1.below hb k1.lt
  have f0 : Below w.heap.size w w' := b0.trans (hb.mono (by simp))
  clear y0 y1 y2 y3 y4 y5 y6 y7 y8 y9 yf
  refine end_word_bool (Cl.set10 h1 _ _ _ _ _ _ _ _ _ _) rfl rfl rfl rfl ⟨?_, below_set10 f0 (Nat.le_refl _) _ _ _ _ _ _ _ _ _ _⟩
  simp only [lwV, lwC, z0, z1, z2, z3]
  rfl
end Go.Proofs.YtjeogbdeagkomaaDoor

/- Package lex: class, dot. -/
namespace Go.Proofs.YtjeogbdeagkomaaDoor
open Go.RowKit Nm Bset Lm
open Qm (unlit uncls)

set_option maxRecDepth 100000 in
set_option maxHeartbeats 2000000 in
theorem class_rd (s : ByteArray) (hs : s.size ≤ 1048576) (w : World) :
    Calls Tryd.prog 149 #[.string s] w fun e w' => e = .returned (.tuple #[lwV ⟨16, 0, ((uncls s.data.toList).2.1 : Nat), ⟨#[]⟩, (uncls s.data.toList).1, 0, 0⟩, .bool (((uncls s.data.toList).2.2 : Int) == 0)]) ∧ Below w.heap.size w w' := by
  have k1 : Cl (w.alloc (.cells lwZ 64)) w.heap.size 64 lwZ := Cl.new w _ _
  have b0 := (Below.refl w.heap.size w).alloc (Nat.le_refl _) (.cells lwZ 64)
  go_enter Tryd.func149, Tryd.ntmps149
  go_upto_region 2 with (go_at_call 169; refine (unclass_any s hs _).mono ?_; rintro e w' ⟨rfl, hb⟩; have h1 := k1.below hb k1.lt)
  generalize hS : (uncls s.data.toList).1 = S
  generalize hK : ((uncls s.data.toList).2.1 : Int) = K
  generalize hE : ((uncls s.data.toList).2.2 : Int) = E
  have f0 : Below w.heap.size w w' := b0.trans (hb.mono (by simp))
  obtain ⟨g2, hg2⟩ : ∃ g2, g2 = w'.heap.size := ⟨_, rfl⟩
  obtain ⟨W2, hW2⟩ : ∃ W2, w'.alloc (.cells (setC S) 35) = W2 := ⟨_, rfl⟩
  have h2 : Cl W2 w.heap.size 64 lwZ := by rw [← hW2]; exact h1.alloc _
  have s2 : Cl W2 g2 35 (setC S) := by rw [← hW2, hg2]; exact Cl.new _ _ _
  have f2 : Below w.heap.size w W2 := by rw [← hW2]; exact f0.alloc f0.size _
  have e1 := h2.ten
  have e2 := s2.cell 0
  have e3 := s2.cell 1
  have e4 := s2.cell 2
  have e5 := s2.cell 3
  rw [← hg2]
  change Code.wp _ _ _ _ (w'.alloc (.cells (setC S) 35))
  rw [hW2]
  clear hW2 hg2 k1 b0 hb h1 f0
  obtain ⟨⟨y0, y1, y2, y3, y4, y5, y6, y7, y8, y9⟩, yf⟩ := e1
  go_wp2
  refine end_word_bool (Cl.set10 h2 _ _ _ _ _ _ _ _ _ _) rfl rfl rfl rfl ⟨?_, below_set10 f2 (Nat.le_refl _) _ _ _ _ _ _ _ _ _ _⟩
  rw [hS, hK, hE]
  rfl
end Go.Proofs.YtjeogbdeagkomaaDoor

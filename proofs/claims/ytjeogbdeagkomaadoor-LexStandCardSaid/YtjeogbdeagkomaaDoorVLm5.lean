/- What the readers tell, held against the document's words: maths of words in blocks. -/
import Derived.Test.YtjeogbdeagkomaaDoorVL9
import Derived.Test.YtjeogbdeagkomaaDoorVL6
import Derived.Test.YtjeogbdeagkomaaDoorVL12a
import Derived.Test.YtjeogbdeagkomaaDoorVL12b
import Derived.Test.YtjeogbdeagkomaaDoorVL12c
import Derived.Test.YtjeogbdeagkomaaDoorVL12d
import Derived.Test.YtjeogbdeagkomaaDoorVL12e
import Derived.Test.YtjeogbdeagkomaaDoorVL12f
import Derived.Test.YtjeogbdeagkomaaDoorVL12g
import Derived.Test.YtjeogbdeagkomaaDoorVL12h
namespace Go.Proofs.YtjeogbdeagkomaaDoor
open Go.RowKit Nm Bset Lm

/-- A word as the program has it is a word of the maths, from a to b. -/
structure Wx (x : Lw) (d : Wd) (a b : Int) : Prop where
  kind : x.kind = d.kind
  at_ : x.at_ = a
  to_ : x.to_ = b
  text : x.text.data.toList = d.text
  set : nset x.set = d.set
  low : x.low = d.low
  high : x.high = d.high

theorem sameS_refl (S : Nat → Bool) : sameS S S = true := sameS_iff.2 fun _ _ => rfl
theorem sameW_refl (x : Lw) : sameW x x = true := by
  unfold sameW
  rw [sameS_refl]
  simp
theorem nset_nul : nset nul = nul := by
  funext n
  simp [nset, nul]

theorem let_facts : ∀ b, b < 256 → isLet b = true → b ≠ 60 ∧ signK b = 0 := by decide +kernel
theorem sign_facts : ∀ b, b < 256 → signK b ≠ 0 → b ≠ 60 ∧ isLet b = false ∧ (sgn (signK b)).length = 1 ∧ 3 ≤ signK b ∧ signK b ≤ 13 ∧ signK b ≠ 1 := by decide +kernel
theorem odd_facts : isLet 60 = false ∧ isLet 46 = false ∧ isLet 91 = false ∧ isLet 34 = false ∧ isLet 123 = false ∧ signK 60 = 0 ∧ signK 46 = 0 ∧ signK 91 = 0 ∧ signK 34 = 0 ∧ signK 123 = 0 := by decide +kernel

/-- Names. -/
theorem may_named (s : ByteArray) (hp : 0 < taken s.data.toList) (k : Int) : mayW ⟨1, 0, k, takeS s, nul, 0, 0⟩ = decide (taken s.data.toList ≤ 32) := by
  have h1 : mayW ⟨1, 0, k, takeS s, nul, 0, 0⟩ = (mayB (takeS s) && sameW ⟨1, 0, 0, takeS s, nul, 0, 0⟩ ⟨1, 0, 0, takeS s, nul, 0, 0⟩) := rfl
  rw [h1, sameW_refl, Bool.and_true]
  unfold mayB
  have e : (takeS s).data.toList = s.data.toList.take (taken s.data.toList) := by
    unfold takeS
    rw [ByteArray.data_extract, Array.toList_extract, List.extract_eq_take_drop]
    simp
  rw [takeS_size, e, taken_take]
  simp
  omega
/-- Signs. -/
theorem may_signed (k : Nat) (n : Int) (h2 : 2 ≤ k) (h13 : k ≤ 13) : mayW ⟨k, 0, n, ⟨#[]⟩, nul, 0, 0⟩ = true := by
  have h1 : justW ⟨k, 0, n, ⟨#[]⟩, nul, 0, 0⟩ = ⟨k, 0, 0, ⟨#[]⟩, nul, 0, 0⟩ := by
    unfold justW
    simp only
    rw [if_neg (by omega), if_neg (by omega), if_neg (by omega), if_neg (by omega)]
  have h3 : fitsW ⟨k, 0, n, ⟨#[]⟩, nul, 0, 0⟩ = true := by
    unfold fitsW
    simp only
    rw [if_neg (by omega), if_neg (by omega), if_neg (by omega)]
    simp
    omega
  unfold mayW
  rw [h3, h1]
  exact sameW_refl _
theorem may_classed (S : Nat → Bool) (n : Int) : mayW ⟨16, 0, n, ⟨#[]⟩, S, 0, 0⟩ = true := by
  have h1 : mayW ⟨16, 0, n, ⟨#[]⟩, S, 0, 0⟩ = (true && sameW ⟨16, 0, 0, ⟨#[]⟩, S, 0, 0⟩ ⟨16, 0, 0, ⟨#[]⟩, S, 0, 0⟩) := rfl
  rw [h1, sameW_refl]
  rfl
theorem may_literal (t : ByteArray) (n : Int) : mayW ⟨15, 0, n, t, nul, 0, 0⟩ = decide (t.size ≤ 255) := by
  have h1 : mayW ⟨15, 0, n, t, nul, 0, 0⟩ = (decide (t.size ≤ 255) && sameW ⟨15, 0, 0, t, nul, 0, 0⟩ ⟨15, 0, 0, t, nul, 0, 0⟩) := rfl
  rw [h1, sameW_refl, Bool.and_true]
theorem may_counted (lo hi n : Int) : mayW ⟨14, 0, n, ⟨#[]⟩, nul, lo, hi⟩ = Lm.counts lo hi := by
  have h1 : mayW ⟨14, 0, n, ⟨#[]⟩, nul, lo, hi⟩ = (Lm.counts lo hi && sameW ⟨14, 0, 0, ⟨#[]⟩, nul, lo, hi⟩ ⟨14, 0, 0, ⟨#[]⟩, nul, lo, hi⟩) := rfl
  rw [h1, sameW_refl, Bool.and_true]

theorem lessK_cons (r : List UInt8) : lessK (60 :: r) = if r.head? = some 45 then 2 else 11 := by
  unfold lessK
  cases r with
  | nil => rfl
  | cons b l =>
    by_cases h : b = 45
    · subst h
      simp
    · have h' : ¬ (45 : UInt8) = b := fun e => h e.symm
      simp [h, h']

/-- Counts. -/
theorem cntE_ok (wi : List UInt8) : (cntE wi = 0) ↔ cntOk wi := by
  unfold cntE cntS cntOk
  by_cases h : numE (first wi) 99 = 0
  · cases hs : second wi with
    | nil => simp [h]
    | cons b l => simp [h]
  · simp [h]
theorem cntH_high (wi : List UInt8) (h : cntOk wi) : cntH wi = high wi := by
  unfold cntH cntS high
  have h1 := h.1
  cases hs : second wi with
  | nil => simp [h1]
  | cons b l => simp [h1]
end Go.Proofs.YtjeogbdeagkomaaDoor

/- Package lex: read, held against the document's words. -/
namespace Go.Proofs.YtjeogbdeagkomaaDoor
open Go.RowKit Nm Bset Lm
open Qm (unlit uncls)

/-- What the map of readers, its closures and the tables are good for. -/
structure Rds (w : World) (b : Nat) (box : Nat → Nat) : Prop where
  fns : FnsIs w b (fnR box)
  boxes : Boxes w 0 14 box
  signs : SignsIn w
  maxl : MaxL w

theorem Rds.below {w w' : World} {b : Nat} {box : Nat → Nat} {B : Nat} (h : Rds w b box) (hb : Below B w w') (hB : w.heap.size ≤ B) : Rds w' b box := by
  refine ⟨h.fns.same (hb.block _ (Nat.lt_of_lt_of_le h.fns.lt hB)), fun k h3 h14 => ⟨Nat.zero_le _, (h.boxes k h3 h14).2.below hb (Nat.lt_of_lt_of_le (h.boxes k h3 h14).2.lt hB)⟩, signs_below h.signs hb (Nat.lt_of_lt_of_le (World.block_lt_of_cell? w _ (h.signs 2 (by omega))) hB), ?_⟩
  obtain ⟨m, hm⟩ := h.maxl
  exact ⟨m, (hb.cell (p := ⟨3, 0, none⟩) (Nat.lt_of_lt_of_le (World.block_lt_of_cell? w _ hm) hB)).trans hm⟩

/-- What read tells of a text: the word by the maths, or that none begins there. -/
def ReadsW (s : ByteArray) (x : Lw) (ok : Bool) : Prop := (ok = true → ∃ d n, rdw s.data.toList = some (d, n) ∧ Wx x d 0 (n : Nat)) ∧ (ok = false → rdw s.data.toList = none)

theorem ReadsW.yes {s : ByteArray} {x : Lw} {d : Wd} {n : Nat} (h : rdw s.data.toList = some (d, n)) (hx : Wx x d 0 (n : Nat)) : ReadsW s x true := ⟨fun _ => ⟨d, n, h, hx⟩, fun e => (by cases e)⟩
theorem ReadsW.no {s : ByteArray} {x : Lw} (h : rdw s.data.toList = none) : ReadsW s x false := ⟨fun e => (by cases e), fun _ => h⟩

theorem nosize : (⟨#[]⟩ : ByteArray).size < 9223372036854775807 := by decide
theorem unlit_bad (t : List UInt8) (h : (unlit t).2.2 ≠ 0) : (unlit t).1 = [] := by
  unfold Qm.unlit at h ⊢
  split
  · split
    · rfl
    · split
      · rfl
      · rename_i h1 h2 h3
        rw [if_pos h1, if_neg h2, if_neg h3] at h
        exact absurd rfl h
  · rfl

theorem readX (s : ByteArray) (h0 : 0 < s.size) (hs : s.size ≤ 1048576) (w : World) (b : Nat) (box : Nat → Nat) (hR : Rds w b box) :
    ∃ x ok, (Calls Tryd.prog 128 #[.map (some b), .string s] w fun e w' => e = .returned (.tuple #[lwV x, .bool ok]) ∧ Below w.heap.size w w') ∧ ReadsW s x ok := by
  obtain ⟨r, hL⟩ : ∃ r, s.data.toList = s[0] :: r := ⟨s.data.toList.drop 1, by
    have := drop_cons s 0 h0
    simpa using this⟩
  have hc := s[0].toNat_lt
  obtain ⟨c, hcc⟩ : ∃ c, c = s[0] := ⟨_, rfl⟩
  have hcn : c.toNat < 256 := by rw [hcc]; exact hc
  have hlk : ∀ F, fnR box c.toNat = some F → ∀ o, (Instr.lookup 135 (.map (some b)) (.int .u8 s[0].toNat) true).run Tryd.prog (w.alloc o) = .ok (.tuple #[fxV F, .bool true]) (w.alloc o) := fun F hF o => by
    obtain ⟨v, h1, h2⟩ := (hR.fns.same (w' := w.alloc o) (((Below.refl w.heap.size w).alloc (Nat.le_refl _) o).block _ hR.fns.lt)).look hc
    rw [← hcc] at h1 h2 ⊢
    rw [h2 F hF, hF] at h1
    exact h1
  rw [← hcc] at hL
  have hbw : ∀ W, Below w.heap.size w W → Rds W b box := fun W h => hR.below h (Nat.le_refl _)
  by_cases h1 : isLet c.toNat = true
  · obtain ⟨n60, nS⟩ := let_facts _ hcn h1
    have hF : fnR box c.toNat = some namedF := by
      unfold fnR fn2 fn1 sk
      rw [if_neg n60, if_neg n60, nS, if_neg (by omega), if_pos ⟨hcn, h1⟩]
    have hp : 0 < taken s.data.toList := by rw [hL]; exact taken_pos c r h1
    refine ⟨_, _, read_named s h0 ⟨1, 0, (taken s.data.toList : Nat), takeS s, nul, 0, 0⟩ (by simp) (by have := takeS_le s; simp only; omega) w b (hlk _ hF) (fun W _ => named_any s (by omega) W), ?_⟩
    rw [may_named s hp, Bool.true_and]
    have e : (takeS s).data.toList = s.data.toList.take (taken s.data.toList) := by
      unfold takeS
      rw [ByteArray.data_extract, Array.toList_extract, List.extract_eq_take_drop]
      simp
    by_cases h32 : taken s.data.toList ≤ 32
    · rw [decide_eq_true h32]
      refine ReadsW.yes (d := ⟨1, s.data.toList.take (taken s.data.toList), nul, 0, 0⟩) (n := taken s.data.toList) ?_ ⟨rfl, rfl, rfl, e, nset_nul, rfl, rfl⟩
      rw [hL] at h32 ⊢
      rw [rdw_cons, if_pos h1, if_pos h32]
    · rw [decide_eq_false h32]
      refine ReadsW.no ?_
      rw [hL] at h32 ⊢
      rw [rdw_cons, if_pos h1, if_neg h32]
  have h1' : isLet c.toNat = false := by simpa using h1
  by_cases h2 : c.toNat = 60
  · have hF : fnR box c.toNat = some lessF := by unfold fnR; rw [if_pos h2]
    have hk : lessK s.data.toList = 2 ∨ lessK s.data.toList = 11 := by unfold lessK; split <;> simp
    have e60 : c = 60 := by rw [← UInt8.toNat_inj]; exact h2
    have hb : mayW ⟨lessK s.data.toList, 0, ((sgn (lessK s.data.toList)).length : Nat), ⟨#[]⟩, nul, 0, 0⟩ = true := may_signed _ _ (by omega) (by omega)
    refine ⟨_, _, read_less s h0 ⟨lessK s.data.toList, 0, ((sgn (lessK s.data.toList)).length : Nat), ⟨#[]⟩, nul, 0, 0⟩ (by simp only; omega) nosize w b (hlk _ hF) (fun W hW => less_rd s hs W (hbw W hW).signs), ?_⟩
    rw [hb, Bool.true_and, hL, e60, lessK_cons]
    have hrd : rdw s.data.toList = (if r.head? = some 45 then some (bare 2, 2) else some (bare 11, 1)) := by rw [hL, rdw_cons, if_neg h1, if_pos h2]
    by_cases h45 : r.head? = some 45
    · rw [if_pos h45] at hrd ⊢
      exact ReadsW.yes hrd ⟨rfl, rfl, rfl, rfl, nset_nul, rfl, rfl⟩
    · rw [if_neg h45] at hrd ⊢
      exact ReadsW.yes hrd ⟨rfl, rfl, rfl, rfl, nset_nul, rfl, rfl⟩
  by_cases h3 : signK c.toNat = 0
  · have hf : fnR box c.toNat = fn0 c.toNat := by
      unfold fnR fn2 fn1 sk
      rw [if_neg h2, if_neg h2, h3, if_neg (by omega), if_neg (fun h => h1 h.2)]
    by_cases h46 : c.toNat = 46
    · have hF : fnR box c.toNat = some (146, none) := by rw [hf, h46]; rfl
      refine ⟨_, _, read_dot s h0 ⟨16, 0, 1, ⟨#[]⟩, (uncls dotL).1, 0, 0⟩ (by simp) nosize w b (hlk _ hF) (fun W _ => dot_rd s W), ?_⟩
      rw [may_classed, Bool.true_and]
      refine ReadsW.yes (d := ⟨16, [], nset (fun _ => true), 0, 0⟩) (n := 1) ?_ ⟨rfl, rfl, rfl, rfl, nset_congr (fun n hn => uncls_dot.2.2 n hn), rfl, rfl⟩
      rw [hL, rdw_cons, if_neg h1, if_neg h2, if_neg (by omega), if_pos h46]
    by_cases h91 : c.toNat = 91
    · have hF : fnR box c.toNat = some (149, none) := by rw [hf, h91]; rfl
      refine ⟨_, _, read_class s h0 ⟨16, 0, ((uncls s.data.toList).2.1 : Nat), ⟨#[]⟩, (uncls s.data.toList).1, 0, 0⟩ _ (by simp) nosize w b (hlk _ hF) (fun W _ => class_rd s hs W), ?_⟩
      rw [may_classed, Bool.and_true]
      have hrd : rdw s.data.toList = (if (uncls s.data.toList).2.2 = 0 then some (⟨16, [], nset (uncls s.data.toList).1, 0, 0⟩, (uncls s.data.toList).2.1) else none) := by rw [hL, rdw_cons, if_neg h1, if_neg h2, if_neg (by omega), if_neg h46, if_pos h91]
      by_cases he : (uncls s.data.toList).2.2 = 0
      · rw [if_pos he] at hrd
        rw [he]
        exact ReadsW.yes hrd ⟨rfl, rfl, rfl, rfl, rfl, rfl, rfl⟩
      · rw [if_neg he] at hrd
        rw [show (((uncls s.data.toList).2.2 : Int) == 0) = false from by simp; omega]
        exact ReadsW.no hrd
    by_cases h34 : c.toNat = 34
    · have hF : fnR box c.toNat = some (148, none) := by rw [hf, h34]; rfl
      have hrd : rdw s.data.toList = (if (unlit s.data.toList).2.2 = 0 then some (⟨15, (unlit s.data.toList).1, nul, 0, 0⟩, (unlit s.data.toList).2.1) else none) := by rw [hL, rdw_cons, if_neg h1, if_neg h2, if_neg (by omega), if_neg h46, if_neg h91, if_pos h34]
      by_cases he : (unlit s.data.toList).2.2 = 0
      · have hsh := (Qm.unlit_short _ he).2
        refine ⟨_, _, read_literal s h0 ⟨15, 0, ((unlit s.data.toList).2.1 : Nat), toB (unlit s.data.toList).1, nul, 0, 0⟩ _ (by simp) (by simp only; rw [toB_size]; omega) w b (hlk _ hF) (fun W _ => literal_rd s hs W), ?_⟩
        rw [if_pos he] at hrd
        rw [may_literal, he, toB_size, decide_eq_true hsh]
        exact ReadsW.yes hrd ⟨rfl, rfl, rfl, toB_list _, nset_nul, rfl, rfl⟩
      · rw [if_neg he] at hrd
        have hb := unlit_bad _ he
        refine ⟨_, _, read_literal s h0 ⟨15, 0, ((unlit s.data.toList).2.1 : Nat), toB (unlit s.data.toList).1, nul, 0, 0⟩ _ (by simp) (by simp only; rw [toB_size, hb]; decide) w b (hlk _ hF) (fun W _ => literal_rd s hs W), ?_⟩
        rw [show (((unlit s.data.toList).2.2 : Int) == 0) = false from by simp; omega, Bool.false_and]
        exact ReadsW.no hrd
    by_cases h123 : c.toNat = 123
    · have hF : fnR box c.toNat = some (147, none) := by rw [hf, h123]; rfl
      refine ⟨_, _, read_count s h0 _ _ (by simp) nosize w b (hlk _ hF) (fun W hW => count_rd s (by omega) hs W (hbw W hW).maxl), ?_⟩
      have hd : s.data.toList.drop 1 = r := by rw [hL]; rfl
      rw [may_counted, hd]
      have hrd : rdw s.data.toList = cnt r := by rw [hL, rdw_cons, if_neg h1, if_neg h2, if_neg (by omega), if_neg h46, if_neg h91, if_neg h34, if_pos h123]
      unfold cnt at hrd
      by_cases hcl : (upto 125 r).length < r.length
      · by_cases hok : cntOk (upto 125 r)
        · have e0 : (cntE (upto 125 r) == 0) = true := by rw [(cntE_ok _).2 hok]; rfl
          rw [decide_eq_true hcl, e0, cntH_high _ hok, Bool.true_and, Bool.true_and]
          by_cases hcn2 : Lm.counts (numV (first (upto 125 r)) 99) (high (upto 125 r)) = true
          · rw [if_pos ⟨hcl, hok, hcn2⟩] at hrd
            rw [hcn2]
            exact ReadsW.yes hrd ⟨rfl, rfl, rfl, rfl, nset_nul, rfl, rfl⟩
          · rw [if_neg (fun h => hcn2 h.2.2)] at hrd
            rw [show Lm.counts (numV (first (upto 125 r)) 99) (high (upto 125 r)) = false from by simpa using hcn2]
            exact ReadsW.no hrd
        · rw [if_neg (fun h => hok h.2.1)] at hrd
          have e0 : (cntE (upto 125 r) == 0) = false := by
            rw [beq_eq_false_iff_ne]
            exact fun h => hok ((cntE_ok _).1 h)
          rw [e0, Bool.and_false, Bool.false_and]
          exact ReadsW.no hrd
      · rw [if_neg (fun h => hcl h.1)] at hrd
        rw [decide_eq_false hcl, Bool.false_and, Bool.false_and]
        exact ReadsW.no hrd
    · have hF : fnR box c.toNat = none := by
        rw [hf]
        unfold fn0
        rw [if_neg h91, if_neg h34, if_neg h123, if_neg h46]
      obtain ⟨v, hv, _⟩ := (hR.fns.same (w' := w.alloc (.cells lwZ 64)) (((Below.refl w.heap.size w).alloc (Nat.le_refl _) _).block _ hR.fns.lt)).look hc
      rw [← hcc, hF] at hv
      rw [hcc] at hv
      refine ⟨_, _, read_none s h0 w b v hv, ?_⟩
      refine ReadsW.no ?_
      rw [hL, rdw_cons, if_neg h1, if_neg h2, if_neg (by omega), if_neg h46, if_neg h91, if_neg h34, if_neg h123]
  · obtain ⟨_, _, s1, s3, s13, _⟩ := sign_facts _ hcn h3
    have hF : fnR box c.toNat = some (signF (box (signK c.toNat))) := by
      unfold fnR fn2 sk
      rw [if_neg h2, if_neg h2, if_pos ⟨s3, by omega⟩]
    have hb : mayW ⟨signK c.toNat, 0, ((sgn (signK c.toNat)).length : Nat), ⟨#[]⟩, nul, 0, 0⟩ = true := may_signed _ _ (by omega) (by omega)
    refine ⟨_, _, read_sign s h0 ⟨signK c.toNat, 0, ((sgn (signK c.toNat)).length : Nat), ⟨#[]⟩, nul, 0, 0⟩ (by simp only; omega) nosize w b (box (signK c.toNat)) (hlk _ hF) (fun W hW => sign1_rd (signK c.toNat) (box (signK c.toNat)) (by omega) s W ((hbw W hW).boxes _ s3 (by omega)).2 (hbw W hW).signs), ?_⟩
    rw [hb, Bool.true_and]
    refine ReadsW.yes (d := bare (signK c.toNat)) (n := 1) ?_ ⟨rfl, rfl, by rw [s1], rfl, nset_nul, rfl, rfl⟩
    rw [hL, rdw_cons, if_neg h1, if_neg h2, if_pos h3]
end Go.Proofs.YtjeogbdeagkomaaDoor

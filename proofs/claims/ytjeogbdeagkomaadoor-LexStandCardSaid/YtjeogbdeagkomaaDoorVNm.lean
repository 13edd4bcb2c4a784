/- Names and numbers as bytes: what is a letter, a digit, a name; how many bytes are taken; a number's text. Plain Lean; no program. -/
import Derived.Lib.ItoaMem
import Derived.Lib.ItoaLen
import Derived.Lib.Bytealg
import Derived.RowKit
namespace Go.Proofs.Nm
open Go Go.RowKit

def isLet (b : Nat) : Bool := (decide (97 ≤ b) && decide (b ≤ 122)) || ((decide (65 ≤ b) && decide (b ≤ 90)) || decide (b = 95))
def isDig (b : Nat) : Bool := decide (48 ≤ b) && decide (b ≤ 57)

/-- How many letters and digits it begins by. -/
def run : List UInt8 → Nat
  | [] => 0
  | b :: l => if isLet b.toNat || isDig b.toNat then run l + 1 else 0
/-- .. if the first one is a letter; else none. -/
def taken : List UInt8 → Nat
  | [] => 0
  | b :: l => if isLet b.toNat then run l + 1 else 0
/-- Is it a name? -/
def mayB (s : ByteArray) : Bool := decide (s.size ≠ 0) && (decide (s.size ≤ 32) && decide (taken s.data.toList = s.size))

theorem run_cons (b : UInt8) (l : List UInt8) : run (b :: l) = if isLet b.toNat || isDig b.toNat then run l + 1 else 0 := rfl
theorem taken_cons (b : UInt8) (l : List UInt8) : taken (b :: l) = if isLet b.toNat then run l + 1 else 0 := rfl

theorem run_le : ∀ l, run l ≤ l.length
  | [] => Nat.le_refl _
  | b :: l => by
    rw [run_cons, List.length_cons]
    have := run_le l
    split <;> omega
theorem taken_le : ∀ l, taken l ≤ l.length
  | [] => Nat.le_refl _
  | b :: l => by
    rw [taken_cons, List.length_cons]
    have := run_le l
    split <;> omega

theorem drop_cons (s : ByteArray) (n : Nat) (h : n < s.size) : s.data.toList.drop n = s[n] :: s.data.toList.drop (n + 1) := by
  rw [List.drop_eq_getElem_cons (by simpa using h)]
  rfl

/-- How many bytes are taken, n of which are known to be. -/
def go (s : ByteArray) (n : Nat) : Nat := if n = 0 then taken s.data.toList else n + run (s.data.toList.drop n)
theorem go_zero (s : ByteArray) : go s 0 = taken s.data.toList := by simp [go]
theorem go_end (s : ByteArray) (n : Nat) (h : s.size ≤ n) : go s n = n := by
  have e : s.data.toList.drop n = [] := List.drop_eq_nil_of_le (by simp; omega)
  unfold go
  by_cases h0 : n = 0
  · subst h0
    rw [List.drop_zero] at e
    rw [if_pos rfl, e]
    rfl
  · rw [if_neg h0, e]
    rfl
theorem go_step (s : ByteArray) (n : Nat) (h : n < s.size) : go s n = if isLet s[n].toNat = true ∨ (0 < n ∧ isDig s[n].toNat = true) then go s (n + 1) else n := by
  have e := drop_cons s n h
  have e1 : go s (n + 1) = n + 1 + run (s.data.toList.drop (n + 1)) := by
    unfold go
    rw [if_neg (Nat.succ_ne_zero n)]
  rw [e1]
  generalize s.data.toList.drop (n + 1) = l at e ⊢
  generalize s[n] = b at e ⊢
  by_cases h0 : n = 0
  · subst h0
    rw [List.drop_zero] at e
    rw [go_zero, e, taken_cons]
    by_cases hl : isLet b.toNat = true
    · rw [if_pos hl, if_pos (Or.inl hl)]
      omega
    · rw [if_neg hl, if_neg (by simp [hl])]
  · have e2 : go s n = n + run (b :: l) := by
      unfold go
      rw [if_neg h0, e]
    rw [e2, run_cons]
    by_cases hl : isLet b.toNat = true
    · rw [if_pos (by simp [hl]), if_pos (Or.inl hl)]
      omega
    · by_cases hd : isDig b.toNat = true
      · rw [if_pos (by simp [hd]), if_pos (Or.inr ⟨by omega, hd⟩)]
        omega
      · rw [if_neg (by simp [hl, hd]), if_neg (by simp [hl, hd])]
        rfl

/-! ### Numbers' texts -/
theorem take_snoc (s : ByteArray) (n : Nat) (h : n < s.size) : s.data.toList.take (n + 1) = s.data.toList.take n ++ [s[n]] := by
  rw [List.take_add_one, List.getElem?_eq_getElem (by simpa using h)]
  rfl
theorem take_all (s : ByteArray) : s.data.toList.take s.size = s.data.toList := List.take_of_length_le (by simp)

/-- Is it digits alone, not none, without a 0 ahead of others? -/
def form : List UInt8 → Bool
  | [] => false
  | b :: r => !(decide (b.toNat = 48) && !r.isEmpty) && (b :: r).all (fun b => isDig b.toNat)
theorem form_cons (b : UInt8) (r : List UInt8) : form (b :: r) = (!(decide (b.toNat = 48) && !r.isEmpty) && (b :: r).all (fun b => isDig b.toNat)) := rfl
def val (l : List UInt8) : Nat := l.foldl (fun n b => 10 * n + (b.toNat - 48)) 0
def fits (l : List UInt8) (most : Int) : Bool := decide (0 ≤ most) && decide ((val l : Int) ≤ most)
def numV (l : List UInt8) (most : Int) : Int := if form l && fits l most then (val l : Int) else 0
def numE (l : List UInt8) (most : Int) : Int := if form l then (if fits l most then 0 else 40) else 4
def digs (l : List UInt8) : Bool := l.all (fun b => isDig b.toNat)

theorem digs_step (s : ByteArray) (n : Nat) (h : n < s.size) : digs (s.data.toList.take (n + 1)) = (digs (s.data.toList.take n) && isDig s[n].toNat) := by
  unfold digs
  rw [take_snoc s n h, List.all_append]
  simp
theorem val_step (s : ByteArray) (n : Nat) (h : n < s.size) : val (s.data.toList.take (n + 1)) = 10 * val (s.data.toList.take n) + (s[n].toNat - 48) := by
  unfold val
  rw [take_snoc s n h, List.foldl_append]
  rfl
theorem form_bad (s : ByteArray) (n : Nat) (h : n < s.size) (hd : isDig s[n].toNat = false) : form s.data.toList = false := by
  have hall : s.data.toList.all (fun b => isDig b.toNat) = false := by
    rw [List.all_eq_false]
    refine ⟨s[n], ?_, by simp [hd]⟩
    exact List.getElem_mem (l := s.data.toList) (n := n) (by simpa using h)
  have e := drop_cons s 0 (by omega)
  rw [List.drop_zero] at e
  rw [e] at hall ⊢
  rw [form_cons, hall, Bool.and_false]
theorem form_lead (s : ByteArray) (h : 1 < s.size) (h0 : s[0].toNat = 48) : form s.data.toList = false := by
  have e := drop_cons s 0 (by omega)
  rw [List.drop_zero] at e
  have e2 := drop_cons s 1 h
  rw [e, form_cons, show 0 + 1 = 1 from rfl, e2]
  simp [h0]
theorem form_ok (s : ByteArray) (h : 0 < s.size) (h0 : ¬(s[0].toNat = 48 ∧ 1 < s.size)) (hd : digs s.data.toList = true) : form s.data.toList = true := by
  have e := drop_cons s 0 h
  rw [List.drop_zero] at e
  unfold digs at hd
  rw [e] at hd ⊢
  rw [form_cons, hd, Bool.and_true]
  by_cases c1 : s[0].toNat = 48
  · have : s.data.toList.drop (0 + 1) = [] := List.drop_eq_nil_of_le (by simp; omega)
    rw [this]
    simp
  · simp [c1]
theorem isDig_iff {b : Nat} : isDig b = true ↔ 48 ≤ b ∧ b ≤ 57 := by simp [isDig]
theorem fits_no (s : ByteArray) (n : Nat) (most : Int) (h : n < s.size) (hf : fits (s.data.toList.take n) most = false) : fits (s.data.toList.take (n + 1)) most = false := by
  unfold fits at hf ⊢
  rw [val_step s n h]
  simp at hf ⊢
  intro h0
  have := hf h0
  omega
theorem fits_go (s : ByteArray) (n : Nat) (most : Int) (h : n < s.size) (h0 : 0 ≤ most) : fits (s.data.toList.take (n + 1)) most = decide ((10 * val (s.data.toList.take n) + (s[n].toNat - 48) : Nat) ≤ most) := by
  unfold fits
  rw [val_step s n h]
  simp [h0]
theorem fits_yes {l : List UInt8} {most : Int} (h : fits l most = true) : 0 ≤ most ∧ (val l : Int) ≤ most := by
  unfold fits at h
  simpa using h
theorem fits_nil (most : Int) : fits [] most = decide (0 ≤ most) := by
  by_cases h : 0 ≤ most <;> simp [fits, val, h]
theorem tdiv_ten (m : Int) (h : 0 ≤ m) : 10 * m.tdiv 10 ≤ m ∧ m < 10 * m.tdiv 10 + 10 ∧ 0 ≤ m.tdiv 10 := by
  rw [Int.tdiv_eq_ediv_of_nonneg h]
  omega

/-! ### Names that are tried -/
theorem run_all : ∀ l : List UInt8, run l = l.length → ∀ b ∈ l, isLet b.toNat = true ∨ isDig b.toNat = true
  | [], _ => by simp
  | b :: l, h => by
    rw [run_cons, List.length_cons] at h
    by_cases c : (isLet b.toNat || isDig b.toNat) = true
    · rw [if_pos c] at h
      intro x hx
      rcases List.mem_cons.1 hx with rfl | hx
      · simpa using c
      · exact run_all l (by omega) x hx
    · rw [if_neg c] at h
      omega
theorem may_all {s : ByteArray} (h : mayB s = true) : ∀ b ∈ s.data.toList, isLet b.toNat = true ∨ isDig b.toNat = true := by
  unfold mayB at h
  simp only [Bool.and_eq_true, decide_eq_true_iff] at h
  obtain ⟨h0, _, h2⟩ := h
  have hl : s.data.toList.length = s.size := by simp
  generalize s.data.toList = l at h2 hl ⊢
  cases l with
  | nil => simp
  | cons b l =>
    rw [taken_cons] at h2
    rw [List.length_cons] at hl
    by_cases c : isLet b.toNat = true
    · rw [if_pos c] at h2
      intro x hx
      rcases List.mem_cons.1 hx with rfl | hx
      · exact Or.inl c
      · exact run_all l (by omega) x hx
    · rw [if_neg c] at h2
      omega
theorem may_size {s : ByteArray} (h : mayB s = true) : s.size ≤ 32 := by
  unfold mayB at h
  simp only [Bool.and_eq_true, decide_eq_true_iff] at h
  exact h.2.1

/-- A number's text. -/
def showB (n : Int) : ByteArray := ⟨(Lib.itoa n).toArray⟩
/-- The names that a stem may come to: the stem; the stem and 2; .. -/
def cand (stem : ByteArray) (k : Nat) : ByteArray := if k = 0 then stem else stem ++ showB (wrap64 ((k : Int) + 1))

theorem showB_size (n : Int) : (showB n).size = (Lib.itoa n).length := by
  unfold showB
  simp [ByteArray.size]
theorem showB_le (n : Int) : (showB (wrap64 n)).size ≤ 21 := by
  rw [showB_size]
  refine Lib.itoa_length_le _ ?_ ?_ <;> (unfold wrap64; omega)
theorem cand_size (stem : ByteArray) (k : Nat) : (cand stem k).size ≤ stem.size + 21 := by
  unfold cand
  split
  · omega
  · have := showB_le ((k : Int) + 1)
    rw [ByteArray.size_append]
    omega
theorem cand_zero (stem : ByteArray) : cand stem 0 = stem := rfl
theorem cand_succ (stem : ByteArray) (k : Nat) : cand stem (k + 1) = stem ++ showB (wrap64 ((k : Int) + 2)) := by
  unfold cand
  rw [if_neg (Nat.succ_ne_zero k), show ((k + 1 : Nat) : Int) + 1 = (k : Int) + 2 by omega]
theorem neg_not (stem : ByteArray) (n : Int) (h : n < 0) : mayB (stem ++ showB n) = false := by
  cases hm : mayB (stem ++ showB n) with
  | false => rfl
  | true =>
    have h2 := may_all hm 45 (by
      rw [ByteArray.data_append, Array.toList_append]
      apply List.mem_append_right
      unfold showB Lib.itoa
      rw [if_pos h]
      simp)
    revert h2
    decide
theorem cand_lt {stem : ByteArray} {k : Nat} (hk : k < 9223372036854775808) (h : mayB (cand stem k) = true) : k + 1 < 9223372036854775808 := by
  rcases Nat.lt_or_ge (k + 1) 9223372036854775808 with h1 | h1
  · exact h1
  · obtain rfl : k = 9223372036854775807 := by omega
    rw [cand_succ stem 9223372036854775806, neg_not _ _ (by decide)] at h
    cases h

/-- What is told: the first ones, each of which is a name. -/
def Tryed (stem : ByteArray) (pre : List ByteArray) : Prop := pre = (List.range pre.length).map (cand stem) ∧ ∀ j, j < pre.length → mayB (cand stem j) = true
theorem Tryed.nil (stem : ByteArray) : Tryed stem [] := ⟨rfl, fun j h => by cases h⟩
theorem Tryed.snoc {stem : ByteArray} {pre : List ByteArray} (h : Tryed stem pre) (hm : mayB (cand stem pre.length) = true) : Tryed stem (pre ++ [cand stem pre.length]) := by
  refine ⟨?_, fun j hj => ?_⟩
  · rw [List.length_append, List.length_singleton, List.range_succ, List.map_append, ← h.1]
    rfl
  · rw [List.length_append, List.length_singleton] at hj
    rcases Nat.lt_or_ge j pre.length with h1 | h1
    · exact h.2 j h1
    · obtain rfl : j = pre.length := by omega
      exact hm
theorem Tryed.get {stem : ByteArray} {pre : List ByteArray} (h : Tryed stem pre) {j : Nat} (hj : j < pre.length) : cand stem j ∈ pre := by
  rw [h.1]
  exact List.mem_map.2 ⟨j, List.mem_range.2 (by simpa using hj), rfl⟩

/-- What Free is to tell. -/
def FreeAns (stem : ByteArray) (used : List ByteArray) (r : ByteArray) : Prop :=
  ∃ k, (∀ j, j < k → mayB (cand stem j) = true ∧ cand stem j ∈ used) ∧ ((r = cand stem k ∧ mayB (cand stem k) = true ∧ cand stem k ∉ used) ∨ (r = ⟨#[]⟩ ∧ mayB (cand stem k) = false))
theorem FreeAns.one {stem : ByteArray} {used : List ByteArray} {r r' : ByteArray} (h : FreeAns stem used r) (h' : FreeAns stem used r') : r = r' := by
  obtain ⟨k, h1, h2⟩ := h
  obtain ⟨k', h1', h2'⟩ := h'
  have e : k = k' := by
    rcases Nat.lt_trichotomy k k' with hlt | e | hlt
    · obtain ⟨a, b⟩ := h1' k hlt
      rcases h2 with ⟨_, _, c⟩ | ⟨_, c⟩
      · exact absurd b c
      · rw [a] at c
        cases c
    · exact e
    · obtain ⟨a, b⟩ := h1 k' hlt
      rcases h2' with ⟨_, _, c⟩ | ⟨_, c⟩
      · exact absurd b c
      · rw [a] at c
        cases c
  subst e
  rcases h2 with ⟨rfl, a, _⟩ | ⟨rfl, a⟩ <;> rcases h2' with ⟨rfl, b, _⟩ | ⟨rfl, b⟩
  · rfl
  · rw [a] at b
    cases b
  · rw [a] at b
    cases b
  · rfl
theorem FreeAns.of_stop {stem : ByteArray} {used : List ByteArray} {q : List ByteArray} {x : ByteArray} (h : Tryed stem (q ++ [x])) (hq : ∀ y ∈ q, y ∈ used) (hx : x ∉ used) : FreeAns stem used x := by
  have hlen : (q ++ [x]).length = q.length + 1 := by simp
  have hx1 : x = cand stem q.length := by
    have := congrArg (fun l => l[q.length]?) h.1
    simp at this
    exact this
  have hm := h.2 q.length (by omega)
  have hqt : Tryed stem q := by
    refine ⟨?_, fun j hj => h.2 j (by omega)⟩
    have := congrArg (fun l => l.take q.length) h.1
    simp at this
    rw [← List.map_take, List.take_range, Nat.min_eq_left (Nat.le_succ _)] at this
    exact this
  exact ⟨q.length, fun j hj => ⟨h.2 j (by omega), hq _ (hqt.get hj)⟩, Or.inl ⟨hx1, hm, by rw [← hx1]; exact hx⟩⟩
theorem FreeAns.of_done {stem : ByteArray} {used : List ByteArray} {q : List ByteArray} (h : Tryed stem q) (hq : ∀ y ∈ q, y ∈ used) (hx : mayB (cand stem q.length) = false) : FreeAns stem used ⟨#[]⟩ :=
  ⟨q.length, fun j hj => ⟨h.2 j hj, hq _ (h.get hj)⟩, Or.inr ⟨rfl, hx⟩⟩
end Go.Proofs.Nm

/- Plain facts on sets of bytes: a set as a function from numbers to Bool, its four words, its list. Of no program. -/
import Derived.Lib.TrailingZeros
import Derived.Test.YtjeogbdeagkomaaDoorProg
import Derived.WalkKit
import Derived.WalkSpells
import Derived.WalkLawsBesides
import Derived.IntWalk
import Derived.Handy
import Derived.Laws.BitsAllLaws
import Derived.Deep.QuietTactic
import Derived.BigQuiet
import Derived.Lib.Hide
import Derived.Laws.Rows
import Derived.OneCell
namespace Go.Proofs.YtjeogbdeagkomaaDoor.Bset
open Go

/-- The number that the low m bits of word k spell. -/
def wb (S : Nat → Bool) (k : Nat) : Nat → Nat
  | 0 => 0
  | m + 1 => wb S k m + if S (64 * k + m) then 2 ^ m else 0

/-- Word k of the set. -/
def word (S : Nat → Bool) (k : Nat) : Nat := wb S k 64

theorem wb_lt (S : Nat → Bool) (k m : Nat) : wb S k m < 2 ^ m := by
  induction m with
  | zero => simp [wb]
  | succ m ih =>
    have : 2 ^ (m + 1) = 2 ^ m + 2 ^ m := by rw [Nat.pow_succ]; omega
    unfold wb
    split <;> omega

theorem wb_testBit (S : Nat → Bool) (k m j : Nat) : (wb S k m).testBit j = (decide (j < m) && S (64 * k + j)) := by
  induction m with
  | zero => simp [wb]
  | succ m ih =>
    have hlt := wb_lt S k m
    unfold wb
    by_cases hs : S (64 * k + m) = true
    · rw [if_pos hs, Nat.add_comm]
      by_cases hj : j = m
      · subst hj
        rw [Nat.testBit_two_pow_add_eq, Nat.testBit_lt_two_pow hlt]
        simp [hs]
      · rcases Nat.lt_or_gt_of_ne hj with h | h
        · rw [Nat.testBit_two_pow_add_gt h, ih]
          have h1 : j < m + 1 := by omega
          simp [h, h1]
        · have hb : 2 ^ m + wb S k m < 2 ^ j := by
            have h2 : 2 ^ (m + 1) ≤ 2 ^ j := Nat.pow_le_pow_right (by decide) h
            rw [Nat.pow_succ] at h2
            omega
          rw [Nat.testBit_lt_two_pow hb]
          have h1 : ¬ j < m + 1 := by omega
          simp [h1]
    · rw [if_neg hs, Nat.add_zero, ih]
      by_cases hj : j = m
      · subst hj
        have hs' : S (64 * k + j) = false := by simpa using hs
        simp [hs']
      · have : (j < m + 1) ↔ j < m := by omega
        simp [this]

theorem word_lt (S : Nat → Bool) (k : Nat) : word S k < 18446744073709551616 := by
  have h := wb_lt S k 64
  have e : (2 : Nat) ^ 64 = 18446744073709551616 := by decide
  unfold word
  omega

theorem word_testBit (S : Nat → Bool) (k j : Nat) : (word S k).testBit j = (decide (j < 64) && S (64 * k + j)) := wb_testBit S k 64 j

/-- A number below 2^64 is the word of whatever set has its bits there. -/
theorem eq_word {n : Nat} {S : Nat → Bool} {k : Nat} (hn : n < 18446744073709551616) (h : ∀ j, j < 64 → n.testBit j = S (64 * k + j)) : n = word S k := by
  apply Nat.eq_of_testBit_eq
  intro j
  rw [word_testBit]
  by_cases hj : j < 64
  · simp [hj, h j hj]
  · have e : (2 : Nat) ^ 64 = 18446744073709551616 := by decide
    have h2 : 2 ^ 64 ≤ 2 ^ j := Nat.pow_le_pow_right (by decide) (by omega)
    rw [Nat.testBit_lt_two_pow (by omega)]
    simp [hj]

theorem word_congr {S T : Nat → Bool} (h : ∀ n, n < 256 → S n = T n) {k : Nat} (hk : k < 4) : word S k = word T k :=
  eq_word (word_lt S k) (fun j hj => by rw [word_testBit, h _ (by omega)]; simp [hj])

theorem word_ext {S T : Nat → Bool} (h0 : word S 0 = word T 0) (h1 : word S 1 = word T 1) (h2 : word S 2 = word T 2) (h3 : word S 3 = word T 3) :
    ∀ n, n < 256 → S n = T n := by
  intro n hn
  have hk : ∀ k, k < 4 → word S k = word T k := by
    intro k hk
    match k, hk with
    | 0, _ => exact h0
    | 1, _ => exact h1
    | 2, _ => exact h2
    | 3, _ => exact h3
  have h := hk (n / 64) (by omega)
  have a := word_testBit S (n / 64) (n % 64)
  rw [h, word_testBit] at a
  have e : 64 * (n / 64) + n % 64 = n := by omega
  have e2 : n % 64 < 64 := by omega
  simpa [e, e2] using a.symm

/-- The set that four words spell. -/
def ofW (a b c d : Nat) (n : Nat) : Bool :=
  if n / 64 = 0 then a.testBit (n % 64) else if n / 64 = 1 then b.testBit (n % 64) else if n / 64 = 2 then c.testBit (n % 64) else d.testBit (n % 64)

theorem ofW_words {a b c d : Nat} (ha : a < 18446744073709551616) (hb : b < 18446744073709551616) (hc : c < 18446744073709551616) (hd : d < 18446744073709551616) :
    a = word (ofW a b c d) 0 ∧ b = word (ofW a b c d) 1 ∧ c = word (ofW a b c d) 2 ∧ d = word (ofW a b c d) 3 := by
  have m : ∀ k j, j < 64 → (64 * k + j) / 64 = k ∧ (64 * k + j) % 64 = j := fun k j h => by omega
  refine ⟨eq_word ha ?_, eq_word hb ?_, eq_word hc ?_, eq_word hd ?_⟩ <;>
  · intro j hj
    obtain ⟨h1, h2⟩ := m _ j hj
    unfold ofW
    rw [h1, h2]
    simp

theorem ofWs {a b c d : Int} (ha : 0 ≤ a) (ha' : a ≤ 18446744073709551615) (hb : 0 ≤ b) (hb' : b ≤ 18446744073709551615) (hc : 0 ≤ c) (hc' : c ≤ 18446744073709551615) (hd : 0 ≤ d) (hd' : d ≤ 18446744073709551615) :
    ∃ S : Nat → Bool, a = (word S 0 : Int) ∧ b = (word S 1 : Int) ∧ c = (word S 2 : Int) ∧ d = (word S 3 : Int) := by
  obtain ⟨a, rfl⟩ := Int.eq_ofNat_of_zero_le ha
  obtain ⟨b, rfl⟩ := Int.eq_ofNat_of_zero_le hb
  obtain ⟨c, rfl⟩ := Int.eq_ofNat_of_zero_le hc
  obtain ⟨d, rfl⟩ := Int.eq_ofNat_of_zero_le hd
  obtain ⟨e1, e2, e3, e4⟩ := @ofW_words a b c d (by omega) (by omega) (by omega) (by omega)
  exact ⟨ofW a b c d, by rw [← e1], by rw [← e2], by rw [← e3], by rw [← e4]⟩

/-! ### Bit by bit -/

/-- The bit of a byte in its word. -/
def bt (b : Nat) : Nat := 2 ^ (b % 64)

theorem two64 : (2 : Nat) ^ 64 = 18446744073709551616 := by decide

theorem or_lt {a b : Nat} (ha : a < 18446744073709551616) (hb : b < 18446744073709551616) : a ||| b < 18446744073709551616 := by
  rw [← two64] at *
  exact Nat.or_lt_two_pow ha hb

theorem and_lt {a : Nat} (b : Nat) (ha : a < 18446744073709551616) : a &&& b < 18446744073709551616 :=
  Nat.lt_of_le_of_lt Nat.and_le_left ha

theorem word_or (S T : Nat → Bool) (k : Nat) : word S k ||| word T k = word (fun n => S n || T n) k :=
  eq_word (or_lt (word_lt _ _) (word_lt _ _)) (fun j hj => by rw [Nat.testBit_or, word_testBit, word_testBit]; simp [hj])

theorem word_and (S T : Nat → Bool) (k : Nat) : word S k &&& word T k = word (fun n => S n && T n) k :=
  eq_word (and_lt _ (word_lt _ _)) (fun j hj => by rw [Nat.testBit_and, word_testBit, word_testBit]; simp [hj])

theorem word_not (S : Nat → Bool) (k : Nat) : 18446744073709551615 - word S k = word (fun n => !S n) k := by
  have h := word_lt S k
  refine eq_word (by omega) (fun j hj => ?_)
  have e : 18446744073709551615 - word S k = 2 ^ 64 - (word S k + 1) := by rw [two64]; omega
  rw [e, Nat.testBit_two_pow_sub_succ (by rw [two64]; exact h), word_testBit]
  simp [hj]

theorem word_minus (S T : Nat → Bool) (k : Nat) : word S k &&& (18446744073709551615 - word T k) = word (fun n => S n && !T n) k := by
  rw [word_not, word_and]

theorem pow_lt64 {j : Nat} (hj : j < 64) : 2 ^ j < 18446744073709551616 := by
  rw [← two64]
  exact Nat.pow_lt_pow_right (by decide) hj

/-- One bit. -/
theorem word_single {k j : Nat} (hj : j < 64) : 2 ^ j = word (fun n => n == 64 * k + j) k := by
  refine eq_word (pow_lt64 hj) (fun i _ => ?_)
  rw [Nat.testBit_two_pow]
  by_cases h : j = i <;> simp [h]
  omega

theorem word_put (S : Nat → Bool) {b : Nat} : word S (b / 64) ||| 2 ^ (b % 64) = word (fun n => S n || n == b) (b / 64) := by
  rw [word_single (k := b / 64) (j := b % 64) (by omega), word_or]
  have e : 64 * (b / 64) + b % 64 = b := by omega
  rw [e]

theorem word_put_other (S : Nat → Bool) {b k : Nat} (h : k ≠ b / 64) : word S k = word (fun n => S n || n == b) k := by
  refine eq_word (word_lt _ _) (fun j hj => ?_)
  rw [word_testBit]
  have : (64 * k + j == b) = false := by simp; omega
  simp [hj, this]

theorem wb_add (S : Nat → Bool) {b : Nat} (h : S b = false) (k m : Nat) (hk : k = b / 64) :
    wb (fun n => S n || n == b) k m = wb S k m + if b % 64 < m then 2 ^ (b % 64) else 0 := by
  have e : 64 * k + b % 64 = b := by omega
  induction m with
  | zero => simp [wb]
  | succ m ih =>
    unfold wb
    rw [ih]
    by_cases hm : m = b % 64
    · subst hm
      rw [e]
      simp [h]
    · have h1 : (64 * k + m == b) = false := by simp; omega
      have h2 : (b % 64 < m + 1) ↔ b % 64 < m := by omega
      simp only [h1, Bool.or_false, h2]
      omega

/-- Where the bit is not set, adding sets it. -/
theorem word_add (S : Nat → Bool) {b : Nat} (h : S b = false) : word S (b / 64) + 2 ^ (b % 64) = word (fun n => S n || n == b) (b / 64) := by
  unfold word
  rw [wb_add S h _ _ rfl, if_pos (by omega)]

theorem word_has (S : Nat → Bool) (b : Nat) : (word S (b / 64) &&& 2 ^ (b % 64) ≠ 0) ↔ S b = true := by
  have hj : b % 64 < 64 := by omega
  have e : 64 * (b / 64) + b % 64 = b := by omega
  constructor
  · intro h
    by_cases hs : S b = true
    · exact hs
    · exfalso
      apply h
      apply Nat.eq_of_testBit_eq
      intro i
      rw [Nat.testBit_and, word_testBit, Nat.testBit_two_pow]
      by_cases hi : b % 64 = i
      · subst hi
        simp only [e, hj, decide_true, Bool.true_and, Bool.and_true, Nat.zero_testBit]
        simpa using hs
      · simp [hi]
  · intro hs h
    have := congrArg (fun x => Nat.testBit x (b % 64)) h
    simp [Nat.testBit_and, word_testBit, e, hs, hj] at this

theorem word_div (S : Nat → Bool) (b : Nat) : (word S (b / 64) / 2 ^ (b % 64) % 2 = 1) ↔ S b = true := by
  have hj : b % 64 < 64 := by omega
  have e : 64 * (b / 64) + b % 64 = b := by omega
  have h := word_testBit S (b / 64) (b % 64)
  rw [Nat.testBit_eq_decide_div_mod_eq, e] at h
  simp only [hj, decide_true, Bool.true_and] at h
  rw [← h]
  simp

theorem bt_lt (b : Nat) : bt b < 18446744073709551616 := pow_lt64 (by omega)

/-! ### The bytes of a set, rising -/

/-- Those below q. -/
def upTo (S : Nat → Bool) (q : Nat) : List Nat := (List.range q).filter S

/-- All of them. -/
def mem (S : Nat → Bool) : List Nat := upTo S 256

theorem upTo_zero (S : Nat → Bool) : upTo S 0 = [] := rfl

theorem upTo_succ (S : Nat → Bool) (q : Nat) : upTo S (q + 1) = upTo S q ++ if S q then [q] else [] := by
  unfold upTo
  rw [List.range_succ, List.filter_append]
  congr 1
  cases h : S q <;> simp [h]

theorem mem_upTo {S : Nat → Bool} {q n : Nat} : n ∈ upTo S q ↔ n < q ∧ S n = true := by
  simp [upTo]

theorem upTo_congr {S T : Nat → Bool} : ∀ {q : Nat}, (∀ n, n < q → S n = T n) → upTo S q = upTo T q
  | 0, _ => rfl
  | q + 1, h => by rw [upTo_succ, upTo_succ, upTo_congr (fun n hn => h n (by omega)), h q (by omega)]

theorem upTo_len (S : Nat → Bool) : ∀ (q : Nat), (upTo S q).length ≤ q
  | 0 => by simp [upTo]
  | q + 1 => by
    have := upTo_len S q
    rw [upTo_succ, List.length_append]
    split <;> simp <;> omega

theorem upTo_prefix (S : Nat → Bool) (q : Nat) : ∀ d, upTo S q <+: upTo S (q + d)
  | 0 => List.prefix_refl _
  | d + 1 => by
    rw [← Nat.add_assoc, upTo_succ]
    exact (upTo_prefix S q d).trans (List.prefix_append _ _)

theorem upTo_mem {S : Nat → Bool} {q : Nat} (h : q ≤ 256) : upTo S q <+: mem S := by
  have := upTo_prefix S q (256 - q)
  have e : q + (256 - q) = 256 := by omega
  rw [e] at this
  exact this

/-- Where there is none from q up to r, nothing comes. -/
theorem upTo_skip {S : Nat → Bool} {q : Nat} : ∀ (d : Nat), (∀ n, q ≤ n → n < q + d → S n = false) → upTo S (q + d) = upTo S q
  | 0, _ => rfl
  | d + 1, h => by
    rw [← Nat.add_assoc, upTo_succ, h (q + d) (by omega) (by omega), upTo_skip d (fun n h1 h2 => h n h1 (by omega))]
    simp

end Go.Proofs.YtjeogbdeagkomaaDoor.Bset

/- What a set is as a value, and as cells; small facts on words as integers. -/
namespace Go.Proofs.YtjeogbdeagkomaaDoor
open Go.RowKit Bset

/-- A set's cells. -/
abbrev setC (S : Nat → Bool) : Array Value := #[.int .u64 (word S 0 : Nat), .int .u64 (word S 1 : Nat), .int .u64 (word S 2 : Nat), .int .u64 (word S 3 : Nat)]

/-- A set as a value. -/
abbrev setV (S : Nat → Bool) : Value := .agg (setC S)

theorem wrap_nat {m : Nat} (h : m < 18446744073709551616) : IntKind.u64.wrap ((m : Nat) : Int) = ((m : Nat) : Int) :=
  IntWalk.u64_in _ (by omega)

theorem bt_wrap (b : Nat) : IntKind.u64.wrap (2 ^ (b % 64)) = ((bt b : Nat) : Int) := by
  have h := bt_lt b
  have e : ((2 : Int) ^ (b % 64)) = ((bt b : Nat) : Int) := by simp [bt]
  rw [e]
  exact wrap_nat h

theorem bt_i (b : Nat) : IntKind.u64.wrap (1 * 2 ^ (b % 64)) = ((bt b : Nat) : Int) := by
  rw [Int.one_mul]
  exact bt_wrap b

/-- A contract of a function that leaves the world alone, turned. -/
theorem qeq {P : Program} {f : FuncId} {args : Array Value} {w : World} {v : Value} (h : Calls P f args w fun e w' => e = .returned v ∧ w = w') :
    Calls P f args w fun e w' => e = .returned v ∧ w' = w := h.mono fun _ _ h => ⟨h.1, h.2.symm⟩

theorem ret_of {a b : Value} (h : a = b) : Ending.returned a = .returned b := by rw [h]
theorem ret_bool {a b : Bool} (h : a = b) : Ending.returned (.bool a) = .returned (.bool b) := by rw [h]
theorem ret_int {k : IntKind} {a b : Int} (h : a = b) : Ending.returned (.int k a) = .returned (.int k b) := by rw [h]

theorem cellW (w : World) (S : Nat → Bool) (k : Nat) (hk : k < 4) (t : TypeId) :
    (w.alloc (.cells #[.int .u64 (word S 0 : Nat), .int .u64 (word S 1 : Nat), .int .u64 (word S 2 : Nat), .int .u64 (word S 3 : Nat)] t)).cell? ⟨w.heap.size, k, none⟩ = some (.int .u64 (word S k : Nat)) := by
  match k, hk with
  | 0, _ => simp
  | 1, _ => simp
  | 2, _ => simp
  | 3, _ => simp

theorem bcell {W w1 : World} (hb : Below W.heap.size W w1) : (∀ b o, b < W.heap.size → w1.cell? ⟨b, o, none⟩ = W.cell? ⟨b, o, none⟩) ∧ (∀ b o, b < W.heap.size → w1.frozen? ⟨b, o, none⟩ = W.frozen? ⟨b, o, none⟩) :=
  ⟨fun b o h => hb.cell (p := ⟨b, o, none⟩) h, fun b o h => hb.frozen (p := ⟨b, o, none⟩) h⟩

theorem bits_or' (a b : Nat) (ha : a < 18446744073709551616) (hb : b < 18446744073709551616) : bits .or .u64 (a : Int) (b : Int) = ((a ||| b : Nat) : Int) := bits_or_u64_nat a b ha hb
theorem bits_and' (a b : Nat) (ha : a < 18446744073709551616) (hb : b < 18446744073709551616) : bits .and .u64 (a : Int) (b : Int) = ((a &&& b : Nat) : Int) := bits_and_u64_nat a b ha hb

theorem has_bit (S : Nat → Bool) (b k : Nat) (hk : k = b / 64) : (bits .and .u64 (word S k : Nat) (bt b : Nat) != 0) = S b := by
  rw [bits_and' _ _ (word_lt _ _) (bt_lt _)]
  subst hk
  have h := word_has S b
  cases hs : S b with
  | true =>
    have := h.2 hs
    unfold bt
    rw [bne_iff_ne]
    omega
  | false =>
    have h' : ¬ (word S (b / 64) &&& 2 ^ (b % 64) ≠ 0) := fun x => by rw [h.1 x] at hs; cases hs
    have h0 : word S (b / 64) &&& 2 ^ (b % 64) = 0 := by
      by_cases e : word S (b / 64) &&& 2 ^ (b % 64) = 0
      · exact e
      · exact absurd e h'
    unfold bt
    rw [h0]
    rfl
theorem bdrewN {B n : Nat} {a w : World} (h : Below B a w) : Below B a (w.drewN n) := ⟨h.os, h.tape, h.output, h.size, h.block⟩

theorem or_w (S T : Nat → Bool) (k : Nat) : bits .or .u64 (word S k : Nat) (word T k : Nat) = (word (fun n => S n || T n) k : Nat) := by
  rw [bits_or' _ _ (word_lt _ _) (word_lt _ _), word_or]
theorem and_w (S T : Nat → Bool) (k : Nat) : bits .and .u64 (word S k : Nat) (word T k : Nat) = (word (fun n => S n && T n) k : Nat) := by
  rw [bits_and' _ _ (word_lt _ _) (word_lt _ _), word_and]
theorem minus_w (S T : Nat → Bool) (k : Nat) : bits .andNot .u64 (word S k : Nat) (word T k : Nat) = (word (fun n => S n && !T n) k : Nat) := by
  rw [u64_andNot_nat _ _ (word_lt _ _) (word_lt _ _), word_minus]
theorem not_w (S : Nat → Bool) (k : Nat) : bits .xor .u64 IntKind.u64.max (word S k : Nat) = (word (fun n => !S n) k : Nat) := by
  have h := word_lt S k
  have e : IntKind.u64.max = ((18446744073709551615 : Nat) : Int) := rfl
  have e2 : (2 : Nat) ^ 64 - 1 = 18446744073709551615 := by decide
  rw [e, bits_xor_u64_nat _ _ (by omega) h, ← word_not S k]
  congr 1
  apply Nat.eq_of_testBit_eq
  intro j
  have e3 : 18446744073709551615 - word S k = 2 ^ 64 - (word S k + 1) := by rw [two64]; omega
  rw [e3, Nat.testBit_two_pow_sub_succ (by rw [two64]; exact h), Nat.testBit_xor, ← e2, Nat.testBit_two_pow_sub_one, word_testBit]
  by_cases hj : j < 64 <;> simp [hj]
end Go.Proofs.YtjeogbdeagkomaaDoor

/- A block that is known whole; sets in such blocks. -/
namespace Go.Proofs.YtjeogbdeagkomaaDoor
open Go.RowKit Bset

/-- Block g is just these cells, none of them frozen. -/
def Cl (w : World) (g : Nat) (t : TypeId) (cs : Array Value) : Prop := w.heap[g]? = some (.cells cs t (0, 0))

section
variable {w w' : World} {g : Nat} {t : TypeId} {cs : Array Value}
theorem Cl.lt (h : Cl w g t cs) : g < w.heap.size := lt_of_block h
theorem Cl.cell (h : Cl w g t cs) (i : Nat) : w.cell? ⟨g, i, none⟩ = cs[i]? := by
  unfold Cl at h
  simp [World.cell?, h]
theorem Cl.free (h : Cl w g t cs) (i : Nat) : w.frozen? ⟨g, i, none⟩ = false := by
  unfold Cl at h
  simp [World.frozen?, h]
theorem Cl.new (w : World) (t : TypeId) (cs : Array Value) : Cl (w.alloc (.cells cs t)) w.heap.size t cs := heap_alloc_new w _
theorem Cl.new' {w : World} {g : Nat} (h : g = w.heap.size) (t : TypeId) (cs : Array Value) : Cl (w.alloc (.cells cs t)) g t cs := by
  subst h
  exact Cl.new w t cs
theorem Cl.drew (h : Cl w g t cs) : Cl w.drew g t cs := h
theorem Cl.drewN (h : Cl w g t cs) (n : Nat) : Cl (w.drewN n) g t cs := h
theorem Cl.alloc (h : Cl w g t cs) (o : Obj) : Cl (w.alloc o) g t cs := (Below.heap_alloc w o g h.lt).trans h
theorem Cl.put (h : Cl w g t cs) (i : Nat) (u : Value) : Cl (w.setCell ⟨g, i, none⟩ u) g t (cs.setIfInBounds i u) := by
  unfold Cl at h ⊢
  simp [World.setCell, Array.getElem?_modify, h]
theorem Cl.other (h : Cl w g t cs) {p : Addr} (hp : g ≠ p.block) (u : Value) : Cl (w.setCell p u) g t cs := (Below.heap_setCell w p u g hp).trans h
theorem Cl.below {B : Nat} (h : Cl w g t cs) (hb : Below B w w') (hg : g < B) : Cl w' g t cs := (hb.block g hg).trans h
end

/-- The cells of a set, by number. -/
theorem Cl.word {w : World} {g : Nat} {t : TypeId} {S : Nat → Bool} (h : Cl w g t (setC S)) (k : Nat) (hk : k < 4) : w.cell? ⟨g, k, none⟩ = some (.int .u64 (word S k : Nat)) := by
  rw [h.cell]
  match k, hk with
  | 0, _ => rfl
  | 1, _ => rfl
  | 2, _ => rfl
  | 3, _ => rfl

/-- What a store into a new set's cells needs. -/
theorem Cl.zero {w : World} {g : Nat} {t : TypeId} (h : Cl w g t #[.int .u64 0, .int .u64 0, .int .u64 0, .int .u64 0]) (k : Nat) (hk : k < 4) : w.cell? ⟨g, k, none⟩ = some (.int .u64 0) := by
  rw [h.cell]
  match k, hk with
  | 0, _ => rfl
  | 1, _ => rfl
  | 2, _ => rfl
  | 3, _ => rfl

theorem setC_congr {S T : Nat → Bool} (h : ∀ n, n < 256 → S n = T n) : setC S = setC T := by
  unfold setC
  rw [word_congr h (by omega : 0 < 4), word_congr h (by omega : 1 < 4), word_congr h (by omega : 2 < 4), word_congr h (by omega : 3 < 4)]

theorem setC_put (S : Nat → Bool) (b : Nat) (hb : b < 256) {v : Nat} (hv : v = word S (b / 64) ||| bt b) :
    (setC S).setIfInBounds (b / 64) (.int .u64 (v : Nat)) = setC (fun n => S n || n == b) := by
  subst hv
  have hk : b / 64 < 4 := by omega
  unfold bt
  rw [word_put S (b := b)]
  have ho : ∀ k, k ≠ b / 64 → word S k = word (fun n => S n || n == b) k := fun k h => word_put_other S h
  generalize hK : b / 64 = K at hk ho ⊢
  unfold setC
  match K, hk, ho with
  | 0, _, ho => simp [ho 1, ho 2, ho 3]
  | 1, _, ho => simp [ho 0, ho 2, ho 3]
  | 2, _, ho => simp [ho 0, ho 1, ho 3]
  | 3, _, ho => simp [ho 0, ho 1, ho 2]

theorem word_none (k : Nat) : word (fun _ => false) k = 0 := by
  refine (eq_word (by decide) (fun j _ => ?_)).symm
  simp

theorem setC_none : setC (fun _ => false) = #[.int .u64 0, .int .u64 0, .int .u64 0, .int .u64 0] := by
  unfold setC
  simp only [word_none]
  rfl

theorem setV_none : setV (fun _ => false) = .agg #[.int .u64 0, .int .u64 0, .int .u64 0, .int .u64 0] := congrArg Value.agg setC_none

theorem setV_congr {S T : Nat → Bool} (h : ∀ n, n < 256 → S n = T n) : setV S = setV T := congrArg Value.agg (setC_congr h)
end Go.Proofs.YtjeogbdeagkomaaDoor

/- The lowest bit of a word, and the word without it: how a set's bytes come one by one. Of no program. -/
import Derived.Test.YtkhokhmdiagckaaDoorOnes
namespace Go.Proofs.YtkhokhmdiagckaaDoor.Bset
open Go

/-- The set from q on. -/
def frm (S : Nat → Bool) (q : Nat) : Nat → Bool := fun n => S n && decide (q ≤ n)

theorem word_frm (S : Nat → Bool) (k : Nat) : word (frm S (64 * k)) k = word S k := by
  refine (eq_word (word_lt S k) (fun j hj => ?_)).symm
  rw [word_testBit]
  unfold frm
  have : 64 * k ≤ 64 * k + j := by omega
  simp [hj]

theorem frm_none {S : Nat → Bool} {q k : Nat} (h : word (frm S q) k = 0) (hq : q ≤ 64 * k + 64) (hq0 : 64 * k ≤ q) : upTo S (64 * k + 64) = upTo S q := by
  obtain ⟨d, hd⟩ : ∃ d, 64 * k + 64 = q + d := ⟨64 * k + 64 - q, by omega⟩
  rw [hd]
  refine upTo_skip d (fun n h1 h2 => ?_)
  have hb := word_testBit (frm S q) k (n - 64 * k)
  rw [h, Nat.zero_testBit] at hb
  have e : 64 * k + (n - 64 * k) = n := by omega
  have e2 : n - 64 * k < 64 := by omega
  rw [e] at hb
  unfold frm at hb
  simpa [e2, h1] using hb.symm

/-- The lowest bit of a word that is not 0. -/
theorem low_spec {S : Nat → Bool} {q k x : Nat} (hx : x = word (frm S q) k) (hq0 : 64 * k ≤ q) (h0 : x ≠ 0) :
    Lib.ctzFrom 64 x < 64 ∧ q ≤ 64 * k + Lib.ctzFrom 64 x ∧ upTo S (64 * k + Lib.ctzFrom 64 x + 1) = upTo S q ++ [64 * k + Lib.ctzFrom 64 x] ∧
      x &&& (x - 1) = word (frm S (64 * k + Lib.ctzFrom 64 x + 1)) k := by
  have hlt : x < 2 ^ 64 := by rw [hx, two64]; exact word_lt _ _
  obtain ⟨m, hm, ht⟩ := Lib.ctzFrom_spec 64 x (by omega) hlt
  generalize hT : Lib.ctzFrom 64 x = t at hm ht ⊢
  have hpos : 0 < 2 ^ t := Nat.pow_pos (by decide)
  have bit : ∀ j, j < 64 → x.testBit j = frm S q (64 * k + j) := by
    intro j hj
    rw [hx, word_testBit]
    simp [hj]
  have low : ∀ j, j < t → x.testBit j = false := by
    intro j hj
    rw [hm, Nat.mul_comm, Nat.testBit_mul_two_pow]
    have : ¬ t ≤ j := by omega
    simp [this]
  have at_ : x.testBit t = true := by
    rw [hm, Nat.mul_comm, Nat.testBit_mul_two_pow]
    simp [Nat.testBit_zero]
  have hS : S (64 * k + t) = true ∧ q ≤ 64 * k + t := by
    have := bit t ht
    rw [at_] at this
    unfold frm at this
    simpa using this.symm
  refine ⟨ht, hS.2, ?_, ?_⟩
  · rw [upTo_succ, hS.1, if_pos rfl]
    congr 1
    obtain ⟨d, hd⟩ : ∃ d, 64 * k + t = q + d := ⟨64 * k + t - q, by omega⟩
    rw [hd]
    refine upTo_skip d (fun n h1 h2 => ?_)
    have hb := bit (n - 64 * k) (by omega)
    rw [low _ (by omega)] at hb
    have e : 64 * k + (n - 64 * k) = n := by omega
    rw [e] at hb
    unfold frm at hb
    simpa [h1] using hb.symm
  · have e1 : x = 2 ^ (t + 1) * m + 2 ^ t := by
      rw [hm, Nat.mul_add, Nat.pow_succ, Nat.mul_one, Nat.mul_assoc]
    have e2 : x - 1 = 2 ^ (t + 1) * m + (2 ^ t - 1) := by omega
    have l1 : 2 ^ t < 2 ^ (t + 1) := Nat.pow_lt_pow_right (by decide) (by omega)
    have hand : x &&& (x - 1) = 2 ^ (t + 1) * m := by
      rw [e2]
      conv => lhs; lhs; rw [e1]
      rw [land_pow (t + 1) _ _ _ _ l1 (by omega), Nat.and_self, Nat.and_two_pow_sub_one_eq_mod, Nat.mod_self, Nat.add_zero]
    refine eq_word (Nat.lt_of_le_of_lt Nat.and_le_left (by rw [← two64]; exact hlt)) (fun j hj => ?_)
    rw [hand, Nat.mul_comm, Nat.testBit_mul_two_pow]
    have hb := bit j hj
    rw [e1] at hb
    unfold frm at hb ⊢
    by_cases hjt : t + 1 ≤ j
    · have e3 : (2 ^ (t + 1) * m + 2 ^ t).testBit j = m.testBit (j - (t + 1)) := by
        have e4 : (2 ^ (t + 1) * m + 2 ^ t) / 2 ^ (t + 1) = m := by
          rw [Nat.mul_add_div (Nat.pow_pos (by decide)), Nat.div_eq_of_lt l1, Nat.add_zero]
        have := Nat.testBit_div_two_pow (2 ^ (t + 1) * m + 2 ^ t) (i := j - (t + 1)) (n := t + 1)
        rw [e4] at this
        rw [this]
        congr 1
        omega
      rw [e3] at hb
      have g1 : q ≤ 64 * k + j := by omega
      have g2 : 64 * k + t + 1 ≤ 64 * k + j := by omega
      simp only [hjt, decide_true, Bool.true_and, hb, g1, g2]
    · have g2 : ¬ 64 * k + t + 1 ≤ 64 * k + j := by omega
      simp only [hjt, g2, decide_false, Bool.false_and, Bool.and_false]

end Go.Proofs.YtkhokhmdiagckaaDoor.Bset

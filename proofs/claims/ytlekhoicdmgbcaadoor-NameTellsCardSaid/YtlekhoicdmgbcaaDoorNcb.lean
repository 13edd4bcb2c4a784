/- How two texts stand: a row. -/
import Derived.Lib.Bytealg
namespace Go.Proofs.Nm
open Go

theorem cb_range : ∀ (a b : List UInt8), Lib.compareBytes a b = -1 ∨ Lib.compareBytes a b = 0 ∨ Lib.compareBytes a b = 1
  | [], [] => .inr (.inl rfl)
  | [], _ :: _ => .inl rfl
  | _ :: _, [] => .inr (.inr rfl)
  | x :: a, y :: b => by
    unfold Lib.compareBytes
    split
    · exact .inl rfl
    · split
      · exact .inr (.inr rfl)
      · exact cb_range a b

theorem cb_anti : ∀ (a b : List UInt8), Lib.compareBytes b a = -Lib.compareBytes a b
  | [], [] => rfl
  | [], _ :: _ => rfl
  | _ :: _, [] => rfl
  | x :: a, y :: b => by
    unfold Lib.compareBytes
    by_cases h1 : x < y
    · have h2 : ¬ y < x := by simp only [UInt8.lt_iff_toNat_lt] at *; omega
      simp [h1, h2]
    · by_cases h2 : y < x
      · simp [h1, h2]
      · simp only [h1, h2, if_false]
        exact cb_anti a b

theorem cb_zero : ∀ (a b : List UInt8), Lib.compareBytes a b = 0 ↔ a = b
  | [], [] => by simp [Lib.compareBytes]
  | [], _ :: _ => by simp [Lib.compareBytes]
  | _ :: _, [] => by simp [Lib.compareBytes]
  | x :: a, y :: b => by
    unfold Lib.compareBytes
    by_cases h1 : x < y
    · have : x ≠ y := by
        intro e
        subst e
        simp only [UInt8.lt_iff_toNat_lt] at h1
        omega
      simp [h1, this]
    · by_cases h2 : y < x
      · have : x ≠ y := by
          intro e
          subst e
          simp only [UInt8.lt_iff_toNat_lt] at h2
          omega
        simp [h1, h2, this]
      · have e : x = y := by
          apply UInt8.toNat_inj.1
          simp only [UInt8.lt_iff_toNat_lt] at h1 h2
          omega
        simp only [h1, h2, if_false]
        rw [cb_zero a b]
        simp [e]

/-- Where a stands ahead of b or at it, and b of c: so does a of c; ahead, if either is. -/
theorem cb_trans : ∀ (a b c : List UInt8), Lib.compareBytes a b ≤ 0 → Lib.compareBytes b c ≤ 0 → Lib.compareBytes a c ≤ 0 ∧ (Lib.compareBytes a b < 0 → Lib.compareBytes a c < 0)
  | [], [], [] => by simp [Lib.compareBytes]
  | [], [], _ :: _ => by simp [Lib.compareBytes]
  | [], _ :: _, [] => by simp [Lib.compareBytes]
  | [], _ :: _, _ :: _ => by simp [Lib.compareBytes]
  | _ :: _, [], _ => by simp [Lib.compareBytes]
  | _ :: _, _ :: _, [] => by simp [Lib.compareBytes]
  | x :: a, y :: b, z :: c => by
    have ih := cb_trans a b c
    simp only [Lib.compareBytes, UInt8.lt_iff_toNat_lt]
    by_cases h1 : x.toNat < y.toNat
    · by_cases h2 : y.toNat < z.toNat
      · have : x.toNat < z.toNat := by omega
        simp [h1, h2, this]
      · by_cases h3 : z.toNat < y.toNat
        · simp [h2, h3]
        · have : x.toNat < z.toNat := by omega
          simp [h1, h2, h3, this]
    · by_cases h1' : y.toNat < x.toNat
      · simp [h1, h1']
      · by_cases h2 : y.toNat < z.toNat
        · have : x.toNat < z.toNat := by omega
          simp [h1, h1', h2, this]
        · by_cases h3 : z.toNat < y.toNat
          · simp [h2, h3]
          · have g1 : ¬ x.toNat < z.toNat := by omega
            have g2 : ¬ z.toNat < x.toNat := by omega
            simpa [h1, h1', h2, h3, g1, g2] using ih

end Go.Proofs.Nm

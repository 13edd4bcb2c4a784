/- How sets stand: laws of Compare, Subset, Meets. Of no program. -/
import Derived.Lib.Bytealg
import Derived.Test.YtgekfdmamingjaaDoorCmp
namespace Go.Proofs.YtgekfdmamingjaaDoor
open Go Bset

theorem cb_range : ∀ (a b : List UInt8), Lib.compareBytes a b = -1 ∨ Lib.compareBytes a b = 0 ∨ Lib.compareBytes a b = 1
  | [], [] => .inr (.inl rfl)
  | [], _ :: _ => .inl rfl
  | _ :: _, [] => .inr (.inr rfl)
  | x :: a, y :: b => by
    unfold Lib.compareBytes
    split
    · exact .inl rfl
    · split
      · exact .inr (.inr rfl)
      · exact cb_range a b

theorem cb_anti : ∀ (a b : List UInt8), Lib.compareBytes b a = -Lib.compareBytes a b
  | [], [] => rfl
  | [], _ :: _ => rfl
  | _ :: _, [] => rfl
  | x :: a, y :: b => by
    unfold Lib.compareBytes
    by_cases h1 : x < y
    · have h2 : ¬ y < x := by simp only [UInt8.lt_iff_toNat_lt] at *; omega
      simp [h1, h2]
    · by_cases h2 : y < x
      · simp [h1, h2]
      · simp only [h1, h2, if_false]
        exact cb_anti a b

theorem cb_zero : ∀ (a b : List UInt8), Lib.compareBytes a b = 0 ↔ a = b
  | [], [] => by simp [Lib.compareBytes]
  | [], _ :: _ => by simp [Lib.compareBytes]
  | _ :: _, [] => by simp [Lib.compareBytes]
  | x :: a, y :: b => by
    unfold Lib.compareBytes
    by_cases h1 : x < y
    · have : x ≠ y := by
        intro e
        subst e
        simp only [UInt8.lt_iff_toNat_lt] at h1
        omega
      simp [h1, this]
    · by_cases h2 : y < x
      · have : x ≠ y := by
          intro e
          subst e
          simp only [UInt8.lt_iff_toNat_lt] at h2
          omega
        simp [h1, h2, this]
      · have e : x = y := by
          apply UInt8.toNat_inj.1
          simp only [UInt8.lt_iff_toNat_lt] at h1 h2
          omega
        simp only [h1, h2, if_false]
        rw [cb_zero a b]
        simp [e]

/-- Where a stands ahead of b or at it, and b of c: so does a of c; ahead, if either is. -/
theorem cb_trans : ∀ (a b c : List UInt8), Lib.compareBytes a b ≤ 0 → Lib.compareBytes b c ≤ 0 → Lib.compareBytes a c ≤ 0 ∧ (Lib.compareBytes a b < 0 → Lib.compareBytes a c < 0)
  | [], [], [] => by simp [Lib.compareBytes]
  | [], [], _ :: _ => by simp [Lib.compareBytes]
  | [], _ :: _, [] => by simp [Lib.compareBytes]
  | [], _ :: _, _ :: _ => by simp [Lib.compareBytes]
  | _ :: _, [], _ => by simp [Lib.compareBytes]
  | _ :: _, _ :: _, [] => by simp [Lib.compareBytes]
  | x :: a, y :: b, z :: c => by
    have ih := cb_trans a b c
    simp only [Lib.compareBytes, UInt8.lt_iff_toNat_lt]
    by_cases h1 : x.toNat < y.toNat
    · by_cases h2 : y.toNat < z.toNat
      · have : x.toNat < z.toNat := by omega
        simp [h1, h2, this]
      · by_cases h3 : z.toNat < y.toNat
        · simp [h2, h3]
        · have : x.toNat < z.toNat := by omega
          simp [h1, h2, h3, this]
    · by_cases h1' : y.toNat < x.toNat
      · simp [h1, h1']
      · by_cases h2 : y.toNat < z.toNat
        · have : x.toNat < z.toNat := by omega
          simp [h1, h1', h2, this]
        · by_cases h3 : z.toNat < y.toNat
          · simp [h2, h3]
          · have g1 : ¬ x.toNat < z.toNat := by omega
            have g2 : ¬ z.toNat < x.toNat := by omega
            simpa [h1, h1', h2, h3, g1, g2] using ih

theorem bytesOf_inj {S T : Nat → Bool} : bytesOf S = bytesOf T ↔ sameS S T = true := by
  constructor
  · intro h
    rw [sameS_iff]
    have hm : mem S = mem T := by
      have hl : (mem S).length = (mem T).length := by simpa [bytesOf] using congrArg List.length h
      apply List.ext_getElem hl
      intro i h1 h2
      have hi : (bytesOf S)[i]? = (bytesOf T)[i]? := by rw [h]
      unfold bytesOf at hi
      rw [List.getElem?_map, List.getElem?_map, List.getElem?_eq_getElem h1, List.getElem?_eq_getElem h2] at hi
      have l1 : (mem S)[i] < 256 := (mem_upTo.1 (List.getElem_mem h1)).1
      have l2 : (mem T)[i] < 256 := (mem_upTo.1 (List.getElem_mem h2)).1
      have e : UInt8.ofNat (mem S)[i] = UInt8.ofNat (mem T)[i] := by simpa using hi
      have e2 := congrArg UInt8.toNat e
      rw [UInt8.toNat_ofNat', UInt8.toNat_ofNat', Nat.mod_eq_of_lt l1, Nat.mod_eq_of_lt l2] at e2
      exact e2
    intro n hn
    have h1 : n ∈ mem S ↔ n ∈ mem T := by rw [hm]
    unfold mem at h1
    rw [mem_upTo, mem_upTo] at h1
    cases hs : S n <;> cases ht : T n <;> simp_all
  · intro h
    unfold bytesOf mem
    rw [upTo_congr (sameS_iff.1 h)]

theorem sameS_comm (S T : Nat → Bool) : sameS S T = sameS T S := by
  rw [Bool.eq_iff_iff, sameS_iff, sameS_iff]
  exact ⟨fun h n hn => (h n hn).symm, fun h n hn => (h n hn).symm⟩

theorem cmpS_eq (S T : Nat → Bool) : cmpS S T = Lib.compareBytes (bytesOf S) (bytesOf T) := by
  unfold cmpS
  split
  · rename_i h
    exact ((cb_zero _ _).2 (bytesOf_inj.2 h)).symm
  · rfl

theorem cmpS_range (S T : Nat → Bool) : cmpS S T = -1 ∨ cmpS S T = 0 ∨ cmpS S T = 1 := by
  rw [cmpS_eq]
  exact cb_range _ _

theorem cmpS_anti (S T : Nat → Bool) : cmpS T S = -cmpS S T := by
  rw [cmpS_eq, cmpS_eq]
  exact cb_anti _ _

theorem cmpS_zero (S T : Nat → Bool) : cmpS S T = 0 ↔ sameS S T = true := by
  rw [cmpS_eq, cb_zero, bytesOf_inj]

theorem cmpS_trans (S T U : Nat → Bool) (h1 : cmpS S T ≤ 0) (h2 : cmpS T U ≤ 0) : cmpS S U ≤ 0 ∧ (cmpS S T < 0 → cmpS S U < 0) := by
  rw [cmpS_eq] at *
  rw [cmpS_eq]
  exact cb_trans _ _ _ h1 h2

theorem subS_or (S T : Nat → Bool) : sameS (fun n => S n || T n) T = subS S T := by
  unfold subS
  rw [Bool.eq_iff_iff, sameS_iff, sameS_iff]
  constructor <;>
  · intro h n hn
    have := h n hn
    cases hs : S n <;> cases ht : T n <;> simp_all

theorem subS_and (S T : Nat → Bool) : subS (fun n => S n && T n) S = true := by
  unfold subS
  rw [sameS_iff]
  intro n _
  show _ = _
  cases hs : S n <;> cases ht : T n <;> simp [hs, ht]

theorem subS_self_or (S T : Nat → Bool) : subS S (fun n => S n || T n) = true := by
  unfold subS
  rw [sameS_iff]
  intro n _
  show _ = _
  cases hs : S n <;> cases ht : T n <;> simp [hs, ht]
end Go.Proofs.YtgekfdmamingjaaDoor

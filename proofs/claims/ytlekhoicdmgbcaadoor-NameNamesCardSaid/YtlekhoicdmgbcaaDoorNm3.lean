/- Numbers' texts, there and back. Plain Lean; no program. -/
import Derived.Test.YtlekhoicdmgbcaaDoorNm
namespace Go.Proofs.Nm
open Go Go.RowKit

theorem head_app (l m : List UInt8) (h : l ≠ []) : (l ++ m).head? = l.head? := by
  cases l with
  | nil => exact absurd rfl h
  | cons _ _ => rfl
theorem dig_byte (d : Nat) (h : d < 10) : (UInt8.ofNat (48 + d)).toNat = 48 + d := by
  rw [UInt8.toNat_ofNat', Nat.mod_eq_of_lt]
  omega
theorem val_snoc (l : List UInt8) (b : UInt8) : val (l ++ [b]) = 10 * val l + (b.toNat - 48) := by
  unfold val
  rw [List.foldl_append]
  rfl
theorem digs_snoc (l : List UInt8) (b : UInt8) : digs (l ++ [b]) = (digs l && isDig b.toNat) := by
  unfold digs
  rw [List.all_append]
  simp
theorem dec_big {u : Nat} (h : ¬ u < 10) : Lib.decDigits u = Lib.decDigits (u / 10) ++ [UInt8.ofNat (48 + u % 10)] := by
  rw [Lib.decDigits, dif_neg h]

theorem dec_spec (u : Nat) : val (Lib.decDigits u) = u ∧ digs (Lib.decDigits u) = true ∧ Lib.decDigits u ≠ [] ∧ ((Lib.decDigits u).head? = some 48 → u = 0) := by
  induction u using Nat.strongRecOn with
  | _ u ih =>
    by_cases h : u < 10
    · rw [Lib.decDigits_one h]
      have hb := dig_byte u h
      refine ⟨?_, ?_, by simp, ?_⟩
      · show 10 * 0 + ((UInt8.ofNat (48 + u)).toNat - 48) = u
        rw [hb]
        omega
      · show (isDig (UInt8.ofNat (48 + u)).toNat && true) = true
        rw [hb, Bool.and_true, isDig_iff]
        omega
      · intro e
        have e2 : UInt8.ofNat (48 + u) = 48 := by simpa using e
        have := congrArg UInt8.toNat e2
        rw [hb] at this
        have e48 : (48 : UInt8).toNat = 48 := rfl
        omega
    · obtain ⟨i1, i2, i3, i4⟩ := ih (u / 10) (by omega)
      have hb := dig_byte (u % 10) (by omega)
      rw [dec_big h]
      refine ⟨?_, ?_, by simp, ?_⟩
      · rw [val_snoc, i1, hb]
        omega
      · rw [digs_snoc, i2, hb, Bool.true_and, isDig_iff]
        omega
      · intro e
        rw [head_app _ _ i3] at e
        have := i4 e
        omega

theorem form_iff (l : List UInt8) : form l = true ↔ l ≠ [] ∧ digs l = true ∧ (l.head? = some 48 → l.length ≤ 1) := by
  cases l with
  | nil => simp [form]
  | cons b r =>
    rw [form_cons]
    unfold digs
    have e : b.toNat = 48 ↔ b = 48 := by
      constructor
      · intro h
        exact UInt8.toNat_inj.1 h
      · rintro rfl
        rfl
    cases hr : r with
    | nil => simp
    | cons c r' =>
      simp only [e, List.isEmpty_cons, Bool.not_false, Bool.and_true, List.head?_cons, Option.some.injEq, List.length_cons]
      by_cases k : b = 48
      · simp [k]
      · simp [k]

theorem form_dec (u : Nat) : form (Lib.decDigits u) = true := by
  obtain ⟨_, h2, h3, h4⟩ := dec_spec u
  rw [form_iff]
  refine ⟨h3, h2, fun h => ?_⟩
  rw [h4 h, Lib.decDigits_one (by omega)]
  simp

theorem dec_val (n : Nat) : ∀ l : List UInt8, l.length = n → form l = true → Lib.decDigits (val l) = l := by
  induction n with
  | zero =>
    intro l hl hf
    obtain rfl : l = [] := List.eq_nil_of_length_eq_zero hl
    cases hf
  | succ n ih =>
    intro l hl hf
    obtain ⟨h1, h2, h3⟩ := (form_iff l).1 hf
    obtain ⟨r, b, rfl⟩ : ∃ r b, l = r ++ [b] := ⟨l.dropLast, l.getLast h1, (List.dropLast_concat_getLast h1).symm⟩
    rw [List.length_append, List.length_singleton] at hl h3
    rw [digs_snoc, Bool.and_eq_true] at h2
    obtain ⟨hd, hb⟩ := h2
    obtain ⟨b0, b1⟩ := isDig_iff.1 hb
    have hbb : UInt8.ofNat (48 + (b.toNat - 48)) = b := by
      apply UInt8.toNat_inj.1
      rw [dig_byte _ (by omega)]
      omega
    rw [val_snoc]
    by_cases hr : r = []
    · subst hr
      have e : 10 * val [] + (b.toNat - 48) = b.toNat - 48 := by
        show 10 * 0 + (b.toNat - 48) = _
        omega
      rw [e, Lib.decDigits_one (by omega), hbb]
      rfl
    · have hh : (r ++ [b]).head? = r.head? := head_app _ _ hr
      rw [hh] at h3
      have hrl : 1 ≤ r.length := by
        rcases Nat.eq_zero_or_pos r.length with h | h
        · exact absurd (List.eq_nil_of_length_eq_zero h) hr
        · exact h
      have hh48 : r.head? ≠ some 48 := fun h => by have := h3 h; omega
      have ihr := ih r (by omega) ((form_iff r).2 ⟨hr, hd, fun h => absurd h hh48⟩)
      have hv : val r ≠ 0 := by
        intro h0
        rw [h0] at ihr
        apply hh48
        rw [← ihr, Lib.decDigits_one (by omega)]
        rfl
      rw [dec_big (by omega), show (10 * val r + (b.toNat - 48)) / 10 = val r by omega, show (10 * val r + (b.toNat - 48)) % 10 = b.toNat - 48 by omega, ihr, hbb]

/-! ### What NameBack asks -/
theorem back_pos (n most : Int) (h : 0 ≤ n) : numV (showB n).data.toList most = (if n ≤ most then n else 0) ∧ numE (showB n).data.toList most = (if n ≤ most then 0 else 40) := by
  obtain ⟨u, rfl⟩ : ∃ u : Nat, n = u := ⟨n.toNat, by omega⟩
  have e : (showB (u : Int)).data.toList = Lib.decDigits u := by
    unfold showB
    rw [Lib.itoa_nonneg]
  have hf : fits (Lib.decDigits u) most = decide ((u : Int) ≤ most) := by
    unfold fits
    rw [(dec_spec u).1]
    by_cases c : (u : Int) ≤ most
    · simp [c]
      omega
    · simp [c]
  rw [e]
  unfold numV numE
  rw [form_dec, hf, (dec_spec u).1]
  by_cases c : (u : Int) ≤ most <;> simp [c]
theorem back_neg (n most : Int) (h : n < 0) : numV (showB n).data.toList most = 0 ∧ numE (showB n).data.toList most = 4 := by
  have hf : form (showB n).data.toList = false := by
    unfold showB Lib.itoa
    rw [if_pos h, form_cons]
    simp [isDig]
  unfold numV numE
  rw [hf]
  simp
theorem back_read (s : ByteArray) (most : Int) : (numE s.data.toList most ≠ 0 ∧ numV s.data.toList most = 0) ∨
    (numE s.data.toList most = 0 ∧ showB (numV s.data.toList most) = s ∧ 0 ≤ numV s.data.toList most ∧ numV s.data.toList most ≤ most) := by
  unfold numV numE
  cases hf : form s.data.toList with
  | false => simp
  | true =>
    cases hg : fits s.data.toList most with
    | false => simp
    | true =>
      obtain ⟨g0, g1⟩ := fits_yes hg
      right
      simp only [Bool.and_self, if_true]
      refine ⟨trivial, ?_, by omega, g1⟩
      unfold showB
      rw [Lib.itoa_nonneg, dec_val _ _ rfl hf]

theorem fits_all (s : ByteArray) (most : Int) : ∀ d n, s.size - n = d → fits (s.data.toList.take n) most = false → fits s.data.toList most = false
  | 0, n, h, hf => by
    rw [List.take_of_length_le (by simp; omega)] at hf
    exact hf
  | d + 1, n, h, hf => fits_all s most d (n + 1) (by omega) (fits_no s n most (by omega) hf)
end Go.Proofs.Nm

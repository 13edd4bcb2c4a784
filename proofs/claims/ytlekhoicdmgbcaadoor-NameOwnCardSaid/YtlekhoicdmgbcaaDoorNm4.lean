/- What is free. Plain Lean; no program. -/
import Derived.Test.YtlekhoicdmgbcaaDoorNm3
namespace Go.Proofs.Nm
open Go Go.RowKit

theorem nodup_le : ∀ (l us : List (List UInt8)), l.Nodup → (∀ x ∈ l, x ∈ us) → l.length ≤ us.length
  | [], _, _, _ => Nat.zero_le _
  | x :: l, us, hn, hs => by
    obtain ⟨h1, h2⟩ := List.nodup_cons.1 hn
    have hx := hs x (by simp)
    have h3 := nodup_le l (us.erase x) h2 (fun y hy => by
      have hne : y ≠ x := fun e => h1 (e ▸ hy)
      exact (List.mem_erase_of_ne hne).2 (hs y (by simp [hy])))
    rw [List.length_erase_of_mem hx] at h3
    have hp : 0 < us.length := List.length_pos_of_mem hx
    rw [List.length_cons]
    omega

theorem run_app (l : List UInt8) (b : UInt8) (h : run l = l.length) (hb : (isLet b.toNat || isDig b.toNat) = true) : run (l ++ [b]) = l.length + 1 := by
  induction l with
  | nil =>
    show run [b] = 1
    rw [run_cons, if_pos hb]
    rfl
  | cons c l ih =>
    rw [run_cons, List.length_cons] at h
    rw [List.cons_append, run_cons, List.length_cons]
    by_cases k : (isLet c.toNat || isDig c.toNat) = true
    · rw [if_pos k] at h ⊢
      rw [ih (by omega)]
    · rw [if_neg k] at h
      omega
theorem taken_app (l : List UInt8) (b : UInt8) (h0 : l ≠ []) (h : taken l = l.length) (hb : isDig b.toNat = true) : taken (l ++ [b]) = l.length + 1 := by
  cases l with
  | nil => exact absurd rfl h0
  | cons c l =>
    rw [taken_cons, List.length_cons] at h
    rw [List.cons_append, taken_cons, List.length_cons]
    by_cases k : isLet c.toNat = true
    · rw [if_pos k] at h ⊢
      rw [run_app l b (by omega) (by simp [hb])]
    · rw [if_neg k] at h
      omega

theorem cand_list (stem : ByteArray) (k : Nat) (hk : 1 ≤ k) (h : k ≤ 8) : (cand stem k).data.toList = stem.data.toList ++ [UInt8.ofNat (48 + (k + 1))] := by
  have e : wrap64 ((k : Int) + 1) = ((k + 1 : Nat) : Int) := by
    unfold wrap64
    omega
  have e2 : (showB (wrap64 ((k : Int) + 1))).data.toList = [UInt8.ofNat (48 + (k + 1))] := by
    rw [e]
    unfold showB
    rw [Lib.itoa_nonneg, Lib.decDigits_one (by omega)]
  unfold cand
  rw [if_neg (by omega), ByteArray.data_append, Array.toList_append, e2]
theorem cand_may (stem : ByteArray) (k : Nat) (h : k ≤ 8) (hm : mayB stem = true) (hs : stem.size ≤ 28) : mayB (cand stem k) = true := by
  by_cases hk : k = 0
  · subst hk
    exact hm
  · have e := cand_list stem k (by omega) h
    have hd := dig_byte (k + 1) (by omega)
    unfold mayB at hm
    simp only [Bool.and_eq_true, decide_eq_true_iff] at hm
    obtain ⟨m0, _, m2⟩ := hm
    have hz : stem.data.toList.length = stem.size := by simp
    have hsz : (cand stem k).size = stem.size + 1 := by
      have := congrArg List.length e
      simpa using this
    have h0 : stem.data.toList ≠ [] := by
      intro h0
      rw [h0] at hz
      exact m0 hz.symm
    have ht := taken_app stem.data.toList (UInt8.ofNat (48 + (k + 1))) h0 (by omega) (by rw [hd, isDig_iff]; omega)
    rw [← e] at ht
    unfold mayB
    simp only [Bool.and_eq_true, decide_eq_true_iff]
    exact ⟨by omega, by omega, by omega⟩

/-- None is free: the stem is no name, or a long one, or more than three are used. -/
theorem own_none {stem : ByteArray} {us : List ByteArray} (h : FreeAns stem us ⟨#[]⟩) (hm : mayB stem = true) (hs : stem.size ≤ 28) : 3 < us.length := by
  obtain ⟨k, h1, h2⟩ := h
  have hk : mayB (cand stem k) = false := by
    rcases h2 with ⟨e, a, _⟩ | ⟨_, a⟩
    · rw [← e] at a
      cases a
    · exact a
  have hk9 : 8 < k := by
    rcases Nat.lt_or_ge 8 k with c | c
    · exact c
    · rw [cand_may stem k c hm hs] at hk
      cases hk
  have hmem : ∀ j, j < 4 → (cand stem j).data.toList ∈ us.map (fun u => u.data.toList) := fun j hj => List.mem_map.2 ⟨_, (h1 j (by omega)).2, rfl⟩
  have e1 := cand_list stem 1 (by omega) (by omega)
  have e2 := cand_list stem 2 (by omega) (by omega)
  have e3 := cand_list stem 3 (by omega) (by omega)
  have m0 := hmem 0 (by omega)
  have m1 := hmem 1 (by omega)
  have m2 := hmem 2 (by omega)
  have m3 := hmem 3 (by omega)
  rw [cand_zero] at m0
  rw [e1] at m1
  rw [e2] at m2
  rw [e3] at m3
  have := nodup_le [stem.data.toList, stem.data.toList ++ [UInt8.ofNat (48 + (1 + 1))], stem.data.toList ++ [UInt8.ofNat (48 + (2 + 1))], stem.data.toList ++ [UInt8.ofNat (48 + (3 + 1))]] (us.map fun u => u.data.toList)
    (by
      have hne : ∀ x : UInt8, ¬ stem.data.toList = stem.data.toList ++ [x] := fun x e => by
        have := congrArg List.length e
        simp at this
      have d1 : ¬ UInt8.ofNat (48 + (1 + 1)) = UInt8.ofNat (48 + (2 + 1)) := by decide
      have d2 : ¬ UInt8.ofNat (48 + (1 + 1)) = UInt8.ofNat (48 + (3 + 1)) := by decide
      have d3 : ¬ UInt8.ofNat (48 + (2 + 1)) = UInt8.ofNat (48 + (3 + 1)) := by decide
      simp only [List.nodup_cons, List.mem_cons, List.not_mem_nil, or_false, not_or, List.append_cancel_left_eq, List.cons.injEq, and_true, not_false_eq_true, List.nodup_nil]
      exact ⟨⟨hne _, hne _, hne _⟩, ⟨d1, d2⟩, d3⟩)
    (by
      intro x hx
      simp only [List.mem_cons, List.not_mem_nil, or_false] at hx
      rcases hx with rfl | rfl | rfl | rfl
      · exact m0
      · exact m1
      · exact m2
      · exact m3)
  rw [List.length_map] at this
  exact this

/-- One is free: a name, not used, that the stem begins. -/
theorem own_some {stem : ByteArray} {us : List ByteArray} {r : ByteArray} (h : FreeAns stem us r) (hr : r ≠ ⟨#[]⟩) : mayB r = true ∧ r ∉ us ∧ stem.size ≤ r.size ∧ r.extract 0 stem.size = stem := by
  obtain ⟨k, _, h2⟩ := h
  rcases h2 with ⟨rfl, a, b⟩ | ⟨e, _⟩
  · refine ⟨a, b, ?_, ?_⟩
    · unfold cand
      split
      · omega
      · rw [ByteArray.size_append]
        omega
    · apply ByteArray.ext
      apply Array.toList_inj.1
      rw [ByteArray.data_extract]
      unfold cand
      have hle : stem.data.toList.length ≤ stem.size := by simp
      split
      · simp [List.take_of_length_le hle]
      · simp [List.take_of_length_le hle]
  · exact absurd e hr
theorem next_ne {stem : ByteArray} {us : List ByteArray} {r r2 : ByteArray} (hr : r ≠ ⟨#[]⟩) (h : FreeAns stem (us ++ [r]) r2) : r2 ≠ r := by
  intro e
  subst e
  exact (own_some h hr).2.1 (by simp)
end Go.Proofs.Nm

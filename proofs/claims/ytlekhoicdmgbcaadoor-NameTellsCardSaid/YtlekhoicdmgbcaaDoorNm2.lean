/- What is taken of a text. Plain Lean; no program. -/
import Derived.Test.YtlekhoicdmgbcaaDoorNm
namespace Go.Proofs.Nm
open Go Go.RowKit

theorem run_stop : ∀ (l : List UInt8) (b : UInt8), l[run l]? = some b → isLet b.toNat = false ∧ isDig b.toNat = false
  | [], b, h => by simp at h
  | c :: l, b, h => by
    rw [run_cons] at h
    by_cases k : (isLet c.toNat || isDig c.toNat) = true
    · rw [if_pos k, List.getElem?_cons_succ] at h
      exact run_stop l b h
    · rw [if_neg k, List.getElem?_cons_zero] at h
      obtain rfl := Option.some.inj h
      simpa using k
theorem taken_stop (l : List UInt8) (b : UInt8) (h : l[taken l]? = some b) : isLet b.toNat = false ∧ (0 < taken l → isDig b.toNat = false) := by
  cases l with
  | nil => simp at h
  | cons c l =>
    rw [taken_cons] at h ⊢
    by_cases k : isLet c.toNat = true
    · rw [if_pos k, List.getElem?_cons_succ] at h
      exact ⟨(run_stop l b h).1, fun _ => (run_stop l b h).2⟩
    · rw [if_neg k, List.getElem?_cons_zero] at h
      obtain rfl := Option.some.inj h
      rw [if_neg k]
      exact ⟨by simpa using k, fun h => by omega⟩
theorem run_take : ∀ l : List UInt8, run (l.take (run l)) = run l
  | [] => rfl
  | c :: l => by
    rw [run_cons]
    by_cases k : (isLet c.toNat || isDig c.toNat) = true
    · rw [if_pos k, List.take_succ_cons, run_cons, if_pos k, run_take l]
    · rw [if_neg k]
      rfl
theorem taken_take (l : List UInt8) : taken (l.take (taken l)) = taken l := by
  cases l with
  | nil => rfl
  | cons c l =>
    rw [taken_cons]
    by_cases k : isLet c.toNat = true
    · rw [if_pos k, List.take_succ_cons, taken_cons, if_pos k, run_take l]
    · rw [if_neg k]
      rfl
theorem extract_list (s : ByteArray) (n : Nat) : (s.extract 0 n).data.toList = s.data.toList.take n := by
  rw [ByteArray.data_extract]
  simp
theorem may_take (s : ByteArray) : mayB (s.extract 0 (taken s.data.toList)) = (decide (taken s.data.toList ≠ 0) && decide (taken s.data.toList ≤ 32)) := by
  have hle := taken_le s.data.toList
  have hz : (s.extract 0 (taken s.data.toList)).size = taken s.data.toList := by
    rw [ByteArray.size_extract]
    simp at hle
    omega
  unfold mayB
  rw [hz, extract_list, taken_take]
  simp
end Go.Proofs.Nm

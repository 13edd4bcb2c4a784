/- The nine bytes that bonsailaw01.SetNames asks of. -/
import Derived.Test.YtgekfdmamingjaaDoorSetTells
namespace Go.Proofs.YtgekfdmamingjaaDoor
open Go.RowKit Bset

def nL : List Nat := [0, 1, 63, 64, 127, 128, 191, 192, 255]
def ofOne (n : Nat) : Nat → Bool := ofT [UInt8.ofNat n]
def wantS (n : Nat) : Nat → Bool := fun m => (fun _ => false) m || m == n
theorem names_of : ∀ n ∈ nL, n < 256 ∧ sameS (rangeS n n) (ofOne n) = true ∧ sameS (rangeS n n) (wantS n) = true ∧ rangeS n n n = true ∧ (mem (rangeS n n)).length = 1 ∧ onlyOf (rangeS n n) = (n, true) ∧ (mem (notS (rangeS n n))).length = 255 ∧ notS (rangeS n n) n = false ∧ runsOf (rangeS n n) = [(n, n)] := by decide +kernel
abbrev nA : Array Value := #[.int .i64 0, .int .i64 1, .int .i64 63, .int .i64 64, .int .i64 127, .int .i64 128, .int .i64 191, .int .i64 192, .int .i64 255]
theorem names_at : ∀ k, k < 9 → ∃ n : Nat, n ∈ nL ∧ nA[k]? = some (.int .i64 (n : Nat))
  | 0, _ => ⟨0, by decide, rfl⟩
  | 1, _ => ⟨1, by decide, rfl⟩
  | 2, _ => ⟨63, by decide, rfl⟩
  | 3, _ => ⟨64, by decide, rfl⟩
  | 4, _ => ⟨127, by decide, rfl⟩
  | 5, _ => ⟨128, by decide, rfl⟩
  | 6, _ => ⟨191, by decide, rfl⟩
  | 7, _ => ⟨192, by decide, rfl⟩
  | 8, _ => ⟨255, by decide, rfl⟩
theorem of_one (n : Nat) (w : World) : Calls Tryd.prog 12 #[.string ⟨#[UInt8.ofNat n]⟩] w fun e w' => e = .returned (setV (ofOne n)) ∧ Below w.heap.size w w' :=
  of_any ⟨#[UInt8.ofNat n]⟩ (show 1 ≤ maxLen by decide) w
theorem only_L {w W : World} (S : Nat → Bool) (h : Lies w W) : Calls Tryd.prog 11 #[setV S] W fun e w' => e = .returned (.tuple #[.int .u8 (onlyOf S).1, .bool (onlyOf S).2]) ∧ Below W.heap.size W w' := only_any S W h.tab h.pos
theorem want_C (n : Nat) (hn : n < 256) : ([Value.int .u64 0, .int .u64 0, .int .u64 0, .int .u64 0].set (n / 64) (.int .u64 (bt n : Nat))).toArray = setC (wantS n) := by
  have h := setC_put (fun _ => false) n hn (v := bt n) (by
    have e := word_or (fun _ => false) (fun _ => false) (n / 64)
    have z : word (fun _ => false) (n / 64) = 0 := by
      refine (eq_word (k := n / 64) (S := fun _ => false) (n := 0) (by decide) (fun j _ => by simp)).symm
    rw [z, Nat.zero_or])
  rw [setC_none] at h
  rw [← List.setIfInBounds_toArray]
  exact h
theorem conv_one (n : Nat) (hn : n < 256) (w : World) (g : Nat) (hg : g = w.heap.size) :
    (convert 32 9 (.slice (some ⟨g, 0, none⟩) 1 1)).run Tryd.prog (w.alloc (.cells #[.int .u8 n] 5)) = .ok (.string ⟨#[UInt8.ofNat n]⟩) (w.alloc (.cells #[.int .u8 n] 5)) := by
  subst hg
  have hb : (UInt8.ofNat n).toNat = n := by rw [UInt8.toNat_ofNat']; exact Nat.mod_eq_of_lt hn
  refine run_convert_bytes_back _ _ _ _ _ 1 [UInt8.ofNat n] Tryd.underlying32 Tryd.underlying5 Tryd.underlying9 (fun j hj => ?_)
  match j, hj with
  | 0, _ =>
    simp only [List.getElem_cons_zero, hb]
    simp [Addr.add]
theorem conv_one_drew (n : Nat) (hn : n < 256) (w : World) (g : Nat) (hg : g = w.heap.size) :
    (convert 32 9 (.slice (some ⟨g, 0, none⟩) 1 1)).run Tryd.prog (w.alloc (.cells #[.int .u8 n] 5)).drew = .ok (.string ⟨#[UInt8.ofNat n]⟩) (w.alloc (.cells #[.int .u8 n] 5)).drew := by
  subst hg
  have hb : (UInt8.ofNat n).toNat = n := by rw [UInt8.toNat_ofNat']; exact Nat.mod_eq_of_lt hn
  refine run_convert_bytes_back _ _ _ _ _ 1 [UInt8.ofNat n] Tryd.underlying32 Tryd.underlying5 Tryd.underlying9 (fun j hj => ?_)
  match j, hj with
  | 0, _ =>
    simp only [List.getElem_cons_zero, hb]
    simp [Addr.add]
theorem runs_L {w W : World} (S : Nat → Bool) (h : Lies w W) : Calls Tryd.prog 16 #[setV S] W fun e w' => ∃ v, e = .returned v ∧ w'.ownsRow W.heap.size 40 2 v (runsOf S).length (runC (runsOf S)) ∧ Below W.heap.size W w' :=
  (runs_any S W h.tab h.pos).mono fun _ _ ⟨v, e1, e2, _, e3⟩ => ⟨v, e1, e2, e3⟩

abbrev noS : Nat → Bool := fun _ => false
abbrev allS : Nat → Bool := fun _ => true
abbrev zV : Value := .agg #[.int .u64 0, .int .u64 0, .int .u64 0, .int .u64 0]
theorem only_no : onlyOf noS = (0, false) := by decide +kernel
theorem list_no : bytesOf noS = [] := by decide +kernel
theorem runs_no : runsOf noS = [] := by decide +kernel
theorem runs_all : runsOf allS = [(0, 255)] := by decide +kernel
theorem same_all : sameS (rangeS 0 255) allS = true := by decide +kernel
theorem sub_no : subS noS noS = true := by decide +kernel
theorem meet_no : meetS noS allS = false := by decide +kernel
theorem cmp_no : cmpS noS noS = 0 := by decide +kernel
theorem setV_60 : setV (rangeS 60 70) = .agg #[.int .u64 17293822569102704640, .int .u64 127, .int .u64 0, .int .u64 0] := by
  have h0 : word (rangeS 60 70) 0 = 17293822569102704640 := by decide +kernel
  have h1 : word (rangeS 60 70) 1 = 127 := by decide +kernel
  have h2 : word (rangeS 60 70) 2 = 0 := by decide +kernel
  have h3 : word (rangeS 60 70) 3 = 0 := by decide +kernel
  unfold setV setC
  rw [h0, h1, h2, h3]
  rfl
theorem only_none {w W : World} (h : Lies w W) : Calls Tryd.prog 11 #[zV] W fun e w' => e = .returned (.tuple #[.int .u8 0, .bool false]) ∧ Below W.heap.size W w' := by
  have := only_L noS h
  rw [setV_none, only_no] at this
  exact this
theorem list_none {w W : World} (h : Lies w W) : Calls Tryd.prog 18 #[zV] W fun e w' => e = .returned (.string ⟨#[]⟩) ∧ Below W.heap.size W w' := by
  have := list_any noS W h.tab h.pos
  rw [setV_none, list_no] at this
  exact this
theorem runs_none {w W : World} (h : Lies w W) : Calls Tryd.prog 16 #[zV] W fun e w' => e = .returned (.slice none 0 0) ∧ Below W.heap.size W w' := by
  have := runs_any noS W h.tab h.pos
  rw [setV_none] at this
  refine this.mono ?_
  rintro e w' ⟨v, rfl, _, hn, hb⟩
  rw [hn.2 runs_no]
  exact ⟨rfl, hb⟩
theorem runs_full {w W : World} (h : Lies w W) : Calls Tryd.prog 16 #[setV allS] W fun e w' => ∃ g cap, e = .returned (.slice (some ⟨g, 0, none⟩) 1 cap) ∧ w'.cell? ⟨g, 0, none⟩ = some (.int .u8 0) ∧ w'.cell? ⟨g, 1, none⟩ = some (.int .u8 255) ∧ Below W.heap.size W w' := by
  refine (runs_any allS W h.tab h.pos).mono ?_
  rintro e w' ⟨v, rfl, hr, _, hb⟩
  rw [runs_all] at hr
  replace hr : w'.ownsRow W.heap.size 40 2 v (0 + 1) [.int .u8 0, .int .u8 255] := hr
  obtain ⟨g, cap, rfl⟩ := ownsRow_succ hr
  exact ⟨g, cap, rfl, hr.cellAt 0 (by omega), hr.cellAt 1 (by omega), hb⟩
theorem sub_none {w W : World} (_h : Lies w W) : Calls Tryd.prog 19 #[zV, zV] W fun e w' => e = .returned (.bool true) ∧ Below W.heap.size W w' := by
  have := subset_any noS noS W
  rw [setV_none, sub_no] at this
  exact this
theorem meet_none {w W : World} (_h : Lies w W) : Calls Tryd.prog 20 #[zV, setV allS] W fun e w' => e = .returned (.bool false) ∧ Below W.heap.size W w' := by
  have := meets_any noS allS W
  rw [setV_none, meet_no] at this
  exact this
theorem cmp_none {w W : World} (h : Lies w W) : Calls Tryd.prog 21 #[zV, zV] W fun e w' => e = .returned (.int .i64 0) ∧ Below W.heap.size W w' := by
  have := compare_any noS noS W h.tab h.pos
  rw [setV_none, cmp_no] at this
  exact this
theorem len_all : (listS allS).size = 256 := by decide +kernel
end Go.Proofs.YtgekfdmamingjaaDoor

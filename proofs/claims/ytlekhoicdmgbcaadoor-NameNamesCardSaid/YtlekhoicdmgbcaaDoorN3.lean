/- Package name: Take, Show, Compare. -/
import Derived.Test.YtlekhoicdmgbcaaDoorN1
import Derived.Test.YtlekhoicdmgbcaaDoorNsh
import Derived.Lib.AppendIntMem
namespace Go.Proofs.YtlekhoicdmgbcaaDoor
open Go.RowKit Nm

/-- The table of tens lies where it lay. -/
abbrev Tens (w : World) : Prop := Lib.TabIs Tryd.prog w "internal/strconv.uint64pow10" .u64 Lib.pow10Tab

theorem Tens.below {n₀ : Nat} {w w' : World} (h : Tens w) (hb : Below n₀ w w') (hg : 1 < n₀) : Tens w' := by
  have hgn : Tryd.prog.globalNamed "internal/strconv.uint64pow10" = some 1 := by kernel_rfl
  unfold Tens Lib.TabIs World.var? at h ⊢
  simp only [hgn, Option.bind_some] at h ⊢
  rw [hb.block _ hg]
  exact h

set_option maxRecDepth 100000 in
set_option maxHeartbeats 1000000 in
theorem clone_any (s : ByteArray) (w : World) (hlim : s.size ≤ 281474976710656) :
    Calls Tryd.prog 27 #[.string s] w fun e w' => e = .returned (.string s) ∧ Below w.heap.size w w' := by
  go_enter Tryd.func27, Tryd.ntmps27
  go_wp2_with (go_at_call 33; refine (sh_stringslite_Clone s _ hlim).mono ?_; rintro e w' ⟨rfl, hb⟩)
  go_ret
  exact ⟨rfl, hb⟩

/-- What is taken. -/
def takeS (s : ByteArray) : ByteArray := s.extract 0 (taken s.data.toList)
theorem takeS_size (s : ByteArray) : (takeS s).size = taken s.data.toList := by
  have := taken_le s.data.toList
  have e : s.data.toList.length = s.size := by simp
  unfold takeS
  rw [ByteArray.size_extract]
  omega
theorem takeS_le (s : ByteArray) : (takeS s).size ≤ s.size := by
  have := taken_le s.data.toList
  rw [takeS_size]
  simpa using this

set_option maxRecDepth 100000 in
set_option maxHeartbeats 1000000 in
theorem take_any (s : ByteArray) (hs : s.size ≤ 281474976710656) (w : World) :
    Calls Tryd.prog 13 #[.string s] w fun e w' => e = .returned (.string (takeS s)) ∧ Below w.heap.size w w' := by
  have hc := fun w => clone_any (takeS s) w (Nat.le_trans (takeS_le s) hs)
  have ht : taken s.data.toList ≤ s.size := by simpa using taken_le s.data.toList
  go_enter Tryd.func13, Tryd.ntmps13
  go_wp2_with (first | (go_at_call 26; refine (taken_any s (by omega) _).mono ?_; rintro e w' ⟨rfl, rfl⟩) | (go_at_call 27; refine (hc _).mono ?_; rintro e w' ⟨rfl, hb⟩))
  go_ret
  exact ⟨rfl, hb⟩

set_option maxRecDepth 100000 in
set_option maxHeartbeats 1000000 in
theorem show_any (n : Int) (h0 : -9223372036854775808 ≤ n) (h1 : n ≤ 9223372036854775807) (w : World) (ht : Tens w) :
    Calls Tryd.prog 16 #[.int .i64 n] w fun e w' => e = .returned (.string (showB n)) ∧ Below w.heap.size w w' := by
  go_enter Tryd.func16, Tryd.ntmps16
  go_wp2_with (go_at_call 29; refine (sh_strconv_Itoa n h0 h1 _ ht).mono ?_; rintro e w' ⟨rfl, k, os, rfl⟩)
  go_ret
  exact ⟨rfl, Lib.below_grow _ _ (Nat.le_refl _) _ _⟩

set_option maxRecDepth 100000 in
set_option maxHeartbeats 1000000 in
theorem compare_any (a b : ByteArray) (w : World) :
    Calls Tryd.prog 17 #[.string a, .string b] w fun e w' => e = .returned (.int .i64 (Lib.compareBytes a.data.toList b.data.toList)) ∧ w' = w := by
  go_enter Tryd.func17, Tryd.ntmps17
  go_wp2_with (go_at_call 30; refine (sh_strings_Compare a b _).mono ?_; rintro e w' ⟨rfl, rfl⟩)
  go_ret
  exact ⟨rfl, rfl⟩
end Go.Proofs.YtlekhoicdmgbcaaDoor

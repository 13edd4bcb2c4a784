/- Package name: Letter, digit, taken, May. -/
import Derived.WalkKit
import Derived.Test.YtjeogbdeagkomaaDoorProg
import Derived.Test.YtjeogbdeagkomaaDoorVNm
import Derived.BigQuiet
import Derived.Lib.Hide
namespace Go.Proofs.YtjeogbdeagkomaaDoor
open Go.RowKit Nm

set_option maxRecDepth 100000 in
set_option maxHeartbeats 2000000 in
theorem letter_any (b : Nat) (hb : b < 256) (w : World) :
    Calls Tryd.prog 129 #[.int .u8 b] w fun e w' => e = .returned (.bool (isLet b)) ∧ w' = w := by
  go_enter Tryd.func129, Tryd.ntmps129
  go_wp2
  all_goals go_ret
  all_goals refine ⟨congrArg (fun x => Ending.returned (.bool x)) ?_, rfl⟩
  all_goals (unfold isLet; rw [Bool.eq_iff_iff]; simp; try omega)
set_option maxRecDepth 100000 in
set_option maxHeartbeats 2000000 in
theorem dig_any (b : Nat) (hb : b < 256) (w : World) :
    Calls Tryd.prog 130 #[.int .u8 b] w fun e w' => e = .returned (.bool (isDig b)) ∧ w' = w := by
  go_enter Tryd.func130, Tryd.ntmps130
  go_wp2
  all_goals go_ret
  all_goals refine ⟨congrArg (fun x => Ending.returned (.bool x)) ?_, rfl⟩
  all_goals (unfold isDig; rw [Bool.eq_iff_iff]; simp; try omega)

theorem letter_s (s : ByteArray) (n : Nat) (h : n < s.size) (w : World) :
    Calls Tryd.prog 129 #[.int .u8 s[n].toNat] w fun e w' => e = .returned (.bool (isLet s[n].toNat)) ∧ w' = w := letter_any _ (UInt8.toNat_lt _) w
theorem digit_s (s : ByteArray) (n : Nat) (h : n < s.size) (w : World) :
    Calls Tryd.prog 130 #[.int .u8 s[n].toNat] w fun e w' => e = .returned (.bool (isDig s[n].toNat)) ∧ w' = w := dig_any _ (UInt8.toNat_lt _) w

set_option maxRecDepth 100000 in
set_option maxHeartbeats 2000000 in
theorem taken_any (s : ByteArray) (hs : s.size < 9223372036854775807) (w : World) :
    Calls Tryd.prog 109 #[.string s] w fun e w' => e = .returned (.int .i64 (taken s.data.toList : Nat)) ∧ w' = w := by
  obtain ⟨c, hc⟩ : ∃ c, c = taken s.data.toList := ⟨_, rfl⟩
  rw [← hc]
  rw [← go_zero] at hc
  have HC0 := Lib.hid hc
  clear hc
  go_enter Tryd.func109, Tryd.ntmps109
  go_wp2
  go_loopw [3] (fun i wr => ∃ n : Nat, i = .int .i64 n ∧ n ≤ s.size ∧ Hid (c = go s n) ∧ wr = w) (fun i _ => s.size - (intOf i).toNat)
  case atStart => exact ⟨0, rfl, by omega, HC0, rfl⟩
  case round =>
    obtain ⟨n, rfl, h1, HC, rfl⟩ := hrel
    clear HC0
    by_cases hl : n < s.size
    · have hc := HC.out
      rw [go_step s n hl] at hc
      have hn1 : wrap64 ((n : Int) + 1) = (n : Int) + 1 := by unfold wrap64; omega
      by_cases c1 : isLet s[n].toNat = true
      · rw [if_pos (Or.inl c1)] at hc
        have HC2 := Lib.hid hc
        clear hc
        go_wp2_with (first | (go_at_call 129; refine (letter_s s n hl _).mono ?_; rintro e w' ⟨rfl, rfl⟩; rw [c1]))
        go_roundw
        case rel => exact ⟨n + 1, by go_num, by omega, HC2, trivial⟩
        case measure => simp [intOf]; omega
      · have c1' : isLet s[n].toNat = false := by simpa using c1
        by_cases h0 : n = 0
        · subst h0
          rw [if_neg (by simp [c1'])] at hc
          have HC2 := Lib.hid hc
          clear hc
          go_wp2_with (first | (go_at_call 129; refine (letter_s s 0 hl _).mono ?_; rintro e w' ⟨rfl, rfl⟩; rw [c1']))
          go_ret
          exact ⟨by rw [HC2.out]; rfl, rfl⟩
        · have hn0 : 0 < n := by omega
          by_cases c2 : isDig s[n].toNat = true
          · rw [if_pos (Or.inr ⟨by omega, c2⟩)] at hc
            have HC2 := Lib.hid hc
            clear hc
            go_wp2_with (first | (go_at_call 129; refine (letter_s s n hl _).mono ?_; rintro e w' ⟨rfl, rfl⟩; rw [c1']) | (go_at_call 130; refine (digit_s s n hl _).mono ?_; rintro e w' ⟨rfl, rfl⟩; rw [c2]))
            go_roundw
            case rel => exact ⟨n + 1, by go_num, by omega, HC2, trivial⟩
            case measure => simp [intOf]; omega
          · have c2' : isDig s[n].toNat = false := by simpa using c2
            rw [if_neg (by simp [c1', c2'])] at hc
            have HC2 := Lib.hid hc
            clear hc
            go_wp2_with (first | (go_at_call 129; refine (letter_s s n hl _).mono ?_; rintro e w' ⟨rfl, rfl⟩; rw [c1']) | (go_at_call 130; refine (digit_s s n hl _).mono ?_; rintro e w' ⟨rfl, rfl⟩; rw [c2']))
            go_ret
            exact ⟨by rw [HC2.out]; rfl, rfl⟩
    · have hc := HC.out
      rw [go_end s n (by omega)] at hc
      have HC2 := Lib.hid hc
      clear hc
      go_wp2
      go_ret
      exact ⟨by rw [HC2.out]; rfl, rfl⟩

theorem size_ne (s : ByteArray) (h : s.size ≠ 0) : ¬s.toList = [] := by
  rw [ByteArray.toList_eq]
  intro e
  apply h
  have := congrArg List.length e
  simpa using this
theorem size_eq (s : ByteArray) (h : s.size = 0) : s = ⟨#[]⟩ := ByteArray.ext (Array.eq_empty_of_size_eq_zero h)

set_option maxRecDepth 100000 in
set_option maxHeartbeats 2000000 in
theorem may_any (s : ByteArray) (hs : s.size < 9223372036854775807) (w : World) :
    Calls Tryd.prog 75 #[.string s] w fun e w' => e = .returned (.bool (mayB s)) ∧ w' = w := by
  by_cases h0 : s.size = 0
  · obtain rfl := size_eq s h0
    go_enter Tryd.func75, Tryd.ntmps75
    go_wp2
    go_ret
    exact ⟨rfl, rfl⟩
  · have h1 := size_ne s h0
    have h1' : s.toList.isEmpty = false := by simpa using h1
    by_cases h2 : s.size ≤ 32
    · have hm : mayB s = decide (taken s.data.toList = s.size) := by simp [mayB, h0, h2]
      rw [hm]
      go_enter Tryd.func75, Tryd.ntmps75
      go_wp2_with (first | (go_at_call 109; refine (taken_any s hs _).mono ?_; rintro e w' ⟨rfl, rfl⟩))
      go_ret
      exact ⟨congrArg (fun x => Ending.returned (.bool x)) (by rw [Bool.eq_iff_iff]; simp; try omega), rfl⟩
    · have hm : mayB s = false := by simp [mayB, h2]
      rw [hm]
      go_enter Tryd.func75, Tryd.ntmps75
      go_wp2
      go_ret
      exact ⟨rfl, rfl⟩
end Go.Proofs.YtjeogbdeagkomaaDoor

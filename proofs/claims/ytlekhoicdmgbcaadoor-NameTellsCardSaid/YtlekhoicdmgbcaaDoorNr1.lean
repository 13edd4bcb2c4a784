/- The document's own answers (bonsairef02): Letter, digit, Take, May, Compare. -/
import Derived.Test.YtlekhoicdmgbcaaDoorN3
import Derived.Test.YtlekhoicdmgbcaaDoorNm2
import Derived.Test.YtlekhoicdmgbcaaDoorNcb
import Derived.BigQuiet
namespace Go.Proofs.YtlekhoicdmgbcaaDoor
open Go.RowKit Nm

set_option maxRecDepth 100000 in
set_option maxHeartbeats 2000000 in
theorem rletter_any (b : Nat) (hb : b < 256) (w : World) :
    Calls Tryd.prog 20 #[.int .u8 b] w fun e w' => e = .returned (.bool (isLet b)) ∧ w' = w := by
  go_enter Tryd.func20, Tryd.ntmps20
  go_wp2
  all_goals go_ret
  all_goals refine ⟨congrArg (fun x => Ending.returned (.bool x)) ?_, rfl⟩
  all_goals (unfold isLet; rw [Bool.eq_iff_iff]; simp; try omega)
set_option maxRecDepth 100000 in
set_option maxHeartbeats 2000000 in
theorem rdigit_any (b : Nat) (hb : b < 256) (w : World) :
    Calls Tryd.prog 32 #[.int .u8 b] w fun e w' => e = .returned (.bool (isDig b)) ∧ w' = w := by
  go_enter Tryd.func32, Tryd.ntmps32
  go_wp2
  all_goals go_ret
  all_goals refine ⟨congrArg (fun x => Ending.returned (.bool x)) ?_, rfl⟩
  all_goals (unfold isDig; rw [Bool.eq_iff_iff]; simp; try omega)

theorem rletter_s (s : ByteArray) (n : Nat) (h : n < s.size) (w : World) :
    Calls Tryd.prog 20 #[.int .u8 s[n].toNat] w fun e w' => e = .returned (.bool (isLet s[n].toNat)) ∧ w' = w := rletter_any _ (UInt8.toNat_lt _) w
theorem rdigit_s (s : ByteArray) (n : Nat) (h : n < s.size) (w : World) :
    Calls Tryd.prog 32 #[.int .u8 s[n].toNat] w fun e w' => e = .returned (.bool (isDig s[n].toNat)) ∧ w' = w := rdigit_any _ (UInt8.toNat_lt _) w

set_option maxRecDepth 100000 in
set_option maxHeartbeats 2000000 in
theorem rtake_any (s : ByteArray) (hs : s.size < 9223372036854775807) (w : World) :
    Calls Tryd.prog 22 #[.string s] w fun e w' => e = .returned (.string (takeS s)) ∧ w' = w := by
  by_cases hz : s.size = 0
  · obtain rfl := size_eq s hz
    go_enter Tryd.func22, Tryd.ntmps22
    go_wp2
    go_ret
    exact ⟨rfl, rfl⟩
  · have h1 := size_ne s hz
    have h1' : s.toList.isEmpty = false := by simpa using h1
    have hp : 0 < s.size := by omega
    cases hb : isLet s[0].toNat with
    | false =>
      have ht : takeS s = ⟨#[]⟩ := by
        have e := go_step s 0 hp
        rw [go_zero, if_neg (by simp [hb])] at e
        apply ByteArray.ext
        apply Array.toList_inj.1
        unfold takeS
        rw [e, extract_list]
        rfl
      rw [ht]
      clear ht
      go_enter Tryd.func22, Tryd.ntmps22
      go_wp2_with (first | (go_at_call 20; refine (rletter_s s 0 hp _).mono ?_; rintro e w' ⟨rfl, rfl⟩; rw [hb]))
      go_ret
      exact ⟨rfl, rfl⟩
    | true =>
      obtain ⟨c, hc⟩ : ∃ c, c = taken s.data.toList := ⟨_, rfl⟩
      have ht : takeS s = s.extract 0 c := by rw [hc]; rfl
      rw [ht]
      have hcle : c ≤ s.size := by rw [hc]; simpa using taken_le s.data.toList
      rw [← go_zero] at hc
      have HC0 := Lib.hid hc
      have HB := Lib.hid hb
      clear hc ht hb
      go_enter Tryd.func22, Tryd.ntmps22
      go_wp2_with (first | (go_at_call 20; refine (rletter_s s 0 hp _).mono ?_; rintro e w' ⟨rfl, rfl⟩; rw [HB.out]))
      go_loopw [3] (fun i wr => ∃ n : Nat, i = .int .i64 n ∧ n ≤ s.size ∧ Hid (c = go s n) ∧ wr = w') (fun i _ => s.size - (intOf i).toNat)
      case atStart => exact ⟨0, rfl, by omega, HC0, rfl⟩
      case round =>
        obtain ⟨n, rfl, hn, HC, rfl⟩ := hrel
        clear HC0 h1 h1'
        by_cases hl : n < s.size
        · have hc := HC.out
          rw [go_step s n hl] at hc
          have hn1 : wrap64 ((n : Int) + 1) = (n : Int) + 1 := by unfold wrap64; omega
          by_cases c1 : isLet s[n].toNat = true
          · rw [if_pos (Or.inl c1)] at hc
            have HC2 := Lib.hid hc
            clear hc
            go_wp2_with (first | (go_at_call 20; refine (rletter_s s n hl _).mono ?_; rintro e w' ⟨rfl, rfl⟩; rw [c1]))
            go_roundw
            case rel => exact ⟨n + 1, by go_num, by omega, HC2, trivial⟩
            case measure => simp [intOf]; omega
          · have c1' : isLet s[n].toNat = false := by simpa using c1
            have hn0 : 0 < n := by
              rcases Nat.eq_zero_or_pos n with h | h
              · subst h
                exact absurd HB.out c1
              · exact h
            by_cases c2 : isDig s[n].toNat = true
            · rw [if_pos (Or.inr ⟨hn0, c2⟩)] at hc
              have HC2 := Lib.hid hc
              clear hc
              go_wp2_with (first | (go_at_call 20; refine (rletter_s s n hl _).mono ?_; rintro e w' ⟨rfl, rfl⟩; rw [c1']) | (go_at_call 32; refine (rdigit_s s n hl _).mono ?_; rintro e w' ⟨rfl, rfl⟩; rw [c2]))
              go_roundw
              case rel => exact ⟨n + 1, by go_num, by omega, HC2, trivial⟩
              case measure => simp [intOf]; omega
            · have c2' : isDig s[n].toNat = false := by simpa using c2
              rw [if_neg (by simp [c1', c2'])] at hc
              have HC2 := Lib.hid hc
              clear hc
              go_wp2_with (first | (go_at_call 20; refine (rletter_s s n hl _).mono ?_; rintro e w' ⟨rfl, rfl⟩; rw [c1']) | (go_at_call 32; refine (rdigit_s s n hl _).mono ?_; rintro e w' ⟨rfl, rfl⟩; rw [c2']))
              all_goals go_ret
              all_goals exact ⟨by rw [HC2.out]; rfl, rfl⟩
        · have hc := HC.out
          rw [go_end s n (by omega)] at hc
          have HC2 := Lib.hid hc
          clear hc
          go_wp2
          all_goals go_ret
          all_goals exact ⟨by rw [HC2.out]; rfl, rfl⟩

set_option maxRecDepth 100000 in
set_option maxHeartbeats 2000000 in
theorem rmay_any (s : ByteArray) (hs : s.size < 9223372036854775807) (w : World) :
    Calls Tryd.prog 21 #[.string s] w fun e w' => e = .returned (.bool (mayB s)) ∧ w' = w := by
  by_cases h0 : s.size = 0
  · obtain rfl := size_eq s h0
    go_enter Tryd.func21, Tryd.ntmps21
    go_wp2
    go_ret
    exact ⟨rfl, rfl⟩
  · have h1 := size_ne s h0
    have h1' : s.toList.isEmpty = false := by simpa using h1
    by_cases h2 : s.size ≤ 32
    · have h2' : (s.size : Int) ≤ 32 := by omega
      have hm : mayB s = decide (taken s.data.toList = s.size) := by simp [mayB, h0, h2]
      have he : ((takeS s).toList == s.toList) = mayB s := by
        rw [hm, Bool.eq_iff_iff, beq_iff_eq, decide_eq_true_iff, ByteArray.toList_eq, ByteArray.toList_eq]
        unfold takeS
        rw [extract_list]
        have hz : s.data.toList.length = s.size := by simp
        constructor
        · intro h
          have h3 := congrArg List.length h
          rw [List.length_take] at h3
          have := taken_le s.data.toList
          omega
        · intro h
          rw [h]
          exact take_all s
      have HE := Lib.hid he
      clear he hm
      obtain ⟨r, hr⟩ : ∃ r, r = mayB s := ⟨_, rfl⟩
      have he2 := HE.out
      rw [← hr] at he2 ⊢
      clear HE hr
      go_enter Tryd.func21, Tryd.ntmps21
      go_wp2_with (first | (go_at_call 22; refine (rtake_any s hs _).mono ?_; rintro e w' ⟨rfl, rfl⟩))
      all_goals go_ret
      all_goals exact ⟨rfl, rfl⟩
    · have h2' : ¬ (s.size : Int) ≤ 32 := by omega
      have hm : mayB s = false := by simp [mayB, h2]
      rw [hm]
      go_enter Tryd.func21, Tryd.ntmps21
      go_wp2
      all_goals go_ret
      all_goals exact ⟨rfl, rfl⟩
end Go.Proofs.YtlekhoicdmgbcaaDoor

/- Package quote: a digit, two digits, the fault. -/
import Derived.Test.YtjeogbdeagkomaaDoorVRunsM
import Derived.Test.YtjeogbdeagkomaaDoorVQsh
import Derived.Test.YtjeogbdeagkomaaDoorVSw0
namespace Go.Proofs.YtjeogbdeagkomaaDoor
open Go.RowKit Bset Qm

theorem dg_up (b : Nat) (h : 65 ≤ b ∧ b ≤ 70) : Lib.indexByte hexB.data.toList ((b : Int) + 32).toNat.toUInt8 = dg b := by
  unfold dg low
  rw [if_pos h, show ((b : Int) + 32).toNat = b + 32 by omega]
theorem dg_as (b : Nat) (h : ¬ (65 ≤ b ∧ b ≤ 70)) : Lib.indexByte hexB.data.toList ((b : Int)).toNat.toUInt8 = dg b := by
  unfold dg low
  rw [if_neg h, show ((b : Int)).toNat = b by omega]

set_option maxHeartbeats 1000000 in
theorem digit_any (b : Nat) (hb : b < 256) (w : World) :
    Calls Tryd.prog 207 #[.int .u8 b] w fun e w' => e = .returned (.int .i64 (dg b)) ∧ w = w' := by
  by_cases h1 : 65 ≤ b
  · by_cases h2 : b ≤ 70
    · have hd := Lib.hid (dg_up b ⟨h1, h2⟩)
      go_enter Tryd.func207, Tryd.ntmps207
      go_wp2_with (go_at_call 208; refine (sh_strings_IndexByte hexB _ _).mono ?_; rintro e w' ⟨rfl, rfl⟩)
      go_ret
      exact ⟨ret_int hd.out, rfl⟩
    · have hd := Lib.hid (dg_as b (by omega))
      go_enter Tryd.func207, Tryd.ntmps207
      go_wp2_with (go_at_call 208; refine (sh_strings_IndexByte hexB _ _).mono ?_; rintro e w' ⟨rfl, rfl⟩)
      go_ret
      exact ⟨ret_int hd.out, rfl⟩
  · have hd := Lib.hid (dg_as b (by omega))
    go_enter Tryd.func207, Tryd.ntmps207
    go_wp2_with (go_at_call 208; refine (sh_strings_IndexByte hexB _ _).mono ?_; rintro e w' ⟨rfl, rfl⟩)
    go_ret
    exact ⟨ret_int hd.out, rfl⟩

set_option maxHeartbeats 1000000 in
theorem fault_any (s : ByteArray) (_hs : s.size ≤ maxLen) (k : Nat) (w : World) :
    Calls Tryd.prog 181 #[.string s, .int .i64 k] w fun e w' => e = .returned (.int .i64 (fau s.size k : Nat)) ∧ w = w' := by
  unfold maxLen at _hs
  by_cases h : k = s.size
  · have hf : fau s.size k = 8 := by unfold fau; rw [if_pos h]
    have HF := Lib.hid hf
    clear hf
    go_enter Tryd.func181, Tryd.ntmps181
    go_wp2
    go_ret
    exact ⟨ret_int (by rw [HF.out]; rfl), rfl⟩
  · have hf : fau s.size k = 4 := by unfold fau; rw [if_neg h]
    have HF := Lib.hid hf
    have h2 : ((k : Int) == (s.size : Int)) = false := by simp; omega
    clear hf
    go_enter Tryd.func181, Tryd.ntmps181
    go_wp2
    go_ret
    exact ⟨ret_int (by rw [HF.out]; rfl), rfl⟩

/-- What is read from a place on. -/
abbrev resT (k : Nat) (r : Nat × Nat × Bool) : Value := .tuple #[.int .u8 (r.1 : Nat), .int .i64 ((k + r.2.1 : Nat) : Int), .bool r.2.2]

theorem drop_at (s : ByteArray) (k : Nat) (h : k < s.size) : s.data.toList.drop k = s[k] :: s.data.toList.drop (k + 1) := by
  rw [List.drop_eq_getElem_cons (by simpa using h)]
  rfl
theorem drop_end (s : ByteArray) (k : Nat) (h : s.size ≤ k) : s.data.toList.drop k = [] := List.drop_eq_nil_of_le (by simpa using h)

theorem ret_tup {a b : Value} (h : a = b) : Ending.returned a = .returned b := by rw [h]

set_option maxHeartbeats 2000000 in
theorem hex_any (s : ByteArray) (hs : s.size ≤ maxLen) (k : Nat) (hk : k ≤ s.size) (w : World) :
    Calls Tryd.prog 206 #[.string s, .int .i64 k] w fun e w' => e = .returned (resT k (hx (s.data.toList.drop k))) ∧ w = w' := by
  unfold maxLen at hs
  by_cases h1 : k = s.size
  · have hh : hx (s.data.toList.drop k) = (0, 0, false) := by rw [drop_end s k (by omega)]; rfl
    have HH := Lib.hid hh
    clear hh
    go_enter Tryd.func206, Tryd.ntmps206
    go_wp2
    refine wp_loop_rounds 3 ?_
    rw [rounds_succ]
    go_wp2
    go_ret3
    exact ⟨ret_tup (by rw [HH.out]; simp), rfl⟩
  · have hlt : k < s.size := by omega
    have t1 : ((k : Int) == (s.size : Int)) = false := by simp; omega
    have hc := s[k].toNat_lt
    have hd := drop_at s k hlt
    by_cases h2 : dg s[k].toNat < 0
    · have hh : hx (s.data.toList.drop k) = (0, 0, false) := by rw [hd]; exact hx1 _ _ h2
      have HH := Lib.hid hh
      clear hh hd
      go_enter Tryd.func206, Tryd.ntmps206
      go_wp2
      refine wp_loop_rounds 3 ?_
      rw [rounds_succ]
      go_wp2_with (go_at_call 207; refine (digit_any s[k].toNat hc _).mono ?_; rintro e w' ⟨rfl, rfl⟩)
      go_ret3
      exact ⟨ret_tup (by rw [HH.out]; simp), rfl⟩
    · have hx16 := dg_lt s[k].toNat hc
      obtain ⟨x, ex⟩ : ∃ x : Nat, dg s[k].toNat = x := ⟨(dg s[k].toNat).toNat, by omega⟩
      have hx0 : x < 16 := by omega
      have hdig := digit_any s[k].toNat hc
      rw [ex] at hdig
      have HDIG := Lib.hid hdig
      clear hdig
      by_cases h3 : k + 1 = s.size
      · have hh : hx (s.data.toList.drop k) = (0, 1, false) := by rw [hd, drop_end s (k + 1) (by omega)]; exact hx2 _ h2
        have HH := Lib.hid hh
        have t2 : ((k : Int) + 1 == (s.size : Int)) = true := by simp; omega
        clear hh hd ex h2 hx16
        go_enter Tryd.func206, Tryd.ntmps206
        go_wp2
        refine wp_loop_rounds 3 ?_
        rw [rounds_succ]
        go_wp2_with (go_at_call 207; refine (HDIG.out _).mono ?_; rintro e w' ⟨rfl, rfl⟩)
        rw [rounds_succ]
        go_wp2
        go_ret3
        exact ⟨ret_tup (by rw [HH.out]; simp), rfl⟩
      · have hlt2 : k + 1 < s.size := by omega
        have t2 : ((k : Int) + 1 == (s.size : Int)) = false := by simp; omega
        have hc2 := s[k + 1].toNat_lt
        have hd2 := drop_at s (k + 1) hlt2
        by_cases h4 : dg s[k + 1].toNat < 0
        · have hh : hx (s.data.toList.drop k) = (0, 1, false) := by rw [hd, hd2]; exact hx3 _ _ _ h2 h4
          have HH := Lib.hid hh
          clear hh hd ex h2 hx16 hd2
          go_enter Tryd.func206, Tryd.ntmps206
          go_wp2
          refine wp_loop_rounds 3 ?_
          rw [rounds_succ]
          go_wp2_with (go_at_call 207; refine (HDIG.out _).mono ?_; rintro e w' ⟨rfl, rfl⟩)
          rw [rounds_succ]
          go_wp2_with (go_at_call 207; refine (digit_any s[k + 1].toNat hc2 _).mono ?_; rintro e w' ⟨rfl, rfl⟩)
          go_ret3
          exact ⟨ret_tup (by rw [HH.out]; simp), rfl⟩
        · have hy16 := dg_lt s[k + 1].toNat hc2
          obtain ⟨y, ey⟩ : ∃ y : Nat, dg s[k + 1].toNat = y := ⟨(dg s[k + 1].toNat).toNat, by omega⟩
          have hy0 : y < 16 := by omega
          have hh : hx (s.data.toList.drop k) = (x * 16 + y, 2, true) := by
            rw [hd, hd2, hx4 _ _ _ h2 h4, ex, ey]
            simp
          have hdig2 := digit_any s[k + 1].toNat hc2
          rw [ey] at hdig2
          have HDIG2 := Lib.hid hdig2
          have HH := Lib.hid hh
          clear hh hd ex h2 hx16 hd2 hdig2 ey hy16 h4
          go_enter Tryd.func206, Tryd.ntmps206
          go_wp2
          refine wp_loop_rounds 3 ?_
          rw [rounds_succ]
          go_wp2_with (go_at_call 207; refine (HDIG.out _).mono ?_; rintro e w' ⟨rfl, rfl⟩)
          rw [rounds_succ]
          go_wp2_with (go_at_call 207; refine (HDIG2.out _).mono ?_; rintro e w' ⟨rfl, rfl⟩)
          rw [rounds_succ]
          go_wp2
          go_ret3
          exact ⟨ret_tup (by rw [HH.out]; simp; omega), rfl⟩
end Go.Proofs.YtjeogbdeagkomaaDoor

/- Package lex: parting. -/
import Derived.Test.YtjeogbdeagkomaaDoorVL1
namespace Go.Proofs.YtjeogbdeagkomaaDoor
open Go.RowKit Nm Bset Lm
theorem extract_drop (s : ByteArray) (n : Nat) : (s.extract n s.size).data.toList = s.data.toList.drop n := by
  rw [ByteArray.data_extract, Array.toList_extract, List.extract_eq_take_drop]
  exact List.take_of_length_le (by simp)

set_option maxRecDepth 100000 in
set_option maxHeartbeats 4000000 in
theorem parting_any (s : ByteArray) (hs : s.size < 4294967281) (w : World) (hM : MaxL w) :
    Calls Tryd.prog 127 #[.string s] w fun e w' => e = .returned (.int .i64 (pg s.data.toList : Nat)) ∧ ∃ k, w' = w.drewN k := by
  obtain ⟨m, hm⟩ := hM
  obtain ⟨c, hc⟩ : ∃ c, c = pg s.data.toList := ⟨_, rfl⟩
  rw [← hc]
  have HC0 := Lib.hid hc
  clear hc
  go_enter Tryd.func127, Tryd.ntmps127
  go_wp2
  go_loopw [3] (fun i wr => ∃ n : Nat, i = .int .i64 n ∧ n ≤ s.size ∧ Hid (c = n + pg (s.data.toList.drop n)) ∧ ∃ k, wr = w.drewN k) (fun i _ => s.size - (intOf i).toNat)
  case atStart => exact ⟨0, rfl, by omega, Lib.hid (by rw [HC0.out]; simp), 0, rfl⟩
  case round =>
    obtain ⟨n, rfl, h1, HC, k, rfl⟩ := hrel
    clear HC0
    have hc := HC.out
    clear HC
    by_cases hl : n < s.size
    · have hd := drop_cons s n hl
      have hn1 : wrap64 ((n : Int) + 1) = (n : Int) + 1 := by unfold wrap64; omega
      rw [hd] at hc
      by_cases hb : s[n].toNat = 32 ∨ s[n].toNat = 9 ∨ s[n].toNat = 13 ∨ s[n].toNat = 10
      · rw [pg_blank _ _ hb] at hc
        have HC := Lib.hid hc
        clear hc hd
        rcases hb with hb | hb | hb | hb
        all_goals
          go_wp2
          go_roundw
          case rel => exact ⟨n + 1, by go_num, by omega, Lib.hid (by rw [HC.out]; omega), k, rfl⟩
          case measure => simp [intOf]; omega
      · by_cases h35 : s[n].toNat = 35
        · have HC := Lib.hid hc
          clear hc
          have hhd : (s.data.toList.drop n).head? = some 35 := by
            rw [hd]
            have : s[n] = 35 := by rw [← UInt8.toNat_inj]; exact h35
            rw [List.head?_cons, this]
          obtain ⟨hp, hp1⟩ := pg_line _ hhd
          obtain ⟨q, hq⟩ : ∃ q, q = (upto 10 (s.data.toList.drop n)).length := ⟨_, rfl⟩
          have hle := upto_le 10 (s.data.toList.drop n)
          have hq2 : n + q ≤ s.size := by
            rw [← hq, List.length_drop] at hle
            simp at hle
            omega
          have hwr : wrap64 ((n : Int) + (q : Int)) = ((n + q : Nat) : Int) := by unfold wrap64; omega
          have hex : (s.extract n s.size).size < 4294967281 := by
            rw [ByteArray.size_extract]
            omega
          have hsep : (⟨#[10]⟩ : ByteArray).data.toList = [10] := rfl
          have hcut := cut_upto (s.data.toList.drop n) 10
          have hP : c = n + q + pg (s.data.toList.drop (n + q)) := by
            have := HC.out
            rw [← hd, hp, List.drop_drop, ← hq] at this
            omega
          have hC : Calls Tryd.prog 153 #[.string (s.extract n s.size), .string ⟨#[10]⟩] (w.drewN k) fun e w' => (∃ r : ByteArray, ∃ t : Bool, e = .returned (.tuple #[.string ⟨(upto 10 (s.data.toList.drop n)).toArray⟩, .string r, .bool t])) ∧ ∃ k2, w' = w.drewN k2 := by
            refine (sh_strings_Cut (s.extract n s.size) ⟨#[10]⟩ m (w.drewN k) hex hm).mono ?_
            rintro e w' ⟨he, k2, rfl⟩
            rw [extract_drop, hsep, hcut] at he
            exact ⟨⟨_, _, he⟩, k + k2, by simp [World.drewN, Nat.add_assoc]⟩
          have HC2 := Lib.hid hP
          have HQ := Lib.hid hq
          rw [← hq] at hp1
          clear hP hp hq hle hd HC
          go_wp2_with (go_at_call 153; refine hC.mono ?_; rintro e w' ⟨⟨r, t, rfl⟩, k2, rfl⟩)
          rw [← HQ.out, hwr]
          refine ⟨⟨n + q, rfl, hq2, HC2, k2, rfl⟩, ?_⟩
          simp [intOf]
          omega
        · rw [pg_none _ _ hb h35] at hc
          have HC := Lib.hid hc
          clear hc hd
          have q1 : ¬ s[n].toNat = 32 := by omega
          have q2 : ¬ s[n].toNat = 9 := by omega
          have q3 : ¬ s[n].toNat = 13 := by omega
          have q4 : ¬ s[n].toNat = 10 := by omega
          go_wp2
          go_ret
          exact ⟨by rw [HC.out]; rfl, k, rfl⟩
    · rw [List.drop_eq_nil_of_le (by simp; omega)] at hc
      have HC := Lib.hid hc
      clear hc
      go_wp2
      go_ret
      exact ⟨by rw [HC.out]; rfl, k, rfl⟩
end Go.Proofs.YtjeogbdeagkomaaDoor

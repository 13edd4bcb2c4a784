/- The document's own answers (bonsairef02): Compare, Num. -/
import Derived.Test.YtlekhoicdmgbcaaDoorNr1
import Derived.Test.YtlekhoicdmgbcaaDoorNm3
import Derived.Test.YtlekhoicdmgbcaaDoorN2
namespace Go.Proofs.YtlekhoicdmgbcaaDoor
open Go.RowKit Nm

theorem cb_at (s t : ByteArray) (n : Nat) (h1 : n < s.size) (h2 : n < t.size) : Lib.compareBytes (s.data.toList.drop n) (t.data.toList.drop n) =
    if s[n].toNat < t[n].toNat then -1 else if t[n].toNat < s[n].toNat then 1 else Lib.compareBytes (s.data.toList.drop (n + 1)) (t.data.toList.drop (n + 1)) := by
  rw [drop_cons s n h1, drop_cons t n h2]
  rfl
theorem cb_end (s t : ByteArray) (n : Nat) (h1 : n ≤ s.size) (h2 : n ≤ t.size) (h : ¬(n < s.size ∧ n < t.size)) : Lib.compareBytes (s.data.toList.drop n) (t.data.toList.drop n) =
    if s.size < t.size then -1 else if t.size < s.size then 1 else 0 := by
  by_cases hs : n < s.size
  · have ht : n = t.size := by omega
    have e : t.data.toList.drop n = [] := List.drop_eq_nil_of_le (by simp; omega)
    rw [drop_cons s n hs, e, if_neg (by omega), if_pos (by omega)]
    rfl
  · have e : s.data.toList.drop n = [] := List.drop_eq_nil_of_le (by simp; omega)
    by_cases ht : n < t.size
    · rw [drop_cons t n ht, e, if_pos (by omega)]
      rfl
    · have e2 : t.data.toList.drop n = [] := List.drop_eq_nil_of_le (by simp; omega)
      rw [e, e2, if_neg (by omega), if_neg (by omega)]
      rfl

theorem bdrewN {B : Nat} {a w : World} {n : Nat} (h : Below B a w) : Below B a (w.drewN n) := ⟨h.os, h.tape, h.output, h.size, h.block⟩

set_option maxRecDepth 100000 in
set_option maxHeartbeats 4000000 in
theorem rcompare_any (s t : ByteArray) (hs : s.size ≤ 5000) (ht : t.size ≤ 5000) (w : World) :
    Calls Tryd.prog 24 #[.string s, .string t] w fun e w' => e = .returned (.int .i64 (Lib.compareBytes s.data.toList t.data.toList)) ∧ Below w.heap.size w w' := by
  obtain ⟨c, hc⟩ : ∃ c, c = Lib.compareBytes s.data.toList t.data.toList := ⟨_, rfl⟩
  rw [← hc]
  have HC0 := Lib.hid hc
  clear hc
  have hzs : (s.size : Int) ≤ 5000 := by omega
  have hzt : (t.size : Int) ≤ 5000 := by omega
  go_enter Tryd.func24, Tryd.ntmps24
  go_wp2_with (fail)
  go_loopw [5] (fun i wr => ∃ n : Nat, i = .int .i64 n ∧ n ≤ s.size ∧ n ≤ t.size ∧ Hid (c = Lib.compareBytes (s.data.toList.drop n) (t.data.toList.drop n)) ∧ Below w.heap.size w wr) (fun i _ => s.size - (intOf i).toNat)
  case atStart => exact ⟨0, rfl, by omega, by omega, HC0, Below.refl _ _⟩
  case round =>
    obtain ⟨n, rfl, h1, h2, HC, hB⟩ := hrel
    clear HC0
    by_cases hl : n < s.size ∧ n < t.size
    · obtain ⟨l1, l2⟩ := hl
      have hc := HC.out
      rw [cb_at _ _ n l1 l2] at hc
      by_cases x1 : s[n].toNat < t[n].toNat
      · rw [if_pos x1] at hc
        subst hc
        go_wp2_with (fail)
        go_quiet (fail)
        go_wp2_with (fail)
        go_ret
        exact ⟨rfl, bdrewN hB⟩
      · rw [if_neg x1] at hc
        by_cases x2 : t[n].toNat < s[n].toNat
        · rw [if_pos x2] at hc
          subst hc
          go_wp2_with (fail)
          go_quiet (fail)
          go_wp2_with (fail)
          go_quiet (fail)
          go_wp2_with (fail)
          go_ret
          exact ⟨rfl, bdrewN (bdrewN hB)⟩
        · rw [if_neg x2] at hc
          have HC2 := Lib.hid hc
          clear hc
          go_wp2_with (fail)
          go_quiet (fail)
          go_wp2_with (fail)
          go_quiet (fail)
          go_wp2_with (fail)
          go_roundw
          case rel => exact ⟨n + 1, by go_num, by omega, by omega, HC2, by first | exact bdrewN (bdrewN hB) | exact bdrewN hB⟩
          case measure => simp [intOf]; omega
    · have hc := HC.out
      rw [cb_end _ _ n h1 h2 hl] at hc
      by_cases x1 : s.size < t.size
      · rw [if_pos x1] at hc
        subst hc
        by_cases l1 : n < s.size
        · have l2 : ¬ n < t.size := fun h => hl ⟨l1, h⟩
          clear hl
          go_wp2_with (fail)
          go_ret
          exact ⟨rfl, hB⟩
        · clear hl
          go_wp2_with (fail)
          go_ret
          exact ⟨rfl, hB⟩
      · rw [if_neg x1] at hc
        by_cases x2 : t.size < s.size
        · rw [if_pos x2] at hc
          subst hc
          by_cases l1 : n < s.size
          · have l2 : ¬ n < t.size := fun h => hl ⟨l1, h⟩
            clear hl
            go_wp2_with (fail)
            go_ret
            exact ⟨rfl, hB⟩
          · clear hl
            go_wp2_with (fail)
            go_ret
            exact ⟨rfl, hB⟩
        · rw [if_neg x2] at hc
          subst hc
          by_cases l1 : n < s.size
          · have l2 : ¬ n < t.size := fun h => hl ⟨l1, h⟩
            clear hl
            go_wp2_with (fail)
            go_ret
            exact ⟨rfl, hB⟩
          · clear hl
            go_wp2_with (fail)
            go_ret
            exact ⟨rfl, hB⟩
end Go.Proofs.YtlekhoicdmgbcaaDoor

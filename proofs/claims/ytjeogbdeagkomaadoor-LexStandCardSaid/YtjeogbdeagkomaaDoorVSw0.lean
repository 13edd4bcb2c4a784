/- Walks over package set: what makes and reads words; all but And. -/
import Derived.Test.YtjeogbdeagkomaaDoorVBset
import Derived.Deep.RegionWith
namespace Go.Proofs.YtjeogbdeagkomaaDoor
open Go.RowKit Bset

set_option maxHeartbeats 400000 in
theorem bit_any (b : Nat) (hb : b < 256) (w : World) :
    Calls Tryd.prog 164 #[.int .u8 b] w fun e w' => e = .returned (.int .u64 (bt b : Nat)) ∧ w = w' := by
  have h := bt_wrap b
  go_enter Tryd.func164, Tryd.ntmps164
  go_wp2
  go_ret
  exact ⟨ret_int h, rfl⟩

set_option maxHeartbeats 400000 in
theorem has_any (S : Nat → Bool) (b : Nat) (hb : b < 256) (w : World) :
    Calls Tryd.prog 142 #[setV S, .int .u8 b] w fun e w' => e = .returned (.bool (S b)) ∧ Below w.heap.size w w' := by
  obtain ⟨k, hk⟩ : ∃ k, k = b / 64 := ⟨_, rfl⟩
  have hc := cellW w S k (by omega) 35
  have hi : (k : Int) < 4 := by omega
  have hi0 : (0 : Int) ≤ (k : Int) := by omega
  have hq : IntKind.u8.wrap ((b : Int) / 64) = (k : Int) := by rw [IntWalk.u8_in _ (by omega)]; omega
  have HK := Lib.hid hk; clear hk
  go_enter Tryd.func142, Tryd.ntmps142
  go_wp2
  go_quiet ((go_at_call 164; exact Calls.quiet_of_same (qeq (bit_any _ hb _))))
  go_wp2
  go_ret
  exact ⟨ret_bool (has_bit S b k HK.out), bdrewN ((Below.refl _ _).alloc (Nat.le_refl _) _)⟩


theorem idx0 (a b c d : Value) (w : World) : (Instr.index 35 (.agg #[a, b, c, d]) (.int .i64 0)).run Tryd.prog w = .ok a w := by kernel_rfl
theorem idx1 (a b c d : Value) (w : World) : (Instr.index 35 (.agg #[a, b, c, d]) (.int .i64 1)).run Tryd.prog w = .ok b w := by kernel_rfl
theorem idx2 (a b c d : Value) (w : World) : (Instr.index 35 (.agg #[a, b, c, d]) (.int .i64 2)).run Tryd.prog w = .ok c w := by kernel_rfl
theorem idx3 (a b c d : Value) (w : World) : (Instr.index 35 (.agg #[a, b, c, d]) (.int .i64 3)).run Tryd.prog w = .ok d w := by kernel_rfl


set_option maxHeartbeats 1000000 in
theorem not_any (S : Nat → Bool) (w : World) :
    Calls Tryd.prog 143 #[setV S] w fun e w' => e = .returned (setV fun n => !S n) ∧ Below w.heap.size w w' := by
  have i0 := idx0
  have i1 := idx1
  have i2 := idx2
  have i3 := idx3
  go_enter Tryd.func143, Tryd.ntmps143
  go_wp2
  go_rounds 5
  exact bodyPost_ret (v := setV fun n => !S n) (by simp [results, Tryd.results143, go_sem, not_w]) rfl
    ⟨rfl, ((Below.refl _ _).alloc (Nat.le_refl _) _).alloc (by simp) _⟩

set_option maxHeartbeats 1000000 in
theorem or_any (S T : Nat → Bool) (w : World) :
    Calls Tryd.prog 184 #[setV S, setV T] w fun e w' => e = .returned (setV fun n => S n || T n) ∧ Below w.heap.size w w' := by
  have i0 := idx0
  have i1 := idx1
  have i2 := idx2
  have i3 := idx3
  go_enter Tryd.func184, Tryd.ntmps184
  go_wp2
  go_rounds 5
  exact bodyPost_ret (v := setV fun n => S n || T n) (by simp [results, Tryd.results184, go_sem, or_w]) rfl
    ⟨rfl, by repeat (first | exact Below.refl _ _ | refine Below.alloc ?_ (by simp; try omega) _)⟩

set_option maxHeartbeats 1000000 in
theorem minus_any (S T : Nat → Bool) (w : World) :
    Calls Tryd.prog 161 #[setV S, setV T] w fun e w' => e = .returned (setV fun n => S n && !T n) ∧ Below w.heap.size w w' := by
  have i0 := idx0
  have i1 := idx1
  have i2 := idx2
  have i3 := idx3
  go_enter Tryd.func161, Tryd.ntmps161
  go_wp2
  go_rounds 5
  exact bodyPost_ret (v := setV fun n => S n && !T n) (by simp [results, Tryd.results161, go_sem, minus_w]) rfl
    ⟨rfl, by repeat (first | exact Below.refl _ _ | refine Below.alloc ?_ (by simp; try omega) _)⟩

end Go.Proofs.YtjeogbdeagkomaaDoor

/- Walks over package set: a range, a text. -/
namespace Go.Proofs.YtjeogbdeagkomaaDoor
open Go.RowKit Bset

def rangeTo (a n : Nat) : Nat → Bool := fun m => decide (a ≤ m) && decide (m < n)

theorem rangeTo_none (a : Nat) : setC (rangeTo a a) = #[.int .u64 0, .int .u64 0, .int .u64 0, .int .u64 0] := by
  rw [← setC_none]
  refine setC_congr (fun n _ => ?_)
  unfold rangeTo
  by_cases h : a ≤ n
  · have : ¬ n < a := by omega
    simp [this]
  · simp [h]

theorem rangeTo_put {a n : Nat} (h : a ≤ n) : setC (fun m => rangeTo a n m || m == n) = setC (rangeTo a (n + 1)) := by
  refine setC_congr (fun m _ => ?_)
  unfold rangeTo
  by_cases e : m = n
  · subst e
    have : m < m + 1 := by omega
    simp [h]
  · have : (m < n + 1) ↔ m < n := by omega
    have e' : (m == n) = false := by simpa using e
    simp [this, e']

set_option maxHeartbeats 2000000 in
theorem range_any (a b : Nat) (ha : a < 256) (hb : b < 256) (w : World) :
    Calls Tryd.prog 162 #[.int .u8 a, .int .u8 b] w fun e w' => e = .returned (setV fun m => decide (a ≤ m) && decide (m ≤ b)) ∧ Below w.heap.size w w' := by
  go_enter Tryd.func162, Tryd.ntmps162
  go_wp2
  go_loopw [6] (fun v wr => ∃ n : Nat, v = .int .i64 n ∧ a ≤ n ∧ n ≤ 256 ∧ (n ≤ b + 1 ∨ n = a) ∧ Cl wr w.heap.size 35 #[.int .u64 0, .int .u64 0, .int .u64 0, .int .u64 0] ∧ Cl wr (w.heap.size + 1) 35 (setC (rangeTo a n)) ∧ Below w.heap.size w wr)
    (fun v _ => 256 - (intOf v).toNat)
  case atStart =>
    refine ⟨a, rfl, Nat.le_refl _, by omega, Or.inr rfl, (Cl.new w _ _).alloc _, ?_, ((Below.refl _ _).alloc (Nat.le_refl _) _).alloc (by simp) _⟩
    rw [rangeTo_none]
    exact Cl.new' (by simp) _ _
  case round =>
    obtain ⟨n, rfl, h1, h2, h3, c0, c1, hB⟩ := hrel
    by_cases hlt : n ≤ b
    · obtain ⟨k, hk⟩ : ∃ k, k = n / 64 := ⟨_, rfl⟩
      have hc := c1.word k (by omega)
      have hf := c1.free k
      have hi : (k : Int) < 4 := by omega
      have hi0 : (0 : Int) ≤ (k : Int) := by omega
      have hq : IntKind.i64.wrap ((n : Int) / 64) = (k : Int) := by rw [IntWalk.i64_in _ (by omega)]; omega
      have hn8 : IntKind.u8.wrap (n : Int) = (n : Int) := IntWalk.u8_in _ (by omega)
      obtain ⟨v, hv⟩ : ∃ v, v = word (rangeTo a n) k ||| bt n := ⟨_, rfl⟩
      have ho : bits .or .u64 (word (rangeTo a n) k : Nat) (bt n : Nat) = (v : Int) := by rw [bits_or' _ _ (word_lt _ _) (bt_lt _), hv]
      have hC : (setC (rangeTo a n)).setIfInBounds k (.int .u64 (v : Nat)) = setC (rangeTo a (n + 1)) := by
        rw [← rangeTo_put h1, hk]
        exact setC_put (rangeTo a n) n (by omega) (by rw [hv, hk])
      have HC := Lib.hid hC
      clear hC hv hk
      go_wp2
      go_region_with (go_at_call 164; refine (bit_any _ (by omega) _).mono ?_; rintro e w' ⟨rfl, rfl⟩)
      all_goals
        go_wp2
        go_roundw
        case rel =>
          refine ⟨n + 1, by go_num, by omega, by omega, Or.inl (by omega), ?_, ?_, ?_⟩
          · exact (c0.other (p := ⟨w.heap.size + 1, k, none⟩) (by simp) _)
          · have := c1.put k (.int .u64 (v : Nat))
            rw [HC.out] at this
            exact this
          · exact (hB.setCell (p := ⟨w.heap.size + 1, k, none⟩) (by simp) _).drew
        case measure => simp [intOf]; omega
    · have e0 := c0.zero 0 (by omega)
      have e1 := c0.zero 1 (by omega)
      have e2 := c0.zero 2 (by omega)
      have e3 := c0.zero 3 (by omega)
      have f0 := c0.free 0
      have f1 := c0.free 1
      have f2 := c0.free 2
      have f3 := c0.free 3
      have w0 := c1.word 0 (by omega)
      have w1 := c1.word 1 (by omega)
      have w2 := c1.word 2 (by omega)
      have w3 := c1.word 3 (by omega)
      go_wp2
      refine bodyPost_ret (v := setV (rangeTo a n)) (by simp [results, Tryd.results162, go_sem, e0, e1, e2, e3]) rfl ⟨congrArg Ending.returned (setV_congr fun m _ => ?_), ?_⟩
      · unfold rangeTo
        by_cases hm : a ≤ m
        · have : (m < n) ↔ m ≤ b := by omega
          simp [this]
        · simp [hm]
      · exact (((hB.setCell (by simp) _).setCell (by simp) _).setCell (by simp) _).setCell (by simp) _

/-- The set of a text's bytes. -/
def ofT (l : List UInt8) : Nat → Bool := fun m => l.any (fun c => c.toNat == m)

theorem ofT_none : setC (ofT []) = #[.int .u64 0, .int .u64 0, .int .u64 0, .int .u64 0] := by
  rw [← setC_none]
  exact setC_congr (fun n _ => rfl)

theorem ofT_put (l : List UInt8) (c : UInt8) : (fun m => ofT l m || m == c.toNat) = ofT (l ++ [c]) := by
  funext m
  unfold ofT
  rw [List.any_append, show (m == c.toNat) = (c.toNat == m) from by rw [Bool.eq_iff_iff, beq_iff_eq, beq_iff_eq]; exact eq_comm]
  simp

theorem take_snoc (s : ByteArray) (k : Nat) (h : k < s.size) : s.data.toList.take (k + 1) = s.data.toList.take k ++ [s[k]] := by
  rw [List.take_succ_eq_append_getElem (by simpa using h)]
  rfl

set_option maxHeartbeats 2000000 in
theorem of_any (s : ByteArray) (hs : s.size ≤ maxLen) (w : World) :
    Calls Tryd.prog 163 #[.string s] w fun e w' => e = .returned (setV (ofT s.data.toList)) ∧ Below w.heap.size w w' := by
  unfold maxLen at hs
  go_enter Tryd.func163, Tryd.ntmps163
  go_wp2
  go_loopw [7] (fun v wr => ∃ n : Nat, v = .int .i64 n ∧ n ≤ s.size ∧ Cl wr w.heap.size 35 #[.int .u64 0, .int .u64 0, .int .u64 0, .int .u64 0] ∧ Cl wr (w.heap.size + 1) 35 (setC (ofT (s.data.toList.take n))) ∧ Below w.heap.size w wr)
    (fun v _ => s.size - (intOf v).toNat)
  case atStart =>
    refine ⟨0, rfl, Nat.zero_le _, (Cl.new w _ _).alloc _, ?_, ((Below.refl _ _).alloc (Nat.le_refl _) _).alloc (by simp) _⟩
    rw [List.take_zero, ofT_none]
    exact Cl.new' (by simp) _ _
  case round =>
    obtain ⟨n, rfl, h1, c0, c1, hB⟩ := hrel
    by_cases hlt : n < s.size
    · obtain ⟨k, hk⟩ : ∃ k, k = s[n].toNat / 64 := ⟨_, rfl⟩
      have hbn : s[n].toNat < 256 := s[n].toNat_lt
      have hc := c1.word k (by omega)
      have hf := c1.free k
      have hi : (k : Int) < 4 := by omega
      have hi0 : (0 : Int) ≤ (k : Int) := by omega
      have hq : IntKind.u8.wrap ((s[n].toNat : Int) / 64) = (k : Int) := by rw [IntWalk.u8_in _ (by omega)]; omega
      generalize hT : ofT (s.data.toList.take n) = T at c1 hc
      obtain ⟨v, hv⟩ : ∃ v, v = word T k ||| bt s[n].toNat := ⟨_, rfl⟩
      have ho : bits .or .u64 (word T k : Nat) (bt s[n].toNat : Nat) = (v : Int) := by rw [bits_or' _ _ (word_lt _ _) (bt_lt _), hv]
      have hC : (setC T).setIfInBounds k (.int .u64 (v : Nat)) = setC (ofT (s.data.toList.take (n + 1))) := by
        rw [take_snoc s n hlt, ← ofT_put, hk, hT]
        exact setC_put T s[n].toNat hbn (by rw [hv, hk])
      have HC := Lib.hid hC
      clear hC hv hk hT
      go_wp2
      go_region_with (go_at_call 164; refine (bit_any _ hbn _).mono ?_; rintro e w' ⟨rfl, rfl⟩)
      all_goals
        go_wp2
        go_roundw
        case rel =>
          refine ⟨n + 1, by go_num, by omega, ?_, ?_, ?_⟩
          · exact (c0.other (p := ⟨w.heap.size + 1, k, none⟩) (by simp) _)
          · have := c1.put k (.int .u64 (v : Nat))
            rw [HC.out] at this
            exact this
          · exact (hB.setCell (p := ⟨w.heap.size + 1, k, none⟩) (by simp) _).drew
        case measure => simp [intOf]; omega
    · obtain rfl : n = s.size := by omega
      have e0 := c0.zero 0 (by omega)
      have e1 := c0.zero 1 (by omega)
      have e2 := c0.zero 2 (by omega)
      have e3 := c0.zero 3 (by omega)
      have f0 := c0.free 0
      have f1 := c0.free 1
      have f2 := c0.free 2
      have f3 := c0.free 3
      have hall : s.data.toList.take s.size = s.data.toList := List.take_of_length_le (by simp)
      rw [hall] at c1
      have w0 := c1.word 0 (by omega)
      have w1 := c1.word 1 (by omega)
      have w2 := c1.word 2 (by omega)
      have w3 := c1.word 3 (by omega)
      clear hall
      go_wp2
      refine bodyPost_ret (v := setV (ofT s.data.toList)) (by simp [results, Tryd.results163, go_sem, e0, e1, e2, e3]) rfl ⟨rfl, ?_⟩
      exact (((hB.setCell (by simp) _).setCell (by simp) _).setCell (by simp) _).setCell (by simp) _
end Go.Proofs.YtjeogbdeagkomaaDoor

/- Walks over package set: all. -/
namespace Go.Proofs.YtjeogbdeagkomaaDoor
open Go.RowKit Bset

theorem not_none (w : World) :
    Calls Tryd.prog 143 #[.agg #[.int .u64 0, .int .u64 0, .int .u64 0, .int .u64 0]] w fun e w' => e = .returned (setV fun _ => true) ∧ Below w.heap.size w w' := by
  have h := not_any (fun _ => false) w
  rw [setV_none] at h
  exact h

set_option maxHeartbeats 1000000 in
theorem all_any (w : World) :
    Calls Tryd.prog 121 #[] w fun e w' => e = .returned (setV fun _ => true) ∧ Below w.heap.size w w' := by
  go_enter Tryd.func121, Tryd.ntmps121
  go_wp2_with (go_at_call 143; refine (not_none _).mono ?_; rintro e w1 ⟨rfl, hb⟩; obtain ⟨hc, hf⟩ := bcell hb; have hz : w.heap.size + 1 ≤ w1.heap.size := by have := hb.size; simp at this; omega)
  exact bodyPost_ret (v := setV fun _ => true) (by simp [results, Tryd.results121, go_sem, hc]) rfl
    ⟨rfl, (((((((Below.refl _ _).alloc (Nat.le_refl _) _).trans (hb.mono (by simp))).setCell (by simp) _).setCell (by simp) _).setCell (by simp) _).setCell (by simp) _)⟩
end Go.Proofs.YtjeogbdeagkomaaDoor

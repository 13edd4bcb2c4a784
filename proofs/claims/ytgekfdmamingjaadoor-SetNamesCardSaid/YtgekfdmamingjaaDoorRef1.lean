/- The document's own answers (bonsairef01): a power of two; whether a byte is in a set; a set, and a byte. -/
import Derived.Test.YtgekfdmamingjaaDoorSw3
namespace Go.Proofs.YtgekfdmamingjaaDoor
open Go.RowKit Bset

set_option maxHeartbeats 400000 in
theorem power_any (n p : Nat) (hn : n < 64) (hp : p = 2 ^ n) (w : World) :
    Calls Tryd.prog 47 #[.int .i64 n] w fun e w' => e = .returned (.int .u64 (p : Nat)) ∧ w = w' := by
  go_enter Tryd.func47, Tryd.ntmps47
  go_wp2
  go_loop [3, 4] (fun p i => ∃ k q : Nat, k ≤ n ∧ q = 2 ^ k ∧ i = .int .i64 k ∧ p = .int .u64 q) (fun _ i => n - (intOf i).toNat)
  case atStart => exact ⟨0, 1, Nat.zero_le _, rfl, rfl, rfl⟩
  case round =>
    have HPP := Lib.hid hp
    obtain ⟨k, q, h1, hq, rfl, rfl⟩ := hrel
    by_cases hlt : k < n
    · have h2 : 2 ^ (k + 1) < 18446744073709551616 := pow_lt64 (by omega)
      rw [Nat.pow_succ, ← hq] at h2
      have hw : IntKind.u64.wrap ((q : Int) * 2) = ((q * 2 : Nat) : Int) := by
        rw [show (q : Int) * 2 = ((q * 2 : Nat) : Int) by omega]
        exact wrap_nat h2
      have HQ := Lib.hid hq
      clear hq hp
      generalize hr : q * 2 = r at hw h2
      have HR := Lib.hid hr
      clear hr
      go_wp2
      go_round
      case rel => exact ⟨k + 1, r, by omega, by rw [← HR.out, HQ.out, Nat.pow_succ], by go_num, rfl⟩
      case measure => simp [intOf]; omega
    · obtain rfl : k = n := by omega
      rw [← hq] at hp
      subst hp
      clear hq
      go_wp2
      go_ret
      exact ⟨rfl, rfl⟩

theorem rhas_val (S : Nat → Bool) (b k q : Nat) (hk : k = b / 64) (hq : q = bt b) : ((IntKind.u64.wrap (((word S k : Nat) : Int) / (q : Int))).tmod 2 == 1) = S b := by
  have hd : ((word S k : Nat) : Int) / (q : Int) = ((word S k / q : Nat) : Int) := (Int.natCast_ediv _ _).symm
  have hl : word S k / q < 18446744073709551616 := Nat.lt_of_le_of_lt (Nat.div_le_self _ _) (word_lt S k)
  rw [hd, wrap_nat hl, Int.tmod_eq_emod_of_nonneg (Int.natCast_nonneg _), Bool.eq_iff_iff, beq_iff_eq, ← word_div]
  subst hk hq
  unfold bt
  omega

set_option maxHeartbeats 400000 in
theorem rhas_any (S : Nat → Bool) (b : Nat) (hb : b < 256) (w : World) :
    Calls Tryd.prog 25 #[setV S, .int .u8 b] w fun e w' => e = .returned (.bool (S b)) ∧ Below w.heap.size w w' := by
  obtain ⟨k, hk⟩ : ∃ k, k = b / 64 := ⟨_, rfl⟩
  obtain ⟨j, hj⟩ : ∃ j, j = b % 64 := ⟨_, rfl⟩
  have hc := cellW w S k (by omega) 26
  have hi : (k : Int) < 4 := by omega
  have hi0 : (0 : Int) ≤ (k : Int) := by omega
  have hq : IntKind.i64.wrap ((b : Int) / 64) = (k : Int) := by rw [IntWalk.i64_in _ (by omega)]; omega
  have hm : (b : Int) % 64 = (j : Int) := by omega
  have HK := Lib.hid hk; clear hk
  have hj64 : j < 64 := by omega
  obtain ⟨q, hqb⟩ : ∃ q, q = bt b := ⟨_, rfl⟩
  have hq0 : 0 < q := by rw [hqb]; unfold bt; exact Nat.two_pow_pos _
  have hqi : (q : Int) ≠ 0 := by omega
  have hqi2 : ((q : Int) == 0) = false := by simp; omega
  have hpw : q = 2 ^ j := by rw [hqb, hj]; rfl
  have HJ := Lib.hid hj; clear hj
  have HQ := Lib.hid hqb; clear hqb
  have HP := Lib.hid hpw; clear hpw
  go_enter Tryd.func25, Tryd.ntmps25
  go_wp2
  go_quiet ((go_at_call 47; exact Calls.quiet_of_same (qeq (power_any j q hj64 HP.out _))))
  go_wp2
  go_ret
  exact ⟨ret_bool (rhas_val S b k q HK.out HQ.out), bdrewN ((Below.refl _ _).alloc (Nat.le_refl _) _)⟩

theorem radd_val (S : Nat → Bool) (b k q : Nat) (h : S b = false) (hk : k = b / 64) (hq : q = bt b) : IntKind.u64.wrap (((word S k : Nat) : Int) + (q : Int)) = ((word S k ||| bt b : Nat) : Int) := by
  subst hk hq
  have e := word_add S h
  have e2 := word_put S (b := b)
  have hl := word_lt (fun n => S n || n == b) (b / 64)
  unfold bt
  rw [e2, ← e] at *
  rw [show ((word S (b / 64) : Nat) : Int) + ((2 ^ (b % 64) : Nat) : Int) = ((word S (b / 64) + 2 ^ (b % 64) : Nat) : Int) by omega]
  exact wrap_nat hl

set_option maxHeartbeats 1000000 in
theorem with_any (S : Nat → Bool) (b : Nat) (hb : b < 256) (w : World) :
    Calls Tryd.prog 46 #[setV S, .int .u8 b] w fun e w' => e = .returned (setV fun n => S n || n == b) ∧ Below w.heap.size w w' := by
  obtain ⟨k, hk⟩ : ∃ k, k = b / 64 := ⟨_, rfl⟩
  obtain ⟨j, hj⟩ : ∃ j, j = b % 64 := ⟨_, rfl⟩
  have hi : (k : Int) < 4 := by omega
  have hi0 : (0 : Int) ≤ (k : Int) := by omega
  have hq : IntKind.i64.wrap ((b : Int) / 64) = (k : Int) := by rw [IntWalk.i64_in _ (by omega)]; omega
  have hm : (b : Int) % 64 = (j : Int) := by omega
  have wb : IntKind.i64.wrap (b : Int) = (b : Int) := IntWalk.i64_in _ (by omega)
  have td : (b : Int).tdiv 64 = (k : Int) := by rw [Int.tdiv_eq_ediv_of_nonneg (Int.natCast_nonneg _)]; omega
  have wk : IntKind.i64.wrap (k : Int) = (k : Int) := IntWalk.i64_in _ (by omega)
  have tm : (b : Int).tmod 64 = (j : Int) := by rw [Int.tmod_eq_emod_of_nonneg (Int.natCast_nonneg _)]; omega
  have hj64 : j < 64 := by omega
  obtain ⟨q, hqb⟩ : ∃ q, q = bt b := ⟨_, rfl⟩
  have hpw : q = 2 ^ j := by rw [hqb, hj]; rfl
  have hk4 : k < 4 := by omega
  have HJ := Lib.hid hj; clear hj
  have HP := Lib.hid hpw; clear hpw
  go_enter Tryd.func46, Tryd.ntmps46
  go_wp2_with (fail)
  have x0 := (Cl.new w 26 (setC S)).alloc (.cells #[.int .u64 0, .int .u64 0, .int .u64 0, .int .u64 0] 26)
  have r0 : Cl ((w.alloc (.cells (setC S) 26)).alloc (.cells #[.int .u64 0, .int .u64 0, .int .u64 0, .int .u64 0] 26)) (w.heap.size + 1) 26 #[.int .u64 0, .int .u64 0, .int .u64 0, .int .u64 0] := Cl.new' (by simp) _ _
  have hB0 : Below w.heap.size w ((w.alloc (.cells (setC S) 26)).alloc (.cells #[.int .u64 0, .int .u64 0, .int .u64 0, .int .u64 0] 26)) := ((Below.refl _ _).alloc (Nat.le_refl _) _).alloc (by simp) _
  refine (rhas_any S b hb _).mono ?_
  rintro e w1 ⟨rfl, hb1⟩
  have x1 := x0.below hb1 x0.lt
  have r1 := r0.below hb1 r0.lt
  have hB1 : Below w.heap.size w w1 := hB0.trans (hb1.mono hB0.size)
  clear x0 r0 hB0 hb1
  have e0 := r1.zero 0 (by omega)
  have e1 := r1.zero 1 (by omega)
  have e2 := r1.zero 2 (by omega)
  have e3 := r1.zero 3 (by omega)
  have f0 := r1.free 0
  have f1 := r1.free 1
  have f2 := r1.free 2
  have f3 := r1.free 3
  by_cases hS : S b = true
  · have w0 := x1.word 0 (by omega)
    have w1 := x1.word 1 (by omega)
    have w2 := x1.word 2 (by omega)
    have w3 := x1.word 3 (by omega)
    clear hk hqb
    go_wp2
    refine bodyPost_ret (v := setV S) (by simp [results, Tryd.results46, go_sem, e0, e1, e2, e3]) rfl ⟨congrArg Ending.returned (setV_congr fun m _ => ?_), ?_⟩
    · by_cases hm : m = b
      · simp [hm, hS]
      · simp [hm]
    · exact (((hB1.setCell (by simp) _).setCell (by simp) _).setCell (by simp) _).setCell (by simp) _
  · have hS : S b = false := by simpa using hS
    have hv := radd_val S b k q hS hk hqb
    obtain ⟨v, hv2⟩ : ∃ v, v = word S k ||| bt b := ⟨_, rfl⟩
    rw [← hv2] at hv
    have hC : (setC S).setIfInBounds k (.int .u64 (v : Nat)) = setC (fun n => S n || n == b) := by
      rw [hk]
      exact setC_put S b hb (by rw [hv2, hk])
    have hx := x1.word k hk4
    have hxf := x1.free k
    have HC := Lib.hid hC
    clear hC hv2 hqb hk hk4
    go_wp2_with (fail)
    go_region_with (go_at_call 47; refine (power_any j q hj64 HP.out _).mono ?_; rintro e w' ⟨rfl, rfl⟩)
    all_goals
      have x2 : Cl (w1.setCell ⟨w.heap.size, k, none⟩ (.int .u64 (v : Nat))).drew w.heap.size 26 (setC fun n => S n || n == b) := by
        have := x1.put k (.int .u64 (v : Nat))
        rw [HC.out] at this
        exact this
      have r2 : Cl (w1.setCell ⟨w.heap.size, k, none⟩ (.int .u64 (v : Nat))).drew (w.heap.size + 1) 26 #[.int .u64 0, .int .u64 0, .int .u64 0, .int .u64 0] := r1.other (p := ⟨w.heap.size, k, none⟩) (by simp) _
      have hB2 : Below w.heap.size w (w1.setCell ⟨w.heap.size, k, none⟩ (.int .u64 (v : Nat))).drew := (hB1.setCell (p := ⟨w.heap.size, k, none⟩) (Nat.le_refl _) _).drew
      generalize (w1.setCell ⟨w.heap.size, k, none⟩ (.int .u64 (v : Nat))).drew = w2 at x2 r2 hB2 ⊢
      clear e0 e1 e2 e3 f0 f1 f2 f3 hx hxf
      obtain ⟨T, hT⟩ : ∃ T : Nat → Bool, T = fun n => S n || n == b := ⟨_, rfl⟩
      rw [← hT] at x2
      have HT := Lib.hid hT
      clear hT
      have e0 := r2.zero 0 (by omega)
      have e1 := r2.zero 1 (by omega)
      have e2 := r2.zero 2 (by omega)
      have e3 := r2.zero 3 (by omega)
      have f0 := r2.free 0
      have f1 := r2.free 1
      have f2 := r2.free 2
      have f3 := r2.free 3
      have w0 := x2.word 0 (by omega)
      have w1 := x2.word 1 (by omega)
      have w2 := x2.word 2 (by omega)
      have w3 := x2.word 3 (by omega)
      go_wp2
      refine bodyPost_ret (v := setV T) (by simp [results, Tryd.results46, go_sem, e0, e1, e2, e3]) rfl ⟨by rw [HT.out], ?_⟩
      exact (((hB2.setCell (by simp) _).setCell (by simp) _).setCell (by simp) _).setCell (by simp) _
end Go.Proofs.YtgekfdmamingjaaDoor

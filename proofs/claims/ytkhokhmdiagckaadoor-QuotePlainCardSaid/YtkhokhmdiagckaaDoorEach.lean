/- The iterator over a set's bytes: it tells each, rising, as long as the round goes on. -/
import Derived.RangeFuncNested
import Derived.RangeFuncBound
import Derived.RangeFuncCalls
import Derived.RangeFuncLeaves
import Derived.Shelf.Abstract
import Derived.Shelf.RegionOpen
import Derived.WalkKit
import Derived.OwnWalkIn
import Derived.TacticsInMore
import Derived.LoopNIn
import Derived.LoopIn
import Derived.Test.YtkhokhmdiagckaaDoorSw0
import Derived.Test.YtkhokhmdiagckaaDoorTz
import Derived.Test.YtkhokhmdiagckaaDoorLow
namespace Go.Proofs.YtkhokhmdiagckaaDoor
open Go.RowKit Go.Shelf Bset

attribute [local go_sem] Oper.semAt_some

theorem idx_word (S : Nat → Bool) (k : Nat) (hk : k < 4) (w : World) : (Instr.index 24 (setV S) (.int .i64 k)).run Tryd.prog w = .ok (.int .u64 (word S k : Nat)) w := by
  match k, hk with
  | 0, _ => exact idx0 _ _ _ _ w
  | 1, _ => exact idx1 _ _ _ _ w
  | 2, _ => exact idx2 _ _ _ _ w
  | 3, _ => exact idx3 _ _ _ _ w

theorem TabIn.below {n₀ : Nat} {w w' : World} (h : TabIn w) (hb : Below n₀ w w') (hg : 0 < n₀) : TabIn w' :=
  fun j hj => (hb.cell (p := ⟨0, j, none⟩) hg).trans (h j hj)

/-- A byte. -/
abbrev By := { x : Nat // x < 256 }

set_option maxRecDepth 100000 in
set_option maxHeartbeats 2000000 in
theorem each1_in (l Bn n₀ : Nat) (S : Nat → Bool) (J Jx : List By → World → Prop) (hg : 0 < n₀)
    (hY : ∀ pre x W, J pre W → pre.length < 256 → YieldAt Fence.wide 2 Tryd.prog l #[.int .u8 x.1] W fun e W' =>
      (e = .returned (.bool true) ∧ J (pre ++ [x]) W' ∧ Below n₀ W W') ∨ (e = .returned (.bool false) ∧ Jx (pre ++ [x]) W'))
    (W : World) (hBn : Cl W Bn 24 (setC S)) (hT : TabIn W) (h0 : J [] W) :
    CallsIn Fence.wide 3 Tryd.prog 40 #[.func (.yield l) #[] #[], .pointer (some ⟨Bn, 0, none⟩)] W fun e W' => (∃ v, e = .returned v) ∧
      ((∃ ys : List By, ys.map (·.1) = mem S ∧ J ys W') ∨ (∃ pre : List By, pre.map (·.1) <+: mem S ∧ Jx pre W')) := by
  have w0 := hBn.word 0 (by omega)
  have w1 := hBn.word 1 (by omega)
  have w2 := hBn.word 2 (by omega)
  have w3 := hBn.word 3 (by omega)
  refine callsIn_of_wp Tryd.func40 rfl trivial ?_ rfl
  simp only [Tryd.ntmps40, List.size_toArray, List.length_cons, List.length_nil, Nat.reduceAdd, Nat.reduceSub, Array.replicate_succ, Array.replicate_zero, List.push_toArray, List.append_toArray, List.nil_append, List.cons_append]
  gi_wp2
  gi_loopw [6] (fun i wr => ∃ (k : Nat) (pre : List By), i = .int .i64 k ∧ k ≤ 4 ∧ pre.map (·.1) = upTo S (64 * k) ∧ J pre wr ∧ TabIn wr)
    (fun i _ => 4 - (intOf i).toNat)
  case atStart =>
    exact ⟨0, [], rfl, by omega, rfl, h0, hT⟩
  case round =>
    obtain ⟨k, pre, rfl, hk, hp, hJ, hTw⟩ := hrel
    by_cases hlt : k < 4
    · have ik := idx_word S k hlt
      have hd : decide ((k : Int) < 4) = true := by simp; omega
      gi_wp2
      obtain ⟨wo, rfl⟩ : ∃ wo : World, wo = wr := ⟨_, rfl⟩
      gi_loopw [4] (fun v wq => ∃ (q x : Nat) (pr : List By), v = .int .u64 x ∧ x = word (frm S q) k ∧ 64 * k ≤ q ∧ q ≤ 64 * k + 64 ∧ pr.map (·.1) = upTo S q ∧ J pr wq ∧ TabIn wq)
        (fun v _ => (intOf v).toNat)
      case atStart =>
        exact ⟨64 * k, word S k, pre, rfl, (word_frm S k).symm, by omega, by omega, hp, hJ, hTw⟩
      case round =>
        obtain ⟨q, x, pr, rfl, hx, hq0, hq1, hpr, hJq, hTq⟩ := hrel
        have hxlt : x < 18446744073709551616 := by rw [hx]; exact word_lt _ _
        by_cases hx0 : x = 0
        · have hnone := frm_none (hx ▸ hx0) hq1 hq0
          subst hx0
          clear hx ik hd
          gi_wp2
          refine ⟨⟨k + 1, pr, by go_num, by omega, ?_, hJq, hTq⟩, by simp [intOf]; omega⟩
          rw [hpr, Nat.mul_add, Nat.mul_one]
          exact hnone.symm
        · obtain ⟨t, ht⟩ : ∃ t, t = Lib.ctzFrom 64 x := ⟨_, rfl⟩
          have hc := tz_any x hxlt hx0
          obtain ⟨l1, l2, l3, l4⟩ := low_spec hx hq0 hx0
          rw [← ht] at hc l1 l2 l3 l4
          obtain ⟨b, hb⟩ : ∃ b, b = 64 * k + t := ⟨_, rfl⟩
          have hb8 : b < 256 := by omega
          have hlen : pr.length < 256 := by
            have h1 : (pr.map (·.1)).length = (upTo S q).length := by rw [hpr]
            rw [List.length_map] at h1
            have := upTo_len S q
            omega
          obtain ⟨fn, tmps, assign, body, hy, hR⟩ := hY pr ⟨b, hb8⟩ wr hJq hlen
          dsimp only at hy
          have e1 : (k : Int) * 64 + (t : Int) = (b : Int) := by omega
          have hx1 : (1 : Int) ≤ (x : Int) := by omega
          have hne : ((x : Int) != 0) = true := by rw [bne_iff_ne]; omega
          obtain ⟨y, hy'⟩ : ∃ y, y = x &&& (x - 1) := ⟨_, rfl⟩
          have e2 : bits .and .u64 (x : Int) ((x : Int) - 1) = (y : Int) := by
            have : (x : Int) - 1 = ((x - 1 : Nat) : Int) := by omega
            rw [this, bits_and' _ _ hxlt (by omega), hy']
          have Hc := Lib.hid hc
          have HJ := Lib.hid hx
          have HB := Lib.hid hb
          have HY := Lib.hid hy'
          clear hc hx ht ik hd hb hy'
          gi_wp2_with (refine ⟨trivial, ?_⟩; gi_at_call 41; refine (callsIn_wide.2 (Hc.out _ (by assumption))).mono ?_; rintro e w' ⟨rfl, rfl⟩)
          have hpr' : (pr ++ [(⟨b, hb8⟩ : By)]).map (·.1) = upTo S (b + 1) := by
            have h3 := HB.out
            rw [List.map_append, hpr]
            show upTo S q ++ [b] = upTo S (b + 1)
            rw [h3, l3]
          refine hR.mono ?_
          rintro e W3 (⟨rfl, hJ3, hk3⟩ | ⟨rfl, hJx3⟩)
          · have hT3 := TabIn.below hTq hk3 hg
            gi_wp2
            refine ⟨⟨b + 1, y, pr ++ [⟨b, hb8⟩], rfl, ?_, by have := HB.out; omega, by have := HB.out; omega, hpr', hJ3, hT3⟩, ?_⟩
            · rw [HY.out, l4, HB.out]
            · have h1 := HY.out
              have h2 : x &&& (x - 1) ≤ x - 1 := Nat.and_le_right
              simp [intOf]
              omega
          · gi_wp2
            refine bodyPost_ret (results_none rfl _ _ _) rfl ?_
            exact ⟨⟨_, rfl⟩, .inr ⟨pr ++ [⟨b, hb8⟩], by rw [hpr']; exact upTo_mem (by omega), hJx3⟩⟩
    · obtain rfl : k = 4 := by omega
      gi_wp2
      go_end0
      exact ⟨⟨_, rfl⟩, .inl ⟨pre, hp, hJ⟩⟩

/-- **each(s) hands back a value that tells s's bytes, rising, or the first ones of them, where a round has said 'no more'.** -/
theorem each_stops (Bn n₀ : Nat) (S : Nat → Bool) (w : World) (hg : 0 < n₀) (hn : n₀ ≤ w.heap.size) (hBn : Cl w Bn 24 (setC S)) (hT : TabIn w) :
    SeqStopsK Fence.wide 3 Tryd.prog 40 #[.pointer (some ⟨Bn, 0, none⟩)] (fun x : By => #[Value.int .u8 x.1]) (Below n₀) (fun ys => ys.map (·.1) = mem S) (fun pre => pre.map (·.1) <+: mem S) 256 w :=
  fun l J Jx W hW _ _ hY h0 =>
    each1_in l Bn n₀ S J Jx hg hY W (hBn.below hW hBn.lt) (TabIn.below (hT.below (Below.refl n₀ _) hg) hW (by omega)) h0

set_option maxHeartbeats 1000000 in
theorem each_any (S : Nat → Bool) (w : World) :
    Calls Tryd.prog 36 #[setV S] w fun e w' => e = .returned (.func (.func 40) #[] #[.pointer (some ⟨w.heap.size, 0, none⟩)]) ∧ w' = w.alloc (.cells (setC S) 24) := by
  go_enter Tryd.func36, Tryd.ntmps36
  go_wp2
  go_ret
  exact ⟨rfl, rfl⟩
end Go.Proofs.YtkhokhmdiagckaaDoor

/- Package name: the iterator over the names that are tried. -/
import Derived.RangeFuncNested
import Derived.RangeFuncBound
import Derived.RangeFuncCalls
import Derived.RangeFuncLeaves
import Derived.Shelf.Abstract
import Derived.Shelf.RegionOpen
import Derived.OwnWalkIn
import Derived.TacticsInMore
import Derived.LoopNIn
import Derived.LoopIn
import Derived.Test.YtlekhoicdmgbcaaDoorN3
import Derived.Test.YtlekhoicdmgbcaaDoorNcl
namespace Go.Proofs.YtlekhoicdmgbcaaDoor
open Go.RowKit Go.Shelf Nm

attribute [local go_sem] Oper.semAt_some

/-- A name that is told. -/
abbrev Nam := { s : ByteArray // s.size ≤ 32 }

theorem wrap_step (k : Nat) : wrap64 (wrap64 ((k : Int) + 2) + 1) = wrap64 (((k + 1 : Nat) : Int) + 2) := by
  unfold wrap64
  omega
theorem wrap_mod (k : Nat) (h : k < 9223372036854775810) : (wrap64 (k : Int) % 18446744073709551616).toNat = k := by
  unfold wrap64
  omega
theorem wrap_mod2 (k : Nat) (x : Int) (hx : x = k) (h : k < 9223372036854775810) : (wrap64 x % 18446744073709551616).toNat = k := by
  subst hx
  exact wrap_mod k h
/-- How many names are still to come, at most. -/
def left (v : Value) : Nat := (9223372036854775810 - intOf v % 18446744073709551616).toNat
theorem left_eq (x : Int) : left (.int .i64 x) = (9223372036854775810 - x % 18446744073709551616).toNat := by
  unfold left
  rw [show intOf (.int .i64 x) = x from rfl]
theorem left_at (k : Nat) (x : Int) (hx : x = (k : Int) + 2) (h : k < 9223372036854775808) : left (.int .i64 (wrap64 x)) = 9223372036854775808 - k := by
  have h2 := wrap_mod2 (k + 2) x (by omega) (by omega)
  rw [left_eq]
  generalize wrap64 x % 18446744073709551616 = z at h2 ⊢
  omega
theorem wrap_meas (k : Nat) (h : k + 1 < 9223372036854775808) : left (.int .i64 (wrap64 ((k : Int) + 1 + 2))) < left (.int .i64 (wrap64 ((k : Int) + 2))) := by
  have h1 := left_at (k + 1) ((k : Int) + 1 + 2) (by omega) h
  have h2 := left_at k ((k : Int) + 2) rfl (by omega)
  generalize left (.int .i64 (wrap64 ((k : Int) + 1 + 2))) = a at h1 ⊢
  generalize left (.int .i64 (wrap64 ((k : Int) + 2))) = b at h2 ⊢
  omega
theorem wrap_b (x : Int) : -9223372036854775808 ≤ wrap64 x ∧ wrap64 x ≤ 9223372036854775807 := by
  unfold wrap64
  omega

set_option maxRecDepth 100000 in
set_option maxHeartbeats 1000000 in
theorem tries1_in (l Bn n₀ : Nat) (stem : ByteArray) (J Jx : List Nam → World → Prop) (hg : 1 < n₀)
    (hY : ∀ pre x W, J pre W → pre.length < 9223372036854775808 → YieldAt Fence.wide 2 Tryd.prog l #[.string x.1] W fun e W' =>
      (e = .returned (.bool true) ∧ J (pre ++ [x]) W' ∧ Below n₀ W W') ∨ (e = .returned (.bool false) ∧ Jx (pre ++ [x]) W'))
    (hA : ∀ s W W', J s W → W.grownBy W' none → J s W')
    (W : World) (hn : n₀ ≤ W.heap.size) (hlt : Bn < n₀) (hBn : Cl W Bn 9 #[.string stem]) (hT : Tens W) (hs : stem.size ≤ 281474976710656) (h0 : J [] W) :
    CallsIn Fence.wide 3 Tryd.prog 36 #[.func (.yield l) #[] #[], .pointer (some ⟨Bn, 0, none⟩)] W fun e W' => (∃ v, e = .returned v) ∧
      ((∃ ys : List Nam, (Tryed stem (ys.map (·.1)) ∧ mayB (cand stem ys.length) = false) ∧ J ys W') ∨ (∃ pre : List Nam, Tryed stem (pre.map (·.1)) ∧ Jx pre W')) := by
  refine callsIn_of_wp Tryd.func36 rfl trivial ?_ rfl
  simp only [Tryd.ntmps36, List.size_toArray, List.length_cons, List.length_nil, Nat.reduceAdd, Nat.reduceSub, Array.replicate_succ, Array.replicate_zero, List.push_toArray, List.append_toArray, List.nil_append, List.cons_append]
  have c0 := hBn.cell 0
  gi_wp2
  gi_loopw [3, 4] (fun v3 v4 wr => ∃ (k : Nat) (pre : List Nam), v3 = .string (cand stem k) ∧ v4 = .int .i64 (wrap64 ((k : Int) + 2)) ∧ k < 9223372036854775808 ∧ pre.length = k ∧ Tryed stem (pre.map (·.1)) ∧ J pre wr ∧ Tens wr ∧ Cl wr Bn 9 #[.string stem] ∧ n₀ ≤ wr.heap.size)
    (fun _ v4 _ => left v4)
  case atStart =>
    exact ⟨0, [], rfl, by unfold wrap64; simp, by omega, rfl, Tryed.nil _, h0, hT, hBn, hn⟩
  case round =>
    obtain ⟨k, pre, rfl, rfl, hk, hp, hP, hJ, hTw, hBw, hnw⟩ := hrel
    clear c0 h0 hT hBn hn
    have c0 := hBw.cell 0
    rcases hm : mayB (cand stem k) with _ | _
    · have hcs := cand_size stem k
      have hma := fun w => may_any (cand stem k) (by omega) w
      rw [hm] at hma
      have HM := Lib.hid hm
      have HP := Lib.hid hP
      have HK0 := Lib.hid hp
      clear hm hP hk hp hcs hs
      gi_wp2_with (refine ⟨trivial, ?_⟩; gi_at_call 11; refine (callsIn_wide.2 (hma _)).mono ?_; rintro e w' ⟨rfl, rfl⟩)
      go_end0
      exact ⟨⟨_, rfl⟩, .inl ⟨pre, ⟨HP.out, by rw [HK0.out]; exact HM.out⟩, hJ⟩⟩
    · have hk1 := cand_lt hk hm
      have hz := may_size hm
      obtain ⟨fn, tmps, assign, body, hy, hR⟩ := hY pre ⟨cand stem k, hz⟩ wr hJ (by omega)
      dsimp only at hy
      have hma := fun w => may_any (cand stem k) (by omega) w
      rw [hm] at hma
      have HM := Lib.hid hm
      have HP := Lib.hid hP
      have HK := Lib.hid hk1
      have HK0 := Lib.hid hp
      have hex : ∃ c, c = cand stem k := ⟨_, rfl⟩
      clear hm hP hk1 hk hp
      gi_wp2_with (refine ⟨trivial, ?_⟩; gi_at_call 11; refine (callsIn_wide.2 (hma _)).mono ?_; rintro e w' ⟨rfl, rfl⟩)
      have hP2 : Tryed stem ((pre ++ [(⟨cand stem k, hz⟩ : Nam)]).map (·.1)) := by
        have h1 := HP.out
        have h2 := HK0.out
        rw [List.map_append]
        show Tryed stem (pre.map (·.1) ++ [cand stem k])
        have h3 : k = (pre.map (·.1)).length := by rw [List.length_map]; exact h2.symm
        have h4 := HM.out
        rw [h3] at h4 ⊢
        exact Tryed.snoc h1 h4
      have HP2 := Lib.hid hP2
      clear hP2
      refine hR.mono ?_
      rintro e W3 (⟨rfl, hJ3, hk3⟩ | ⟨rfl, hJx3⟩)
      · have hT3 := Tens.below hTw hk3 hg
        have hB3 := hBw.below hk3 hlt
        have hn3 := Nat.le_trans hnw hk3.size
        have c3 := hB3.cell 0
        obtain ⟨wb0, wb1⟩ := wrap_b ((k : Int) + 2)
        have hsh := fun w ht => show_any (wrap64 ((k : Int) + 2)) wb0 wb1 w ht
        have HSH := Lib.hid hsh
        have hsum : stem.size + (showB (wrap64 ((k : Int) + 2))).size ≤ 9223372036854775807 := by have := showB_le ((k : Int) + 2); omega
        have hwn := wrap_step k
        clear hsh wb0 wb1 hR c0 hJ hTw hBw hy
        gi_wp2
        gi_region_with (refine ⟨trivial, ?_⟩; gi_at_call 16; refine (callsIn_wide.2 (HSH.out W3.drew hT3)).mono ?_; rintro e w' ⟨rfl, hb⟩; have hbb : Below W3.heap.size W3 w' := (Below.drew (Below.refl _ W3)).trans hb; have hB4 := Cl.below hB3 hbb hB3.lt; have c4 := hB4.cell 0; have hJ4 := hA _ _ _ hJ3 (grown_of_below hbb); have hT4 := Tens.below hT3 hbb (Nat.lt_of_lt_of_le hg hn3))
        all_goals
          gi_wp2
          go_simp
          refine ⟨⟨k + 1, by rw [cand_succ], by rw [show ((k + 1 : Nat) : Int) = (k : Int) + 1 by omega], HK.out, pre ++ [(⟨cand stem k, hz⟩ : Nam)], by rw [List.length_append, HK0.out]; rfl, HP2.out, hJ4, Nat.le_trans hn3 hbb.size⟩, ?_⟩
          exact wrap_meas k HK.out
      · gi_wp2
        refine bodyPost_ret (results_none rfl _ _ _) rfl ?_
        exact ⟨⟨_, rfl⟩, .inr ⟨_, HP2.out, hJx3⟩⟩

/-- **tries(stem) hands back a value that tells the names that the stem may come to, or the first ones of them, where a round has said 'no more'.** -/
theorem tries1_stops (Bn n₀ : Nat) (stem : ByteArray) (w : World) (hs : stem.size ≤ 281474976710656) (hg : 1 < n₀) (hlt : Bn < w.heap.size) (hn : n₀ ≤ w.heap.size) (hBn : Cl w Bn 9 #[.string stem]) (hT : Tens w) :
    SeqStopsK Fence.wide 3 Tryd.prog 36 #[.pointer (some ⟨Bn, 0, none⟩)] (fun x : Nam => #[Value.string x.1]) (Below w.heap.size) (fun ys => Tryed stem (ys.map (·.1)) ∧ mayB (cand stem ys.length) = false) (fun pre => Tryed stem (pre.map (·.1))) 9223372036854775808 w :=
  fun l J Jx W hW hJ _ hY h0 =>
    tries1_in l Bn w.heap.size stem J Jx (by omega) hY (fun s A B h hg => hJ s A B none h hg (fun r e => by cases e)) W hW.size hlt (hBn.below hW hBn.lt) (Tens.below hT hW (by omega)) hs h0

set_option maxHeartbeats 1000000 in
theorem tries_any (stem : ByteArray) (w : World) :
    Calls Tryd.prog 31 #[.string stem] w fun e w' => e = .returned (.func (.func 36) #[] #[.pointer (some ⟨w.heap.size, 0, none⟩)]) ∧ w' = w.alloc (.cells #[.string stem] 9) := by
  go_enter Tryd.func31, Tryd.ntmps31
  go_wp2
  go_ret
  exact ⟨rfl, rfl⟩
end Go.Proofs.YtlekhoicdmgbcaaDoor

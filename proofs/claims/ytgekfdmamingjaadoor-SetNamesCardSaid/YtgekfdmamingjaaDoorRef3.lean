/- The document's own answers (bonsairef01): Range, All, Not, Of. -/
import Derived.Test.YtgekfdmamingjaaDoorRef2
namespace Go.Proofs.YtgekfdmamingjaaDoor
open Go.RowKit Bset

/-- What a round of these loops knows: the result's cell, the set that is made. -/
structure OutSt (w : World) (T : Nat → Bool) (W : World) : Prop where
  r : Cl W w.heap.size 26 #[.int .u64 0, .int .u64 0, .int .u64 0, .int .u64 0]
  o : Cl W (w.heap.size + 1) 26 (setC T)
  low : Below w.heap.size w W

theorem OutSt.step {w W W' : World} {T : Nat → Bool} (h : OutSt w T W) (hb : Below W.heap.size W W') : OutSt w T W' :=
  ⟨h.r.below hb h.r.lt, h.o.below hb h.o.lt, h.low.trans (hb.mono h.low.size)⟩
theorem OutSt.drew {w W : World} {T : Nat → Bool} (h : OutSt w T W) : OutSt w T W.drew := ⟨h.r, h.o, h.low.drew⟩
theorem OutSt.put {w W : World} {T : Nat → Bool} (h : OutSt w T W) (T2 : Nat → Bool) : OutSt w T2 ((((W.setCell ⟨w.heap.size + 1, 0, none⟩ (.int .u64 (word T2 0 : Nat))).setCell ⟨w.heap.size + 1, 1, none⟩ (.int .u64 (word T2 1 : Nat))).setCell ⟨w.heap.size + 1, 2, none⟩ (.int .u64 (word T2 2 : Nat))).setCell ⟨w.heap.size + 1, 3, none⟩ (.int .u64 (word T2 3 : Nat))) where
  r := by
    have hn : w.heap.size ≠ w.heap.size + 1 := by omega
    exact ((((h.r.other (p := ⟨w.heap.size + 1, 0, none⟩) hn _).other (p := ⟨w.heap.size + 1, 1, none⟩) hn _).other (p := ⟨w.heap.size + 1, 2, none⟩) hn _).other (p := ⟨w.heap.size + 1, 3, none⟩) hn _)
  o := (((h.o.put 0 _).put 1 _).put 2 _).put 3 _
  low := by
    have hn : w.heap.size ≤ w.heap.size + 1 := by omega
    exact ((((h.low.setCell (p := ⟨w.heap.size + 1, 0, none⟩) hn _).setCell (p := ⟨w.heap.size + 1, 1, none⟩) hn _).setCell (p := ⟨w.heap.size + 1, 2, none⟩) hn _).setCell (p := ⟨w.heap.size + 1, 3, none⟩) hn _)
theorem OutSt.cells {w W : World} {T : Nat → Bool} (h : OutSt w T W) :
    W.cell? ⟨w.heap.size + 1, 0, none⟩ = some (.int .u64 (word T 0 : Nat)) ∧ W.cell? ⟨w.heap.size + 1, 1, none⟩ = some (.int .u64 (word T 1 : Nat)) ∧ W.cell? ⟨w.heap.size + 1, 2, none⟩ = some (.int .u64 (word T 2 : Nat)) ∧ W.cell? ⟨w.heap.size + 1, 3, none⟩ = some (.int .u64 (word T 3 : Nat)) ∧
    W.frozen? ⟨w.heap.size + 1, 0, none⟩ = false ∧ W.frozen? ⟨w.heap.size + 1, 1, none⟩ = false ∧ W.frozen? ⟨w.heap.size + 1, 2, none⟩ = false ∧ W.frozen? ⟨w.heap.size + 1, 3, none⟩ = false :=
  ⟨h.o.word 0 (by decide), h.o.word 1 (by decide), h.o.word 2 (by decide), h.o.word 3 (by decide), h.o.free 0, h.o.free 1, h.o.free 2, h.o.free 3⟩
theorem OutSt.start (w : World) : OutSt w (fun _ => false) ((w.alloc (.cells #[.int .u64 0, .int .u64 0, .int .u64 0, .int .u64 0] 26)).alloc (.cells #[.int .u64 0, .int .u64 0, .int .u64 0, .int .u64 0] 26)) := by
  have e := setC_none
  refine ⟨?_, ?_, ?_⟩
  · exact (Cl.new' rfl _ _).alloc _
  · rw [e]
    exact Cl.new' (by simp) _ _
  · exact ((Below.refl _ w).alloc (Nat.le_refl _) _).alloc (by simp) _

set_option maxRecDepth 100000 in
set_option maxHeartbeats 4000000 in
theorem rrange_any (a b : Nat) (ha : a < 256) (hb : b < 256) (w : World) :
    Calls Tryd.prog 24 #[.int .u8 a, .int .u8 b] w fun e w' => e = .returned (setV fun m => decide (a ≤ m) && decide (m ≤ b)) ∧ Below w.heap.size w w' := by
  obtain ⟨C, hC⟩ : ∃ C : Nat → Bool, C = fun m => decide (a ≤ m) && decide (m ≤ b) := ⟨_, rfl⟩
  rw [← hC]
  have HC := Lib.hid hC
  clear hC
  have wa : IntKind.i64.wrap (a : Int) = (a : Int) := IntWalk.i64_in _ (by omega)
  have wb : IntKind.i64.wrap (b : Int) = (b : Int) := IntWalk.i64_in _ (by omega)
  have h0 := OutSt.start w
  go_enter Tryd.func24, Tryd.ntmps24
  go_wp2_with (fail)
  go_loopw [6] (fun v wr => ∃ n : Nat, v = .int .i64 n ∧ n ≤ 256 ∧ OutSt w (upC C n) wr) (fun v _ => 256 - (intOf v).toNat)
  case atStart => exact ⟨0, rfl, by omega, by rw [upC_zero]; exact h0⟩
  case round =>
    obtain ⟨n, rfl, h1, hst⟩ := hrel
    clear h0
    by_cases hlt : n < 256
    · have hn8 : IntKind.u8.wrap (n : Int) = (n : Int) := IntWalk.u8_in _ (by omega)
      have hni : (n : Int) < 256 := by omega
      have hCn : C n = (decide (a ≤ n) && decide (n ≤ b)) := by rw [HC.out]
      generalize hT : upC C n = T at hst
      have HT := Lib.hid hT
      clear hT
      obtain ⟨o0, o1, o2, o3, f0, f1, f2, f3⟩ := hst.cells
      by_cases hx : a ≤ n
      · by_cases hy : n ≤ b
        · have HN := Lib.hid hCn
          clear hCn
          go_wp2_with (go_at_call 46; refine (with_any _ n hlt _).mono ?_; rintro e w' ⟨rfl, hb⟩; clear o0 o1 o2 o3 f0 f1 f2 f3; replace hst := hst.step hb; obtain ⟨o0, o1, o2, o3, f0, f1, f2, f3⟩ := hst.cells)
          go_roundw
          case rel =>
            refine ⟨n + 1, by go_num, by omega, ?_⟩
            rw [upC_in (by rw [HN.out]; simp [hx, hy]), HT.out]
            exact hst.put _
          case measure => simp [intOf]; omega
        · have HN := Lib.hid hCn
          clear hCn
          go_wp2_with (fail)
          go_roundw
          case rel =>
            refine ⟨n + 1, by go_num, by omega, ?_⟩
            rw [upC_out (by rw [HN.out]; simp [hy]), HT.out]
            exact hst
          case measure => simp [intOf]; omega
      · have HN := Lib.hid hCn
        clear hCn
        go_wp2_with (fail)
        go_roundw
        case rel =>
          refine ⟨n + 1, by go_num, by omega, ?_⟩
          rw [upC_out (by rw [HN.out]; simp [hx]), HT.out]
          exact hst
        case measure => simp [intOf]; omega
    · obtain rfl : n = 256 := by omega
      have e0 := hst.r.zero 0 (by omega)
      have e1 := hst.r.zero 1 (by omega)
      have e2 := hst.r.zero 2 (by omega)
      have e3 := hst.r.zero 3 (by omega)
      have f0 := hst.r.free 0
      have f1 := hst.r.free 1
      have f2 := hst.r.free 2
      have f3 := hst.r.free 3
      have w0 := hst.o.word 0 (by omega)
      have w1 := hst.o.word 1 (by omega)
      have w2 := hst.o.word 2 (by omega)
      have w3 := hst.o.word 3 (by omega)
      have hB := hst.low
      go_wp2
      refine bodyPost_ret (v := setV (upC C 256)) (by simp [results, Tryd.results24, go_sem, e0, e1, e2, e3]) rfl ⟨by rw [upC_all], ?_⟩
      exact (((hB.setCell (by simp) _).setCell (by simp) _).setCell (by simp) _).setCell (by simp) _

set_option maxRecDepth 100000 in
set_option maxHeartbeats 2000000 in
theorem rof_any (s : ByteArray) (hs : s.size ≤ maxLen) (w : World) :
    Calls Tryd.prog 23 #[.string s] w fun e w' => e = .returned (setV (ofT s.data.toList)) ∧ Below w.heap.size w w' := by
  unfold maxLen at hs
  have h0 := OutSt.start w
  go_enter Tryd.func23, Tryd.ntmps23
  go_wp2_with (fail)
  go_loopw [4] (fun v wr => ∃ n : Nat, v = .int .i64 n ∧ n ≤ s.size ∧ OutSt w (ofT (s.data.toList.take n)) wr) (fun v _ => s.size - (intOf v).toNat)
  case atStart => exact ⟨0, rfl, by omega, h0⟩
  case round =>
    obtain ⟨n, rfl, h1, hst⟩ := hrel
    clear h0
    by_cases hlt : n < s.size
    · have hbn : s[n].toNat < 256 := s[n].toNat_lt
      have hT2 : ofT (s.data.toList.take (n + 1)) = fun m => ofT (s.data.toList.take n) m || m == s[n].toNat := by rw [take_snoc s n hlt, ← ofT_put]
      generalize ofT (s.data.toList.take n) = T at hst hT2
      have HT := Lib.hid hT2
      clear hT2
      obtain ⟨o0, o1, o2, o3, f0, f1, f2, f3⟩ := hst.cells
      go_wp2_with (fail)
      go_region_with (go_at_call 46; refine (with_any _ s[n].toNat hbn _).mono ?_; rintro e w' ⟨rfl, hb⟩; clear o0 o1 o2 o3 f0 f1 f2 f3; replace hst := (hst.drew).step hb; obtain ⟨o0, o1, o2, o3, f0, f1, f2, f3⟩ := hst.cells)
      all_goals
        go_wp2
        go_roundw
        case rel =>
          refine ⟨n + 1, by go_num, by omega, ?_⟩
          rw [HT.out]
          exact hst.put _
        case measure => simp [intOf]; omega
    · obtain rfl : n = s.size := by omega
      have hall : s.data.toList.take s.size = s.data.toList := List.take_of_length_le (by simp)
      rw [hall] at hst
      clear hall
      have e0 := hst.r.zero 0 (by omega)
      have e1 := hst.r.zero 1 (by omega)
      have e2 := hst.r.zero 2 (by omega)
      have e3 := hst.r.zero 3 (by omega)
      have f0 := hst.r.free 0
      have f1 := hst.r.free 1
      have f2 := hst.r.free 2
      have f3 := hst.r.free 3
      have w0 := hst.o.word 0 (by omega)
      have w1 := hst.o.word 1 (by omega)
      have w2 := hst.o.word 2 (by omega)
      have w3 := hst.o.word 3 (by omega)
      have hB := hst.low
      go_wp2
      refine bodyPost_ret (v := setV (ofT s.data.toList)) (by simp [results, Tryd.results23, go_sem, e0, e1, e2, e3]) rfl ⟨rfl, ?_⟩
      exact (((hB.setCell (by simp) _).setCell (by simp) _).setCell (by simp) _).setCell (by simp) _

set_option maxHeartbeats 1000000 in
theorem rall_any (w : World) :
    Calls Tryd.prog 48 #[] w fun e w' => e = .returned (setV fun _ => true) ∧ Below w.heap.size w w' := by
  have r0 := Cl.new w 26 #[.int .u64 0, .int .u64 0, .int .u64 0, .int .u64 0]
  have hB0 : Below w.heap.size w (w.alloc (.cells #[.int .u64 0, .int .u64 0, .int .u64 0, .int .u64 0] 26)) := (Below.refl _ w).alloc (Nat.le_refl _) _
  go_enter Tryd.func48, Tryd.ntmps48
  go_wp2_with (fail)
  refine (rrange_any 0 255 (by decide) (by decide) _).mono ?_
  rintro e w1 ⟨rfl, hb1⟩
  have r1 := r0.below hb1 r0.lt
  have hB := hB0.trans (hb1.mono hB0.size)
  clear r0 hB0 hb1
  have e0 := r1.zero 0 (by omega)
  have e1 := r1.zero 1 (by omega)
  have e2 := r1.zero 2 (by omega)
  have e3 := r1.zero 3 (by omega)
  have f0 := r1.free 0
  have f1 := r1.free 1
  have f2 := r1.free 2
  have f3 := r1.free 3
  obtain ⟨T, hT⟩ : ∃ T : Nat → Bool, T = fun m => decide (0 ≤ m) && decide (m ≤ 255) := ⟨_, rfl⟩
  rw [← hT]
  have hA : setV T = setV fun _ => true := setV_congr fun m hm => by
    have h2 : m ≤ 255 := by omega
    rw [hT]
    simp [h2]
  have HA := Lib.hid hA
  clear hT hA
  go_wp2
  refine bodyPost_ret (v := setV T) (by simp [results, Tryd.results48, go_sem, e0, e1, e2, e3]) rfl ⟨by rw [HA.out], ?_⟩
  exact (((hB.setCell (by simp) _).setCell (by simp) _).setCell (by simp) _).setCell (by simp) _

set_option maxHeartbeats 1000000 in
theorem rnot_any (S : Nat → Bool) (w : World) :
    Calls Tryd.prog 36 #[setV S] w fun e w' => e = .returned (setV fun m => !S m) ∧ Below w.heap.size w w' := by
  have x0 := (Cl.new w 26 (setC S)).alloc (.cells #[.int .u64 0, .int .u64 0, .int .u64 0, .int .u64 0] 26)
  have r0 : Cl ((w.alloc (.cells (setC S) 26)).alloc (.cells #[.int .u64 0, .int .u64 0, .int .u64 0, .int .u64 0] 26)) (w.heap.size + 1) 26 #[.int .u64 0, .int .u64 0, .int .u64 0, .int .u64 0] := Cl.new' (by simp) _ _
  have hB0 : Below w.heap.size w ((w.alloc (.cells (setC S) 26)).alloc (.cells #[.int .u64 0, .int .u64 0, .int .u64 0, .int .u64 0] 26)) := ((Below.refl _ w).alloc (Nat.le_refl _) _).alloc (by simp) _
  go_enter Tryd.func36, Tryd.ntmps36
  go_wp2_with (fail)
  generalize (w.alloc (.cells (setC S) 26)).alloc (.cells #[.int .u64 0, .int .u64 0, .int .u64 0, .int .u64 0] 26) = W at x0 r0 hB0 ⊢
  obtain ⟨x00, x01, x02, x03⟩ : _ ∧ _ ∧ _ ∧ _ := ⟨x0.word 0 (by omega), x0.word 1 (by omega), x0.word 2 (by omega), x0.word 3 (by omega)⟩
  go_region_with (first
    | (go_at_call 48; refine (rall_any _).mono ?_; rintro e w' ⟨rfl, hb⟩; have x1 := (x0.drew).below hb x0.lt; have r1 := (r0.drew).below hb r0.lt; have hB1 := hB0.drew.trans (hb.mono hB0.size); obtain ⟨x10, x11, x12, x13⟩ : _ ∧ _ ∧ _ ∧ _ := ⟨x1.word 0 (by omega), x1.word 1 (by omega), x1.word 2 (by omega), x1.word 3 (by omega)⟩)
    | (go_at_call 35; refine (rminus_any _ _ _).mono ?_; rintro e w' ⟨rfl, hb⟩; have r2 := r1.below hb r1.lt; have hB2 := hB1.trans (hb.mono hB1.size); have e0 := r2.zero 0 (by omega); have e1 := r2.zero 1 (by omega); have e2 := r2.zero 2 (by omega); have e3 := r2.zero 3 (by omega); have f0 := r2.free 0; have f1 := r2.free 1; have f2 := r2.free 2; have f3 := r2.free 3))
  all_goals
    go_wp2
    refine bodyPost_ret (v := setV fun m => true && !S m) (by simp [results, Tryd.results36, go_sem, e0, e1, e2, e3]) rfl ⟨congrArg Ending.returned (setV_congr fun m _ => by simp), ?_⟩
    exact (((hB2.setCell (by simp) _).setCell (by simp) _).setCell (by simp) _).setCell (by simp) _
end Go.Proofs.YtgekfdmamingjaaDoor

/- The document's own answers (bonsairef01): Or, And, Minus: byte by byte. -/
import Derived.Test.YtgekfdmamingjaaDoorRef1
namespace Go.Proofs.YtgekfdmamingjaaDoor
open Go.RowKit Bset

/-- What a round of these loops knows: the two arguments' boxes, the result's cell, the set that is made. -/
structure LoopSt (w : World) (X Y T : Nat → Bool) (W : World) : Prop where
  a : Cl W w.heap.size 26 (setC X)
  b : Cl W (w.heap.size + 1) 26 (setC Y)
  r : Cl W (w.heap.size + 1 + 1) 26 #[.int .u64 0, .int .u64 0, .int .u64 0, .int .u64 0]
  o : Cl W (w.heap.size + 1 + 1 + 1) 26 (setC T)
  low : Below w.heap.size w W

theorem LoopSt.step {w W W' : World} {X Y T : Nat → Bool} (h : LoopSt w X Y T W) (hb : Below W.heap.size W W') : LoopSt w X Y T W' :=
  ⟨h.a.below hb h.a.lt, h.b.below hb h.b.lt, h.r.below hb h.r.lt, h.o.below hb h.o.lt, h.low.trans (hb.mono h.low.size)⟩

theorem LoopSt.put {w W : World} {X Y T : Nat → Bool} (h : LoopSt w X Y T W) (T2 : Nat → Bool) :
    LoopSt w X Y T2 ((((W.setCell ⟨w.heap.size + 1 + 1 + 1, 0, none⟩ (.int .u64 (word T2 0 : Nat))).setCell ⟨w.heap.size + 1 + 1 + 1, 1, none⟩ (.int .u64 (word T2 1 : Nat))).setCell ⟨w.heap.size + 1 + 1 + 1, 2, none⟩ (.int .u64 (word T2 2 : Nat))).setCell ⟨w.heap.size + 1 + 1 + 1, 3, none⟩ (.int .u64 (word T2 3 : Nat))) where
  a := by
    have hn : w.heap.size ≠ w.heap.size + 1 + 1 + 1 := by omega
    exact (((h.a.other (p := ⟨w.heap.size + 1 + 1 + 1, 0, none⟩) hn _).other (p := ⟨w.heap.size + 1 + 1 + 1, 1, none⟩) hn _).other (p := ⟨w.heap.size + 1 + 1 + 1, 2, none⟩) hn _).other (p := ⟨w.heap.size + 1 + 1 + 1, 3, none⟩) hn _
  b := by
    have hn : w.heap.size + 1 ≠ w.heap.size + 1 + 1 + 1 := by omega
    exact (((h.b.other (p := ⟨w.heap.size + 1 + 1 + 1, 0, none⟩) hn _).other (p := ⟨w.heap.size + 1 + 1 + 1, 1, none⟩) hn _).other (p := ⟨w.heap.size + 1 + 1 + 1, 2, none⟩) hn _).other (p := ⟨w.heap.size + 1 + 1 + 1, 3, none⟩) hn _
  r := by
    have hn : w.heap.size + 1 + 1 ≠ w.heap.size + 1 + 1 + 1 := by omega
    exact (((h.r.other (p := ⟨w.heap.size + 1 + 1 + 1, 0, none⟩) hn _).other (p := ⟨w.heap.size + 1 + 1 + 1, 1, none⟩) hn _).other (p := ⟨w.heap.size + 1 + 1 + 1, 2, none⟩) hn _).other (p := ⟨w.heap.size + 1 + 1 + 1, 3, none⟩) hn _
  o := (((h.o.put 0 _).put 1 _).put 2 _).put 3 _
  low := by
    have hn : w.heap.size ≤ w.heap.size + 1 + 1 + 1 := by omega
    exact (((h.low.setCell (p := ⟨w.heap.size + 1 + 1 + 1, 0, none⟩) hn _).setCell (p := ⟨w.heap.size + 1 + 1 + 1, 1, none⟩) hn _).setCell (p := ⟨w.heap.size + 1 + 1 + 1, 2, none⟩) hn _).setCell (p := ⟨w.heap.size + 1 + 1 + 1, 3, none⟩) hn _

theorem LoopSt.cells {w W : World} {X Y T : Nat → Bool} (h : LoopSt w X Y T W) :
    W.cell? ⟨w.heap.size, 0, none⟩ = some (.int .u64 (word X 0 : Nat)) ∧ W.cell? ⟨w.heap.size, 1, none⟩ = some (.int .u64 (word X 1 : Nat)) ∧ W.cell? ⟨w.heap.size, 2, none⟩ = some (.int .u64 (word X 2 : Nat)) ∧ W.cell? ⟨w.heap.size, 3, none⟩ = some (.int .u64 (word X 3 : Nat)) ∧
    W.cell? ⟨w.heap.size + 1, 0, none⟩ = some (.int .u64 (word Y 0 : Nat)) ∧ W.cell? ⟨w.heap.size + 1, 1, none⟩ = some (.int .u64 (word Y 1 : Nat)) ∧ W.cell? ⟨w.heap.size + 1, 2, none⟩ = some (.int .u64 (word Y 2 : Nat)) ∧ W.cell? ⟨w.heap.size + 1, 3, none⟩ = some (.int .u64 (word Y 3 : Nat)) ∧
    W.cell? ⟨w.heap.size + 1 + 1 + 1, 0, none⟩ = some (.int .u64 (word T 0 : Nat)) ∧ W.cell? ⟨w.heap.size + 1 + 1 + 1, 1, none⟩ = some (.int .u64 (word T 1 : Nat)) ∧ W.cell? ⟨w.heap.size + 1 + 1 + 1, 2, none⟩ = some (.int .u64 (word T 2 : Nat)) ∧ W.cell? ⟨w.heap.size + 1 + 1 + 1, 3, none⟩ = some (.int .u64 (word T 3 : Nat)) ∧
    W.frozen? ⟨w.heap.size + 1 + 1 + 1, 0, none⟩ = false ∧ W.frozen? ⟨w.heap.size + 1 + 1 + 1, 1, none⟩ = false ∧ W.frozen? ⟨w.heap.size + 1 + 1 + 1, 2, none⟩ = false ∧ W.frozen? ⟨w.heap.size + 1 + 1 + 1, 3, none⟩ = false :=
  ⟨h.a.word 0 (by decide), h.a.word 1 (by decide), h.a.word 2 (by decide), h.a.word 3 (by decide), h.b.word 0 (by decide), h.b.word 1 (by decide), h.b.word 2 (by decide), h.b.word 3 (by decide), h.o.word 0 (by decide), h.o.word 1 (by decide), h.o.word 2 (by decide), h.o.word 3 (by decide), h.o.free 0, h.o.free 1, h.o.free 2, h.o.free 3⟩

theorem LoopSt.start (w : World) (X Y : Nat → Bool) : LoopSt w X Y (fun _ => false) ((((w.alloc (.cells (setC X) 26)).alloc (.cells (setC Y) 26)).alloc (.cells #[.int .u64 0, .int .u64 0, .int .u64 0, .int .u64 0] 26)).alloc (.cells #[.int .u64 0, .int .u64 0, .int .u64 0, .int .u64 0] 26)) := by
  have e := setC_none
  refine ⟨?_, ?_, ?_, ?_, ?_⟩
  · exact (((Cl.new' rfl _ _).alloc _).alloc _).alloc _
  · exact ((Cl.new' (by simp) _ _).alloc _).alloc _
  · exact (Cl.new' (by simp) _ _).alloc _
  · rw [e]
    exact Cl.new' (by simp) _ _
  · exact ((((Below.refl _ w).alloc (Nat.le_refl _) _).alloc (by simp) _).alloc (by simp; omega) _).alloc (by simp; omega) _

/-- So far: the bytes below n alone. -/
def upC (C : Nat → Bool) (n : Nat) : Nat → Bool := fun m => decide (m < n) && C m
theorem upC_zero (C : Nat → Bool) : upC C 0 = fun _ => false := by
  funext m
  simp [upC]
theorem upC_in {C : Nat → Bool} {n : Nat} (h : C n = true) : upC C (n + 1) = fun m => upC C n m || m == n := by
  funext m
  unfold upC
  by_cases hm : m = n
  · subst hm
    simp [h]
  · have : (m < n + 1) ↔ m < n := by omega
    simp [this, hm]
theorem upC_out {C : Nat → Bool} {n : Nat} (h : C n = false) : upC C (n + 1) = upC C n := by
  funext m
  unfold upC
  by_cases hm : m = n
  · subst hm
    simp [h]
  · have : (m < n + 1) ↔ m < n := by omega
    simp [this]
theorem upC_all (C : Nat → Bool) : setV (upC C 256) = setV C := setV_congr fun m hm => by simp [upC, hm]

set_option maxRecDepth 100000 in
set_option maxHeartbeats 4000000 in
theorem ror_any (X Y : Nat → Bool) (w : World) :
    Calls Tryd.prog 31 #[setV X, setV Y] w fun e w' => e = .returned (setV fun m => X m || Y m) ∧ Below w.heap.size w w' := by
  obtain ⟨C, hC⟩ : ∃ C : Nat → Bool, C = fun m => X m || Y m := ⟨_, rfl⟩
  rw [← hC]
  have HC := Lib.hid hC
  clear hC
  have h0 := LoopSt.start w X Y
  go_enter Tryd.func31, Tryd.ntmps31
  go_wp2_with (fail)
  go_loopw [6] (fun v wr => ∃ n : Nat, v = .int .i64 n ∧ n ≤ 256 ∧ LoopSt w X Y (upC C n) wr) (fun v _ => 256 - (intOf v).toNat)
  case atStart => exact ⟨0, rfl, by omega, by rw [upC_zero]; exact h0⟩
  case round =>
    obtain ⟨n, rfl, h1, hst⟩ := hrel
    clear h0
    by_cases hlt : n < 256
    · have hn8 : IntKind.u8.wrap (n : Int) = (n : Int) := IntWalk.u8_in _ (by omega)
      have hni : (n : Int) < 256 := by omega
      have hCn : C n = (X n || Y n) := by rw [HC.out]
      generalize hT : upC C n = T at hst
      have HT := Lib.hid hT
      clear hT
      obtain ⟨a0, a1, a2, a3, b0, b1, b2, b3, o0, o1, o2, o3, f0, f1, f2, f3⟩ := hst.cells
      rcases hx : X n with _ | _ <;> rcases hy : Y n with _ | _
      · rw [hx, hy] at hCn
        have HN := Lib.hid hCn
        clear hCn
        go_wp2_with (first
          | (go_at_call 25; refine (rhas_any _ n hlt _).mono ?_; rintro e w' ⟨rfl, hb⟩; clear a0 a1 a2 a3 b0 b1 b2 b3 o0 o1 o2 o3 f0 f1 f2 f3; replace hst := hst.step hb; obtain ⟨a0, a1, a2, a3, b0, b1, b2, b3, o0, o1, o2, o3, f0, f1, f2, f3⟩ := hst.cells)
          | (go_at_call 46; refine (with_any _ n hlt _).mono ?_; rintro e w' ⟨rfl, hb⟩; clear a0 a1 a2 a3 b0 b1 b2 b3 o0 o1 o2 o3 f0 f1 f2 f3; replace hst := hst.step hb; obtain ⟨a0, a1, a2, a3, b0, b1, b2, b3, o0, o1, o2, o3, f0, f1, f2, f3⟩ := hst.cells))
        go_roundw
        case rel =>
          refine ⟨n + 1, by go_num, by omega, ?_⟩
          rw [upC_out (by rw [HN.out]; rfl), HT.out]
          exact hst
        case measure => simp [intOf]; omega
      · rw [hx, hy] at hCn
        have HN := Lib.hid hCn
        clear hCn
        go_wp2_with (first
          | (go_at_call 25; refine (rhas_any _ n hlt _).mono ?_; rintro e w' ⟨rfl, hb⟩; clear a0 a1 a2 a3 b0 b1 b2 b3 o0 o1 o2 o3 f0 f1 f2 f3; replace hst := hst.step hb; obtain ⟨a0, a1, a2, a3, b0, b1, b2, b3, o0, o1, o2, o3, f0, f1, f2, f3⟩ := hst.cells)
          | (go_at_call 46; refine (with_any _ n hlt _).mono ?_; rintro e w' ⟨rfl, hb⟩; clear a0 a1 a2 a3 b0 b1 b2 b3 o0 o1 o2 o3 f0 f1 f2 f3; replace hst := hst.step hb; obtain ⟨a0, a1, a2, a3, b0, b1, b2, b3, o0, o1, o2, o3, f0, f1, f2, f3⟩ := hst.cells))
        go_roundw
        case rel =>
          refine ⟨n + 1, by go_num, by omega, ?_⟩
          rw [upC_in (by rw [HN.out]; rfl), HT.out]
          exact hst.put _
        case measure => simp [intOf]; omega
      · rw [hx, hy] at hCn
        have HN := Lib.hid hCn
        clear hCn
        go_wp2_with (first
          | (go_at_call 25; refine (rhas_any _ n hlt _).mono ?_; rintro e w' ⟨rfl, hb⟩; clear a0 a1 a2 a3 b0 b1 b2 b3 o0 o1 o2 o3 f0 f1 f2 f3; replace hst := hst.step hb; obtain ⟨a0, a1, a2, a3, b0, b1, b2, b3, o0, o1, o2, o3, f0, f1, f2, f3⟩ := hst.cells)
          | (go_at_call 46; refine (with_any _ n hlt _).mono ?_; rintro e w' ⟨rfl, hb⟩; clear a0 a1 a2 a3 b0 b1 b2 b3 o0 o1 o2 o3 f0 f1 f2 f3; replace hst := hst.step hb; obtain ⟨a0, a1, a2, a3, b0, b1, b2, b3, o0, o1, o2, o3, f0, f1, f2, f3⟩ := hst.cells))
        go_roundw
        case rel =>
          refine ⟨n + 1, by go_num, by omega, ?_⟩
          rw [upC_in (by rw [HN.out]; rfl), HT.out]
          exact hst.put _
        case measure => simp [intOf]; omega
      · rw [hx, hy] at hCn
        have HN := Lib.hid hCn
        clear hCn
        go_wp2_with (first
          | (go_at_call 25; refine (rhas_any _ n hlt _).mono ?_; rintro e w' ⟨rfl, hb⟩; clear a0 a1 a2 a3 b0 b1 b2 b3 o0 o1 o2 o3 f0 f1 f2 f3; replace hst := hst.step hb; obtain ⟨a0, a1, a2, a3, b0, b1, b2, b3, o0, o1, o2, o3, f0, f1, f2, f3⟩ := hst.cells)
          | (go_at_call 46; refine (with_any _ n hlt _).mono ?_; rintro e w' ⟨rfl, hb⟩; clear a0 a1 a2 a3 b0 b1 b2 b3 o0 o1 o2 o3 f0 f1 f2 f3; replace hst := hst.step hb; obtain ⟨a0, a1, a2, a3, b0, b1, b2, b3, o0, o1, o2, o3, f0, f1, f2, f3⟩ := hst.cells))
        go_roundw
        case rel =>
          refine ⟨n + 1, by go_num, by omega, ?_⟩
          rw [upC_in (by rw [HN.out]; rfl), HT.out]
          exact hst.put _
        case measure => simp [intOf]; omega
    · obtain rfl : n = 256 := by omega
      have e0 := hst.r.zero 0 (by omega)
      have e1 := hst.r.zero 1 (by omega)
      have e2 := hst.r.zero 2 (by omega)
      have e3 := hst.r.zero 3 (by omega)
      have f0 := hst.r.free 0
      have f1 := hst.r.free 1
      have f2 := hst.r.free 2
      have f3 := hst.r.free 3
      have w0 := hst.o.word 0 (by omega)
      have w1 := hst.o.word 1 (by omega)
      have w2 := hst.o.word 2 (by omega)
      have w3 := hst.o.word 3 (by omega)
      have hB := hst.low
      go_wp2
      refine bodyPost_ret (v := setV (upC C 256)) (by simp [results, Tryd.results31, go_sem, e0, e1, e2, e3]) rfl ⟨by rw [upC_all], ?_⟩
      exact (((hB.setCell (by simp; omega) _).setCell (by simp; omega) _).setCell (by simp; omega) _).setCell (by simp; omega) _

set_option maxRecDepth 100000 in
set_option maxHeartbeats 4000000 in
theorem rand_any (X Y : Nat → Bool) (w : World) :
    Calls Tryd.prog 33 #[setV X, setV Y] w fun e w' => e = .returned (setV fun m => X m && Y m) ∧ Below w.heap.size w w' := by
  obtain ⟨C, hC⟩ : ∃ C : Nat → Bool, C = fun m => X m && Y m := ⟨_, rfl⟩
  rw [← hC]
  have HC := Lib.hid hC
  clear hC
  have h0 := LoopSt.start w X Y
  go_enter Tryd.func33, Tryd.ntmps33
  go_wp2_with (fail)
  go_loopw [6] (fun v wr => ∃ n : Nat, v = .int .i64 n ∧ n ≤ 256 ∧ LoopSt w X Y (upC C n) wr) (fun v _ => 256 - (intOf v).toNat)
  case atStart => exact ⟨0, rfl, by omega, by rw [upC_zero]; exact h0⟩
  case round =>
    obtain ⟨n, rfl, h1, hst⟩ := hrel
    clear h0
    by_cases hlt : n < 256
    · have hn8 : IntKind.u8.wrap (n : Int) = (n : Int) := IntWalk.u8_in _ (by omega)
      have hni : (n : Int) < 256 := by omega
      have hCn : C n = (X n && Y n) := by rw [HC.out]
      generalize hT : upC C n = T at hst
      have HT := Lib.hid hT
      clear hT
      obtain ⟨a0, a1, a2, a3, b0, b1, b2, b3, o0, o1, o2, o3, f0, f1, f2, f3⟩ := hst.cells
      rcases hx : X n with _ | _ <;> rcases hy : Y n with _ | _
      · rw [hx, hy] at hCn
        have HN := Lib.hid hCn
        clear hCn
        go_wp2_with (first
          | (go_at_call 25; refine (rhas_any _ n hlt _).mono ?_; rintro e w' ⟨rfl, hb⟩; clear a0 a1 a2 a3 b0 b1 b2 b3 o0 o1 o2 o3 f0 f1 f2 f3; replace hst := hst.step hb; obtain ⟨a0, a1, a2, a3, b0, b1, b2, b3, o0, o1, o2, o3, f0, f1, f2, f3⟩ := hst.cells)
          | (go_at_call 46; refine (with_any _ n hlt _).mono ?_; rintro e w' ⟨rfl, hb⟩; clear a0 a1 a2 a3 b0 b1 b2 b3 o0 o1 o2 o3 f0 f1 f2 f3; replace hst := hst.step hb; obtain ⟨a0, a1, a2, a3, b0, b1, b2, b3, o0, o1, o2, o3, f0, f1, f2, f3⟩ := hst.cells))
        go_roundw
        case rel =>
          refine ⟨n + 1, by go_num, by omega, ?_⟩
          rw [upC_out (by rw [HN.out]; rfl), HT.out]
          exact hst
        case measure => simp [intOf]; omega
      · rw [hx, hy] at hCn
        have HN := Lib.hid hCn
        clear hCn
        go_wp2_with (first
          | (go_at_call 25; refine (rhas_any _ n hlt _).mono ?_; rintro e w' ⟨rfl, hb⟩; clear a0 a1 a2 a3 b0 b1 b2 b3 o0 o1 o2 o3 f0 f1 f2 f3; replace hst := hst.step hb; obtain ⟨a0, a1, a2, a3, b0, b1, b2, b3, o0, o1, o2, o3, f0, f1, f2, f3⟩ := hst.cells)
          | (go_at_call 46; refine (with_any _ n hlt _).mono ?_; rintro e w' ⟨rfl, hb⟩; clear a0 a1 a2 a3 b0 b1 b2 b3 o0 o1 o2 o3 f0 f1 f2 f3; replace hst := hst.step hb; obtain ⟨a0, a1, a2, a3, b0, b1, b2, b3, o0, o1, o2, o3, f0, f1, f2, f3⟩ := hst.cells))
        go_roundw
        case rel =>
          refine ⟨n + 1, by go_num, by omega, ?_⟩
          rw [upC_out (by rw [HN.out]; rfl), HT.out]
          exact hst
        case measure => simp [intOf]; omega
      · rw [hx, hy] at hCn
        have HN := Lib.hid hCn
        clear hCn
        go_wp2_with (first
          | (go_at_call 25; refine (rhas_any _ n hlt _).mono ?_; rintro e w' ⟨rfl, hb⟩; clear a0 a1 a2 a3 b0 b1 b2 b3 o0 o1 o2 o3 f0 f1 f2 f3; replace hst := hst.step hb; obtain ⟨a0, a1, a2, a3, b0, b1, b2, b3, o0, o1, o2, o3, f0, f1, f2, f3⟩ := hst.cells)
          | (go_at_call 46; refine (with_any _ n hlt _).mono ?_; rintro e w' ⟨rfl, hb⟩; clear a0 a1 a2 a3 b0 b1 b2 b3 o0 o1 o2 o3 f0 f1 f2 f3; replace hst := hst.step hb; obtain ⟨a0, a1, a2, a3, b0, b1, b2, b3, o0, o1, o2, o3, f0, f1, f2, f3⟩ := hst.cells))
        go_roundw
        case rel =>
          refine ⟨n + 1, by go_num, by omega, ?_⟩
          rw [upC_out (by rw [HN.out]; rfl), HT.out]
          exact hst
        case measure => simp [intOf]; omega
      · rw [hx, hy] at hCn
        have HN := Lib.hid hCn
        clear hCn
        go_wp2_with (first
          | (go_at_call 25; refine (rhas_any _ n hlt _).mono ?_; rintro e w' ⟨rfl, hb⟩; clear a0 a1 a2 a3 b0 b1 b2 b3 o0 o1 o2 o3 f0 f1 f2 f3; replace hst := hst.step hb; obtain ⟨a0, a1, a2, a3, b0, b1, b2, b3, o0, o1, o2, o3, f0, f1, f2, f3⟩ := hst.cells)
          | (go_at_call 46; refine (with_any _ n hlt _).mono ?_; rintro e w' ⟨rfl, hb⟩; clear a0 a1 a2 a3 b0 b1 b2 b3 o0 o1 o2 o3 f0 f1 f2 f3; replace hst := hst.step hb; obtain ⟨a0, a1, a2, a3, b0, b1, b2, b3, o0, o1, o2, o3, f0, f1, f2, f3⟩ := hst.cells))
        go_roundw
        case rel =>
          refine ⟨n + 1, by go_num, by omega, ?_⟩
          rw [upC_in (by rw [HN.out]; rfl), HT.out]
          exact hst.put _
        case measure => simp [intOf]; omega
    · obtain rfl : n = 256 := by omega
      have e0 := hst.r.zero 0 (by omega)
      have e1 := hst.r.zero 1 (by omega)
      have e2 := hst.r.zero 2 (by omega)
      have e3 := hst.r.zero 3 (by omega)
      have f0 := hst.r.free 0
      have f1 := hst.r.free 1
      have f2 := hst.r.free 2
      have f3 := hst.r.free 3
      have w0 := hst.o.word 0 (by omega)
      have w1 := hst.o.word 1 (by omega)
      have w2 := hst.o.word 2 (by omega)
      have w3 := hst.o.word 3 (by omega)
      have hB := hst.low
      go_wp2
      refine bodyPost_ret (v := setV (upC C 256)) (by simp [results, Tryd.results33, go_sem, e0, e1, e2, e3]) rfl ⟨by rw [upC_all], ?_⟩
      exact (((hB.setCell (by simp; omega) _).setCell (by simp; omega) _).setCell (by simp; omega) _).setCell (by simp; omega) _

set_option maxRecDepth 100000 in
set_option maxHeartbeats 4000000 in
theorem rminus_any (X Y : Nat → Bool) (w : World) :
    Calls Tryd.prog 35 #[setV X, setV Y] w fun e w' => e = .returned (setV fun m => X m && !Y m) ∧ Below w.heap.size w w' := by
  obtain ⟨C, hC⟩ : ∃ C : Nat → Bool, C = fun m => X m && !Y m := ⟨_, rfl⟩
  rw [← hC]
  have HC := Lib.hid hC
  clear hC
  have h0 := LoopSt.start w X Y
  go_enter Tryd.func35, Tryd.ntmps35
  go_wp2_with (fail)
  go_loopw [6] (fun v wr => ∃ n : Nat, v = .int .i64 n ∧ n ≤ 256 ∧ LoopSt w X Y (upC C n) wr) (fun v _ => 256 - (intOf v).toNat)
  case atStart => exact ⟨0, rfl, by omega, by rw [upC_zero]; exact h0⟩
  case round =>
    obtain ⟨n, rfl, h1, hst⟩ := hrel
    clear h0
    by_cases hlt : n < 256
    · have hn8 : IntKind.u8.wrap (n : Int) = (n : Int) := IntWalk.u8_in _ (by omega)
      have hni : (n : Int) < 256 := by omega
      have hCn : C n = (X n && !Y n) := by rw [HC.out]
      generalize hT : upC C n = T at hst
      have HT := Lib.hid hT
      clear hT
      obtain ⟨a0, a1, a2, a3, b0, b1, b2, b3, o0, o1, o2, o3, f0, f1, f2, f3⟩ := hst.cells
      rcases hx : X n with _ | _ <;> rcases hy : Y n with _ | _
      · rw [hx, hy] at hCn
        have HN := Lib.hid hCn
        clear hCn
        go_wp2_with (first
          | (go_at_call 25; refine (rhas_any _ n hlt _).mono ?_; rintro e w' ⟨rfl, hb⟩; clear a0 a1 a2 a3 b0 b1 b2 b3 o0 o1 o2 o3 f0 f1 f2 f3; replace hst := hst.step hb; obtain ⟨a0, a1, a2, a3, b0, b1, b2, b3, o0, o1, o2, o3, f0, f1, f2, f3⟩ := hst.cells)
          | (go_at_call 46; refine (with_any _ n hlt _).mono ?_; rintro e w' ⟨rfl, hb⟩; clear a0 a1 a2 a3 b0 b1 b2 b3 o0 o1 o2 o3 f0 f1 f2 f3; replace hst := hst.step hb; obtain ⟨a0, a1, a2, a3, b0, b1, b2, b3, o0, o1, o2, o3, f0, f1, f2, f3⟩ := hst.cells))
        go_roundw
        case rel =>
          refine ⟨n + 1, by go_num, by omega, ?_⟩
          rw [upC_out (by rw [HN.out]; rfl), HT.out]
          exact hst
        case measure => simp [intOf]; omega
      · rw [hx, hy] at hCn
        have HN := Lib.hid hCn
        clear hCn
        go_wp2_with (first
          | (go_at_call 25; refine (rhas_any _ n hlt _).mono ?_; rintro e w' ⟨rfl, hb⟩; clear a0 a1 a2 a3 b0 b1 b2 b3 o0 o1 o2 o3 f0 f1 f2 f3; replace hst := hst.step hb; obtain ⟨a0, a1, a2, a3, b0, b1, b2, b3, o0, o1, o2, o3, f0, f1, f2, f3⟩ := hst.cells)
          | (go_at_call 46; refine (with_any _ n hlt _).mono ?_; rintro e w' ⟨rfl, hb⟩; clear a0 a1 a2 a3 b0 b1 b2 b3 o0 o1 o2 o3 f0 f1 f2 f3; replace hst := hst.step hb; obtain ⟨a0, a1, a2, a3, b0, b1, b2, b3, o0, o1, o2, o3, f0, f1, f2, f3⟩ := hst.cells))
        go_roundw
        case rel =>
          refine ⟨n + 1, by go_num, by omega, ?_⟩
          rw [upC_out (by rw [HN.out]; rfl), HT.out]
          exact hst
        case measure => simp [intOf]; omega
      · rw [hx, hy] at hCn
        have HN := Lib.hid hCn
        clear hCn
        go_wp2_with (first
          | (go_at_call 25; refine (rhas_any _ n hlt _).mono ?_; rintro e w' ⟨rfl, hb⟩; clear a0 a1 a2 a3 b0 b1 b2 b3 o0 o1 o2 o3 f0 f1 f2 f3; replace hst := hst.step hb; obtain ⟨a0, a1, a2, a3, b0, b1, b2, b3, o0, o1, o2, o3, f0, f1, f2, f3⟩ := hst.cells)
          | (go_at_call 46; refine (with_any _ n hlt _).mono ?_; rintro e w' ⟨rfl, hb⟩; clear a0 a1 a2 a3 b0 b1 b2 b3 o0 o1 o2 o3 f0 f1 f2 f3; replace hst := hst.step hb; obtain ⟨a0, a1, a2, a3, b0, b1, b2, b3, o0, o1, o2, o3, f0, f1, f2, f3⟩ := hst.cells))
        go_roundw
        case rel =>
          refine ⟨n + 1, by go_num, by omega, ?_⟩
          rw [upC_in (by rw [HN.out]; rfl), HT.out]
          exact hst.put _
        case measure => simp [intOf]; omega
      · rw [hx, hy] at hCn
        have HN := Lib.hid hCn
        clear hCn
        go_wp2_with (first
          | (go_at_call 25; refine (rhas_any _ n hlt _).mono ?_; rintro e w' ⟨rfl, hb⟩; clear a0 a1 a2 a3 b0 b1 b2 b3 o0 o1 o2 o3 f0 f1 f2 f3; replace hst := hst.step hb; obtain ⟨a0, a1, a2, a3, b0, b1, b2, b3, o0, o1, o2, o3, f0, f1, f2, f3⟩ := hst.cells)
          | (go_at_call 46; refine (with_any _ n hlt _).mono ?_; rintro e w' ⟨rfl, hb⟩; clear a0 a1 a2 a3 b0 b1 b2 b3 o0 o1 o2 o3 f0 f1 f2 f3; replace hst := hst.step hb; obtain ⟨a0, a1, a2, a3, b0, b1, b2, b3, o0, o1, o2, o3, f0, f1, f2, f3⟩ := hst.cells))
        go_roundw
        case rel =>
          refine ⟨n + 1, by go_num, by omega, ?_⟩
          rw [upC_out (by rw [HN.out]; rfl), HT.out]
          exact hst
        case measure => simp [intOf]; omega
    · obtain rfl : n = 256 := by omega
      have e0 := hst.r.zero 0 (by omega)
      have e1 := hst.r.zero 1 (by omega)
      have e2 := hst.r.zero 2 (by omega)
      have e3 := hst.r.zero 3 (by omega)
      have f0 := hst.r.free 0
      have f1 := hst.r.free 1
      have f2 := hst.r.free 2
      have f3 := hst.r.free 3
      have w0 := hst.o.word 0 (by omega)
      have w1 := hst.o.word 1 (by omega)
      have w2 := hst.o.word 2 (by omega)
      have w3 := hst.o.word 3 (by omega)
      have hB := hst.low
      go_wp2
      refine bodyPost_ret (v := setV (upC C 256)) (by simp [results, Tryd.results35, go_sem, e0, e1, e2, e3]) rfl ⟨by rw [upC_all], ?_⟩
      exact (((hB.setCell (by simp; omega) _).setCell (by simp; omega) _).setCell (by simp; omega) _).setCell (by simp; omega) _
end Go.Proofs.YtgekfdmamingjaaDoor

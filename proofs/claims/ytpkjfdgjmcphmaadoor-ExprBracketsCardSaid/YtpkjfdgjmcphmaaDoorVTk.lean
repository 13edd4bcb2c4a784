/- Package tree: depth. -/
import Derived.Test.YtpkjfdgjmcphmaaDoorVTj
import Derived.Deep.RegionWith
namespace Go.Proofs.YtpkjfdgjmcphmaaDoor
open Go.RowKit Bset Tm

theorem infoInt : (Tryd.prog.info? 3).map (fun i => (i.zero, i.size, i.bytes)) = some (some (.int .i64 0), 1, 8) := by kernel_rfl
theorem make_ints (n : Nat) (h : n ≤ 4294967296) (w : World) : (Instr.makeSlice 36 (.int .i64 (n : Int)) (.int .i64 (n : Int))).run Tryd.prog w = .ok (.slice (some ⟨w.heap.size, 0, none⟩) n n) (w.alloc (.cells (madeCells #[.int .i64 0] n) 3)) :=
  run_make_row' (P := Tryd.prog) 36 3 (.int .i64 0) 8 Tryd.underlying36 infoInt rfl .i64 .i64 n (by omega) (by omega) w

theorem deeps_snoc {α : Type} (l : List (RT α)) (t : RT α) : deeps (l ++ [t]) = max (deeps l) (deep t) := by
  induction l with
  | nil => simp [deeps]
  | cons a l ih =>
    rw [List.cons_append, deeps, deeps, ih]
    omega

/-- What stands in depths, where node i is gone over as far as its kid q. -/
def dpt (K : Nat → List Nat) (i q j : Nat) : Nat := if j < i then deep (X K j) else if j = i then deeps (((K i).take q).map (X K)) else 0
theorem dpt_lt {K : Nat → List Nat} {i q j : Nat} (h : j < i) : dpt K i q j = deep (X K j) := by simp [dpt, h]
theorem dpt_at {K : Nat → List Nat} {i q : Nat} : dpt K i q i = deeps (((K i).take q).map (X K)) := by simp [dpt]
theorem dpt_step {K : Nat → List Nat} {i q m : Nat} (h : q < (K i).length) (hm : (K i)[q] = m) (j : Nat) : (if j = i then max (dpt K i q i) (deep (X K m)) else dpt K i q j) = dpt K i (q + 1) j := by
  by_cases e : j = i
  · subst e
    rw [if_pos rfl, dpt_at, dpt_at, List.take_succ_eq_append_getElem h, List.map_append, hm, List.map_singleton, deeps_snoc]
  · unfold dpt
    simp [e]
theorem dpt_end {K : Nat → List Nat} (hK : Dec K) {i : Nat} (j : Nat) : (if j = i then dpt K i (K i).length i + 1 else dpt K i (K i).length j) = dpt K (i + 1) 0 j := by
  have h1 : deep (X K i) = deeps (((K i).take (K i).length).map (X K)) + 1 := by
    rw [X_eq hK, deep, List.take_of_length_le (Nat.le_refl _)]
  by_cases e : j = i
  · subst e
    rw [if_pos rfl, dpt_at, dpt_lt (by omega), h1]
  · rw [if_neg e]
    unfold dpt
    by_cases h2 : j < i
    · have : j < i + 1 := by omega
      simp [h2, this]
    · have : ¬ j < i + 1 := by omega
      by_cases h3 : j = i + 1
      · subst h3
        have : ¬ i + 1 < i := by omega
        simp [deeps, this]
      · simp [h2, this, e, h3]
theorem deep_le {A : List Nd} (h : RightA A) {i : Nat} (hi : i < A.length) : deep (X (kidsN A) i) ≤ A.length := Nat.le_trans (deep_size _) (h.k.M_le i hi)

set_option maxRecDepth 100000 in
set_option maxHeartbeats 4000000 in
theorem depth_any (nv : Value) (A : List Nd) (w : World) (hn : Nodes w nv A) (hr : RightA A) (hok : OkA A) :
    Calls Tryd.prog 68 #[nv] w fun e w' => e = .returned (.int .i64 (deep (X (kidsN A) (A.length - 1)) : Nat)) ∧ Below w.heap.size w w' := by
  obtain ⟨p, cap, e, hh⟩ := hn
  subst e
  have hlen := hok.len
  have hpos := hr.k.pos
  rcases hh with hh | ⟨b, off, rfl, hcell⟩
  · exact absurd hh hr.pos
  · have hmk := make_ints A.length hlen
    go_enter Tryd.func68, Tryd.ntmps68
    go_wp2
    go_loopw [13] (fun v W => ∃ i : Nat, v = .int .i64 i ∧ i ≤ A.length ∧ Below w.heap.size w W ∧ W.rowIs w.heap.size 3 A.length (fun j => .int .i64 (dpt (kidsN A) i 0 j : Nat)))
      (fun v _ => A.length - (intOf v).toNat)
    case atStart =>
      refine ⟨0, rfl, Nat.zero_le _, (Below.refl _ _).alloc (Nat.le_refl _) _, ?_⟩
      refine (World.rowIs_made w (.int .i64 0) A.length 3).congr fun j _ => ?_
      by_cases e : j = 0
      · subst e
        rw [dpt_at]
        simp [deeps]
      · simp [dpt, e]
    case round =>
      obtain ⟨i, rfl, hi, hB, hrow⟩ := hrel
      by_cases hlt : i < A.length
      · obtain ⟨kv, hN, hI⟩ := hcell i hlt
        obtain ⟨c0, c1, c2, c3, c4, c5, c6, c7, c8⟩ := hN.keep hB.block
        obtain ⟨p2, cap2, e, hh2⟩ := hI
        subst e
        have hkl := hok.kids A[i] (List.getElem_mem hlt)
        have B1 := (Below.refl wr.heap.size wr).alloc (Nat.le_refl _) (.cells (nodeC A[i].hd (.slice p2 A[i].kids.length cap2)) 38)
        have r1 := hrow.alloc (.cells (nodeC A[i].hd (.slice p2 A[i].kids.length cap2)) 38)
        have B2 := hB.trans (B1.mono hB.size)
        go_wp2
        generalize wr.alloc _ = W1 at *
        go_loopw [21] (fun v W => ∃ q : Nat, v = .int .i64 q ∧ q ≤ A[i].kids.length ∧ Below w.heap.size w W ∧ W.rowIs w.heap.size 3 A.length (fun j => .int .i64 (dpt (kidsN A) i q j : Nat)))
          (fun v _ => A[i].kids.length - (intOf v).toNat)
        case atStart => exact ⟨0, rfl, Nat.zero_le _, B2, r1⟩
        case round =>
          obtain ⟨q, rfl, hq, hB3, hr3⟩ := hrel
          have hKi : kidsN A i = A[i].kids.map Int.toNat := kidsN_some (by simp [hlt])
          by_cases hq2 : q < A[i].kids.length
          · rcases hh2 with hh2 | ⟨b2, off2, rfl, hc2⟩
            · rw [hh2] at hq2
              simp at hq2
            · have hk := hc2 q hq2
              replace hk := (hB3.cell (p := ⟨b2, off2 + q, none⟩) (cell_lt hk)).trans hk
              have hlow := hr.low i A[i] (by simp [hlt]) A[i].kids[q] (List.getElem_mem hq2)
              obtain ⟨m, hm⟩ : ∃ m : Nat, A[i].kids[q] = (m : Int) := ⟨A[i].kids[q].toNat, by omega⟩
              rw [hm] at hk hlow
              have hmi : m < i := by omega
              have x1 := hr3.cell (i := i) hlt
              have x2 := hr3.cell (i := m) (by omega)
              have xf := hr3.frozen i
              have hstep := dpt_step (K := kidsN A) (i := i) (q := q) (m := m) (by rw [hKi]; simpa using hq2) (by simp [hKi, hm])
              have hd : dpt (kidsN A) i q m = deep (X (kidsN A) m) := dpt_lt hmi
              rw [hd] at x2
              obtain ⟨D, hD⟩ : ∃ D, D = dpt (kidsN A) i q i := ⟨_, rfl⟩
              obtain ⟨E, hE⟩ : ∃ E, E = deep (X (kidsN A) m) := ⟨_, rfl⟩
              rw [← hD] at x1 hstep
              rw [← hE] at x2 hstep
              have hi0 : (0 : Int) ≤ (i : Int) := by omega
              have hi1 : (i : Int) < (A.length : Int) := by omega
              have hm0 : (0 : Int) ≤ (m : Int) := by omega
              have hm1 : (m : Int) < (A.length : Int) := by omega
              have HS := Lib.hid hstep
              clear hstep hd hD hE hm hc2 hlow hKi hcell
              go_wp2
              go_region
              all_goals
                go_wp2
                go_roundw
                case rel =>
                  refine ⟨q + 1, by go_num, by omega, (hB3.setCell (p := ⟨w.heap.size, i, none⟩) (Nat.le_refl _) _).drew, (hr3.set i _).drew.congr fun j _ => ?_⟩
                  have h := HS.out j
                  rw [← h]
                  by_cases e : j = i
                  · rw [if_pos e, if_pos e]
                    congr 1
                    omega
                  · rw [if_neg e, if_neg e]
                case measure => simp [intOf]; omega
          · obtain rfl : q = A[i].kids.length := by omega
            have x1 := hr3.cell (i := i) hlt
            have xf := hr3.frozen i
            have hstep := dpt_end hr.k.dec (i := i)
            rw [show (kidsN A i).length = A[i].kids.length by rw [hKi]; simp] at hstep
            have hle := deep_le hr hlt
            have hs := hstep i
            rw [if_pos rfl, dpt_lt (i := i + 1) (q := 0) (by omega)] at hs
            obtain ⟨D, hD⟩ : ∃ D, D = dpt (kidsN A) i A[i].kids.length i := ⟨_, rfl⟩
            rw [← hD] at x1 hstep hs
            have hD1 : D + 1 ≤ A.length := by omega
            have hi0 : (0 : Int) ≤ (i : Int) := by omega
            have hi1 : (i : Int) < (A.length : Int) := by omega
            have hw : IntKind.i64.wrap ((D : Int) + 1) = (D : Int) + 1 := IntWalk.i64_in _ (by omega)
            have HS := Lib.hid hstep
            clear hstep hs hD hle hKi hcell hh2
            go_wp2
            refine ⟨⟨i + 1, by go_num, by omega, hB3.setCell (p := ⟨w.heap.size, i, none⟩) (Nat.le_refl _) _, (hr3.set i _).congr fun j _ => ?_⟩, by simp [intOf]; omega⟩
            have h := HS.out j
            rw [← h]
            by_cases e : j = i
            · rw [if_pos e, if_pos e]
              rfl
            · rw [if_neg e, if_neg e]
      · obtain rfl : i = A.length := by omega
        obtain ⟨m, hm⟩ : ∃ m, A.length = m + 1 := ⟨A.length - 1, by omega⟩
        have x1 := hrow.cell (i := m) (by omega)
        rw [dpt_lt (by omega)] at x1
        have hw : IntKind.i64.wrap ((A.length : Int) - 1) = (m : Int) := by rw [IntWalk.i64_in _ (by omega)]; omega
        have hm0 : (0 : Int) ≤ (m : Int) := by omega
        have hm1 : (m : Int) < (A.length : Int) := by omega
        have HM := Lib.hid hm
        clear hm
        go_wp2
        go_ret
        exact ⟨by rw [show A.length - 1 = m by have := HM.out; omega]; rfl, hB⟩
end Go.Proofs.YtpkjfdgjmcphmaaDoor

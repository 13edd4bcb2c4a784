/- Package tree: Right. -/
import Derived.Test.YtpkjfdgjmcphmaaDoorVTh
import Derived.Deep.RegionHeld3
namespace Go.Proofs.YtpkjfdgjmcphmaaDoor
open Go.RowKit Bset Tm

theorem Nodes.len {w : World} {v : Value} {A : List Nd} (h : Nodes w v A) : ∃ p c, v = .slice p A.length c := by
  obtain ⟨p, c, e, _⟩ := h
  exact ⟨p, c, e⟩
theorem TabK.drew {w : World} (h : TabK w) : TabK w.drew := h
theorem infoBool : (Tryd.prog.info? 4).map (fun i => (i.zero, i.size, i.bytes)) = some (some (.bool false), 1, 1) := by kernel_rfl
theorem Cl.gb {w w' : World} {g g' : Nat} {t : TypeId} {cs : Array Value} (h : Cl w g' t cs) (hg : w.grownBy w' (some g)) (hne : g' ≠ g) : Cl w' g' t cs :=
  (hg.block g' h.lt (by intro e; cases e; exact hne rfl)).trans h
theorem right_no {A : List Nd} {r : Int} (h : rgo 0 (heldBy A 0) A = false) : rightB ⟨A, r⟩ = false := rightB_no.2 fun hr => by
  have := ((rightA_iff A hr.2.pos).1 hr.2).1
  rw [h] at this
  cases this
theorem right_at {A : List Nd} {last : Nat} (hA : ¬A = []) (hl : A.length = last + 1) (h : rgo 0 (heldBy A 0) A = true) : (!(List.range last).any (fun j => !heldBy A A.length j)) = rightB ⟨A, last⟩ := by
  have h1 := rightA_iff A hA
  rw [show A.length - 1 = last by omega] at h1
  cases hb : (List.range last).any (fun j => !heldBy A A.length j) with
  | true =>
    refine (rightB_no.2 fun hr => ?_).symm
    have := (h1.1 hr.2).2
    rw [hb] at this
    cases this
  | false => exact (rightB_iff.2 ⟨by simp only; omega, h1.2 ⟨h, hb⟩⟩).symm

set_option maxRecDepth 100000 in
set_option maxHeartbeats 4000000 in
theorem right_any (v : Value) (T : Ar) (w : World) (hv : Tree w v T) (hok : OkA T.nodes) (hT : TabK w) (hg : 0 < w.heap.size) :
    Calls Tryd.prog 18 #[v] w fun e w' => e = .returned (.bool (rightB T)) ∧ Below w.heap.size w w' := by
  obtain ⟨nv, rfl, hn⟩ := hv
  obtain ⟨A, r⟩ := T
  dsimp only at hn hok ⊢
  obtain ⟨p, cap, rfl⟩ := hn.len
  have hlen := hok.len
  by_cases hA : A = []
  · have hr : rightB ⟨A, r⟩ = false := rightB_no.2 fun h => h.2.pos hA
    rw [hr]
    subst hA
    go_enter Tryd.func18, Tryd.ntmps18
    go_wp2
    go_ret
    exact ⟨rfl, (Below.refl _ _).alloc (Nat.le_refl _) _⟩
  · obtain ⟨last, hlast⟩ : ∃ last, A.length = last + 1 := ⟨A.length - 1, by have := List.length_pos_iff.2 hA; omega⟩
    have hw : IntKind.i64.wrap ((A.length : Int) - 1) = (last : Int) := by rw [IntWalk.i64_in _ (by omega)]; omega
    by_cases hroot : r = last
    · subst hroot
      have hmk := fun w => run_make_row' (P := Tryd.prog) 72 4 (.bool false) 1 Tryd.underlying72 infoBool rfl .i64 .i64 A.length (by omega) (by omega) w
      have hl0 : (0 : Int) ≤ (last : Int) := by omega
      have HL := Lib.hid hlast
      clear hlast
      go_enter Tryd.func18, Tryd.ntmps18
      go_wp2
      go_loopw [26] (fun v W => ∃ i : Nat, v = .int .i64 i ∧ i ≤ A.length ∧ Below w.heap.size w W ∧ W.rowIs (w.heap.size + 1) 4 A.length (fun j => .bool (heldBy A i j)) ∧ rgo 0 (heldBy A 0) A = rgo i (heldBy A i) (A.drop i))
        (fun v _ => A.length - (intOf v).toNat)
      case atStart =>
        refine ⟨0, rfl, Nat.zero_le _, ((Below.refl _ _).alloc (Nat.le_refl _) _).alloc (by simp) _, ?_, rfl⟩
        rw [heldBy_zero]
        have := World.rowIs_made (w.alloc (.cells #[.slice p A.length cap, .int .i64 last] 26)) (.bool false) A.length 4
        simpa using this
      case round =>
        obtain ⟨i, rfl, hi, hB, hrow, hgo⟩ := hrel
        by_cases hlt : i < A.length
        · obtain ⟨p', cap', e, hh⟩ := hn
          obtain ⟨rfl, _, rfl⟩ : p = p' ∧ A.length = A.length ∧ cap = cap' := by simpa using e
          rcases hh with hh | ⟨b, off, rfl, hcell⟩
          · exact absurd hh hA
          · obtain ⟨kv, hN, hI⟩ := hcell i hlt
            obtain ⟨c0, c1, c2, c3, c4, c5, c6, c7, c8⟩ := hN.keep hB.block
            obtain ⟨p2, cap2, rfl⟩ := hI.len
            have hTW := hT.below hB hg
            have hgW := Nat.lt_of_lt_of_le hg hB.size
            rw [rgo_step A i hlt] at hgo
            have hk8 := hok.kind A[i] (List.getElem_mem hlt)
            have htx := hok.text A[i] (List.getElem_mem hlt)
            have hkl := hok.kids A[i] (List.getElem_mem hlt)
            have B1 := (Below.refl wr.heap.size wr).alloc (Nat.le_refl _) (.cells (nodeC A[i].hd (.slice p2 A[i].kids.length cap2)) 38)
            have k1 := Cl.new wr 38 (nodeC A[i].hd (.slice p2 A[i].kids.length cap2))
            have hT1 := hTW.below B1 hgW
            have r1 := hrow.alloc (.cells (nodeC A[i].hd (.slice p2 A[i].kids.length cap2)) 38)
            have hF := fun w hT hg => fits_any A[i].hd hk8 (by omega) (.slice p2 A[i].kids.length cap2) A[i].kids.length w hT hg
            have hi0 : (0 : Int) ≤ (i : Int) := by omega
            have hi1 : (i : Int) ≤ (A.length : Int) := by omega
            cases hf : fits A[i].hd A[i].kids.length with
            | false =>
              simp only [hf, Bool.false_and] at hF hgo
              have HG := Lib.hid hgo
              clear hgo hf
              go_wp2
              generalize wr.alloc _ = W1 at *
              refine wp_region_held_drew (S := (fun w' => w'.cell? ⟨wr.heap.size, 0, none⟩ = some (.int .u8 A[i].hd.kind) ∧ w'.cell? ⟨wr.heap.size, 1, none⟩ = some (.int .u64 (word (setN A[i].hd.set) 0 : Nat)) ∧ w'.cell? ⟨wr.heap.size, 2, none⟩ = some (.int .u64 (word (setN A[i].hd.set) 1 : Nat)) ∧ w'.cell? ⟨wr.heap.size, 3, none⟩ = some (.int .u64 (word (setN A[i].hd.set) 2 : Nat)) ∧ w'.cell? ⟨wr.heap.size, 4, none⟩ = some (.int .u64 (word (setN A[i].hd.set) 3 : Nat)) ∧ w'.cell? ⟨wr.heap.size, 5, none⟩ = some (.string A[i].hd.text) ∧ w'.cell? ⟨wr.heap.size, 6, none⟩ = some (.int .i64 A[i].hd.lo) ∧ w'.cell? ⟨wr.heap.size, 7, none⟩ = some (.int .i64 A[i].hd.hi) ∧ w'.cell? ⟨wr.heap.size, 8, none⟩ = some (.slice p2 A[i].kids.length cap2))) (by kernel_rfl) (k1.drew.nine.1) (fun hHeld => ?_)
              refine wpAnyH_take (i := 0) (v := ?r1v0) rfl (by kernel_rfl) (by kernel_rfl) (by kernel_rfl) (fun _ _ _ h => h) (Or.inl ⟨by rfl, ?r1y0⟩) (by assumption) ?r1t0
              case r1y0 => (intro w hSw; (try dsimp only at hSw); (try simp only [List.getElem_toArray, List.getElem_cons_zero]); go_simp; try with_reducible rfl)
              try simp only [Act.put, List.getElem_toArray, List.getElem_cons_zero, List.setIfInBounds_toArray, List.set_cons_zero, List.set_cons_succ]
              refine wpAnyH_take (i := 1) (v := ?r1v1) rfl (by kernel_rfl) (by kernel_rfl) (by kernel_rfl) (fun _ _ _ h => h) (Or.inl ⟨by rfl, ?r1y1⟩) (by assumption) ?r1t1
              case r1y1 => (intro w hSw; (try dsimp only at hSw); (try simp only [List.getElem_toArray, List.getElem_cons_zero, List.getElem_cons_succ]); go_simp; try with_reducible rfl)
              try simp only [Act.put, List.getElem_toArray, List.getElem_cons_zero, List.getElem_cons_succ, List.setIfInBounds_toArray, List.set_cons_zero, List.set_cons_succ]
              refine wpAnyH_take (i := 2) (v := ?r1v2) rfl (by kernel_rfl) (by kernel_rfl) (by kernel_rfl) (fun _ _ _ h => h) (Or.inl ⟨by rfl, ?r1y2⟩) (by assumption) ?r1t2
              case r1y2 => (intro w hSw; (try dsimp only at hSw); (try simp only [List.getElem_toArray, List.getElem_cons_zero, List.getElem_cons_succ]); go_simp; try with_reducible rfl)
              try simp only [Act.put, List.getElem_toArray, List.getElem_cons_zero, List.getElem_cons_succ, List.setIfInBounds_toArray, List.set_cons_zero, List.set_cons_succ]
              refine wpAnyH_take (i := 3) (v := ?r1v3) rfl (by kernel_rfl) (by kernel_rfl) (by kernel_rfl) (fun _ _ _ h => h) (Or.inl ⟨by rfl, ?r1y3⟩) (by assumption) ?r1t3
              case r1y3 => (intro w hSw; (try dsimp only at hSw); (try simp only [List.getElem_toArray, List.getElem_cons_zero, List.getElem_cons_succ]); go_simp; try with_reducible rfl)
              try simp only [Act.put, List.getElem_toArray, List.getElem_cons_zero, List.getElem_cons_succ, List.setIfInBounds_toArray, List.set_cons_zero, List.set_cons_succ]
              refine wpAnyH_ready (rs := [4]) (by kernel_rfl) (by simp) ?_
              refine AllReadyH.cons rfl (fun K hK => ?_) AllReadyH.nil
              try simp only [List.getElem_toArray, List.getElem_cons_zero, List.getElem_cons_succ]
              go_simp
              (refine (hF _ hT1.drew (Nat.lt_of_lt_of_le hgW B1.size)).mono ?_; rintro e w1 ⟨rfl, hb⟩; have N1 := k1.drew.below hb k1.lt; have r2 := r1.of_block (hb.block _ r1.lt))
              try go_simp
              refine hK.out _ _ ?r1S4 (fun hHeld2 => ?_)
              case r1S4 => (try dsimp only); (first | exact N2.nine.1 | exact N1.nine.1)
              clear hHeld hK K
              have hHeld := hHeld2
              clear hHeld2
              try simp only [Act.put, List.getElem_toArray, List.getElem_cons_zero, List.getElem_cons_succ, List.setIfInBounds_toArray, List.set_cons_zero, List.set_cons_succ]
              refine wpAnyH_take (i := 5) (v := ?r1v5) rfl (by kernel_rfl) (by kernel_rfl) (by kernel_rfl) (fun _ _ _ h => h) (Or.inl ⟨by rfl, ?r1y5⟩) (by assumption) ?r1t5
              case r1y5 => (intro w hSw; (try dsimp only at hSw); (try simp only [List.getElem_toArray, List.getElem_cons_zero, List.getElem_cons_succ]); go_simp; try with_reducible rfl)
              try simp only [Act.put, List.getElem_toArray, List.getElem_cons_zero, List.getElem_cons_succ, List.setIfInBounds_toArray, List.set_cons_zero, List.set_cons_succ]
              refine wpAnyH_take (i := 6) (v := ?r1v6) rfl (by kernel_rfl) (by kernel_rfl) (by kernel_rfl) (fun _ _ _ h => h) (Or.inl ⟨by rfl, ?r1y6⟩) (by assumption) ?r1t6
              case r1y6 => (intro w hSw; (try dsimp only at hSw); (try simp only [List.getElem_toArray, List.getElem_cons_zero, List.getElem_cons_succ]); go_simp; try with_reducible rfl)
              try simp only [Act.put, List.getElem_toArray, List.getElem_cons_zero, List.getElem_cons_succ, List.setIfInBounds_toArray, List.set_cons_zero, List.set_cons_succ]
              refine wpAnyH_take (i := 7) (v := undef) rfl (by kernel_rfl) (by kernel_rfl) (by kernel_rfl) (fun _ _ _ h => h) (Or.inr ⟨by rfl, rfl⟩) (by assumption) ?_
              try simp only [Act.put, List.getElem_toArray, List.getElem_cons_zero, List.getElem_cons_succ, List.setIfInBounds_toArray, List.set_cons_zero, List.set_cons_succ]
              refine wpAnyH_take (i := 8) (v := undef) rfl (by kernel_rfl) (by kernel_rfl) (by kernel_rfl) (fun _ _ _ h => h) (Or.inr ⟨by rfl, rfl⟩) (by assumption) ?_
              try simp only [Act.put, List.getElem_toArray, List.getElem_cons_zero, List.getElem_cons_succ, List.setIfInBounds_toArray, List.set_cons_zero, List.set_cons_succ]
              refine wpAnyH_take (i := 9) (v := undef) rfl (by kernel_rfl) (by kernel_rfl) (by kernel_rfl) (fun _ _ _ h => h) (Or.inr ⟨by rfl, rfl⟩) (by assumption) ?_
              try simp only [Act.put, List.getElem_toArray, List.getElem_cons_zero, List.getElem_cons_succ, List.setIfInBounds_toArray, List.set_cons_zero, List.set_cons_succ]
              refine wpAnyH_take (i := 10) (v := undef) rfl (by kernel_rfl) (by kernel_rfl) (by kernel_rfl) (fun _ _ _ h => h) (Or.inr ⟨by rfl, rfl⟩) (by assumption) ?_
              try simp only [Act.put, List.getElem_toArray, List.getElem_cons_zero, List.getElem_cons_succ, List.setIfInBounds_toArray, List.set_cons_zero, List.set_cons_succ]
              refine wpAnyH_take (i := 11) (v := undef) rfl (by kernel_rfl) (by kernel_rfl) (by kernel_rfl) (fun _ _ _ h => h) (Or.inr ⟨by rfl, rfl⟩) (by assumption) ?_
              try simp only [Act.put, List.getElem_toArray, List.getElem_cons_zero, List.getElem_cons_succ, List.setIfInBounds_toArray, List.set_cons_zero, List.set_cons_succ]
              refine wpAnyH_take (i := 12) (v := undef) rfl (by kernel_rfl) (by kernel_rfl) (by kernel_rfl) (fun _ _ _ h => h) (Or.inr ⟨by rfl, rfl⟩) (by assumption) ?_
              try simp only [Act.put, List.getElem_toArray, List.getElem_cons_zero, List.getElem_cons_succ, List.setIfInBounds_toArray, List.set_cons_zero, List.set_cons_succ]
              refine wpAnyH_take (i := 13) (v := undef) rfl (by kernel_rfl) (by kernel_rfl) (by kernel_rfl) (fun _ _ _ h => h) (Or.inr ⟨by rfl, rfl⟩) (by assumption) ?_
              try simp only [Act.put, List.getElem_toArray, List.getElem_cons_zero, List.getElem_cons_succ, List.setIfInBounds_toArray, List.set_cons_zero, List.set_cons_succ]
              refine wpAnyH_take (i := 14) (v := ?r1v14) rfl (by kernel_rfl) (by kernel_rfl) (by kernel_rfl) (fun _ _ _ h => h) (Or.inl ⟨by rfl, ?r1y14⟩) (by assumption) ?r1t14
              case r1y14 => (intro w hSw; (try dsimp only at hSw); (try simp only [List.getElem_toArray, List.getElem_cons_zero, List.getElem_cons_succ]); go_simp; try with_reducible rfl)
              try simp only [Act.put, List.getElem_toArray, List.getElem_cons_zero, List.getElem_cons_succ, List.setIfInBounds_toArray, List.set_cons_zero, List.set_cons_succ]
              refine wpAnyH_done (by kernel_rfl) ?_ _
              go_wp2
              go_ret
              exact ⟨congrArg (fun x => Ending.returned (.bool x)) (right_no HG.out).symm, (hB.trans (B1.mono hB.size)).drew.trans (hb.mono (Nat.le_trans hB.size B1.size))⟩
            | true =>
              simp only [hf, Bool.true_and] at hF hgo
              have HG := Lib.hid hgo
              clear hgo hf
              cases hh : holdB i (heldBy A i) A[i].kids with
              | false =>
                go_wp2
                generalize wr.alloc _ = W1 at *
                refine wp_region_held_drew (S := (fun w' => w'.cell? ⟨wr.heap.size, 0, none⟩ = some (.int .u8 A[i].hd.kind) ∧ w'.cell? ⟨wr.heap.size, 1, none⟩ = some (.int .u64 (word (setN A[i].hd.set) 0 : Nat)) ∧ w'.cell? ⟨wr.heap.size, 2, none⟩ = some (.int .u64 (word (setN A[i].hd.set) 1 : Nat)) ∧ w'.cell? ⟨wr.heap.size, 3, none⟩ = some (.int .u64 (word (setN A[i].hd.set) 2 : Nat)) ∧ w'.cell? ⟨wr.heap.size, 4, none⟩ = some (.int .u64 (word (setN A[i].hd.set) 3 : Nat)) ∧ w'.cell? ⟨wr.heap.size, 5, none⟩ = some (.string A[i].hd.text) ∧ w'.cell? ⟨wr.heap.size, 6, none⟩ = some (.int .i64 A[i].hd.lo) ∧ w'.cell? ⟨wr.heap.size, 7, none⟩ = some (.int .i64 A[i].hd.hi) ∧ w'.cell? ⟨wr.heap.size, 8, none⟩ = some (.slice p2 A[i].kids.length cap2))) (by kernel_rfl) (k1.drew.nine.1) (fun hHeld => ?_)
                refine wpAnyH_take (i := 0) (v := ?r2v0) rfl (by kernel_rfl) (by kernel_rfl) (by kernel_rfl) (fun _ _ _ h => h) (Or.inl ⟨by rfl, ?r2y0⟩) (by assumption) ?r2t0
                case r2y0 => (intro w hSw; (try dsimp only at hSw); (try simp only [List.getElem_toArray, List.getElem_cons_zero]); go_simp; try with_reducible rfl)
                try simp only [Act.put, List.getElem_toArray, List.getElem_cons_zero, List.setIfInBounds_toArray, List.set_cons_zero, List.set_cons_succ]
                refine wpAnyH_take (i := 1) (v := ?r2v1) rfl (by kernel_rfl) (by kernel_rfl) (by kernel_rfl) (fun _ _ _ h => h) (Or.inl ⟨by rfl, ?r2y1⟩) (by assumption) ?r2t1
                case r2y1 => (intro w hSw; (try dsimp only at hSw); (try simp only [List.getElem_toArray, List.getElem_cons_zero, List.getElem_cons_succ]); go_simp; try with_reducible rfl)
                try simp only [Act.put, List.getElem_toArray, List.getElem_cons_zero, List.getElem_cons_succ, List.setIfInBounds_toArray, List.set_cons_zero, List.set_cons_succ]
                refine wpAnyH_take (i := 2) (v := ?r2v2) rfl (by kernel_rfl) (by kernel_rfl) (by kernel_rfl) (fun _ _ _ h => h) (Or.inl ⟨by rfl, ?r2y2⟩) (by assumption) ?r2t2
                case r2y2 => (intro w hSw; (try dsimp only at hSw); (try simp only [List.getElem_toArray, List.getElem_cons_zero, List.getElem_cons_succ]); go_simp; try with_reducible rfl)
                try simp only [Act.put, List.getElem_toArray, List.getElem_cons_zero, List.getElem_cons_succ, List.setIfInBounds_toArray, List.set_cons_zero, List.set_cons_succ]
                refine wpAnyH_take (i := 3) (v := ?r2v3) rfl (by kernel_rfl) (by kernel_rfl) (by kernel_rfl) (fun _ _ _ h => h) (Or.inl ⟨by rfl, ?r2y3⟩) (by assumption) ?r2t3
                case r2y3 => (intro w hSw; (try dsimp only at hSw); (try simp only [List.getElem_toArray, List.getElem_cons_zero, List.getElem_cons_succ]); go_simp; try with_reducible rfl)
                try simp only [Act.put, List.getElem_toArray, List.getElem_cons_zero, List.getElem_cons_succ, List.setIfInBounds_toArray, List.set_cons_zero, List.set_cons_succ]
                refine wpAnyH_ready (rs := [4]) (by kernel_rfl) (by simp) ?_
                refine AllReadyH.cons rfl (fun K hK => ?_) AllReadyH.nil
                try simp only [List.getElem_toArray, List.getElem_cons_zero, List.getElem_cons_succ]
                go_simp
                (refine (hF _ hT1.drew (Nat.lt_of_lt_of_le hgW B1.size)).mono ?_; rintro e w1 ⟨rfl, hb⟩; have N1 := k1.drew.below hb k1.lt; have r2 := r1.of_block (hb.block _ r1.lt))
                try go_simp
                refine hK.out _ _ ?r2S4 (fun hHeld2 => ?_)
                case r2S4 => (try dsimp only); (first | exact N2.nine.1 | exact N1.nine.1)
                clear hHeld hK K
                have hHeld := hHeld2
                clear hHeld2
                try simp only [Act.put, List.getElem_toArray, List.getElem_cons_zero, List.getElem_cons_succ, List.setIfInBounds_toArray, List.set_cons_zero, List.set_cons_succ]
                refine wpAnyH_take (i := 5) (v := ?r2v5) rfl (by kernel_rfl) (by kernel_rfl) (by kernel_rfl) (fun _ _ _ h => h) (Or.inl ⟨by rfl, ?r2y5⟩) (by assumption) ?r2t5
                case r2y5 => (intro w hSw; (try dsimp only at hSw); (try simp only [List.getElem_toArray, List.getElem_cons_zero, List.getElem_cons_succ]); go_simp; try with_reducible rfl)
                try simp only [Act.put, List.getElem_toArray, List.getElem_cons_zero, List.getElem_cons_succ, List.setIfInBounds_toArray, List.set_cons_zero, List.set_cons_succ]
                refine wpAnyH_take (i := 6) (v := ?r2v6) rfl (by kernel_rfl) (by kernel_rfl) (by kernel_rfl) (fun _ _ _ h => h) (Or.inl ⟨by rfl, ?r2y6⟩) (by assumption) ?r2t6
                case r2y6 => (intro w hSw; (try dsimp only at hSw); (try simp only [List.getElem_toArray, List.getElem_cons_zero, List.getElem_cons_succ]); go_simp; try with_reducible rfl)
                try simp only [Act.put, List.getElem_toArray, List.getElem_cons_zero, List.getElem_cons_succ, List.setIfInBounds_toArray, List.set_cons_zero, List.set_cons_succ]
                refine wpAnyH_take (i := 7) (v := ?r2v7) rfl (by kernel_rfl) (by kernel_rfl) (by kernel_rfl) (fun _ _ _ h => h) (Or.inl ⟨by rfl, ?r2y7⟩) (by assumption) ?r2t7
                case r2y7 => (intro w hSw; (try dsimp only at hSw); (try simp only [List.getElem_toArray, List.getElem_cons_zero, List.getElem_cons_succ]); go_simp; try with_reducible rfl)
                try simp only [Act.put, List.getElem_toArray, List.getElem_cons_zero, List.getElem_cons_succ, List.setIfInBounds_toArray, List.set_cons_zero, List.set_cons_succ]
                refine wpAnyH_take (i := 8) (v := ?r2v8) rfl (by kernel_rfl) (by kernel_rfl) (by kernel_rfl) (fun _ _ _ h => h) (Or.inl ⟨by rfl, ?r2y8⟩) (by assumption) ?r2t8
                case r2y8 => (intro w hSw; (try dsimp only at hSw); (try simp only [List.getElem_toArray, List.getElem_cons_zero, List.getElem_cons_succ]); go_simp; try with_reducible rfl)
                try simp only [Act.put, List.getElem_toArray, List.getElem_cons_zero, List.getElem_cons_succ, List.setIfInBounds_toArray, List.set_cons_zero, List.set_cons_succ]
                refine wpAnyH_take (i := 9) (v := ?r2v9) rfl (by kernel_rfl) (by kernel_rfl) (by kernel_rfl) (fun _ _ _ h => h) (Or.inl ⟨by rfl, ?r2y9⟩) (by assumption) ?r2t9
                case r2y9 => (intro w hSw; (try dsimp only at hSw); (try simp only [List.getElem_toArray, List.getElem_cons_zero, List.getElem_cons_succ]); go_simp; try with_reducible rfl)
                try simp only [Act.put, List.getElem_toArray, List.getElem_cons_zero, List.getElem_cons_succ, List.setIfInBounds_toArray, List.set_cons_zero, List.set_cons_succ]
                refine wpAnyH_take (i := 10) (v := ?r2v10) rfl (by kernel_rfl) (by kernel_rfl) (by kernel_rfl) (fun _ _ _ h => h) (Or.inl ⟨by rfl, ?r2y10⟩) (by assumption) ?r2t10
                case r2y10 => (intro w hSw; (try dsimp only at hSw); (try simp only [List.getElem_toArray, List.getElem_cons_zero, List.getElem_cons_succ]); go_simp; try with_reducible rfl)
                try simp only [Act.put, List.getElem_toArray, List.getElem_cons_zero, List.getElem_cons_succ, List.setIfInBounds_toArray, List.set_cons_zero, List.set_cons_succ]
                refine wpAnyH_take (i := 11) (v := ?r2v11) rfl (by kernel_rfl) (by kernel_rfl) (by kernel_rfl) (fun _ _ _ h => h) (Or.inl ⟨by rfl, ?r2y11⟩) (by assumption) ?r2t11
                case r2y11 => (intro w hSw; (try dsimp only at hSw); (try simp only [List.getElem_toArray, List.getElem_cons_zero, List.getElem_cons_succ]); go_simp; try with_reducible rfl)
                try simp only [Act.put, List.getElem_toArray, List.getElem_cons_zero, List.getElem_cons_succ, List.setIfInBounds_toArray, List.set_cons_zero, List.set_cons_succ]
                refine wpAnyH_ready (rs := [12]) (by kernel_rfl) (by simp) ?_
                refine AllReadyH.cons rfl (fun K hK => ?_) AllReadyH.nil
                try simp only [List.getElem_toArray, List.getElem_cons_zero, List.getElem_cons_succ]
                go_simp
                (have b1 : Below w.heap.size w w1 := (hB.trans (B1.mono hB.size)).drew.trans (hb.mono (Nat.le_trans hB.size B1.size)); refine (hold_any w _ A[i].kids hI (by omega) w1 b1 (w.heap.size + 1) i A.length A.length (by omega) (by omega) (by omega) (heldBy A i) r2).mono ?_; rintro e w2 ⟨rfl, hgb, H', r3, hH⟩; have N2 := N1.gb hgb (by have := hrow.lt; omega))
                try go_simp
                refine hK.out _ _ ?r2S12 (fun hHeld2 => ?_)
                case r2S12 => (try dsimp only); (first | exact N2.nine.1 | exact N1.nine.1)
                clear hHeld hK K
                have hHeld := hHeld2
                clear hHeld2
                try simp only [Act.put, List.getElem_toArray, List.getElem_cons_zero, List.getElem_cons_succ, List.setIfInBounds_toArray, List.set_cons_zero, List.set_cons_succ]
                refine wpAnyH_take (i := 13) (v := ?r2v13) rfl (by kernel_rfl) (by kernel_rfl) (by kernel_rfl) (fun _ _ _ h => h) (Or.inl ⟨by rfl, ?r2y13⟩) (by assumption) ?r2t13
                case r2y13 => (intro w hSw; (try dsimp only at hSw); (try simp only [List.getElem_toArray, List.getElem_cons_zero, List.getElem_cons_succ]); go_simp; try with_reducible rfl)
                try simp only [Act.put, List.getElem_toArray, List.getElem_cons_zero, List.getElem_cons_succ, List.setIfInBounds_toArray, List.set_cons_zero, List.set_cons_succ]
                refine wpAnyH_take (i := 14) (v := ?r2v14) rfl (by kernel_rfl) (by kernel_rfl) (by kernel_rfl) (fun _ _ _ h => h) (Or.inl ⟨by rfl, ?r2y14⟩) (by assumption) ?r2t14
                case r2y14 => (intro w hSw; (try dsimp only at hSw); (try simp only [List.getElem_toArray, List.getElem_cons_zero, List.getElem_cons_succ]); go_simp; try with_reducible rfl)
                try simp only [Act.put, List.getElem_toArray, List.getElem_cons_zero, List.getElem_cons_succ, List.setIfInBounds_toArray, List.set_cons_zero, List.set_cons_succ]
                refine wpAnyH_done (by kernel_rfl) ?_ _
                go_wp2
                go_ret
                have hgo := HG.out
                rw [hh, Bool.false_and] at hgo
                exact ⟨congrArg (fun x => Ending.returned (.bool x)) (right_no hgo).symm, b1.grown hgb b1.size (fun k e => by cases e; omega)⟩
              | true =>
                go_wp2
                generalize wr.alloc _ = W1 at *
                refine wp_region_held_drew (S := (fun w' => w'.cell? ⟨wr.heap.size, 0, none⟩ = some (.int .u8 A[i].hd.kind) ∧ w'.cell? ⟨wr.heap.size, 1, none⟩ = some (.int .u64 (word (setN A[i].hd.set) 0 : Nat)) ∧ w'.cell? ⟨wr.heap.size, 2, none⟩ = some (.int .u64 (word (setN A[i].hd.set) 1 : Nat)) ∧ w'.cell? ⟨wr.heap.size, 3, none⟩ = some (.int .u64 (word (setN A[i].hd.set) 2 : Nat)) ∧ w'.cell? ⟨wr.heap.size, 4, none⟩ = some (.int .u64 (word (setN A[i].hd.set) 3 : Nat)) ∧ w'.cell? ⟨wr.heap.size, 5, none⟩ = some (.string A[i].hd.text) ∧ w'.cell? ⟨wr.heap.size, 6, none⟩ = some (.int .i64 A[i].hd.lo) ∧ w'.cell? ⟨wr.heap.size, 7, none⟩ = some (.int .i64 A[i].hd.hi) ∧ w'.cell? ⟨wr.heap.size, 8, none⟩ = some (.slice p2 A[i].kids.length cap2))) (by kernel_rfl) (k1.drew.nine.1) (fun hHeld => ?_)
                refine wpAnyH_take (i := 0) (v := ?r3v0) rfl (by kernel_rfl) (by kernel_rfl) (by kernel_rfl) (fun _ _ _ h => h) (Or.inl ⟨by rfl, ?r3y0⟩) (by assumption) ?r3t0
                case r3y0 => (intro w hSw; (try dsimp only at hSw); (try simp only [List.getElem_toArray, List.getElem_cons_zero]); go_simp; try with_reducible rfl)
                try simp only [Act.put, List.getElem_toArray, List.getElem_cons_zero, List.setIfInBounds_toArray, List.set_cons_zero, List.set_cons_succ]
                refine wpAnyH_take (i := 1) (v := ?r3v1) rfl (by kernel_rfl) (by kernel_rfl) (by kernel_rfl) (fun _ _ _ h => h) (Or.inl ⟨by rfl, ?r3y1⟩) (by assumption) ?r3t1
                case r3y1 => (intro w hSw; (try dsimp only at hSw); (try simp only [List.getElem_toArray, List.getElem_cons_zero, List.getElem_cons_succ]); go_simp; try with_reducible rfl)
                try simp only [Act.put, List.getElem_toArray, List.getElem_cons_zero, List.getElem_cons_succ, List.setIfInBounds_toArray, List.set_cons_zero, List.set_cons_succ]
                refine wpAnyH_take (i := 2) (v := ?r3v2) rfl (by kernel_rfl) (by kernel_rfl) (by kernel_rfl) (fun _ _ _ h => h) (Or.inl ⟨by rfl, ?r3y2⟩) (by assumption) ?r3t2
                case r3y2 => (intro w hSw; (try dsimp only at hSw); (try simp only [List.getElem_toArray, List.getElem_cons_zero, List.getElem_cons_succ]); go_simp; try with_reducible rfl)
                try simp only [Act.put, List.getElem_toArray, List.getElem_cons_zero, List.getElem_cons_succ, List.setIfInBounds_toArray, List.set_cons_zero, List.set_cons_succ]
                refine wpAnyH_take (i := 3) (v := ?r3v3) rfl (by kernel_rfl) (by kernel_rfl) (by kernel_rfl) (fun _ _ _ h => h) (Or.inl ⟨by rfl, ?r3y3⟩) (by assumption) ?r3t3
                case r3y3 => (intro w hSw; (try dsimp only at hSw); (try simp only [List.getElem_toArray, List.getElem_cons_zero, List.getElem_cons_succ]); go_simp; try with_reducible rfl)
                try simp only [Act.put, List.getElem_toArray, List.getElem_cons_zero, List.getElem_cons_succ, List.setIfInBounds_toArray, List.set_cons_zero, List.set_cons_succ]
                refine wpAnyH_ready (rs := [4]) (by kernel_rfl) (by simp) ?_
                refine AllReadyH.cons rfl (fun K hK => ?_) AllReadyH.nil
                try simp only [List.getElem_toArray, List.getElem_cons_zero, List.getElem_cons_succ]
                go_simp
                (refine (hF _ hT1.drew (Nat.lt_of_lt_of_le hgW B1.size)).mono ?_; rintro e w1 ⟨rfl, hb⟩; have N1 := k1.drew.below hb k1.lt; have r2 := r1.of_block (hb.block _ r1.lt))
                try go_simp
                refine hK.out _ _ ?r3S4 (fun hHeld2 => ?_)
                case r3S4 => (try dsimp only); (first | exact N2.nine.1 | exact N1.nine.1)
                clear hHeld hK K
                have hHeld := hHeld2
                clear hHeld2
                try simp only [Act.put, List.getElem_toArray, List.getElem_cons_zero, List.getElem_cons_succ, List.setIfInBounds_toArray, List.set_cons_zero, List.set_cons_succ]
                refine wpAnyH_take (i := 5) (v := ?r3v5) rfl (by kernel_rfl) (by kernel_rfl) (by kernel_rfl) (fun _ _ _ h => h) (Or.inl ⟨by rfl, ?r3y5⟩) (by assumption) ?r3t5
                case r3y5 => (intro w hSw; (try dsimp only at hSw); (try simp only [List.getElem_toArray, List.getElem_cons_zero, List.getElem_cons_succ]); go_simp; try with_reducible rfl)
                try simp only [Act.put, List.getElem_toArray, List.getElem_cons_zero, List.getElem_cons_succ, List.setIfInBounds_toArray, List.set_cons_zero, List.set_cons_succ]
                refine wpAnyH_take (i := 6) (v := ?r3v6) rfl (by kernel_rfl) (by kernel_rfl) (by kernel_rfl) (fun _ _ _ h => h) (Or.inl ⟨by rfl, ?r3y6⟩) (by assumption) ?r3t6
                case r3y6 => (intro w hSw; (try dsimp only at hSw); (try simp only [List.getElem_toArray, List.getElem_cons_zero, List.getElem_cons_succ]); go_simp; try with_reducible rfl)
                try simp only [Act.put, List.getElem_toArray, List.getElem_cons_zero, List.getElem_cons_succ, List.setIfInBounds_toArray, List.set_cons_zero, List.set_cons_succ]
                refine wpAnyH_take (i := 7) (v := ?r3v7) rfl (by kernel_rfl) (by kernel_rfl) (by kernel_rfl) (fun _ _ _ h => h) (Or.inl ⟨by rfl, ?r3y7⟩) (by assumption) ?r3t7
                case r3y7 => (intro w hSw; (try dsimp only at hSw); (try simp only [List.getElem_toArray, List.getElem_cons_zero, List.getElem_cons_succ]); go_simp; try with_reducible rfl)
                try simp only [Act.put, List.getElem_toArray, List.getElem_cons_zero, List.getElem_cons_succ, List.setIfInBounds_toArray, List.set_cons_zero, List.set_cons_succ]
                refine wpAnyH_take (i := 8) (v := ?r3v8) rfl (by kernel_rfl) (by kernel_rfl) (by kernel_rfl) (fun _ _ _ h => h) (Or.inl ⟨by rfl, ?r3y8⟩) (by assumption) ?r3t8
                case r3y8 => (intro w hSw; (try dsimp only at hSw); (try simp only [List.getElem_toArray, List.getElem_cons_zero, List.getElem_cons_succ]); go_simp; try with_reducible rfl)
                try simp only [Act.put, List.getElem_toArray, List.getElem_cons_zero, List.getElem_cons_succ, List.setIfInBounds_toArray, List.set_cons_zero, List.set_cons_succ]
                refine wpAnyH_take (i := 9) (v := ?r3v9) rfl (by kernel_rfl) (by kernel_rfl) (by kernel_rfl) (fun _ _ _ h => h) (Or.inl ⟨by rfl, ?r3y9⟩) (by assumption) ?r3t9
                case r3y9 => (intro w hSw; (try dsimp only at hSw); (try simp only [List.getElem_toArray, List.getElem_cons_zero, List.getElem_cons_succ]); go_simp; try with_reducible rfl)
                try simp only [Act.put, List.getElem_toArray, List.getElem_cons_zero, List.getElem_cons_succ, List.setIfInBounds_toArray, List.set_cons_zero, List.set_cons_succ]
                refine wpAnyH_take (i := 10) (v := ?r3v10) rfl (by kernel_rfl) (by kernel_rfl) (by kernel_rfl) (fun _ _ _ h => h) (Or.inl ⟨by rfl, ?r3y10⟩) (by assumption) ?r3t10
                case r3y10 => (intro w hSw; (try dsimp only at hSw); (try simp only [List.getElem_toArray, List.getElem_cons_zero, List.getElem_cons_succ]); go_simp; try with_reducible rfl)
                try simp only [Act.put, List.getElem_toArray, List.getElem_cons_zero, List.getElem_cons_succ, List.setIfInBounds_toArray, List.set_cons_zero, List.set_cons_succ]
                refine wpAnyH_take (i := 11) (v := ?r3v11) rfl (by kernel_rfl) (by kernel_rfl) (by kernel_rfl) (fun _ _ _ h => h) (Or.inl ⟨by rfl, ?r3y11⟩) (by assumption) ?r3t11
                case r3y11 => (intro w hSw; (try dsimp only at hSw); (try simp only [List.getElem_toArray, List.getElem_cons_zero, List.getElem_cons_succ]); go_simp; try with_reducible rfl)
                try simp only [Act.put, List.getElem_toArray, List.getElem_cons_zero, List.getElem_cons_succ, List.setIfInBounds_toArray, List.set_cons_zero, List.set_cons_succ]
                refine wpAnyH_ready (rs := [12]) (by kernel_rfl) (by simp) ?_
                refine AllReadyH.cons rfl (fun K hK => ?_) AllReadyH.nil
                try simp only [List.getElem_toArray, List.getElem_cons_zero, List.getElem_cons_succ]
                go_simp
                (have b1 : Below w.heap.size w w1 := (hB.trans (B1.mono hB.size)).drew.trans (hb.mono (Nat.le_trans hB.size B1.size)); refine (hold_any w _ A[i].kids hI (by omega) w1 b1 (w.heap.size + 1) i A.length A.length (by omega) (by omega) (by omega) (heldBy A i) r2).mono ?_; rintro e w2 ⟨rfl, hgb, H', r3, hH⟩; have N2 := N1.gb hgb (by have := hrow.lt; omega))
                try go_simp
                refine hK.out _ _ ?r3S12 (fun hHeld2 => ?_)
                case r3S12 => (try dsimp only); (first | exact N2.nine.1 | exact N1.nine.1)
                clear hHeld hK K
                have hHeld := hHeld2
                clear hHeld2
                try simp only [Act.put, List.getElem_toArray, List.getElem_cons_zero, List.getElem_cons_succ, List.setIfInBounds_toArray, List.set_cons_zero, List.set_cons_succ]
                refine wpAnyH_take (i := 13) (v := ?r3v13) rfl (by kernel_rfl) (by kernel_rfl) (by kernel_rfl) (fun _ _ _ h => h) (Or.inl ⟨by rfl, ?r3y13⟩) (by assumption) ?r3t13
                case r3y13 => (intro w hSw; (try dsimp only at hSw); (try simp only [List.getElem_toArray, List.getElem_cons_zero, List.getElem_cons_succ]); go_simp; try with_reducible rfl)
                try simp only [Act.put, List.getElem_toArray, List.getElem_cons_zero, List.getElem_cons_succ, List.setIfInBounds_toArray, List.set_cons_zero, List.set_cons_succ]
                refine wpAnyH_take (i := 14) (v := ?r3v14) rfl (by kernel_rfl) (by kernel_rfl) (by kernel_rfl) (fun _ _ _ h => h) (Or.inl ⟨by rfl, ?r3y14⟩) (by assumption) ?r3t14
                case r3y14 => (intro w hSw; (try dsimp only at hSw); (try simp only [List.getElem_toArray, List.getElem_cons_zero, List.getElem_cons_succ]); go_simp; try with_reducible rfl)
                try simp only [Act.put, List.getElem_toArray, List.getElem_cons_zero, List.getElem_cons_succ, List.setIfInBounds_toArray, List.set_cons_zero, List.set_cons_succ]
                refine wpAnyH_done (by kernel_rfl) ?_ _
                go_wp2
                have hgo := HG.out
                rw [hh, Bool.true_and] at hgo
                have HG2 := Lib.hid hgo
                rw [hH hh, heldBy_step A i hlt] at r3
                clear hgo HG hh
                go_roundw
                case rel => exact ⟨i + 1, by go_num, by omega, b1.grown hgb b1.size (fun k e => by cases e; omega), r3, HG2.out⟩
                case measure => simp [intOf]; omega
        · obtain rfl : i = A.length := by omega
          have hd : A.drop A.length = [] := by simp
          rw [hd, rgo] at hgo
          have HE := Lib.hid (right_at hA HL.out hgo)
          have HLe := HL.out
          have hll : last ≤ A.length := by omega
          have hl1 : (last : Int) ≤ (A.length : Int) := by omega
          clear HLe hgo hd
          go_wp2_with (go_at_call 74; refine (contains_any _ (w.heap.size + 1) last A.length A.length hll (by omega) (heldBy A A.length) hrow).mono ?_; rintro e w' ⟨rfl, rfl⟩)
          go_ret
          exact ⟨congrArg (fun x => Ending.returned (.bool x)) HE.out, hB⟩
    · have hr : rightB ⟨A, r⟩ = false := rightB_no.2 fun h => by have := h.1; simp only at this; omega
      rw [hr]
      have hne : (r != (last : Int)) = true := by simpa using hroot
      go_enter Tryd.func18, Tryd.ntmps18
      go_wp2
      go_ret
      exact ⟨rfl, (Below.refl _ _).alloc (Nat.le_refl _) _⟩
end Go.Proofs.YtpkjfdgjmcphmaaDoor

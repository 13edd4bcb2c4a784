/- Package tree: slices.EqualFunc of nodes. -/
import Derived.Test.YtpkjfdgjmcphmaaDoorTt
namespace Go.Proofs.YtpkjfdgjmcphmaaDoor
open Go.RowKit Bset Tm

theorem nd_eq (a b : Nd) : (sameHd a.hd b.hd && decide (a.kids = b.kids)) = true ↔ a = b := by
  obtain ⟨h, l⟩ := a
  obtain ⟨h', l'⟩ := b
  rw [Bool.and_eq_true, sameHd_iff, decide_eq_true_eq]
  simp

set_option maxRecDepth 100000 in
set_option maxHeartbeats 2000000 in
theorem eqf_any (v1 v2 : Value) (A B : List Nd) (w : World) (h1 : Nodes w v1 A) (h2 : Nodes w v2 B) (hl : A.length ≤ 4294967296) (hk : ∀ n ∈ A, n.kids.length ≤ 4294967296) :
    Calls Tryd.prog 82 #[v1, v2, .func (.func 83) #[] #[]] w fun e w' => e = .returned (.bool (eqB A B)) ∧ Below w.heap.size w w' := by
  obtain ⟨p, c, e1, hh1⟩ := h1
  obtain ⟨p', c', e2, hh2⟩ := h2
  subst e1 e2
  by_cases hlen : A.length = B.length
  · have hle : ((A.length : Int) != (B.length : Int)) = false := by simp [hlen]
    go_enter Tryd.func82, Tryd.ntmps82
    have HL := Lib.hid hlen
    clear hlen
    go_wp2
    go_loopw [17] (fun v W => ∃ q : Nat, v = .int .i64 q ∧ q ≤ A.length ∧ A.take q = B.take q ∧ Below w.heap.size w W) (fun v _ => A.length - (intOf v).toNat)
    case atStart => exact ⟨0, rfl, Nat.zero_le _, rfl, Below.refl _ _⟩
    case round =>
      obtain ⟨q, rfl, hq, ht, hB⟩ := hrel
      by_cases hlt : q < A.length
      · have hlt2 : q < B.length := by have := HL.out; omega
        rcases hh1 with rfl | ⟨b, off, rfl, hc⟩
        · simp at hlt
        · rcases hh2 with rfl | ⟨b', off', rfl, hc'⟩
          · simp at hlt2
          · obtain ⟨kv1, hN1, hI1⟩ := hc q hlt
            obtain ⟨kv2, hN2, hI2⟩ := hc' q hlt2
            obtain ⟨p1, cap1, rfl⟩ := hI1.len
            obtain ⟨p2, cap2, rfl⟩ := hI2.len
            obtain ⟨c0, c1, c2, c3, c4, c5, c6, c7, c8⟩ := hN1.keep hB.block
            have B1 := (Below.refl wr.heap.size wr).alloc (Nat.le_refl _) (.cells (nodeC A[q].hd (.slice p1 A[q].kids.length cap1)) 38)
            have hB1 := hB.trans (B1.mono hB.size)
            obtain ⟨d0, d1, d2, d3, d4, d5, d6, d7, d8⟩ := hN2.keep hB1.block
            have hB2 := hB1.alloc hB1.size (.cells (nodeC B[q].hd (.slice p2 B[q].kids.length cap2)) 38)
            have hI1' := hI1.below hB2
            have hI2' := hI2.below hB2
            have hq0 : (0 : Int) ≤ (q : Int) := by omega
            have hq1 : (q : Int) < (A.length : Int) := by omega
            have hq2 : (q : Int) < (B.length : Int) := by omega
            have hal := fun (w : World) (h1 : Ints w (.slice p1 A[q].kids.length cap1) A[q].kids) (h2 : Ints w (.slice p2 B[q].kids.length cap2) B[q].kids) => alike_any A[q].hd B[q].hd (.slice p1 A[q].kids.length cap1) (.slice p2 B[q].kids.length cap2) A[q].kids B[q].kids w h1 h2 (hk _ (List.getElem_mem hlt))
            have hnd := nd_eq A[q] B[q]
            have hstep : A[q] = B[q] → A.take (q + 1) = B.take (q + 1) := fun e => by
              rw [List.take_succ_eq_append_getElem hlt, List.take_succ_eq_append_getElem hlt2, ht, e]
            have hbad : A[q] ≠ B[q] → eqB A B = false := fun e => eqB_no.2 fun e2 => by
              subst e2
              exact e rfl
            cases hs : (sameHd A[q].hd B[q].hd && decide (A[q].kids = B[q].kids)) with
            | true =>
              have HS := Lib.hid (hstep (hnd.1 hs))
              simp only [hs] at hal
              clear hstep hbad hnd hs hc hc' ht
              go_wp2_with (go_at_call 83; refine (hal _ hI1' hI2').mono ?_; rintro e w' ⟨rfl, hb⟩)
              go_roundw
              case rel => exact ⟨q + 1, by go_num, by omega, HS.out, hB2.trans (hb.mono hB2.size)⟩
              case measure => simp [intOf]; omega
            | false =>
              have HS := Lib.hid (hbad (fun e => by rw [hnd.2 e] at hs; cases hs))
              simp only [hs] at hal
              clear hstep hbad hnd hs hc hc' ht
              go_wp2_with (go_at_call 83; refine (hal _ hI1' hI2').mono ?_; rintro e w' ⟨rfl, hb⟩)
              go_ret
              exact ⟨congrArg (fun x => Ending.returned (.bool x)) HS.out.symm, hB2.trans (hb.mono hB2.size)⟩
      · obtain rfl : q = A.length := by omega
        have hfin : eqB A B = true := by
          rw [List.take_of_length_le (Nat.le_refl _), List.take_of_length_le (by have := HL.out; omega)] at ht
          exact eqB_iff.2 ht
        have HF := Lib.hid hfin
        clear hfin ht
        go_wp2
        go_ret
        exact ⟨congrArg (fun x => Ending.returned (.bool x)) HF.out.symm, hB⟩
  · have hne : ((A.length : Int) != (B.length : Int)) = true := by simp; omega
    have hf : eqB A B = false := eqB_no.2 fun e => hlen (by rw [e])
    rw [hf]
    clear hf hlen
    go_enter Tryd.func82, Tryd.ntmps82
    go_wp2
    go_ret
    exact ⟨rfl, Below.refl _ _⟩
end Go.Proofs.YtpkjfdgjmcphmaaDoor

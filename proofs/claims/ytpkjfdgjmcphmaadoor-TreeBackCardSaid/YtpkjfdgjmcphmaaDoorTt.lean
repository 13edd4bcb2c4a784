/- Package tree: alike; slices.Equal, slices.EqualFunc. -/
import Derived.Test.YtpkjfdgjmcphmaaDoorTs
namespace Go.Proofs.YtpkjfdgjmcphmaaDoor
open Go.RowKit Bset Tm

def sameHd (a b : Hd) : Bool := decide (a.kind = b.kind) && (decide (a.set = b.set) && (decide (a.text = b.text) && (decide (a.lo = b.lo) && decide (a.hi = b.hi))))
theorem sameHd_iff {a b : Hd} : sameHd a b = true ↔ a = b := by
  obtain ⟨k, s, t, l, h⟩ := a
  obtain ⟨k', s', t', l', h'⟩ := b
  simp [sameHd]
theorem text_list (a b : ByteArray) : a.toList = b.toList ↔ a = b := by
  rw [ByteArray.toList_eq, ByteArray.toList_eq]
  exact ⟨fun e => ByteArray.ext (Array.toList_inj.1 e), fun e => by rw [e]⟩
noncomputable def eqB (A B : List Nd) : Bool := @decide (A = B) (Classical.propDecidable _)
theorem eqB_iff {A B : List Nd} : eqB A B = true ↔ A = B := by unfold eqB; simp
theorem eqB_no {A B : List Nd} : eqB A B = false ↔ A ≠ B := by unfold eqB; simp

set_option maxRecDepth 100000 in
set_option maxHeartbeats 2000000 in
theorem equal_any (v1 v2 : Value) (l m : List Int) (w : World) (h1 : Ints w v1 l) (h2 : Ints w v2 m) (hl : l.length ≤ 4294967296) :
    Calls Tryd.prog 101 #[v1, v2] w fun e w' => e = .returned (.bool (decide (l = m))) ∧ Below w.heap.size w w' := by
  obtain ⟨p, c, e1, hh1⟩ := h1
  obtain ⟨p', c', e2, hh2⟩ := h2
  subst e1 e2
  by_cases hlen : l.length = m.length
  · have hle : ((l.length : Int) != (m.length : Int)) = false := by simp [hlen]
    go_enter Tryd.func101, Tryd.ntmps101
    have HL := Lib.hid hlen
    clear hlen
    go_wp2
    go_loopw [13] (fun v W => ∃ q : Nat, v = .int .i64 q ∧ q ≤ l.length ∧ l.take q = m.take q ∧ Below w.heap.size w W) (fun v _ => l.length - (intOf v).toNat)
    case atStart => exact ⟨0, rfl, Nat.zero_le _, rfl, Below.refl _ _⟩
    case round =>
      obtain ⟨q, rfl, hq, ht, hB⟩ := hrel
      by_cases hlt : q < l.length
      · have hlt2 : q < m.length := by have := HL.out; omega
        rcases hh1 with rfl | ⟨b, off, rfl, hc⟩
        · simp at hlt
        · rcases hh2 with rfl | ⟨b', off', rfl, hc'⟩
          · simp at hlt2
          · have x1 := hc q hlt
            replace x1 := (hB.cell (p := ⟨b, off + q, none⟩) (cell_lt x1)).trans x1
            have x2 := hc' q hlt2
            replace x2 := (hB.cell (p := ⟨b', off' + q, none⟩) (cell_lt x2)).trans x2
            have hq0 : (0 : Int) ≤ (q : Int) := by omega
            have hq1 : (q : Int) < (l.length : Int) := by omega
            have hq2 : (q : Int) < (m.length : Int) := by omega
            have hstep : l[q] = m[q] → l.take (q + 1) = m.take (q + 1) := fun e => by
              rw [List.take_succ_eq_append_getElem hlt, List.take_succ_eq_append_getElem hlt2, ht, e]
            have hbad : l[q] ≠ m[q] → decide (l = m) = false := fun e => by
              simp only [decide_eq_false_iff_not]
              intro e2
              subst e2
              exact e rfl
            obtain ⟨x, hx⟩ : ∃ x, x = l[q] := ⟨_, rfl⟩
            obtain ⟨y, hy⟩ : ∃ y, y = m[q] := ⟨_, rfl⟩
            rw [← hx] at x1 hstep hbad
            rw [← hy] at x2 hstep hbad
            by_cases e : x = y
            · have HS := Lib.hid (hstep e)
              have hne : (x != y) = false := by simp [e]
              clear hstep hbad hx hy hc hc' ht e
              go_wp2_with fail
              go_quiet (fail)
              go_wp2
              go_roundw
              case rel => exact ⟨q + 1, by go_num, by omega, HS.out, bdrewN hB⟩
              case measure => simp [intOf]; omega
            · have HS := Lib.hid (hbad e)
              have hne : (x != y) = true := by simp [e]
              clear hstep hbad hx hy hc hc' ht e
              go_wp2_with fail
              go_quiet (fail)
              go_wp2
              go_ret
              exact ⟨congrArg (fun x => Ending.returned (.bool x)) HS.out.symm, bdrewN hB⟩
      · obtain rfl : q = l.length := by omega
        have hfin : decide (l = m) = true := by
          simp only [decide_eq_true_eq]
          rw [List.take_of_length_le (Nat.le_refl _), List.take_of_length_le (by have := HL.out; omega)] at ht
          exact ht
        have HF := Lib.hid hfin
        clear hfin ht
        go_wp2
        go_ret
        exact ⟨congrArg (fun x => Ending.returned (.bool x)) HF.out.symm, hB⟩
  · have hne : ((l.length : Int) != (m.length : Int)) = true := by simp; omega
    have hf : decide (l = m) = false := by
      simp only [decide_eq_false_iff_not]
      intro e
      exact hlen (by rw [e])
    rw [hf]
    clear hf hlen
    go_enter Tryd.func101, Tryd.ntmps101
    go_wp2
    go_ret
    exact ⟨rfl, Below.refl _ _⟩

set_option maxRecDepth 100000 in
set_option maxHeartbeats 2000000 in
theorem alike_any (a b : Hd) (v1 v2 : Value) (l m : List Int) (w : World) (h1 : Ints w v1 l) (h2 : Ints w v2 m) (hl : l.length ≤ 4294967296) :
    Calls Tryd.prog 83 #[nodeV a v1, nodeV b v2] w fun e w' => e = .returned (.bool (sameHd a b && decide (l = m))) ∧ Below w.heap.size w w' := by
  have b0 := ((Below.refl w.heap.size w).alloc (Nat.le_refl _) (.cells (nodeC a v1) 38)).alloc (by simp) (.cells (nodeC b v2) 38)
  have h1' := h1.below b0
  have h2' := h2.below b0
  have he := fun w => set_eql a.set b.set w
  have hq := fun w h1 h2 => equal_any v1 v2 l m w h1 h2 hl
  go_enter Tryd.func83, Tryd.ntmps83
  go_wp2_with (go_at_call 101; refine (hq _ h1' h2').mono ?_; rintro e w' ⟨rfl, hb⟩)
  all_goals go_ret
  all_goals clear he hq h1 h2 h1' h2'
  all_goals have hkk : ((a.kind : Int) = (b.kind : Int)) ↔ a.kind = b.kind := by omega
  all_goals first
    | (refine ⟨congrArg (fun x => Ending.returned (.bool x)) ?_, b0.trans (hb.mono b0.size)⟩
       clear hb b0
       unfold sameHd
       rw [Bool.eq_iff_iff]
       simp only [hkk, text_list] at *
       simp_all
       done)
    | (refine ⟨congrArg (fun x => Ending.returned (.bool x)) ?_, b0⟩
       clear b0
       unfold sameHd
       rw [Bool.eq_iff_iff]
       simp only [hkk, text_list] at *
       simp_all
       done)
end Go.Proofs.YtpkjfdgjmcphmaaDoor

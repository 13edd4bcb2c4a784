/- Package tree: hold; slices.Contains of bools. -/
import Derived.Test.YtpkjfdgjmcphmaaDoorTg
import Derived.Deep.OwnRows
namespace Go.Proofs.YtpkjfdgjmcphmaaDoor
open Go.RowKit Bset Tm

/-- What is kept while a block is written. -/
theorem gb_set {W0 W : World} {g : Nat} (h : W0.grownBy W (some g)) (i : Nat) (v : Value) : W0.grownBy (W.setCell ⟨g, i, none⟩ v) (some g) :=
  ⟨h.os, h.tape, h.output, by rw [World.size_setCell]; exact h.size, fun j hj hne => (Below.heap_setCell W ⟨g, i, none⟩ v j (fun e => hne (by rw [e]))).trans (h.block j hj hne)⟩
theorem gb_refl (W : World) (r : Option Nat) : W.grownBy W r := ⟨rfl, rfl, rfl, Nat.le_refl _, fun _ _ _ => rfl⟩
theorem Ints.gb {W0 W : World} {g : Nat} {v : Value} {l : List Int} {w0 : World} (h : Ints w0 v l) (hb : Below w0.heap.size w0 W0) (hg : w0.heap.size ≤ g) (hW : W0.grownBy W (some g)) : Ints W v l :=
  h.keep fun b hlt => (hW.block b (Nat.lt_of_lt_of_le hlt hb.size) (by intro e; cases e; omega)).trans (hb.block b hlt)

/-- Does hold mark all these? (H: who is marked.) -/
def holdB (i : Nat) : (Nat → Bool) → List Int → Bool
  | _, [] => true
  | H, k :: ks => decide (0 ≤ k) && decide (k < i) && !H k.toNat && holdB i (fun j => H j || decide (j = k.toNat)) ks
def marked (H : Nat → Bool) (l : List Int) : Nat → Bool := fun j => H j || decide ((j : Int) ∈ l)

theorem holdB_iff (i : Nat) : ∀ (l : List Int) (H : Nat → Bool), holdB i H l = true ↔ (∀ k ∈ l, 0 ≤ k ∧ k < i ∧ H k.toNat = false) ∧ l.Nodup
  | [], _ => by simp [holdB]
  | k :: ks, H => by
    rw [holdB, Bool.and_eq_true, holdB_iff i ks, List.nodup_cons]
    simp only [Bool.and_eq_true, decide_eq_true_eq, Bool.not_eq_true', Bool.or_eq_false_iff, decide_eq_false_iff_not, List.mem_cons]
    constructor
    · rintro ⟨⟨⟨h1, h2⟩, h3⟩, h4, h5⟩
      refine ⟨?_, fun hk => ?_, h5⟩
      · rintro x (rfl | hx)
        · exact ⟨h1, h2, h3⟩
        · exact ⟨(h4 x hx).1, (h4 x hx).2.1, (h4 x hx).2.2.1⟩
      · exact (h4 k hk).2.2.2 rfl
    · rintro ⟨h1, h2, h3⟩
      refine ⟨⟨⟨(h1 k (.inl rfl)).1, (h1 k (.inl rfl)).2.1⟩, (h1 k (.inl rfl)).2.2⟩, fun x hx => ⟨(h1 x (.inr hx)).1, (h1 x (.inr hx)).2.1, (h1 x (.inr hx)).2.2, fun e => ?_⟩, h3⟩
      have := (h1 x (.inr hx)).1
      have := (h1 k (.inl rfl)).1
      have : x = k := by omega
      exact h2 (this ▸ hx)

theorem Ints.len {w : World} {v : Value} {l : List Int} (h : Ints w v l) : ∃ p c, v = .slice p l.length c := by
  obtain ⟨p, c, e, _⟩ := h
  exact ⟨p, c, e⟩

set_option maxRecDepth 100000 in
set_option maxHeartbeats 2000000 in
theorem hold_any (w0 : World) (kv : Value) (l : List Int) (hl : Ints w0 kv l) (hlen : l.length < 4611686018427387904) (w : World) (hb : Below w0.heap.size w0 w) (g i n c : Nat) (hg : w0.heap.size ≤ g) (hi : i ≤ n) (_hi2 : i < 4611686018427387904) (H : Nat → Bool) (hr : w.rowIs g 4 n (fun j => .bool (H j))) :
    Calls Tryd.prog 73 #[.slice (some ⟨g, 0, none⟩) i c, kv] w fun e w' => e = .returned (.bool (holdB i H l)) ∧ w.grownBy w' (some g) ∧ ∃ H', w'.rowIs g 4 n (fun j => .bool (H' j)) ∧ (holdB i H l = true → H' = marked H l) := by
  obtain ⟨p, cap, rfl⟩ := hl.len
  go_enter Tryd.func73, Tryd.ntmps73
  go_wp2
  go_loopw [9] (fun v W => ∃ (q : Nat) (Hq : Nat → Bool), v = .int .i64 q ∧ q ≤ l.length ∧ w.grownBy W (some g) ∧ W.rowIs g 4 n (fun j => .bool (Hq j)) ∧ holdB i H l = holdB i Hq (l.drop q) ∧ Hq = marked H (l.take q))
    (fun v _ => l.length - (intOf v).toNat)
  case atStart =>
    exact ⟨0, H, rfl, Nat.zero_le _, gb_refl _ _, hr, rfl, by funext j; simp [marked]⟩
  case round =>
    obtain ⟨q, Hq, rfl, hq, hW, hrow, hB, hM⟩ := hrel
    by_cases hlt : q < l.length
    · obtain ⟨p', cap', e, hh⟩ := hl.gb hb hg hW
      obtain ⟨rfl, _, rfl⟩ : p = p' ∧ l.length = l.length ∧ cap = cap' := by simpa using e
      rcases hh with rfl | ⟨b, off, rfl, hcell⟩
      · simp at hlt
      · have hc := hcell q hlt
        obtain ⟨k, hk⟩ : ∃ k, k = l[q] := ⟨_, rfl⟩
        rw [← hk] at hc
        have hd : l.drop q = k :: l.drop (q + 1) := by rw [hk]; exact List.drop_eq_getElem_cons hlt
        rw [hd, holdB] at hB
        have ht : l.take (q + 1) = l.take q ++ [k] := by rw [hk]; exact List.take_succ_eq_append_getElem hlt
        clear hcell e hd hk
        by_cases h0 : k < 0
        · have hB2 : holdB i H l = false := by rw [hB]; rw [show decide (0 ≤ k) = false by simp; omega]; rfl
          have HB := Lib.hid hB2
          clear hB hB2 hM hl
          go_wp2
          go_ret
          exact ⟨congrArg (fun x => Ending.returned (.bool x)) HB.out.symm, hW, Hq, hrow, fun e => by rw [HB.out] at e; cases e⟩
        · obtain ⟨m, rfl⟩ : ∃ m : Nat, k = m := ⟨k.toNat, by omega⟩
          by_cases h1 : i ≤ m
          · have hB2 : holdB i H l = false := by
              have : ¬ m < i := by omega
              rw [hB]
              simp [this]
            have HB := Lib.hid hB2
            clear hB hB2 hM hl
            go_wp2
            go_ret
            exact ⟨congrArg (fun x => Ending.returned (.bool x)) HB.out.symm, hW, Hq, hrow, fun e => by rw [HB.out] at e; cases e⟩
          · have h1' : m < i := by omega
            have hc2 := hrow.cell (i := m) (by omega)
            have hf2 := hrow.frozen m
            have h1i : (m : Int) < i := by omega
            cases hv : Hq m with
            | true =>
              rw [hv] at hc2
              have hB2 : holdB i H l = false := by
                rw [hB]
                simp [hv]
              have HB := Lib.hid hB2
              clear hB hB2 hM hl
              go_wp2
              go_ret
              exact ⟨congrArg (fun x => Ending.returned (.bool x)) HB.out.symm, hW, Hq, hrow, fun e => by rw [HB.out] at e; cases e⟩
            | false =>
              rw [hv] at hc2
              have hB2 : holdB i H l = holdB i (fun j => Hq j || decide (j = m)) (l.drop (q + 1)) := by
                rw [hB]
                simp [hv, h1']
              have HB := Lib.hid hB2
              have HM := Lib.hid hM
              have HT := Lib.hid ht
              clear hB hB2 hM hl ht
              go_wp2
              go_roundw
              case rel =>
                refine ⟨q + 1, fun j => Hq j || decide (j = m), by go_num, by omega, gb_set hW m _, (hrow.set m (.bool true)).congr fun j hj => ?_, HB.out, ?_⟩
                · by_cases e : j = m
                  · simp [e]
                  · simp [e]
                · funext j
                  rw [HM.out, HT.out]
                  unfold marked
                  simp only [List.mem_append, List.mem_singleton, Int.ofNat_inj]
                  by_cases e1 : (j : Int) ∈ l.take q <;> by_cases e2 : j = m <;> simp [e1, e2]
              case measure => simp [intOf]; omega
    · obtain rfl : q = l.length := by omega
      have hd : l.drop l.length = [] := by simp
      have ht : l.take l.length = l := List.take_of_length_le (Nat.le_refl _)
      rw [hd, holdB] at hB
      rw [ht] at hM
      have HB := Lib.hid hB
      clear hB hd ht
      go_wp2
      go_ret
      exact ⟨congrArg (fun x => Ending.returned (.bool x)) HB.out.symm, hW, Hq, hrow, fun _ => hM⟩
end Go.Proofs.YtpkjfdgjmcphmaaDoor

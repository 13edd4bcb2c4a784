/- Package tree: hold; slices.Contains of bools. -/
import Derived.Test.YtpkjfdgjmcphmaaDoorVTg
import Derived.Deep.OwnRows
namespace Go.Proofs.YtpkjfdgjmcphmaaDoor
open Go.RowKit Bset Tm

/-- What is kept while a block is written. -/
theorem gb_set {W0 W : World} {g : Nat} (h : W0.grownBy W (some g)) (i : Nat) (v : Value) : W0.grownBy (W.setCell ⟨g, i, none⟩ v) (some g) :=
  ⟨h.os, h.tape, h.output, by rw [World.size_setCell]; exact h.size, fun j hj hne => (Below.heap_setCell W ⟨g, i, none⟩ v j (fun e => hne (by rw [e]))).trans (h.block j hj hne)⟩
theorem gb_refl (W : World) (r : Option Nat) : W.grownBy W r := ⟨rfl, rfl, rfl, Nat.le_refl _, fun _ _ _ => rfl⟩
theorem Ints.gb {W0 W : World} {g : Nat} {v : Value} {l : List Int} {w0 : World} (h : Ints w0 v l) (hb : Below w0.heap.size w0 W0) (hg : w0.heap.size ≤ g) (hW : W0.grownBy W (some g)) : Ints W v l :=
  h.keep fun b hlt => (hW.block b (Nat.lt_of_lt_of_le hlt hb.size) (by intro e; cases e; omega)).trans (hb.block b hlt)

/-- Does hold mark all these? (H: who is marked.) -/
def holdB (i : Nat) : (Nat → Bool) → List Int → Bool
  | _, [] => true
  | H, k :: ks => decide (0 ≤ k) && decide (k < i) && !H k.toNat && holdB i (fun j => H j || decide (j = k.toNat)) ks
def marked (H : Nat → Bool) (l : List Int) : Nat → Bool := fun j => H j || decide ((j : Int) ∈ l)

theorem holdB_iff (i : Nat) : ∀ (l : List Int) (H : Nat → Bool), holdB i H l = true ↔ (∀ k ∈ l, 0 ≤ k ∧ k < i ∧ H k.toNat = false) ∧ l.Nodup
  | [], _ => by simp [holdB]
  | k :: ks, H => by
    rw [holdB, Bool.and_eq_true, holdB_iff i ks, List.nodup_cons]
    simp only [Bool.and_eq_true, decide_eq_true_eq, Bool.not_eq_true', Bool.or_eq_false_iff, decide_eq_false_iff_not, List.mem_cons]
    constructor
    · rintro ⟨⟨⟨h1, h2⟩, h3⟩, h4, h5⟩
      refine ⟨?_, fun hk => ?_, h5⟩
      · rintro x (rfl | hx)
        · exact ⟨h1, h2, h3⟩
        · exact ⟨(h4 x hx).1, (h4 x hx).2.1, (h4 x hx).2.2.1⟩
      · exact (h4 k hk).2.2.2 rfl
    · rintro ⟨h1, h2, h3⟩
      refine ⟨⟨⟨(h1 k (.inl rfl)).1, (h1 k (.inl rfl)).2.1⟩, (h1 k (.inl rfl)).2.2⟩, fun x hx => ⟨(h1 x (.inr hx)).1, (h1 x (.inr hx)).2.1, (h1 x (.inr hx)).2.2, fun e => ?_⟩, h3⟩
      have := (h1 x (.inr hx)).1
      have := (h1 k (.inl rfl)).1
      have : x = k := by omega
      exact h2 (this ▸ hx)

theorem Ints.len {w : World} {v : Value} {l : List Int} (h : Ints w v l) : ∃ p c, v = .slice p l.length c := by
  obtain ⟨p, c, e, _⟩ := h
  exact ⟨p, c, e⟩

set_option maxRecDepth 100000 in
set_option maxHeartbeats 2000000 in
theorem hold_any (w0 : World) (kv : Value) (l : List Int) (hl : Ints w0 kv l) (hlen : l.length < 4611686018427387904) (w : World) (hb : Below w0.heap.size w0 w) (g i n c : Nat) (hg : w0.heap.size ≤ g) (hi : i ≤ n) (_hi2 : i < 4611686018427387904) (H : Nat → Bool) (hr : w.rowIs g 4 n (fun j => .bool (H j))) :
    Calls Tryd.prog 73 #[.slice (some ⟨g, 0, none⟩) i c, kv] w fun e w' => e = .returned (.bool (holdB i H l)) ∧ w.grownBy w' (some g) ∧ ∃ H', w'.rowIs g 4 n (fun j => .bool (H' j)) ∧ (holdB i H l = true → H' = marked H l) := by
  obtain ⟨p, cap, rfl⟩ := hl.len
  go_enter Tryd.func73, Tryd.ntmps73
  go_wp2
  go_loopw [9] (fun v W => ∃ (q : Nat) (Hq : Nat → Bool), v = .int .i64 q ∧ q ≤ l.length ∧ w.grownBy W (some g) ∧ W.rowIs g 4 n (fun j => .bool (Hq j)) ∧ holdB i H l = holdB i Hq (l.drop q) ∧ Hq = marked H (l.take q))
    (fun v _ => l.length - (intOf v).toNat)
  case atStart =>
    exact ⟨0, H, rfl, Nat.zero_le _, gb_refl _ _, hr, rfl, by funext j; simp [marked]⟩
  case round =>
    obtain ⟨q, Hq, rfl, hq, hW, hrow, hB, hM⟩ := hrel
    by_cases hlt : q < l.length
    · obtain ⟨p', cap', e, hh⟩ := hl.gb hb hg hW
      obtain ⟨rfl, _, rfl⟩ : p = p' ∧ l.length = l.length ∧ cap = cap' := by simpa using e
      rcases hh with rfl | ⟨b, off, rfl, hcell⟩
      · simp at hlt
      · have hc := hcell q hlt
        obtain ⟨k, hk⟩ : ∃ k, k = l[q] := ⟨_, rfl⟩
        rw [← hk] at hc
        have hd : l.drop q = k :: l.drop (q + 1) := by rw [hk]; exact List.drop_eq_getElem_cons hlt
        rw [hd, holdB] at hB
        have ht : l.take (q + 1) = l.take q ++ [k] := by rw [hk]; exact List.take_succ_eq_append_getElem hlt
        clear hcell e hd hk
        by_cases h0 : k < 0
        · have hB2 : holdB i H l = false := by rw [hB]; rw [show decide (0 ≤ k) = false by simp; omega]; rfl
          have HB := Lib.hid hB2
          clear hB hB2 hM hl
          go_wp2
          go_ret
          exact ⟨congrArg (fun x => Ending.returned (.bool x)) HB.out.symm, hW, Hq, hrow, fun e => by rw [HB.out] at e; cases e⟩
        · obtain ⟨m, rfl⟩ : ∃ m : Nat, k = m := ⟨k.toNat, by omega⟩
          by_cases h1 : i ≤ m
          · have hB2 : holdB i H l = false := by
              have : ¬ m < i := by omega
              rw [hB]
              simp [this]
            have HB := Lib.hid hB2
            clear hB hB2 hM hl
            go_wp2
            go_ret
            exact ⟨congrArg (fun x => Ending.returned (.bool x)) HB.out.symm, hW, Hq, hrow, fun e => by rw [HB.out] at e; cases e⟩
          · have h1' : m < i := by omega
            have hc2 := hrow.cell (i := m) (by omega)
            have hf2 := hrow.frozen m
            have h1i : (m : Int) < i := by omega
            cases hv : Hq m with
            | true =>
              rw [hv] at hc2
              have hB2 : holdB i H l = false := by
                rw [hB]
                simp [hv]
              have HB := Lib.hid hB2
              clear hB hB2 hM hl
              go_wp2
              go_ret
              exact ⟨congrArg (fun x => Ending.returned (.bool x)) HB.out.symm, hW, Hq, hrow, fun e => by rw [HB.out] at e; cases e⟩
            | false =>
              rw [hv] at hc2
              have hB2 : holdB i H l = holdB i (fun j => Hq j || decide (j = m)) (l.drop (q + 1)) := by
                rw [hB]
                simp [hv, h1']
              have HB := Lib.hid hB2
              have HM := Lib.hid hM
              have HT := Lib.hid ht
              clear hB hB2 hM hl ht
              go_wp2
              go_roundw
              case rel =>
                refine ⟨q + 1, fun j => Hq j || decide (j = m), by go_num, by omega, gb_set hW m _, (hrow.set m (.bool true)).congr fun j hj => ?_, HB.out, ?_⟩
                · by_cases e : j = m
                  · simp [e]
                  · simp [e]
                · funext j
                  rw [HM.out, HT.out]
                  unfold marked
                  simp only [List.mem_append, List.mem_singleton, Int.ofNat_inj]
                  by_cases e1 : (j : Int) ∈ l.take q <;> by_cases e2 : j = m <;> simp [e1, e2]
              case measure => simp [intOf]; omega
    · obtain rfl : q = l.length := by omega
      have hd : l.drop l.length = [] := by simp
      have ht : l.take l.length = l := List.take_of_length_le (Nat.le_refl _)
      rw [hd, holdB] at hB
      rw [ht] at hM
      have HB := Lib.hid hB
      clear hB hd ht
      go_wp2
      go_ret
      exact ⟨congrArg (fun x => Ending.returned (.bool x)) HB.out.symm, hW, Hq, hrow, fun _ => hM⟩
end Go.Proofs.YtpkjfdgjmcphmaaDoor

/- Package tree: slices.Contains; what Right reckons. -/
namespace Go.Proofs.YtpkjfdgjmcphmaaDoor
open Go.RowKit Bset Tm

set_option maxRecDepth 100000 in
set_option maxHeartbeats 2000000 in
theorem index_any (w : World) (g m n c : Nat) (hm : m ≤ n) (hm2 : m < 4611686018427387904) (H : Nat → Bool) (hr : w.rowIs g 4 n (fun j => .bool (H j))) :
    Calls Tryd.prog 99 #[.slice (some ⟨g, 0, none⟩) m c, .bool false] w fun e w' => (∃ r : Int, e = .returned (.int .i64 r) ∧ decide (0 ≤ r) = (List.range m).any (fun j => !H j)) ∧ w' = w := by
  go_enter Tryd.func99, Tryd.ntmps99
  go_wp2
  go_loopw [8] (fun v W => ∃ q : Nat, v = .int .i64 q ∧ q ≤ m ∧ W = w ∧ ∀ j, j < q → H j = true) (fun v _ => m - (intOf v).toNat)
  case atStart => exact ⟨0, rfl, Nat.zero_le _, rfl, fun j hj => by omega⟩
  case round =>
    obtain ⟨q, rfl, hq, rfl, hH⟩ := hrel
    by_cases hlt : q < m
    · have hc := hr.cell (i := q) (by omega)
      cases hv : H q with
      | true =>
        rw [hv] at hc
        go_wp2
        go_roundw
        case rel => exact ⟨q + 1, by go_num, by omega, trivial, fun j hj => by
          by_cases e : j = q
          · rw [e, hv]
          · exact hH j (by omega)⟩
        case measure => simp [intOf]; omega
      | false =>
        rw [hv] at hc
        go_wp2
        go_ret
        refine ⟨⟨q, rfl, ?_⟩, rfl⟩
        have : (List.range m).any (fun j => !H j) = true := List.any_eq_true.2 ⟨q, List.mem_range.2 hlt, by simp [hv]⟩
        rw [this]
        simp
    · obtain rfl : q = m := by omega
      go_wp2
      go_ret
      refine ⟨⟨-1, rfl, ?_⟩, rfl⟩
      have : (List.range q).any (fun j => !H j) = false := List.any_eq_false.2 fun j hj => by simp [hH j (List.mem_range.1 hj)]
      rw [this]
      rfl

set_option maxRecDepth 100000 in
set_option maxHeartbeats 2000000 in
theorem contains_any (w : World) (g m n c : Nat) (hm : m ≤ n) (hm2 : m < 4611686018427387904) (H : Nat → Bool) (hr : w.rowIs g 4 n (fun j => .bool (H j))) :
    Calls Tryd.prog 74 #[.slice (some ⟨g, 0, none⟩) m c, .bool false] w fun e w' => e = .returned (.bool ((List.range m).any (fun j => !H j))) ∧ w' = w := by
  go_enter Tryd.func74, Tryd.ntmps74
  go_wp2_with (go_at_call 99; refine (index_any _ g m n c hm hm2 H hr).mono ?_; rintro e w' ⟨⟨r, rfl, he⟩, rfl⟩)
  go_ret
  exact ⟨rfl, rfl⟩

/-- What Right reckons, node by node. -/
def rgo : Nat → (Nat → Bool) → List Nd → Bool
  | _, _, [] => true
  | i, H, n :: ns => fits n.hd n.kids.length && (holdB i H n.kids && rgo (i + 1) (marked H n.kids) ns)

theorem rgo_iff : ∀ (ns : List Nd) (i : Nat) (H : Nat → Bool), rgo i H ns = true ↔ (∀ (x : Nat) n, ns[x]? = some n → fits n.hd n.kids.length = true ∧ ∀ k ∈ n.kids, 0 ≤ k ∧ k < (i : Int) + x) ∧ (ns.flatMap Nd.kids).Nodup ∧ ∀ k ∈ ns.flatMap Nd.kids, H k.toNat = false
  | [], _, _ => by simp [rgo]
  | n :: ns, i, H => by
    rw [rgo, Bool.and_eq_true, Bool.and_eq_true, holdB_iff, rgo_iff ns]
    simp only [List.flatMap_cons, List.nodup_append, List.mem_append]
    constructor
    · rintro ⟨h1, ⟨h2, h3⟩, h4, h5, h6⟩
      have h7 : ∀ k ∈ ns.flatMap Nd.kids, 0 ≤ k := by
        intro k hk
        obtain ⟨a, ha, hk⟩ := List.mem_flatMap.1 hk
        obtain ⟨x, hx, rfl⟩ := List.mem_iff_getElem.1 ha
        exact ((h4 x _ (by simp [hx])).2 k hk).1
      refine ⟨fun x a hx => ?_, ⟨h3, h5, fun a ha b hb e => ?_⟩, fun k hk => ?_⟩
      · cases x with
        | zero =>
          have e : n = a := by simpa using hx
          subst e
          exact ⟨h1, fun k hk => ⟨(h2 k hk).1, by have := (h2 k hk).2.1; omega⟩⟩
        | succ x =>
          have := h4 x a (by simpa using hx)
          exact ⟨this.1, fun k hk => ⟨(this.2 k hk).1, by have := (this.2 k hk).2; omega⟩⟩
      · subst e
        have := h6 a hb
        have h8 := h7 a hb
        unfold marked at this
        rw [show ((a.toNat : Nat) : Int) = a by omega] at this
        simp [ha] at this
      · rcases hk with hk | hk
        · exact (h2 k hk).2.2
        · have := h6 k hk
          unfold marked at this
          simp only [Bool.or_eq_false_iff] at this
          exact this.1
    · rintro ⟨h1, ⟨h3, h5, h6⟩, h7⟩
      have h0 := h1 0 n rfl
      refine ⟨h0.1, ⟨fun k hk => ⟨(h0.2 k hk).1, by have := (h0.2 k hk).2; omega, h7 k (.inl hk)⟩, h3⟩, fun x a hx => ?_, h5, fun k hk => ?_⟩
      · have := h1 (x + 1) a (by simpa using hx)
        exact ⟨this.1, fun k hk => ⟨(this.2 k hk).1, by have := (this.2 k hk).2; omega⟩⟩
      · have h8 : 0 ≤ k := by
          obtain ⟨a, ha, hk⟩ := List.mem_flatMap.1 hk
          obtain ⟨x, hx, rfl⟩ := List.mem_iff_getElem.1 ha
          exact ((h1 (x + 1) _ (by simp [hx])).2 k hk).1
        unfold marked
        rw [show ((k.toNat : Nat) : Int) = k by omega, h7 k (.inr hk)]
        simp
        exact fun h => h6 k h k hk rfl

def heldBy (A : List Nd) (i : Nat) : Nat → Bool := fun j => decide ((j : Int) ∈ (A.take i).flatMap Nd.kids)
theorem heldBy_zero (A : List Nd) : heldBy A 0 = fun _ => false := by
  funext j
  simp [heldBy]
theorem heldBy_step (A : List Nd) (i : Nat) (h : i < A.length) : marked (heldBy A i) A[i].kids = heldBy A (i + 1) := by
  funext j
  unfold marked heldBy
  rw [List.take_succ_eq_append_getElem h, List.flatMap_append]
  simp only [List.flatMap_cons, List.flatMap_nil, List.append_nil, List.mem_append]
  by_cases e1 : (j : Int) ∈ (A.take i).flatMap Nd.kids <;> by_cases e2 : (j : Int) ∈ A[i].kids <;> simp [e1, e2]
theorem rgo_step (A : List Nd) (i : Nat) (h : i < A.length) : rgo i (heldBy A i) (A.drop i) = (fits A[i].hd A[i].kids.length && (holdB i (heldBy A i) A[i].kids && rgo (i + 1) (heldBy A (i + 1)) (A.drop (i + 1)))) := by
  rw [List.drop_eq_getElem_cons h, rgo, heldBy_step A i h]

theorem rightA_iff (A : List Nd) (hp : A ≠ []) : RightA A ↔ rgo 0 (heldBy A 0) A = true ∧ (List.range (A.length - 1)).any (fun j => !heldBy A A.length j) = false := by
  rw [rgo_iff, heldBy_zero, List.any_eq_false]
  constructor
  · intro h
    refine ⟨⟨fun x n hx => ⟨h.fit x n hx, fun k hk => by have := h.low x n hx k hk; omega⟩, h.once, fun _ _ => rfl⟩, fun j hj => ?_⟩
    have hj := List.mem_range.1 hj
    have := h.each j (by omega)
    simp [heldBy]
    simpa using this
  · rintro ⟨⟨h1, h2, _⟩, h3⟩
    refine ⟨hp, fun i n hn => (h1 i n hn).1, fun i n hn k hk => by have := (h1 i n hn).2 k hk; omega, h2, fun j hj => ?_⟩
    have := h3 j (List.mem_range.2 (by omega))
    simp [heldBy] at this
    simpa using this

/-- How large arenas are that are worked on. -/
structure OkA (A : List Nd) : Prop where
  len : A.length ≤ 4294967296
  kind : ∀ n ∈ A, n.hd.kind < 256
  text : ∀ n ∈ A, n.hd.text.size ≤ 140737488355328
  kids : ∀ n ∈ A, n.kids.length ≤ 4294967296
end Go.Proofs.YtpkjfdgjmcphmaaDoor

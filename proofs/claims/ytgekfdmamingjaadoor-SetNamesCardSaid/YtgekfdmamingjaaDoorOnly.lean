/- Package set's Only: the byte of a set of one. -/
import Derived.RangeFuncBox
import Derived.Test.YtgekfdmamingjaaDoorList
import Derived.Test.YtgekfdmamingjaaDoorEq
import Derived.Test.YtgekfdmamingjaaDoorSw3
namespace Go.Proofs.YtgekfdmamingjaaDoor
open Go.RowKit Go.Shelf Bset

attribute [local go_sem] Oper.semAt_some

/-- The byte of a set of one; of another 0, and no. -/
def onlyOf (S : Nat → Bool) : Nat × Bool :=
  match mem S with
  | [b] => (b, true)
  | _ => (0, false)

/-- The bytes from b to b. -/
abbrev one (b : Nat) : Nat → Bool := fun m => decide (b ≤ m) && decide (m ≤ b)

theorem one_eq (b n : Nat) : one b n = (n == b) := by
  unfold one
  rw [Bool.eq_iff_iff]
  simp
  omega

/-- A set whose first byte is b is the set of that just if it has no other. -/
theorem onlyOf_yes {S : Nat → Bool} {b : Nat} (hb : b < 256) (h : sameS (one b) S = true) : onlyOf S = (b, true) := by
  have hS := sameS_iff.1 h
  have hm : mem S = [b] := by
    have h2 : mem S = mem (one b) := upTo_congr (fun n hn => (hS n hn).symm)
    rw [h2]
    unfold mem
    obtain ⟨d, hd⟩ : ∃ d, 256 = (b + 1) + d := ⟨256 - (b + 1), by omega⟩
    have h0 : upTo (one b) b = upTo (one b) 0 := by
      have := upTo_skip (S := one b) (q := 0) b (fun n _ hn => by rw [one_eq]; simp; omega)
      simpa using this
    rw [hd, upTo_skip d (fun n h1 _ => by rw [one_eq]; simp; omega), upTo_succ, h0, one_eq]
    simp [upTo]
  unfold onlyOf
  rw [hm]

theorem onlyOf_no {S : Nat → Bool} {b : Nat} (hp : [b] <+: mem S) (h : sameS (one b) S = false) : onlyOf S = (0, false) := by
  unfold onlyOf
  obtain ⟨t, ht⟩ := hp
  cases t with
  | nil =>
    exfalso
    have hall : ∀ n, n < 256 → one b n = S n := by
      intro n hn
      have hm : n ∈ mem S ↔ S n = true := by
        unfold mem
        rw [mem_upTo]
        simp [hn]
      rw [← ht] at hm
      rw [one_eq]
      cases hs : S n with
      | true => simpa using hm.2 hs
      | false =>
        rw [hs] at hm
        simpa using hm
    rw [sameS_iff.2 hall] at h
    cases h
  | cons c t =>
    rw [← ht]
    rfl

theorem onlyOf_none {S : Nat → Bool} (h : mem S = []) : onlyOf S = (0, false) := by
  unfold onlyOf
  rw [h]

theorem cl_own {β : Type} (g : Nat) (t : TypeId) (cs : Array Value) : Own (fun (_ : β) W => Cl W g t cs) := fun _ A _ row hs hg hr =>
  (hg.block g (Cl.lt hs) (fun e1 => by
    obtain ⟨o, ho, hc⟩ := hr g e1.symm
    rw [show A.heap[g]? = _ from hs] at ho
    cases ho
    cases hc)).trans hs

theorem keepsO_below {W W' : World} (hb : Below W.heap.size W W') : KeepsOthers W W' :=
  ⟨hb.size, fun k _ hk _ => (hb.block k (Array.getElem?_eq_some_iff.1 hk).1).trans hk⟩

theorem only_step {w W w' : World} {S : Nat → Bool} (hb : Below W.drew.heap.size W.drew w') (k0 : Cl W w.heap.size 26 (setC S)) (k1 : Cl W (w.heap.size + 1) 5 #[.int .u8 0])
    (k2 : Cl W (w.heap.size + 1 + 1) 4 #[.bool false]) (hB : Below w.heap.size w W) :
    Cl w' w.heap.size 26 (setC S) ∧ Cl w' (w.heap.size + 1) 5 #[.int .u8 0] ∧ Cl w' (w.heap.size + 1 + 1) 4 #[.bool false] ∧ KeepsOthers W w' ∧ Below w.heap.size w w' ∧ Below w.heap.size W w' :=
  ⟨Cl.below k0.drew hb k0.lt, Cl.below k1.drew hb k1.lt, Cl.below k2.drew hb k2.lt, (KeepsOthers.drew W).trans (keepsO_below hb), (Below.drew hB).trans (hb.mono hB.size), (Below.drew (Below.refl _ W)).trans (hb.mono hB.size)⟩

theorem cl_putObj {W : World} {g D : Nat} {t : TypeId} {cs : Array Value} (h : Cl W g t cs) (hD : g ≠ D) (o : Obj) : Cl (W.putObj D o) g t cs :=
  (World.putObj_heap_other hD).trans h

set_option maxRecDepth 100000 in
set_option maxHeartbeats 400000 in
theorem only_end {w W : World} {D : Nat} {v : Int} {c : Bool} {x0 x4 x5 x6 x7 x8 x9 x10 x11 x12 x13 : Value} {R : Ending → World → Prop} (hD : w.heap.size + 4 ≤ D) (hK : W.heap[D]? = some (.deferred (some [])))
    (k1 : Cl W (w.heap.size + 1) 5 #[.int .u8 v]) (k2 : Cl W (w.heap.size + 1 + 1) 4 #[.bool c]) (hB : Below w.heap.size w W)
    (hR : ∀ W', Below w.heap.size w W' → R (.returned (.tuple #[.int .u8 v, .bool c])) W') :
    bodyPostM Fence.wide 4 Tryd.prog Tryd.f11 R Exit.ret
      { tmps := #[x0, .pointer (some ⟨w.heap.size, 0, none⟩), .pointer (some ⟨w.heap.size + 1, 0, none⟩), .pointer (some ⟨w.heap.size + 1 + 1, 0, none⟩), x4, x5, x6, x7, x8, x9, x10, x11, x12, x13], defers := [{ target := Target.collected D, args := #[] }] } W := by
  refine ⟨by simp, .inl ⟨_, _, rfl, run_takeDeferred hK, ?_⟩⟩
  have j1 : (W.putObj D (.deferred none)).cell? ⟨w.heap.size + 1, 0, none⟩ = some (.int .u8 v) := (cl_putObj k1 (by omega) _).cell 0
  have j2 : (W.putObj D (.deferred none)).cell? ⟨w.heap.size + 1 + 1, 0, none⟩ = some (.bool c) := (cl_putObj k2 (by omega) _).cell 0
  refine ⟨.tuple #[.int .u8 v, .bool c], ?_, hR _ (hB.trans (belowK_b (w := w) (Nat.le_refl _) W D _ _ (by omega) hK rfl rfl))⟩
  simp [results, Tryd.results11, go_sem, j1, j2]

set_option maxRecDepth 100000 in
set_option maxHeartbeats 2000000 in
theorem only_in (S : Nat → Bool) (w : World) (hT : TabIn w) (hg0 : 0 < w.heap.size) :
    CallsIn Fence.wide 4 Tryd.prog 11 #[setV S] w fun e w' => e = .returned (.tuple #[.int .u8 (onlyOf S).1, .bool (onlyOf S).2]) ∧ Below w.heap.size w w' := by
  have h1 : 1 ≤ 4 := by omega
  refine callsIn_of_wp_marks Tryd.func11 rfl trivial ?_ rfl
  simp only [Tryd.ntmps11, List.size_toArray, List.length_cons, List.length_nil, Nat.reduceAdd, Nat.reduceSub, Array.replicate_succ, Array.replicate_zero, List.push_toArray, List.append_toArray, List.nil_append, List.cons_append]
  gi_wp2_with (refine ⟨trivial, ?_⟩; gi_at_call 41; refine (callsIn_wide.2 (each_any S _)).mono ?_; rintro e w' ⟨rfl, rfl⟩)
  obtain ⟨W0, hW0⟩ : ∃ W0, ((((w.alloc (.cells (setC S) 26)).alloc (.cells #[.int .u8 0] 5)).alloc (.cells #[.bool false] 4)).alloc (.cells (setC S) 26)) = W0 := ⟨_, rfl⟩
  have c0 : Cl W0 w.heap.size 26 (setC S) := by rw [← hW0]; exact (((Cl.new' (by simp) _ _).alloc _).alloc _).alloc _
  have c1 : Cl W0 (w.heap.size + 1) 5 #[.int .u8 0] := by rw [← hW0]; exact ((Cl.new' (by simp) _ _).alloc _).alloc _
  have c2 : Cl W0 (w.heap.size + 1 + 1) 4 #[.bool false] := by rw [← hW0]; exact (Cl.new' (by simp) _ _).alloc _
  have c3 : Cl W0 (w.heap.size + 1 + 1 + 1) 26 (setC S) := by rw [← hW0]; exact Cl.new' (by simp) _ _
  have hB0 : Below w.heap.size w W0 := by rw [← hW0]; exact ((((Below.refl _ w).alloc (Nat.le_refl _) _).alloc (by simp) _).alloc (by simp; omega) _).alloc (by simp; omega) _
  have hz0 : W0.heap.size = w.heap.size + 4 := by rw [← hW0]; simp
  rw [hW0]
  clear hW0
  refine wpIn_rangeFunc_ownG rfl h1 (gf := 49) (lb := #[.pointer (some ⟨w.heap.size + 1 + 1 + 1, 0, none⟩)]) rfl trivial (enters_of Tryd.func49 (by kernel_rfl) rfl)
    (each_stops (w.heap.size + 1 + 1 + 1) w.heap.size S _ hg0 (by omega) c3 (hT.below hB0 hg0)) belowK_t (belowK_b (by omega)) (Below.refl _ _) (fun _ => rfl)
    (fun pre W => pre = [] ∧ (Cl W w.heap.size 26 (setC S) ∧ (Cl W (w.heap.size + 1) 5 #[.int .u8 0] ∧ (Cl W (w.heap.size + 1 + 1) 4 #[.bool false] ∧ Below w.heap.size w W))))
    (fun c pre W => ∃ x : By, pre = [x] ∧ Below w.heap.size w W ∧ ((c = .ret ∧ sameS (one x.1) S = true ∧ Cl W (w.heap.size + 1) 5 #[.int .u8 x.1] ∧ Cl W (w.heap.size + 1 + 1) 4 #[.bool true]) ∨ (c = .exit 0 ∧ sameS (one x.1) S = false ∧ Cl W (w.heap.size + 1) 5 #[.int .u8 0] ∧ Cl W (w.heap.size + 1 + 1) 4 #[.bool false])))
    (OwnFrom.and (ownFrom_pure _ _) (OwnFrom.and (Own.from (cl_own _ _ _) _) (OwnFrom.and (Own.from (cl_own _ _ _) _) (OwnFrom.and (Own.from (cl_own _ _ _) _) (ownFrom_below (Nat.le_refl _) (by omega))))))
    ?ix
    ⟨rfl, c0, c1, c2, hB0⟩
    (fun x => { tmps := #[setV S, .pointer (some ⟨w.heap.size, 0, none⟩), .pointer (some ⟨w.heap.size + 1, 0, none⟩), .pointer (some ⟨w.heap.size + 1 + 1, 0, none⟩), .int .u8 x.1, setV S, .func (.func 49) #[] #[.pointer (some ⟨w.heap.size + 1 + 1 + 1, 0, none⟩)], .int .u8 x.1, undef, undef, undef, undef, undef, undef], defers := [] }) ?assign ?body ?done ?stop
  case ix =>
    rintro c pre A B row ⟨x, hx, hB, h⟩ hg hr
    refine ⟨x, hx, ownFrom_below (β := Unit) (Nat.le_refl _) (by omega) () A B row hB hg hr, ?_⟩
    rcases h with ⟨e, hs, k1, k2⟩ | ⟨e, hs, k1, k2⟩
    · exact .inl ⟨e, hs, cl_own (β := Unit) _ _ _ () A B row k1 hg (fun r e => (hr r e).2), cl_own (β := Unit) _ _ _ () A B row k2 hg (fun r e => (hr r e).2)⟩
    · exact .inr ⟨e, hs, cl_own (β := Unit) _ _ _ () A B row k1 hg (fun r e => (hr r e).2), cl_own (β := Unit) _ _ _ () A B row k2 hg (fun r e => (hr r e).2)⟩
  case assign =>
    intro l x W K hK
    gi_wp2
    exact hK
  case body =>
    rintro l pre x W ⟨rfl, k0, k1, k2, hB⟩ hlt
    have w0 := k0.word 0 (by omega)
    have w1 := k0.word 1 (by omega)
    have w2 := k0.word 2 (by omega)
    have w3 := k0.word 3 (by omega)
    have lt0 := k0.lt
    have lt1 := k1.lt
    have lt2 := k2.lt
    have he := fun w => run_eql_set w (one x.1) S
    cases hs : sameS (one x.1) S with
    | true =>
      rw [hs] at he
      have HS := Lib.hid hs
      clear hs
      gi_wp2
      gi_region_with (refine ⟨trivial, ?_⟩; gi_at_call 10; refine (CallsIn.inRound l (callsIn_wide.2 (range_any x.1 x.1 x.2 x.2 _))).mono ?_; rintro e w' ⟨rfl, hb⟩; obtain ⟨q0, q1, q2, hk, hB1, hB2⟩ := only_step hb k0 k1 k2 hB; have v0 := q0.word 0 (by decide); have v1 := q0.word 1 (by decide); have v2 := q0.word 2 (by decide); have v3 := q0.word 3 (by decide))
      all_goals
        have r1 := q1.cell 0
        have r2 := q2.cell 0
        have g1 := q1.free 0
        have g2 := q2.free 0
        gi_wp2
        refine ⟨((hk.trans (KeepsOthers.setCell _ _ _)).trans (KeepsOthers.setCell _ _ _)).from _, x, rfl, (hB1.setCell (p := ⟨w.heap.size + 1, 0, none⟩) (by simp) _).setCell (p := ⟨w.heap.size + 1 + 1, 0, none⟩) (by simp; omega) _, .inl ⟨rfl, HS.out, ?_, ?_⟩⟩
        · exact (q1.put 0 _).other (p := ⟨w.heap.size + 1 + 1, 0, none⟩) (by simp) _
        · exact (q2.other (p := ⟨w.heap.size + 1, 0, none⟩) (by simp) _).put 0 _
    | false =>
      rw [hs] at he
      have HS := Lib.hid hs
      clear hs
      gi_wp2
      gi_region_with (refine ⟨trivial, ?_⟩; gi_at_call 10; refine (CallsIn.inRound l (callsIn_wide.2 (range_any x.1 x.1 x.2 x.2 _))).mono ?_; rintro e w' ⟨rfl, hb⟩; obtain ⟨q0, q1, q2, hk, hB1, hB2⟩ := only_step hb k0 k1 k2 hB; have v0 := q0.word 0 (by decide); have v1 := q0.word 1 (by decide); have v2 := q0.word 2 (by decide); have v3 := q0.word 3 (by decide))
      all_goals
        gi_wp2
        exact ⟨hk.from _, x, rfl, hB1, .inr ⟨rfl, HS.out, q1, q2⟩⟩
  case done =>
    rintro D ys W hD hys ⟨rfl, k0, k1, k2, hB⟩ hK
    have hno : onlyOf S = (0, false) := onlyOf_none (by simpa using hys.symm)
    have r1 : W.cell? ⟨w.heap.size + 1, 0, none⟩ = some (.int .u8 0) := k1.cell 0
    have r2 : W.cell? ⟨w.heap.size + 1 + 1, 0, none⟩ = some (.bool false) := k2.cell 0
    have g1 := k1.free 0
    have g2 := k2.free 0
    have HN := Lib.hid hno
    clear hno
    gi_wp2
    refine only_end (D := D) (by omega) ((KeepsOthers.setCell _ _ _).same D _ ((KeepsOthers.setCell _ _ _).same D _ hK rfl) rfl) ((k1.put 0 _).other (p := ⟨w.heap.size + 1 + 1, 0, none⟩) (by simp) _) ((k2.other (p := ⟨w.heap.size + 1, 0, none⟩) (by simp) _).put 0 _)
      ((hB.setCell (p := ⟨w.heap.size + 1, 0, none⟩) (by simp) _).setCell (p := ⟨w.heap.size + 1 + 1, 0, none⟩) (by simp; omega) _) ?_
    rw [HN.out]
    exact fun _ h => ⟨rfl, h⟩
  case stop =>
    rintro D c pre W hD hpre ⟨x, rfl, hB, ⟨rfl, hs, k1, k2⟩ | ⟨rfl, hs, k1, k2⟩⟩ hK
    · have HN := Lib.hid (onlyOf_yes x.2 hs)
      have r1 : W.cell? ⟨w.heap.size + 1, 0, none⟩ = some (.int .u8 x.1) := k1.cell 0
      have r2 : W.cell? ⟨w.heap.size + 1 + 1, 0, none⟩ = some (.bool true) := k2.cell 0
      clear hs
      gi_wp2
      refine only_end (D := D) (by omega) hK k1 k2 hB ?_
      rw [HN.out]
      exact fun _ h => ⟨rfl, h⟩
    · have HN := Lib.hid (onlyOf_no (by simpa using hpre) hs)
      have r1 : W.cell? ⟨w.heap.size + 1, 0, none⟩ = some (.int .u8 0) := k1.cell 0
      have r2 : W.cell? ⟨w.heap.size + 1 + 1, 0, none⟩ = some (.bool false) := k2.cell 0
      clear hs
      have g1 := k1.free 0
      have g2 := k2.free 0
      gi_wp2
      refine only_end (D := D) (by omega) ((KeepsOthers.setCell _ _ _).same D _ ((KeepsOthers.setCell _ _ _).same D _ hK rfl) rfl) ((k1.put 0 _).other (p := ⟨w.heap.size + 1 + 1, 0, none⟩) (by simp) _) ((k2.other (p := ⟨w.heap.size + 1, 0, none⟩) (by simp) _).put 0 _)
        ((hB.setCell (p := ⟨w.heap.size + 1, 0, none⟩) (by simp) _).setCell (p := ⟨w.heap.size + 1 + 1, 0, none⟩) (by simp; omega) _) ?_
      rw [HN.out]
      exact fun _ h => ⟨rfl, h⟩

/-- **Only(s): the byte of a set of one.** -/
theorem only_any (S : Nat → Bool) (w : World) (hT : TabIn w) (hg0 : 0 < w.heap.size) :
    Calls Tryd.prog 11 #[setV S] w fun e w' => e = .returned (.tuple #[.int .u8 (onlyOf S).1, .bool (onlyOf S).2]) ∧ Below w.heap.size w w' :=
  callsIn_wide.1 (only_in S w hT hg0)
end Go.Proofs.YtgekfdmamingjaaDoor

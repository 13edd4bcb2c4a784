/- Package quote: Unclass. -/
import Derived.Test.YtjeogbdeagkomaaDoorVQ10
namespace Go.Proofs.YtjeogbdeagkomaaDoor
open Go.RowKit Go.Maps Go.Shelf Bset Qm

attribute [local go_sem] Oper.semAt_some

theorem uncls_of {t : List UInt8} (h : t.head? = some 91) (a : Nat) (ha : from_ t = a) :
    ((ended cls t (a + (all cls (t.drop a)).2)).2 ≠ 0 → uncls t = (fun _ => false, ended cls t (a + (all cls (t.drop a)).2))) ∧
    ((ended cls t (a + (all cls (t.drop a)).2)).2 = 0 → uncls t = (fun n => if a = 2 then !covers (all cls (t.drop a)).1 n else covers (all cls (t.drop a)).1 n, (ended cls t (a + (all cls (t.drop a)).2)).1, 0)) := by
  subst ha
  unfold uncls
  rw [if_pos h]
  exact ⟨fun h1 => if_pos h1, fun h1 => if_neg (fun h => h h1)⟩

theorem prefix_hat (s : List UInt8) (h : s.head? = some 91) : Lib.hasPrefix s (⟨#[91, 94]⟩ : ByteArray).data.toList = decide (from_ s = 2) := by
  show [91, 94].isPrefixOf s = _
  unfold from_
  cases s with
  | nil => cases h
  | cons x s =>
    have hx : x = 91 := Option.some.inj h
    subst hx
    cases s with
    | nil => rfl
    | cons y s =>
      by_cases hy : y = 94
      · subst hy
        simp [List.isPrefixOf]
      · have : (94 == y) = false := by simp; exact fun e => hy e.symm
        simp [List.isPrefixOf, this, hy]

abbrev clsV (r : (Nat → Bool) × Nat × Nat) : Value := .tuple #[setV r.1, .int .i64 (r.2.1 : Nat), .int .i64 (r.2.2 : Nat)]

set_option maxRecDepth 100000 in
set_option maxHeartbeats 400000 in
theorem cls_end {w W : World} {D : Nat} {T : Array Value} {S : Nat → Bool} {b c : Value} {R : Ending → World → Prop} (h2 : T[2]? = some (.pointer (some ⟨w.heap.size, 0, none⟩))) (h3 : T[3]? = some b) (h4 : T[4]? = some c) (hD : w.heap.size < D) (hK : W.heap[D]? = some (.deferred (some []))) (hB : Below w.heap.size w W)
    (hq : Cl W w.heap.size 35 (setC S)) (hR : ∀ W', Below w.heap.size w W' → R (.returned (.tuple #[setV S, b, c])) W') :
    bodyPostM Fence.wide 4 Tryd.prog Tryd.f169 R Exit.ret { tmps := T, defers := [{ target := Target.collected D, args := #[] }] } W := by
  refine ⟨by simp, .inl ⟨_, _, rfl, run_takeDeferred hK, ?_⟩⟩
  have q := cl_putObj hq (D := D) (by omega) (.deferred none)
  have j0 := q.word 0 (by decide)
  have j1 := q.word 1 (by decide)
  have j2 := q.word 2 (by decide)
  have j3 := q.word 3 (by decide)
  refine ⟨.tuple #[setV S, b, c], ?_, hR _ (hB.trans (belowK_b (w := w) (Nat.le_refl _) W D _ _ (by omega) hK rfl rfl))⟩
  simp [results, Tryd.results169, go_sem, h2, h3, h4, j0, j1, j2, j3]

/-- The frame of a round. -/
abbrev frC (s : ByteArray) (but : Bool) (a : Int) (R bb ba B g : Nat) (x : Prt) : Act := { tmps := #[.string s, undef, .pointer (some ⟨R, 0, none⟩), .int .i64 0, .int .i64 0, .pointer (some ⟨B, 0, none⟩), .bool but, .pointer (some ⟨B + 1, 0, none⟩), .pointer (some ⟨g, 0, none⟩), .string s, .bool true, .bool false, undef, undef, undef, spV cls bb ba, .string s, .bool but, .bool but, spV cls bb ba, .string s, .int .i64 a, .func (.func 191) #[] #[.pointer (some ⟨B + 1 + 1, 0, none⟩), .pointer (some ⟨B + 1 + 1 + 1, 0, none⟩), .pointer (some ⟨B + 1 + 1 + 1 + 1, 0, none⟩)], partV x.1 x.2.1 x.2.2, undef, undef, undef, undef, undef, undef, undef, undef, undef, undef, undef, undef, undef, undef, undef, undef, undef, undef, undef, undef, undef, undef, undef, undef, undef, undef], defers := [] }

/-- .. behind the set's store. -/
abbrev frD (s : ByteArray) (but : Bool) (a : Int) (R bb ba B g : Nat) (x : Prt) (S : Nat → Bool) : Act := { tmps := #[.string s, undef, .pointer (some ⟨R, 0, none⟩), .int .i64 0, .int .i64 0, .pointer (some ⟨B, 0, none⟩), .bool but, .pointer (some ⟨B + 1, 0, none⟩), .pointer (some ⟨g, 0, none⟩), .string s, .bool true, .bool false, undef, undef, undef, spV cls bb ba, .string s, .bool but, .bool but, spV cls bb ba, .string s, .int .i64 a, .func (.func 191) #[] #[.pointer (some ⟨B + 1 + 1, 0, none⟩), .pointer (some ⟨B + 1 + 1 + 1, 0, none⟩), .pointer (some ⟨B + 1 + 1 + 1 + 1, 0, none⟩)], partV x.1 x.2.1 x.2.2, setV S, .pointer (some ⟨g, 0, none⟩), .int .u8 (x.1 : Nat), .pointer (some ⟨g, 1, none⟩), .int .u8 (x.2.1 : Nat), setV (fun m => decide (x.1 ≤ m) && decide (m ≤ x.2.1)), setV (fun n => S n || (decide (x.1 ≤ n) && decide (n ≤ x.2.1))), undef, undef, undef, undef, undef, undef, undef, undef, undef, undef, undef, undef, undef, undef, undef, undef, undef, undef, undef], defers := [] }

/-- The parts' bytes. -/
def prs (pre : List Prt) : List (Nat × Nat) := pre.map fun x => (x.1, x.2.1)
theorem prs_snoc (pre : List Prt) (x : Prt) : covers (prs (pre ++ [x])) = fun m => covers (prs pre) m || (decide (x.1 ≤ m) && decide (m ≤ x.2.1)) := by
  unfold prs
  rw [List.map_append]
  exact covers_snoc _ _ _

set_option maxRecDepth 100000 in
set_option maxHeartbeats 4000000 in
theorem unclass_in (s : ByteArray) (hs0 : s.size ≤ 1048576) (w : World) :
    CallsIn Fence.wide 4 Tryd.prog 169 #[.string s] w fun e w' => e = .returned (clsV (uncls s.data.toList)) ∧ Below w.heap.size w w' := by
  have h1 : 1 ≤ 4 := by omega
  have hs : s.size ≤ maxLen := by unfold maxLen; omega
  have hl : s.data.toList.length = s.size := by simp
  have hhp := fun w => (sh_strings_HasPrefix s ⟨#[91]⟩ w).mono fun _ _ h => (⟨h.1, h.2.symm⟩ : _ ∧ w = _)
  by_cases hyes : s.data.toList.head? = some 91
  · have hpre : Lib.hasPrefix s.data.toList (⟨#[91]⟩ : ByteArray).data.toList = true := (prefix_head _ _ 91 rfl).2 hyes
    rw [hpre] at hhp
    have hhq := fun w => (sh_strings_HasPrefix s ⟨#[91, 94]⟩ w).mono fun _ _ h => (⟨h.1, h.2.symm⟩ : _ ∧ w = _)
    simp only [prefix_hat _ hyes] at hhq
    have hfl := from_le _ hyes
    rw [hl] at hfl
    have hua := uncls_of hyes
    have HY := Lib.hid hyes
    clear hpre hyes
    by_cases hbut : from_ s.data.toList = 2
    · rw [hbut] at hhq hfl
      have HUA := Lib.hid (hua 2 hbut)
      clear hua hbut
      refine callsIn_of_wp_marks Tryd.func169 rfl trivial ?_ rfl
      simp only [Tryd.ntmps169, List.size_toArray, List.length_cons, List.length_nil, Nat.reduceAdd, Nat.reduceSub, Array.replicate_succ, Array.replicate_zero, List.push_toArray, List.append_toArray, List.nil_append, List.cons_append]
      gi_wp2_with (first
        | (refine ⟨trivial, ?_⟩; gi_at_call 172; first | (refine (callsIn_wide.2 (hhp _)).mono ?_; rintro e w' ⟨rfl, rfl⟩) | (refine (callsIn_wide.2 (hhq _)).mono ?_; rintro e w' ⟨rfl, rfl⟩))
        | (refine ⟨trivial, ?_⟩; gi_at_call 122; refine (callsIn_wide.2 (classes_all _)).mono ?_; rintro e w1 ⟨bb, ba, rfl, hS, hb1, hlb, hla⟩)
        | (refine ⟨trivial, ?_⟩; gi_at_call 182; refine (callsIn_wide.2 (parts_any cls bb ba s 2 _)).mono ?_; rintro e w' ⟨rfl, rfl⟩))
      have hsz := hb1.size
      simp only [World.size_alloc] at hlb hla hsz
      have hU := unc_start s 2 2 rfl hS ((Cl.new w 35 #[.int .u64 0, .int .u64 0, .int .u64 0, .int .u64 0]).below hb1 (by simp)) (((Below.refl _ w).alloc (Nat.le_refl _) _).trans (hb1.mono (by simp))) (by omega) (by omega)
      obtain ⟨B, hB⟩ : ∃ B, B = w1.heap.size := ⟨_, rfl⟩
      obtain ⟨W0, hW0⟩ : ∃ W0, (((((w1.alloc (.cells (spC cls bb ba) 126)).alloc (.cells #[.int .i64 2] 3)).alloc (.cells (spC cls bb ba) 126)).alloc (.cells #[.string s] 9)).alloc (.cells #[.int .i64 2] 3)) = W0 := ⟨_, rfl⟩
      have hz : W0.heap.size = B + 5 := by rw [← hW0, hB]; simp
      rw [hW0, ← hB] at hU
      rw [hW0, ← hB]
      clear hW0 hB hS hb1 hlb hla hsz w1
      refine wpIn_told rfl h1 (gf := 191) (lb := #[.pointer (some ⟨B + 1 + 1, 0, none⟩), .pointer (some ⟨B + 1 + 1 + 1, 0, none⟩), .pointer (some ⟨B + 1 + 1 + 1 + 1, 0, none⟩)]) rfl trivial (enters_of Tryd.func191 (by kernel_rfl) rfl)
        (parts1_told cls bb ba (B + 2) s hs 2 hfl W0 hU.held) (fun _ => rfl) hU.held.kept_lt
        (fun pre W => UnC w bb ba B s 2 (covers (prs pre)) (lastEnd pre 2) W) ?abide hU
        (fun x a' W => ∃ g, a' = frC s true 2 w.heap.size bb ba B g x ∧ Cl W g 197 #[.int .u8 (x.1 : Nat), .int .u8 (x.2.1 : Nat), .int .i64 (x.2.2 : Nat)]) ?ax ?assign ?body ?done
      case abide =>
        intro pre A B' row h hg hr
        exact h.abide hg (fun r e => by have := (hr r e).1; omega)
      case ax =>
        rintro x a' W l o o' ⟨g, rfl, hc⟩ hlw hlo ho
        exact ⟨g, rfl, cl_putObj hc (fun e => by subst e; rw [show W.heap[g]? = _ from hc] at hlo; cases hlo; cases ho) _⟩
      case assign =>
        intro l pre x W Kc hi hsp hK
        gi_wp2
        exact hK _ _ ((KeepsOthers.alloc W _).from _) (Stands.of_grown (World.grownBy_alloc W _ none) (fun r e => by cases e) hi.held.kept_lt) (hi.abide (World.grownBy_alloc W _ none) (fun r e => by cases e)) ⟨_, rfl, Cl.new W _ _⟩
      case body =>
        rintro l pre x a' W hi ⟨g, rfl, hc⟩ hsp
        obtain ⟨x1, x2, -⟩ := part_in (.inr rfl) hsp
        have hlo : x.1 < 256 := by omega
        have hps := prs_snoc pre x
        have hpl := lastEnd_snoc pre x 2
        have HPS := Lib.hid hps
        have HPL := Lib.hid hpl
        have HL := Lib.hid hlo
        have HH := Lib.hid x2
        clear hsp x1 hps hpl hlo x2
        generalize hS : covers (prs pre) = S at hi
        have HSS := Lib.hid hS
        clear hS
        have r0 := hi.res.word 0 (by decide)
        have r1 := hi.res.word 1 (by decide)
        have r2 := hi.res.word 2 (by decide)
        have r3 := hi.res.word 3 (by decide)
        have g0 := hc.cell 0
        have g1 := hc.cell 1
        gi_wp2
        refine wpIn_mono (Q := fun e a' W' => e = .normal ∧ a' = frD s true 2 w.heap.size bb ba B g x S ∧ KeepsOthers W W' ∧ Stands 197 (keptB (B + 2) bb ba) W W' ∧ UnC w bb ba B s 2 (fun n => S n || (decide (x.1 ≤ n) && decide (n ≤ x.2.1))) (lastEnd pre 2) W' ∧ Cl W' g 197 #[.int .u8 (x.1 : Nat), .int .u8 (x.2.1 : Nat), .int .i64 (x.2.2 : Nat)]) ?region ?rest
        case region =>
          gi_region_with (first
            | (refine ⟨trivial, ?_⟩; gi_at_call 162; refine (CallsIn.inRound l (callsIn_wide.2 (range_any x.1 x.2.1 HL.out HH.out _))).mono ?_; rintro e w2 ⟨rfl, hb2⟩; have i2 := hi.drew.below hb2; have hc2 := hc.drew.below hb2 hc.lt; have y0 := i2.res.word 0 (by decide); have y1 := i2.res.word 1 (by decide); have y2 := i2.res.word 2 (by decide); have y3 := i2.res.word 3 (by decide))
            | (refine ⟨trivial, ?_⟩; gi_at_call 184; refine (CallsIn.inRound l (callsIn_wide.2 (or_any S (fun m => decide (x.1 ≤ m) && decide (m ≤ x.2.1)) _))).mono ?_; rintro e w3 ⟨rfl, hb3⟩; have i3 := i2.below hb3; have hc3 := hc2.below hb3 hc2.lt; have z0 := i3.res.word 0 (by decide); have z1 := i3.res.word 1 (by decide); have z2 := i3.res.word 2 (by decide); have z3 := i3.res.word 3 (by decide); have f0 := i3.res.free 0; have f1 := i3.res.free 1; have f2 := i3.res.free 2; have f3 := i3.res.free 3))
          all_goals
            have r := i3.store (fun n => S n || (decide (x.1 ≤ n) && decide (n ≤ x.2.1))) _ rfl
            exact ⟨rfl, rfl, (KeepsOthers.drew W).trans ((keepsO_below hb2).trans ((keepsO_below hb3).trans r.1)), (Stands.drew W).trans ((Stands.below hi.drew.held.kept_lt hb2).trans ((Stands.below i2.held.kept_lt hb3).trans r.2.1)), r.2.2, r.2.1.typed g _ _ hc3⟩
        case rest =>
          rintro e a' W' ⟨rfl, rfl, ko, st, hi2, hc4⟩
          have g2 := hc4.cell 2
          have n1 := hi2.place.cell 0
          have f1 := hi2.place.free 0
          gi_wp2
          rw [toldPost, HPS.out, HPL.out, HSS.out]
          have m := hi2.moved (e' := x.2.2) _ rfl
          exact ⟨(ko.trans m.1).from _, st.trans m.2.1, m.2.2⟩
      case done =>
        rintro D ys W hD rfl hi hK
        obtain ⟨e1, e2⟩ := parts_all cls (s.data.toList.drop 2) 2
        obtain ⟨-, o2, -, -⟩ := all_ok cls (.inr rfl) _ (s.data.toList.drop 2) (Nat.le_refl _)
        have hprs : prs (parts cls (s.data.toList.drop 2) 2) = (all cls (s.data.toList.drop 2)).1 := e1
        have hul := HUA.out
        rw [e2, hprs] at hi
        rw [List.length_drop, hl] at o2
        clear e1 e2 hprs
        generalize all cls (s.data.toList.drop 2) = A at hi hul o2
        have hk : 2 + A.2 ≤ s.size := by omega
        have hen := fun W hW => ended_any cls bb ba s hs (2 + A.2) hk W hW
        obtain ⟨n0, e0, hE⟩ : ∃ n0 e0, ended cls s.data.toList (2 + A.2) = (n0, e0) := ⟨_, _, rfl⟩
        rw [hE] at hen hul
        have hKW : D < W.heap.size := (Array.getElem?_eq_some_iff.1 hK).1
        have c0 := hi.box.cell 0
        have c1 := hi.box.cell 1
        have c2 := hi.box.cell 2
        have c3 := hi.box.cell 3
        have c4 := hi.box.cell 4
        have c5 := hi.box.cell 5
        have c6 := hi.box.cell 6
        have c7 := hi.box.cell 7
        have p0 : W.cell? ⟨B + 1, 0, none⟩ = some (.int .i64 ((2 + A.2 : Nat) : Int)) := hi.place.cell 0
        have HUL := Lib.hid hul
        have hDw : w.heap.size < D := by have := hi.nb; have := hi.hb; omega
        clear hE hul o2 hk hz hs hl HY hU hfl HUA
        obtain ⟨q, hq⟩ : ∃ q, q = 2 + A.2 := ⟨_, rfl⟩
        rw [← hq] at p0 hen
        clear hq
        generalize hS : covers A.1 = S at hi
        have HSS := Lib.hid hS
        clear hS
        by_cases he0 : e0 = 0
        · subst he0
          have hne : (((0 : Nat) : Int) != 0) = false := rfl
          have hu : uncls s.data.toList = (fun n => !S n, n0, 0) := by rw [HUL.out.2 rfl, HSS.out]; rfl
          have HUU := Lib.hid hu
          clear hu
          gi_wp2_with (first
            | (refine ⟨trivial, ?_⟩; gi_at_call 183; refine (callsIn_wide.2 (hen _ hi.held.sp)).mono ?_; rintro e w2 ⟨rfl, hb2⟩; have i2 := hi.below hb2; have r0 := i2.res.word 0 (by decide); have r1 := i2.res.word 1 (by decide); have r2 := i2.res.word 2 (by decide); have r3 := i2.res.word 3 (by decide); have f0 := i2.res.free 0; have f1 := i2.res.free 1; have f2 := i2.res.free 2; have f3 := i2.res.free 3)
            | (refine ⟨trivial, ?_⟩; gi_at_call 143; refine (callsIn_wide.2 (not_any S _)).mono ?_; rintro e w3 ⟨rfl, hb3⟩; have i3 := i2.below hb3; have y0 := i3.res.word 0 (by decide); have y1 := i3.res.word 1 (by decide); have y2 := i3.res.word 2 (by decide); have y3 := i3.res.word 3 (by decide); have l0 := i3.res.free 0; have l1 := i3.res.free 1; have l2 := i3.res.free 2; have l3 := i3.res.free 3))
          have hK2 := (hb2.block D hKW).trans hK
          have hK3 := (hb3.block D (Array.getElem?_eq_some_iff.1 hK2).1).trans hK2
          have a1 := i3.store (fun n => !S n) _ rfl
          have a2 := a1.2.2.store (fun n => !S n) _ rfl
          refine cls_end rfl rfl rfl hDw (a2.1.same D _ (a1.1.same D _ hK3 rfl) rfl) a2.2.2.low a2.2.2.res (fun W' hW' => ⟨?_, hW'⟩)
          rw [HUU.out]
          rfl
        · have hne : ((e0 : Int) != 0) = true := by simp; omega
          gi_wp2_with (refine ⟨trivial, ?_⟩; gi_at_call 183; refine (callsIn_wide.2 (hen _ hi.held.sp)).mono ?_; rintro e w2 ⟨rfl, hb2⟩; have i2 := hi.below hb2; have r0 := i2.res.word 0 (by decide); have r1 := i2.res.word 1 (by decide); have r2 := i2.res.word 2 (by decide); have r3 := i2.res.word 3 (by decide); have f0 := i2.res.free 0; have f1 := i2.res.free 1; have f2 := i2.res.free 2; have f3 := i2.res.free 3)
          have hK2 := (hb2.block D hKW).trans hK
          have z := i2.zero _ rfl
          refine cls_end rfl rfl rfl hDw (z.1.same D _ hK2 rfl) z.2.2.low z.2.2.res (fun W' hW' => ⟨?_, hW'⟩)
          rw [HUL.out.1 he0]
          rfl
    · have hb1' : from_ s.data.toList = 1 := by unfold from_ at hbut ⊢; split at hbut <;> simp_all
      rw [hb1'] at hhq hfl
      have HUA := Lib.hid (hua 1 hb1')
      clear hua hbut hb1'
      refine callsIn_of_wp_marks Tryd.func169 rfl trivial ?_ rfl
      simp only [Tryd.ntmps169, List.size_toArray, List.length_cons, List.length_nil, Nat.reduceAdd, Nat.reduceSub, Array.replicate_succ, Array.replicate_zero, List.push_toArray, List.append_toArray, List.nil_append, List.cons_append]
      gi_wp2_with (first
        | (refine ⟨trivial, ?_⟩; gi_at_call 172; first | (refine (callsIn_wide.2 (hhp _)).mono ?_; rintro e w' ⟨rfl, rfl⟩) | (refine (callsIn_wide.2 (hhq _)).mono ?_; rintro e w' ⟨rfl, rfl⟩))
        | (refine ⟨trivial, ?_⟩; gi_at_call 122; refine (callsIn_wide.2 (classes_all _)).mono ?_; rintro e w1 ⟨bb, ba, rfl, hS, hb1, hlb, hla⟩)
        | (refine ⟨trivial, ?_⟩; gi_at_call 182; refine (callsIn_wide.2 (parts_any cls bb ba s 1 _)).mono ?_; rintro e w' ⟨rfl, rfl⟩))
      have hsz := hb1.size
      simp only [World.size_alloc] at hlb hla hsz
      have hU := unc_start s 1 1 rfl hS ((Cl.new w 35 #[.int .u64 0, .int .u64 0, .int .u64 0, .int .u64 0]).below hb1 (by simp)) (((Below.refl _ w).alloc (Nat.le_refl _) _).trans (hb1.mono (by simp))) (by omega) (by omega)
      obtain ⟨B, hB⟩ : ∃ B, B = w1.heap.size := ⟨_, rfl⟩
      obtain ⟨W0, hW0⟩ : ∃ W0, (((((w1.alloc (.cells (spC cls bb ba) 126)).alloc (.cells #[.int .i64 1] 3)).alloc (.cells (spC cls bb ba) 126)).alloc (.cells #[.string s] 9)).alloc (.cells #[.int .i64 1] 3)) = W0 := ⟨_, rfl⟩
      have hz : W0.heap.size = B + 5 := by rw [← hW0, hB]; simp
      rw [hW0, ← hB] at hU
      rw [hW0, ← hB]
      clear hW0 hB hS hb1 hlb hla hsz w1
      refine wpIn_told rfl h1 (gf := 191) (lb := #[.pointer (some ⟨B + 1 + 1, 0, none⟩), .pointer (some ⟨B + 1 + 1 + 1, 0, none⟩), .pointer (some ⟨B + 1 + 1 + 1 + 1, 0, none⟩)]) rfl trivial (enters_of Tryd.func191 (by kernel_rfl) rfl)
        (parts1_told cls bb ba (B + 2) s hs 1 hfl W0 hU.held) (fun _ => rfl) hU.held.kept_lt
        (fun pre W => UnC w bb ba B s 1 (covers (prs pre)) (lastEnd pre 1) W) ?abide hU
        (fun x a' W => ∃ g, a' = frC s false 1 w.heap.size bb ba B g x ∧ Cl W g 197 #[.int .u8 (x.1 : Nat), .int .u8 (x.2.1 : Nat), .int .i64 (x.2.2 : Nat)]) ?ax ?assign ?body ?done
      case abide =>
        intro pre A B' row h hg hr
        exact h.abide hg (fun r e => by have := (hr r e).1; omega)
      case ax =>
        rintro x a' W l o o' ⟨g, rfl, hc⟩ hlw hlo ho
        exact ⟨g, rfl, cl_putObj hc (fun e => by subst e; rw [show W.heap[g]? = _ from hc] at hlo; cases hlo; cases ho) _⟩
      case assign =>
        intro l pre x W Kc hi hsp hK
        gi_wp2
        exact hK _ _ ((KeepsOthers.alloc W _).from _) (Stands.of_grown (World.grownBy_alloc W _ none) (fun r e => by cases e) hi.held.kept_lt) (hi.abide (World.grownBy_alloc W _ none) (fun r e => by cases e)) ⟨_, rfl, Cl.new W _ _⟩
      case body =>
        rintro l pre x a' W hi ⟨g, rfl, hc⟩ hsp
        obtain ⟨x1, x2, -⟩ := part_in (.inr rfl) hsp
        have hlo : x.1 < 256 := by omega
        have hps := prs_snoc pre x
        have hpl := lastEnd_snoc pre x 1
        have HPS := Lib.hid hps
        have HPL := Lib.hid hpl
        have HL := Lib.hid hlo
        have HH := Lib.hid x2
        clear hsp x1 hps hpl hlo x2
        generalize hS : covers (prs pre) = S at hi
        have HSS := Lib.hid hS
        clear hS
        have r0 := hi.res.word 0 (by decide)
        have r1 := hi.res.word 1 (by decide)
        have r2 := hi.res.word 2 (by decide)
        have r3 := hi.res.word 3 (by decide)
        have g0 := hc.cell 0
        have g1 := hc.cell 1
        gi_wp2
        refine wpIn_mono (Q := fun e a' W' => e = .normal ∧ a' = frD s false 1 w.heap.size bb ba B g x S ∧ KeepsOthers W W' ∧ Stands 197 (keptB (B + 2) bb ba) W W' ∧ UnC w bb ba B s 1 (fun n => S n || (decide (x.1 ≤ n) && decide (n ≤ x.2.1))) (lastEnd pre 1) W' ∧ Cl W' g 197 #[.int .u8 (x.1 : Nat), .int .u8 (x.2.1 : Nat), .int .i64 (x.2.2 : Nat)]) ?region ?rest
        case region =>
          gi_region_with (first
            | (refine ⟨trivial, ?_⟩; gi_at_call 162; refine (CallsIn.inRound l (callsIn_wide.2 (range_any x.1 x.2.1 HL.out HH.out _))).mono ?_; rintro e w2 ⟨rfl, hb2⟩; have i2 := hi.drew.below hb2; have hc2 := hc.drew.below hb2 hc.lt; have y0 := i2.res.word 0 (by decide); have y1 := i2.res.word 1 (by decide); have y2 := i2.res.word 2 (by decide); have y3 := i2.res.word 3 (by decide))
            | (refine ⟨trivial, ?_⟩; gi_at_call 184; refine (CallsIn.inRound l (callsIn_wide.2 (or_any S (fun m => decide (x.1 ≤ m) && decide (m ≤ x.2.1)) _))).mono ?_; rintro e w3 ⟨rfl, hb3⟩; have i3 := i2.below hb3; have hc3 := hc2.below hb3 hc2.lt; have z0 := i3.res.word 0 (by decide); have z1 := i3.res.word 1 (by decide); have z2 := i3.res.word 2 (by decide); have z3 := i3.res.word 3 (by decide); have f0 := i3.res.free 0; have f1 := i3.res.free 1; have f2 := i3.res.free 2; have f3 := i3.res.free 3))
          all_goals
            have r := i3.store (fun n => S n || (decide (x.1 ≤ n) && decide (n ≤ x.2.1))) _ rfl
            exact ⟨rfl, rfl, (KeepsOthers.drew W).trans ((keepsO_below hb2).trans ((keepsO_below hb3).trans r.1)), (Stands.drew W).trans ((Stands.below hi.drew.held.kept_lt hb2).trans ((Stands.below i2.held.kept_lt hb3).trans r.2.1)), r.2.2, r.2.1.typed g _ _ hc3⟩
        case rest =>
          rintro e a' W' ⟨rfl, rfl, ko, st, hi2, hc4⟩
          have g2 := hc4.cell 2
          have n1 := hi2.place.cell 0
          have f1 := hi2.place.free 0
          gi_wp2
          rw [toldPost, HPS.out, HPL.out, HSS.out]
          have m := hi2.moved (e' := x.2.2) _ rfl
          exact ⟨(ko.trans m.1).from _, st.trans m.2.1, m.2.2⟩
      case done =>
        rintro D ys W hD rfl hi hK
        obtain ⟨e1, e2⟩ := parts_all cls (s.data.toList.drop 1) 1
        obtain ⟨-, o2, -, -⟩ := all_ok cls (.inr rfl) _ (s.data.toList.drop 1) (Nat.le_refl _)
        have hprs : prs (parts cls (s.data.toList.drop 1) 1) = (all cls (s.data.toList.drop 1)).1 := e1
        have hul := HUA.out
        rw [e2, hprs] at hi
        rw [List.length_drop, hl] at o2
        clear e1 e2 hprs
        generalize all cls (s.data.toList.drop 1) = A at hi hul o2
        have hk : 1 + A.2 ≤ s.size := by omega
        have hen := fun W hW => ended_any cls bb ba s hs (1 + A.2) hk W hW
        obtain ⟨n0, e0, hE⟩ : ∃ n0 e0, ended cls s.data.toList (1 + A.2) = (n0, e0) := ⟨_, _, rfl⟩
        rw [hE] at hen hul
        have hKW : D < W.heap.size := (Array.getElem?_eq_some_iff.1 hK).1
        have c0 := hi.box.cell 0
        have c1 := hi.box.cell 1
        have c2 := hi.box.cell 2
        have c3 := hi.box.cell 3
        have c4 := hi.box.cell 4
        have c5 := hi.box.cell 5
        have c6 := hi.box.cell 6
        have c7 := hi.box.cell 7
        have p0 : W.cell? ⟨B + 1, 0, none⟩ = some (.int .i64 ((1 + A.2 : Nat) : Int)) := hi.place.cell 0
        have HUL := Lib.hid hul
        have hDw : w.heap.size < D := by have := hi.nb; have := hi.hb; omega
        clear hE hul o2 hk hz hs hl HY hU hfl HUA
        obtain ⟨q, hq⟩ : ∃ q, q = 1 + A.2 := ⟨_, rfl⟩
        rw [← hq] at p0 hen
        clear hq
        generalize hS : covers A.1 = S at hi
        have HSS := Lib.hid hS
        clear hS
        by_cases he0 : e0 = 0
        · subst he0
          have hne : (((0 : Nat) : Int) != 0) = false := rfl
          have hu : uncls s.data.toList = (fun n => S n, n0, 0) := by rw [HUL.out.2 rfl, HSS.out]; rfl
          have HUU := Lib.hid hu
          clear hu
          gi_wp2_with (first
            | (refine ⟨trivial, ?_⟩; gi_at_call 183; refine (callsIn_wide.2 (hen _ hi.held.sp)).mono ?_; rintro e w2 ⟨rfl, hb2⟩; have i2 := hi.below hb2; have r0 := i2.res.word 0 (by decide); have r1 := i2.res.word 1 (by decide); have r2 := i2.res.word 2 (by decide); have r3 := i2.res.word 3 (by decide); have f0 := i2.res.free 0; have f1 := i2.res.free 1; have f2 := i2.res.free 2; have f3 := i2.res.free 3))
          have hK2 := (hb2.block D hKW).trans hK
          have a2 := i2.store S _ rfl
          refine cls_end rfl rfl rfl hDw (a2.1.same D _ hK2 rfl) a2.2.2.low a2.2.2.res (fun W' hW' => ⟨?_, hW'⟩)
          rw [HUU.out]
          rfl
        · have hne : ((e0 : Int) != 0) = true := by simp; omega
          gi_wp2_with (refine ⟨trivial, ?_⟩; gi_at_call 183; refine (callsIn_wide.2 (hen _ hi.held.sp)).mono ?_; rintro e w2 ⟨rfl, hb2⟩; have i2 := hi.below hb2; have r0 := i2.res.word 0 (by decide); have r1 := i2.res.word 1 (by decide); have r2 := i2.res.word 2 (by decide); have r3 := i2.res.word 3 (by decide); have f0 := i2.res.free 0; have f1 := i2.res.free 1; have f2 := i2.res.free 2; have f3 := i2.res.free 3)
          have hK2 := (hb2.block D hKW).trans hK
          have z := i2.zero _ rfl
          refine cls_end rfl rfl rfl hDw (z.1.same D _ hK2 rfl) z.2.2.low z.2.2.res (fun W' hW' => ⟨?_, hW'⟩)
          rw [HUL.out.1 he0]
          rfl
  · have hno : Lib.hasPrefix s.data.toList (⟨#[91]⟩ : ByteArray).data.toList = false := by
      rw [← Bool.not_eq_true]
      exact fun h => hyes ((prefix_head _ _ 91 rfl).1 h)
    rw [hno] at hhp
    have hu : uncls s.data.toList = (fun _ => false, 0, fau s.size 0) := by unfold uncls; rw [if_neg hyes, hl]
    have hfa := fun w => fault_any s hs 0 w
    have HU := Lib.hid hu
    clear hno hyes hu
    refine callsIn_of_wp Tryd.func169 rfl trivial ?_ rfl
    simp only [Tryd.ntmps169, List.size_toArray, List.length_cons, List.length_nil, Nat.reduceAdd, Nat.reduceSub, Array.replicate_succ, Array.replicate_zero, List.push_toArray, List.append_toArray, List.nil_append, List.cons_append]
    gi_wp2_with (first
      | (refine ⟨trivial, ?_⟩; gi_at_call 172; refine (callsIn_wide.2 (hhp _)).mono ?_; rintro e w' ⟨rfl, rfl⟩)
      | (refine ⟨trivial, ?_⟩; gi_at_call 181; refine (callsIn_wide.2 (hfa _)).mono ?_; rintro e w' ⟨rfl, rfl⟩))
    exact bodyPost_ret (v := clsV (fun _ => false, 0, fau s.size 0)) (by simp [results, Tryd.results169, go_sem, setC_none]) rfl ⟨by rw [HU.out], (Below.refl _ _).alloc (Nat.le_refl _) _⟩

/-- **Unclass(t).** -/
theorem unclass_any (s : ByteArray) (hs : s.size ≤ 1048576) (w : World) :
    Calls Tryd.prog 169 #[.string s] w fun e w' => e = .returned (clsV (uncls s.data.toList)) ∧ Below w.heap.size w w' :=
  callsIn_wide.1 (unclass_in s hs w)
end Go.Proofs.YtjeogbdeagkomaaDoor

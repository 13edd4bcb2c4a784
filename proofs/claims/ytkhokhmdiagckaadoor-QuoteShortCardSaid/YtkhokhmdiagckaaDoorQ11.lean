/- Package quote: Unliteral. -/
import Derived.Test.YtkhokhmdiagckaaDoorQ10
import Derived.Test.YtkhokhmdiagckaaDoorQm3
namespace Go.Proofs.YtkhokhmdiagckaaDoor
open Go.RowKit Go.Maps Go.Shelf Bset Qm

attribute [local go_sem] Oper.semAt_some

/-- The bytes that are kept. -/
def kept (pre : List Prt) : List UInt8 := (pre.take 255).map fun x => UInt8.ofNat x.1
theorem kept_len (pre : List Prt) : (kept pre).length ≤ 255 := by
  unfold kept
  rw [List.length_map, List.length_take]
  omega
theorem kept_more (pre : List Prt) (x : Prt) (h : pre.length < 255) : kept (pre ++ [x]) = kept pre ++ [UInt8.ofNat x.1] := by
  unfold kept
  rw [List.take_of_length_le (by rw [List.length_append]; simp; omega), List.take_of_length_le (by omega)]
  simp
theorem kept_full (pre : List Prt) (x : Prt) (h : ¬ pre.length < 255) : kept (pre ++ [x]) = kept pre := by
  unfold kept
  rw [List.take_append_of_le_length (by omega)]
theorem lastEnd_snoc (pre : List Prt) (x : Prt) (k : Nat) : lastEnd (pre ++ [x]) k = x.2.2 := by
  unfold lastEnd
  rw [List.foldl_append]
  rfl

theorem prefix_head (s p : List UInt8) (c : UInt8) (hp : p = [c]) : Lib.hasPrefix s p = true ↔ s.head? = some c := by
  subst hp
  unfold Lib.hasPrefix
  cases s with
  | nil => simp
  | cons x s =>
    simp [List.isPrefixOf]
    exact eq_comm

theorem unlit_of {t : List UInt8} (h : t.head? = some 34) :
    ((ended lit t (1 + (all lit (t.drop 1)).2)).2 ≠ 0 → unlit t = ([], ended lit t (1 + (all lit (t.drop 1)).2))) ∧
    ((ended lit t (1 + (all lit (t.drop 1)).2)).2 = 0 → (all lit (t.drop 1)).1.length > 255 → unlit t = ([], 0, 40)) ∧
    ((ended lit t (1 + (all lit (t.drop 1)).2)).2 = 0 → ¬ (all lit (t.drop 1)).1.length > 255 → unlit t = ((all lit (t.drop 1)).1.map (fun x => UInt8.ofNat x.1), (ended lit t (1 + (all lit (t.drop 1)).2)).1, 0)) := by
  unfold unlit
  rw [if_pos h]
  refine ⟨fun h1 => if_pos h1, fun h1 h2 => ?_, fun h1 h2 => ?_⟩
  · rw [if_neg (fun h => h h1), if_pos h2]
  · rw [if_neg (fun h => h h1), if_neg h2]

/-- What a result of three is. -/
abbrev litV (r : List UInt8 × Nat × Nat) : Value := .tuple #[.string ⟨r.1.toArray⟩, .int .i64 (r.2.1 : Nat), .int .i64 (r.2.2 : Nat)]

/-- The parts that are told of a text. -/
theorem part_in {p : Sp} (hp : Is p) {l : List UInt8} {k : Nat} {pre : List Prt} {x : Prt} (h : (pre ++ [x]) <+: parts p l k) : x.1 ≤ x.2.1 ∧ x.2.1 < 256 ∧ pre.length < l.length := by
  obtain ⟨t, ht⟩ := h
  obtain ⟨e1, _⟩ := parts_all p l k
  obtain ⟨o1, o2, o3, _⟩ := all_ok p hp _ l (Nat.le_refl _)
  rw [← e1, ← ht] at o1 o3
  have := o1 (x.1, x.2.1) (by simp)
  simp only [List.length_map, List.length_append, List.length_singleton] at o3
  exact ⟨this.1, this.2, by omega⟩

theorem unl_start {w w1 : World} {bb ba : Nat} (s : ByteArray) (hS : Spell w1 lit bb ba) (hb : Below w.heap.size w w1) :
    UnL w bb ba w1.heap.size s [] 0 1 (((((((w1.alloc (.cells (spC lit bb ba) 44)).alloc (.cells #[.pointer none, .slice none 0 0] 49)).alloc (.cells #[.int .i64 0] 3)).alloc (.cells #[.int .i64 1] 3)).alloc (.cells (spC lit bb ba) 44)).alloc (.cells #[.string s] 9)).alloc (.cells #[.int .i64 1] 3)) where
  held := ⟨((((((hS.alloc _).alloc _).alloc _).alloc _).alloc _).alloc _).alloc _, ((Cl.new' (by simp) _ _).alloc _).alloc _, (Cl.new' (by simp) _ _).alloc _, Cl.new' (by simp) _ _⟩
  box := (((((((Cl.new w1 _ _).alloc _).alloc _).alloc _).alloc _).alloc _).alloc _)
  bld := .inl ⟨by have := hb.size; omega, _, ((((((Cl.new' (by simp) _ _).alloc _).alloc _).alloc _).alloc _).alloc _), World.ownsRowF_nil _ _ _ _, by simp [Value.ownBlock]⟩
  many := (((((Cl.new' (by simp) _ _).alloc _).alloc _).alloc _).alloc _)
  place := ((((Cl.new' (by simp) _ _).alloc _).alloc _).alloc _)
  low := ((((((hb.alloc hb.size _).alloc (by have := hb.size; simp; omega) _).alloc (by have := hb.size; simp; omega) _).alloc (by have := hb.size; simp; omega) _).alloc (by have := hb.size; simp; omega) _).alloc (by have := hb.size; simp; omega) _).alloc (by have := hb.size; simp; omega) _
  hb := hS.beh.lt
  ha := hS.ahd.lt
  hB := hb.size

set_option maxRecDepth 100000 in
set_option maxHeartbeats 400000 in
theorem lit_end {w W : World} {D : Nat} {T : Array Value} {a b c : Value} {R : Ending → World → Prop} (h2 : T[2]? = some a) (h3 : T[3]? = some b) (h4 : T[4]? = some c) (hD : w.heap.size ≤ D) (hK : W.heap[D]? = some (.deferred (some []))) (hB : Below w.heap.size w W)
    (hR : ∀ W', Below w.heap.size w W' → R (.returned (.tuple #[a, b, c])) W') :
    bodyPostM Fence.wide 4 Tryd.prog Tryd.f8 R Exit.ret { tmps := T, defers := [{ target := Target.collected D, args := #[] }] } W := by
  refine ⟨by simp, .inl ⟨_, _, rfl, run_takeDeferred hK, ?_⟩⟩
  refine ⟨.tuple #[a, b, c], ?_, hR _ (hB.trans (belowK_b (w := w) (Nat.le_refl _) W D _ _ hD hK rfl rfl))⟩
  simp [results, Tryd.results8, go_sem, h2, h3, h4]

/-- The frame of a round. -/
abbrev frL (s : ByteArray) (bb ba B g : Nat) (x : Prt) : Act := { tmps := #[.string s, undef, .string ⟨#[]⟩, .int .i64 0, .int .i64 0, .pointer (some ⟨B, 0, none⟩), .pointer (some ⟨B + 1, 0, none⟩), .pointer (some ⟨B + 1 + 1, 0, none⟩), .pointer (some ⟨B + 1 + 1 + 1, 0, none⟩), .pointer (some ⟨g, 0, none⟩), .string s, .bool true, .bool false, undef, undef, spV lit bb ba, spV lit bb ba, .string s, .int .i64 1, .func (.func 34) #[] #[.pointer (some ⟨B + 1 + 1 + 1 + 1, 0, none⟩), .pointer (some ⟨B + 1 + 1 + 1 + 1 + 1, 0, none⟩), .pointer (some ⟨B + 1 + 1 + 1 + 1 + 1 + 1, 0, none⟩)], partV x.1 x.2.1 x.2.2, undef, undef, undef, undef, undef, undef, undef, undef, undef, undef, undef, undef, undef, undef, undef, undef, undef, undef, undef, undef, undef, undef, undef, undef], defers := [] }

set_option maxRecDepth 100000 in
set_option maxHeartbeats 4000000 in
theorem unliteral_in (s : ByteArray) (hs0 : s.size ≤ 1048576) (w : World) :
    CallsIn Fence.wide 4 Tryd.prog 8 #[.string s] w fun e w' => e = .returned (litV (unlit s.data.toList)) ∧ Below w.heap.size w w' := by
  have h1 : 1 ≤ 4 := by omega
  have hs : s.size ≤ maxLen := by unfold maxLen; omega
  have hl : s.data.toList.length = s.size := by simp
  have hhp := fun w => (sh_strings_HasPrefix s ⟨#[34]⟩ w).mono fun _ _ h => (⟨h.1, h.2.symm⟩ : _ ∧ w = _)
  by_cases hyes : s.data.toList.head? = some 34
  · have hpre : Lib.hasPrefix s.data.toList (⟨#[34]⟩ : ByteArray).data.toList = true := (prefix_head _ _ 34 rfl).2 hyes
    rw [hpre] at hhp
    have HY := Lib.hid hyes
    clear hpre hyes
    refine callsIn_of_wp_marks Tryd.func8 rfl trivial ?_ rfl
    simp only [Tryd.ntmps8, List.size_toArray, List.length_cons, List.length_nil, Nat.reduceAdd, Nat.reduceSub, Array.replicate_succ, Array.replicate_zero, List.push_toArray, List.append_toArray, List.nil_append, List.cons_append]
    gi_wp2_with (first
      | (refine ⟨trivial, ?_⟩; gi_at_call 21; refine (callsIn_wide.2 (hhp _)).mono ?_; rintro e w' ⟨rfl, rfl⟩)
      | (refine ⟨trivial, ?_⟩; gi_at_call 16; refine (callsIn_wide.2 (literals_any _)).mono ?_; rintro e w1 ⟨bb, ba, rfl, hS, hb1⟩)
      | (refine ⟨trivial, ?_⟩; gi_at_call 23; refine (callsIn_wide.2 (parts_any lit bb ba s 1 _)).mono ?_; rintro e w' ⟨rfl, rfl⟩))
    have hU := unl_start s hS hb1
    obtain ⟨B, hB⟩ : ∃ B, B = w1.heap.size := ⟨_, rfl⟩
    obtain ⟨W0, hW0⟩ : ∃ W0, (((((((w1.alloc (.cells (spC lit bb ba) 44)).alloc (.cells #[.pointer none, .slice none 0 0] 49)).alloc (.cells #[.int .i64 0] 3)).alloc (.cells #[.int .i64 1] 3)).alloc (.cells (spC lit bb ba) 44)).alloc (.cells #[.string s] 9)).alloc (.cells #[.int .i64 1] 3)) = W0 := ⟨_, rfl⟩
    have hz : W0.heap.size = B + 7 := by rw [← hW0, hB]; simp
    rw [hW0, ← hB] at hU
    rw [hW0, ← hB]
    clear hW0 hB hS hb1 w1
    have hk1 : 1 ≤ s.size := by
      rcases Nat.eq_zero_or_pos s.size with h0 | h0
      · have h2 := HY.out
        rw [show s.data.toList = [] from List.eq_nil_of_length_eq_zero (by rw [hl]; exact h0)] at h2
        cases h2
      · exact h0
    refine wpIn_told rfl h1 (gf := 34) (lb := #[.pointer (some ⟨B + 1 + 1 + 1 + 1, 0, none⟩), .pointer (some ⟨B + 1 + 1 + 1 + 1 + 1, 0, none⟩), .pointer (some ⟨B + 1 + 1 + 1 + 1 + 1 + 1, 0, none⟩)]) rfl trivial (enters_of Tryd.func34 (by kernel_rfl) rfl)
      (parts1_told lit bb ba (B + 4) s hs 1 hk1 W0 hU.held) (fun _ => rfl) hU.held.kept_lt
      (fun pre W => UnL w bb ba B s (kept pre) pre.length (lastEnd pre 1) W) ?abide hU
      (fun x a' W => ∃ g, a' = frL s bb ba B g x ∧ Cl W g 63 #[.int .u8 (x.1 : Nat), .int .u8 (x.2.1 : Nat), .int .i64 (x.2.2 : Nat)]) ?ax ?assign ?body ?done
    case abide =>
      intro pre A B' row h hg hr
      exact h.abide hg (fun r e => by obtain ⟨q1, q2⟩ := hr r e; exact ⟨by omega, q2⟩)
    case ax =>
      rintro x a' W l o o' ⟨g, rfl, hc⟩ hlw hlo ho
      exact ⟨g, rfl, cl_putObj hc (fun e => by subst e; rw [show W.heap[g]? = _ from hc] at hlo; cases hlo; cases ho) _⟩
    case assign =>
      intro l pre x W Kc hi hsp hK
      gi_wp2
      exact hK _ _ ((KeepsOthers.alloc W _).from _) (Stands.of_grown (World.grownBy_alloc W _ none) (fun r e => by cases e) hi.held.kept_lt) (hi.abide (World.grownBy_alloc W _ none) (fun r e => by cases e)) ⟨_, rfl, Cl.new W _ _⟩
    case body =>
      rintro l pre x a' W hi ⟨g, rfl, hc⟩ hsp
      obtain ⟨x1, x2, x3⟩ := part_in (.inl rfl) hsp
      rw [List.length_drop, hl] at x3
      have hx8 : x.1 < 256 := by omega
      have hroom : (pre.length : Int) ≤ 1048576 := by omega
      have hkl := kept_len pre
      have m0 : W.cell? ⟨B + 1 + 1, 0, none⟩ = some (.int .i64 (pre.length : Nat)) := hi.many.cell 0
      have g0 := hc.cell 0
      have g2 := hc.cell 2
      have hpl := lastEnd_snoc pre x 1
      have HPL := Lib.hid hpl
      clear hsp x1 x2 x3 hpl
      generalize hm : pre.length = m at m0 hroom
      have hwm : IntKind.i64.wrap ((m : Int) + 1) = ((m + 1 : Nat) : Int) := by rw [IntWalk.i64_in _ (by omega)]; omega
      have HW := Lib.hid hwm
      clear hwm
      by_cases h255 : m < 255
      · have hk : kept (pre ++ [x]) = kept pre ++ [UInt8.ofNat x.1] := kept_more pre x (by omega)
        have HK := Lib.hid hk
        have HM := Lib.hid hm
        clear hk hm
        gi_wp2_with (refine ⟨trivial, ?_⟩; gi_at_call 17; refine (CallsIn.inRound l (callsIn_wide.2 (hi.byte x.1 hx8 (by omega)))).mono ?_; rintro e w2 ⟨rfl, h2, ko2, st2⟩; rw [HM.out] at h2; have hc2 : Cl w2 g 63 #[.int .u8 (x.1 : Nat), .int .u8 (x.2.1 : Nat), .int .i64 (x.2.2 : Nat)] := st2.typed g _ _ hc; have n0 : w2.cell? ⟨B + 1 + 1, 0, none⟩ = some (.int .i64 (m : Nat)) := h2.many.cell 0; have n1 : w2.cell? ⟨B + 1 + 1 + 1, 0, none⟩ = some (.int .i64 (lastEnd pre 1 : Nat)) := h2.place.cell 0; have q2 := hc2.cell 2; have f0 : w2.frozen? ⟨B + 1 + 1, 0, none⟩ = false := h2.many.free 0; have f1 : w2.frozen? ⟨B + 1 + 1 + 1, 0, none⟩ = false := h2.place.free 0)
        gi_region_with (fail)
        all_goals
          gi_wp2
          rw [toldPost, HK.out, HPL.out, List.length_append, HM.out]
          have r := h2.round (m' := m + 1) (e' := x.2.2) _ _ HW.out rfl
          exact ⟨(ko2.trans r.1).from _, st2.trans r.2.1, r.2.2⟩
      · have hk : kept (pre ++ [x]) = kept pre := kept_full pre x (by omega)
        have HK := Lib.hid hk
        have n1 : W.cell? ⟨B + 1 + 1 + 1, 0, none⟩ = some (.int .i64 (lastEnd pre 1 : Nat)) := hi.place.cell 0
        have f0 : W.frozen? ⟨B + 1 + 1, 0, none⟩ = false := hi.many.free 0
        have f1 : W.frozen? ⟨B + 1 + 1 + 1, 0, none⟩ = false := hi.place.free 0
        have HM := Lib.hid hm
        rw [hm] at hi
        clear hk hm
        gi_wp2
        gi_region_with (fail)
        all_goals
          gi_wp2
          rw [toldPost, HK.out, HPL.out, List.length_append, HM.out]
          have r := hi.round (m' := m + 1) (e' := x.2.2) _ _ HW.out rfl
          exact ⟨r.1.from _, r.2.1, r.2.2⟩
    case done =>
      rintro D ys W hD rfl hi hK
      obtain ⟨e1, e2⟩ := parts_all lit (s.data.toList.drop 1) 1
      obtain ⟨o1, o2, o3, -⟩ := all_ok lit (.inl rfl) _ (s.data.toList.drop 1) (Nat.le_refl _)
      have hn : (parts lit (s.data.toList.drop 1) 1).length = (all lit (s.data.toList.drop 1)).1.length := by rw [← e1, List.length_map]
      have hkp : (all lit (s.data.toList.drop 1)).1.length ≤ 255 → kept (parts lit (s.data.toList.drop 1) 1) = (all lit (s.data.toList.drop 1)).1.map fun x => UInt8.ofNat x.1 := by
        intro h
        unfold kept
        rw [List.take_of_length_le (by omega), ← e1, List.map_map]
        rfl
      have hul := unlit_of HY.out
      rw [e2, hn] at hi
      rw [List.length_drop, hl] at o2
      clear e1 e2 o1 hn
      generalize kept (parts lit (s.data.toList.drop 1) 1) = kb at hi hkp
      generalize all lit (s.data.toList.drop 1) = A at hi hkp hul o2 o3
      have hk : 1 + A.2 ≤ s.size := by omega
      have hen := fun W hW => ended_any lit bb ba s hs (1 + A.2) hk W hW
      obtain ⟨n0, e0, hE⟩ : ∃ n0 e0, ended lit s.data.toList (1 + A.2) = (n0, e0) := ⟨_, _, rfl⟩
      rw [hE] at hen hul
      have hKW : D < W.heap.size := (Array.getElem?_eq_some_iff.1 hK).1
      have c0 := hi.box.cell 0
      have c1 := hi.box.cell 1
      have c2 := hi.box.cell 2
      have c3 := hi.box.cell 3
      have c4 := hi.box.cell 4
      have c5 := hi.box.cell 5
      have c6 := hi.box.cell 6
      have c7 := hi.box.cell 7
      have p0 : W.cell? ⟨B + 1 + 1 + 1, 0, none⟩ = some (.int .i64 ((1 + A.2 : Nat) : Int)) := hi.place.cell 0
      have HUL := Lib.hid hul
      have HKP := Lib.hid hkp
      have hDw : w.heap.size ≤ D := by have := hi.hB; omega
      have hDB : D ≠ B + 1 := by omega
      have hml : A.1.length ≤ 1048576 := by omega
      clear hE hul hkp o2 o3 hk hz hs hl HY hU
      obtain ⟨q, hq⟩ : ∃ q, q = 1 + A.2 := ⟨_, rfl⟩
      rw [← hq] at p0 hen
      clear hq
      by_cases he0 : e0 = 0
      · subst he0
        have hne : (((0 : Nat) : Int) != 0) = false := rfl
        obtain ⟨-, u2, u3⟩ := HUL.out
        by_cases hmore : A.1.length > 255
        · have hu := u2 rfl hmore
          have HUU := Lib.hid hu
          have t1 : decide ((255 : Int) < (A.1.length : Int)) = true := by simp; omega
          clear u2 u3 hu
          gi_wp2_with (refine ⟨trivial, ?_⟩; gi_at_call 24; refine (callsIn_wide.2 (hen _ hi.held.sp)).mono ?_; rintro e w2 ⟨rfl, hb2⟩; have i2 := hi.below hb2; have p1 : w2.cell? ⟨B + 1 + 1, 0, none⟩ = some (.int .i64 (A.1.length : Nat)) := i2.many.cell 0)
          have hK2 := (hb2.block D hKW).trans hK
          refine lit_end rfl rfl rfl hDw hK2 (hi.low.trans (hb2.mono hi.low.size)) (fun W' hW' => ⟨?_, hW'⟩)
          rw [HUU.out]
          rfl
        · have hu := u3 rfl hmore
          rw [← HKP.out (by omega)] at hu
          have HUU := Lib.hid hu
          have t1 : decide ((255 : Int) < (A.1.length : Int)) = false := by simp; omega
          clear u2 u3 hu
          gi_wp2_with (first
            | (refine ⟨trivial, ?_⟩; gi_at_call 24; refine (callsIn_wide.2 (hen _ hi.held.sp)).mono ?_; rintro e w2 ⟨rfl, hb2⟩; have i2 := hi.below hb2; have p1 : w2.cell? ⟨B + 1 + 1, 0, none⟩ = some (.int .i64 (A.1.length : Nat)) := i2.many.cell 0)
            | (refine ⟨trivial, ?_⟩; gi_at_call 20; refine (callsIn_wide.2 (builder_String _ _ _ _ i2.bld i2.low.size)).mono ?_; rintro e w3 ⟨rfl, h3, b3, k3⟩))
          have hK2 := (hb2.block D hKW).trans hK
          have hK3 := obj_others k3 hK2 hDB rfl
          refine lit_end rfl rfl rfl hDw hK3 (i2.low.trans b3) (fun W' hW' => ⟨?_, hW'⟩)
          rw [HUU.out]
          rfl
      · have hne : ((e0 : Int) != 0) = true := by simp; omega
        gi_wp2_with (refine ⟨trivial, ?_⟩; gi_at_call 24; refine (callsIn_wide.2 (hen _ hi.held.sp)).mono ?_; rintro e w2 ⟨rfl, hb2⟩)
        have hK2 := (hb2.block D hKW).trans hK
        refine lit_end rfl rfl rfl hDw hK2 (hi.low.trans (hb2.mono hi.low.size)) (fun W' hW' => ⟨?_, hW'⟩)
        rw [HUL.out.1 he0]
        rfl
  · have hno : Lib.hasPrefix s.data.toList (⟨#[34]⟩ : ByteArray).data.toList = false := by
      rw [← Bool.not_eq_true]
      exact fun h => hyes ((prefix_head _ _ 34 rfl).1 h)
    rw [hno] at hhp
    have hu : unlit s.data.toList = ([], 0, fau s.size 0) := by unfold unlit; rw [if_neg hyes, hl]
    have hfa := fun w => fault_any s hs 0 w
    have HU := Lib.hid hu
    clear hno hyes hu
    refine callsIn_of_wp Tryd.func8 rfl trivial ?_ rfl
    simp only [Tryd.ntmps8, List.size_toArray, List.length_cons, List.length_nil, Nat.reduceAdd, Nat.reduceSub, Array.replicate_succ, Array.replicate_zero, List.push_toArray, List.append_toArray, List.nil_append, List.cons_append]
    gi_wp2_with (first
      | (refine ⟨trivial, ?_⟩; gi_at_call 21; refine (callsIn_wide.2 (hhp _)).mono ?_; rintro e w' ⟨rfl, rfl⟩)
      | (refine ⟨trivial, ?_⟩; gi_at_call 22; refine (callsIn_wide.2 (hfa _)).mono ?_; rintro e w' ⟨rfl, rfl⟩))
    go_ret3
    exact ⟨ret_tup (by rw [HU.out]; rfl), Below.refl _ _⟩

/-- **Unliteral(t).** -/
theorem unliteral_any (s : ByteArray) (hs : s.size ≤ 1048576) (w : World) :
    Calls Tryd.prog 8 #[.string s] w fun e w' => e = .returned (litV (unlit s.data.toList)) ∧ Below w.heap.size w w' :=
  callsIn_wide.1 (unliteral_in s hs w)
end Go.Proofs.YtkhokhmdiagckaaDoor

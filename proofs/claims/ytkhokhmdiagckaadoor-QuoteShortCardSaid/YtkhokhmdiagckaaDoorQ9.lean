/- Package quote: Class. -/
import Derived.Test.YtkhokhmdiagckaaDoorQ8
import Derived.Test.YtkhokhmdiagckaaDoorRuns
import Derived.Test.YtkhokhmdiagckaaDoorEq
namespace Go.Proofs.YtkhokhmdiagckaaDoor
open Go.RowKit Go.Maps Bset Qm

theorem runC_at (pre post : List (Nat × Nat)) (a c : Nat) : (runC (pre ++ (a, c) :: post))[pre.length * 2]? = some (.int .u8 (a : Nat)) ∧ (runC (pre ++ (a, c) :: post))[pre.length * 2 + 1]? = some (.int .u8 (c : Nat)) := by
  have e : runC (pre ++ (a, c) :: post) = runC pre ++ (Value.int .u8 (a : Nat) :: Value.int .u8 (c : Nat) :: runC post) := by
    unfold runC
    simp
  have hl := runC_len pre
  rw [e]
  constructor
  · rw [List.getElem?_append_right (by omega), hl, Nat.sub_self]
    rfl
  · rw [List.getElem?_append_right (by omega), hl, show pre.length * 2 + 1 - pre.length * 2 = 1 by omega]
    rfl

/-- A block holds these runs. -/
def RowAt (W : World) (g : Nat) (rs : List (Nat × Nat)) : Prop := ∃ (cur : Array Value), W.heap[g]? = some (.cells cur 68 (0, 0)) ∧ ∀ (j : Nat) (u : Value), (runC rs)[j]? = some u → cur[j]? = some u

theorem RowAt.cell {W : World} {g : Nat} {rs : List (Nat × Nat)} (h : RowAt W g rs) {j : Nat} {u : Value} (hj : (runC rs)[j]? = some u) : W.cell? ⟨g, j, none⟩ = some u := by
  obtain ⟨cur, hb, hc⟩ := h
  have := hc j u hj
  simp [World.cell?, hb, this]
theorem RowAt.lt {W : World} {g : Nat} {rs : List (Nat × Nat)} (h : RowAt W g rs) : g < W.heap.size := by
  obtain ⟨cur, hb, _⟩ := h
  exact (Array.getElem?_eq_some_iff.1 hb).1
theorem RowAt.below {W W' : World} {g : Nat} {rs : List (Nat × Nat)} (h : RowAt W g rs) (hb : Below W.heap.size W W') : RowAt W' g rs := by
  have hlt := h.lt
  obtain ⟨cur, hg, hc⟩ := h
  exact ⟨cur, (hb.block g hlt).trans hg, hc⟩
theorem RowAt.others {W W' : World} {g b : Nat} {rs : List (Nat × Nat)} (h : RowAt W g rs) (hk : Lib.OthersKept 5 (some b) W W') (hne : g ≠ b) : RowAt W' g rs := by
  obtain ⟨cur, hg, hc⟩ := h
  exact ⟨cur, hk g _ hg (fun e => hne (Option.some.inj e)) (fun c f e => by cases e), hc⟩

/-- What Class's loop keeps: the builder; the runs, if there are any. -/
structure WritesR (w : World) (p : Sp) (bb ba Bs Bb g : Nat) (rs : List (Nat × Nat)) (l : List UInt8) (W : World) : Prop where
  wr : Writes w p bb ba Bs Bb l W
  row : rs ≠ [] → RowAt W g rs
  ne : g ≠ Bb

section
variable {w W W' : World} {p : Sp} {bb ba Bs Bb g : Nat} {rs : List (Nat × Nat)} {l : List UInt8}
theorem WritesR.below (h : WritesR w p bb ba Bs Bb g rs l W) (hb : Below W.heap.size W W') : WritesR w p bb ba Bs Bb g rs l W' := ⟨h.wr.below hb, fun e => (h.row e).below hb, h.ne⟩
theorem WritesR.drew (h : WritesR w p bb ba Bs Bb g rs l W) : WritesR w p bb ba Bs Bb g rs l W.drew := ⟨h.wr.drew, h.row, h.ne⟩
theorem WritesR.drewN (h : WritesR w p bb ba Bs Bb g rs l W) (n : Nat) : WritesR w p bb ba Bs Bb g rs l (W.drewN n) := ⟨⟨⟨h.wr.sp.isp, h.wr.sp.beh, h.wr.sp.ahd⟩, h.wr.box, h.wr.bld, bdrewN h.wr.low, h.wr.ne, h.wr.nb, h.wr.na⟩, h.row, h.ne⟩
theorem WritesR.byte (h : WritesR w p bb ba Bs Bb g rs l W) (c : UInt8) (x : Int) (hx : x = c.toNat) (hl : l.length < 100000000) :
    Calls Tryd.prog 17 #[.pointer (some ⟨Bb, 0, none⟩), .int .u8 x] W fun e w' => e = .returned .nilIface ∧ WritesR w p bb ba Bs Bb g rs (l ++ [c]) w' := by
  subst hx
  refine (builder_WriteByte _ _ _ _ _ h.wr.bld (by rw [byteCells_length]; omega) h.wr.low.size).mono ?_
  rintro e w' ⟨rfl, h2, hb, hk⟩
  exact ⟨rfl, h.wr.wrote (.inr (by rw [← byteCells_append]; exact h2)) hb hk, fun e => (h.row e).others hk h.ne, h.ne⟩
theorem WritesR.str (h : WritesR w p bb ba Bs Bb g rs l W) (s : List UInt8) (hl : l.length + s.length < 100000000) :
    Calls Tryd.prog 18 #[.pointer (some ⟨Bb, 0, none⟩), .string ⟨s.toArray⟩] W fun e w' => e = .returned (.tuple #[.int .i64 s.length, .nilIface]) ∧ WritesR w p bb ba Bs Bb g rs (l ++ s) w' := by
  refine (builder_WriteString _ _ _ ⟨s.toArray⟩ _ h.wr.bld (by rw [byteCells_length]; show l.length + s.length ≤ _; omega) h.wr.low.size).mono ?_
  rintro e w' ⟨rfl, h2, hb, hk⟩
  exact ⟨rfl, h.wr.wrote (.inr (by rw [← byteCells_append, ← strCells_of]; exact h2)) hb hk, fun e => (h.row e).others hk h.ne, h.ne⟩
theorem WritesR.sign (h : WritesR w p bb ba Bs Bb g rs l W) (b : Nat) (hb : b < 256) :
    Calls Tryd.prog 19 #[spV p bb ba, .int .u8 b] W fun e w' => e = .returned (.string ⟨(sign p b).toArray⟩) ∧ WritesR w p bb ba Bs Bb g rs l w' := by
  refine (sign_any p bb ba b hb W h.wr.sp).mono ?_
  rintro e w' ⟨rfl, hb⟩
  exact ⟨rfl, h.below hb⟩
end

theorem runsT_bound (rs : List (Nat × Nat)) (h : ∀ x ∈ rs, x.1 ≤ x.2 ∧ x.2 < 256) : (runsT rs).length ≤ 9 * rs.length := by
  induction rs with
  | nil => simp [runsT]
  | cons x rs ih =>
    have hx := h x List.mem_cons_self
    have i := ih fun y hy => h y (List.mem_cons_of_mem _ hy)
    have e : (runsT (x :: rs)).length = (Qm.runT x).length + (runsT rs).length := by simp [runsT]
    have h1 := (sign_len cls (.inr rfl) x.1 (by omega)).2
    have h2 := (sign_len cls (.inr rfl) x.2 (by omega)).2
    have e2 : (Qm.runT x).length ≤ 9 := by
      unfold Qm.runT
      simp only [List.length_append]
      split <;> split <;> simp <;> omega
    rw [e, List.length_cons]
    omega

set_option maxRecDepth 100000 in
set_option maxHeartbeats 4000000 in
/-- **Class(s).** -/
theorem class_any (S : Nat → Bool) (w : World) (hT : TabIn w) (hg0 : 0 < w.heap.size) :
    Calls Tryd.prog 9 #[setV S] w fun e w' => e = .returned (.string ⟨(clsT S).toArray⟩) ∧ Below w.heap.size w w' := by
  have k0 := Cl.new w 24 (setC S)
  have hb0 : Below w.heap.size w (w.alloc (.cells (setC S) 24)) := (Below.refl _ w).alloc (Nat.le_refl _) _
  have x0 := k0.word 0 (by decide)
  have x1 := k0.word 1 (by decide)
  have x2 := k0.word 2 (by decide)
  have x3 := k0.word 3 (by decide)
  have he := fun w => run_eql_set w S (fun _ => true)
  have hAll : sameS S (fun _ => true) = isAll S := rfl
  rw [hAll] at he
  cases hA : isAll S with
  | true =>
    rw [hA] at he
    have hc : clsT S = [46] := by unfold clsT; rw [hA]; rfl
    have HC := Lib.hid hc
    clear hA hc hAll
    go_enter Tryd.func9, Tryd.ntmps9
    go_wp2
    go_region_with (go_at_call 10; refine (all_any _).mono ?_; rintro e w1 ⟨rfl, hb1⟩; have k1 := k0.drew.below hb1 k0.lt; have y0 := k1.word 0 (by decide); have y1 := k1.word 1 (by decide); have y2 := k1.word 2 (by decide); have y3 := k1.word 3 (by decide))
    all_goals
      go_wp2
      go_ret
      exact ⟨by rw [HC.out]; rfl, hb0.drew.trans (hb1.mono hb0.size)⟩
  | false =>
    rw [hA] at he
    have hc := clsT_eq S hA
    have HC := Lib.hid hc
    clear hA hc hAll
    go_enter Tryd.func9, Tryd.ntmps9
    go_wp2
    go_region_with (go_at_call 10; refine (all_any _).mono ?_; rintro e w1 ⟨rfl, hb1⟩; have k1 := k0.drew.below hb1 k0.lt; have y0 := k1.word 0 (by decide); have y1 := k1.word 1 (by decide); have y2 := k1.word 2 (by decide); have y3 := k1.word 3 (by decide))
    all_goals
      have L1 : Below w.heap.size w w1 := hb0.drew.trans (hb1.mono hb0.size)
      clear x0 x1 x2 x3 y0 y1 y2 y3 he
      go_wp2_with (go_at_call 25; refine (classes_any _).mono ?_; rintro e w2 ⟨bb, ba, rfl, hS, hb2⟩)
      have L2 := L1.trans (hb2.mono L1.size)
      have h0 := Writes.start hS L2
      have k2 := ((k1.below hb2 k1.lt).alloc (.cells (spC cls bb ba) 44)).alloc (.cells #[.pointer none, .slice none 0 0] 49)
      have hBs : w.heap.size < w2.heap.size := (k1.below hb2 k1.lt).lt
      refine (builder_WriteByte _ _ _ 91 _ h0.bld (by simp [Lib.byteCells]) h0.low.size).mono ?_
      rintro e w3 ⟨rfl, h2, hb3, hk3⟩
      have W3 : Writes w cls bb ba w2.heap.size (w2.heap.size + 1) [91] w3 := h0.wrote (.inr h2) hb3 hk3
      have k3 : Cl w3 w.heap.size 24 (setC S) := cl_others hk3 k2 (by omega) (by decide)
      have x0 := k3.word 0 (by decide)
      have x1 := k3.word 1 (by decide)
      have x2 := k3.word 2 (by decide)
      have x3 := k3.word 3 (by decide)
      have hBb : w2.heap.size + 1 < w3.heap.size := by
        obtain ⟨cs, hcs⟩ := builder_block W3.bld
        exact (Array.getElem?_eq_some_iff.1 hcs).1
      generalize w2.heap.size = Bs at W3 hBs hBb ⊢
      clear h0 k2 h2 hb3 hk3 hS hb2 L1 L2 k1 hb1
      have hT3 := hT.below W3.low hg0
      have hP3 := Nat.lt_of_lt_of_le hg0 W3.low.size
      go_wp2_with fail
      refine (runs_any S _ hT3 hP3).mono ?_
      rintro e w4 ⟨v, rfl, hrow, hnil, hb4⟩
      have hgood : ∀ x ∈ runsOf S, x.1 ≤ x.2 ∧ x.2 < 256 := fun x hx => (runs_good S).mem hx
      have hlen := runs_len S
      generalize runsOf S = rs at hrow hnil hgood hlen HC
      obtain ⟨A, cap, g, rfl, hA, hR⟩ : ∃ A cap g, v = .slice A rs.length cap ∧ (rs ≠ [] → A = some ⟨g, 0, none⟩) ∧ WritesR w cls bb ba Bs (Bs + 1) g rs [91] w4 := by
        have W4 := W3.below hb4
        rcases hrow.2 with ⟨rfl, hz⟩ | ⟨g, cap, cur, rfl, hgb, hgg, _, _, hcs, htake⟩
        · have e : rs = [] := List.eq_nil_of_length_eq_zero hz
          subst e
          exact ⟨none, 0, w.heap.size, rfl, fun h => absurd rfl h, W4, fun h => absurd rfl h, by omega⟩
        · refine ⟨_, cap, g, rfl, fun _ => rfl, W4, fun _ => ⟨cur, hgg, fun j u hu => ?_⟩, by omega⟩
          rw [← htake, List.getElem?_take] at hu
          split at hu
          · rw [← Array.getElem?_toList]
            exact hu
          · cases hu
      have HG := Lib.hid hgood
      have HLEN := Lib.hid hlen
      have hn63 : rs.length ≤ 9223372036854775807 := by omega
      clear hrow hnil W3 hBs hBb hT3 hP3 k3 hb4 hgood hlen x0 x1 x2 x3 k0 hb0
      go_wp2
      go_loopw [17] (fun v wr => ∃ pre post, rs = pre ++ post ∧ v = .int .i64 pre.length ∧ WritesR w cls bb ba Bs (Bs + 1) g rs (91 :: runsT pre) wr)
        (fun v _ => rs.length - (intOf v).toNat)
      case atStart => exact ⟨[], rs, rfl, rfl, hR⟩
      case round =>
        clear hR
        obtain ⟨pre, post, hrs, rfl, R⟩ := hrel
        have hbound : (runsT pre).length ≤ 9 * 256 := by
          have h1 := runsT_bound pre (fun x hx => HG.out x (by rw [hrs]; exact List.mem_append_left _ hx))
          have h2 := HLEN.out
          rw [hrs, List.length_append] at h2
          omega
        cases post with
        | nil =>
          rw [List.append_nil] at hrs
          subst hrs
          have HB := Lib.hid hbound
          clear hbound hA
          generalize rs.length = n at hn63 ⊢
          go_wp2_with (first
            | (go_at_call 17; refine (R.byte 93 93 rfl (by have := HB.out; rw [List.length_cons]; omega)).mono ?_; rintro e w5 ⟨rfl, R5⟩)
            | (go_at_call 20; refine R5.wr.text.mono ?_; rintro e w6 ⟨rfl, h6⟩))
          go_ret
          exact ⟨by rw [HC.out]; rfl, h6⟩
        | cons x post =>
          obtain ⟨a, c⟩ := x
          have hne : rs ≠ [] := by rw [hrs]; simp
          have hA2 := hA hne
          subst hA2
          obtain ⟨g1, g2⟩ := HG.out (a, c) (by rw [hrs]; simp)
          simp only at g1 g2
          obtain ⟨m1, m2⟩ := runC_at pre post a c
          rw [← hrs] at m1 m2
          have r1 := (R.row hne).cell m1
          have r2 := (R.row hne).cell m2
          have hlt : pre.length < rs.length := by rw [hrs]; simp
          have hki : (pre.length : Int) < (rs.length : Int) := by omega
          have hk0 : (0 : Int) ≤ (pre.length : Int) := by omega
          have ha8 : a < 256 := by omega
          have hc8 : c < 256 := g2
          have l1 := (sign_len cls (.inr rfl) a ha8).2
          have l2 := (sign_len cls (.inr rfl) c hc8).2
          have hroom : (91 :: runsT pre).length + (sign cls a).length + 1 + (sign cls c).length < 100000000 := by rw [List.length_cons]; omega
          have HR := Lib.hid hroom
          have HRS := Lib.hid hrs
          have HLT := Lib.hid hlt
          clear hA hne m1 m2 hrs hbound l1 l2 hroom
          generalize hk : pre.length = k at r1 r2 hki hk0 hlt ⊢
          have HK := Lib.hid hk
          clear hk
          by_cases hac : a + 1 < c
          · have s1 : (1 : Int) < (c : Int) - (a : Int) := by omega
            have s2 : (c : Int) - (a : Int) ≤ 255 := by omega
            have s3 : ((c : Int) != (a : Int)) = true := by simp; omega
            have hnew : (((91 :: runsT pre) ++ sign cls a) ++ [45]) ++ sign cls c = 91 :: runsT (pre ++ [(a, c)]) := by simp [runsT, runT_more a c hac]
            have HN := Lib.hid hnew
            clear hnew
            go_wp2
            go_region
            have R5 := (R.below ((Below.refl _ wr).alloc (Nat.le_refl _) (.cells #[.int .u8 (a : Nat), .int .u8 (c : Nat)] 68))).drew
            clear R r1 r2
            have c0 := R5.wr.box.cell 0
            have c1 := R5.wr.box.cell 1
            have c2 := R5.wr.box.cell 2
            have c3 := R5.wr.box.cell 3
            have c4 := R5.wr.box.cell 4
            have c5 := R5.wr.box.cell 5
            have c6 := R5.wr.box.cell 6
            have c7 := R5.wr.box.cell 7
            go_wp2_with fail
            refine (R5.sign a ha8).mono ?_
            rintro e w5 ⟨rfl, R6⟩
            clear c0 c1 c2 c3 c4 c5 c6 c7
            go_wp2_with fail
            refine (R6.str _ (by have := HR.out; omega)).mono ?_
            rintro e w6 ⟨rfl, R7⟩
            go_wp2_with fail
            refine (R7.byte 45 45 rfl (by have := HR.out; simp only [List.length_append]; omega)).mono ?_
            rintro e w7 ⟨rfl, R8⟩
            have d0 := R8.wr.box.cell 0
            have d1 := R8.wr.box.cell 1
            have d2 := R8.wr.box.cell 2
            have d3 := R8.wr.box.cell 3
            have d4 := R8.wr.box.cell 4
            have d5 := R8.wr.box.cell 5
            have d6 := R8.wr.box.cell 6
            have d7 := R8.wr.box.cell 7
            go_wp2_with fail
            refine (R8.sign c hc8).mono ?_
            rintro e w8 ⟨rfl, R9⟩
            clear d0 d1 d2 d3 d4 d5 d6 d7
            go_wp2_with fail
            refine (R9.str _ (by have := HR.out; simp only [List.length_append, List.length_singleton]; omega)).mono ?_
            rintro e w9 ⟨rfl, R10⟩
            rw [HN.out] at R10
            go_wp2
            go_roundw
            case rel => exact ⟨pre ++ [(a, c)], post, by rw [HRS.out]; simp, by rw [List.length_append, HK.out]; go_num, R10⟩
            case measure => have := HLT.out; simp [intOf]; omega
          · by_cases hac2 : a < c
            · have hc1 : c = a + 1 := by omega
              have s1 : (c : Int) - (a : Int) ≤ 1 := by omega
              have s2 : (1 : Int) ≤ (c : Int) - (a : Int) := by omega
              have s3 : ((c : Int) != (a : Int)) = true := by simp; omega
              have hnew : ((91 :: runsT pre) ++ sign cls a) ++ sign cls c = 91 :: runsT (pre ++ [(a, c)]) := by rw [hc1]; simp [runsT, runT_pair]
              have HN := Lib.hid hnew
              clear hnew hc1
              go_wp2
              go_region
              have R5 := (R.below ((Below.refl _ wr).alloc (Nat.le_refl _) (.cells #[.int .u8 (a : Nat), .int .u8 (c : Nat)] 68))).drew
              clear R r1 r2
              have c0 := R5.wr.box.cell 0
              have c1 := R5.wr.box.cell 1
              have c2 := R5.wr.box.cell 2
              have c3 := R5.wr.box.cell 3
              have c4 := R5.wr.box.cell 4
              have c5 := R5.wr.box.cell 5
              have c6 := R5.wr.box.cell 6
              have c7 := R5.wr.box.cell 7
              go_wp2_with fail
              refine (R5.sign a ha8).mono ?_
              rintro e w5 ⟨rfl, R6⟩
              clear c0 c1 c2 c3 c4 c5 c6 c7
              go_wp2_with fail
              refine (R6.str _ (by have := HR.out; omega)).mono ?_
              rintro e w6 ⟨rfl, R7⟩
              have d0 := R7.wr.box.cell 0
              have d1 := R7.wr.box.cell 1
              have d2 := R7.wr.box.cell 2
              have d3 := R7.wr.box.cell 3
              have d4 := R7.wr.box.cell 4
              have d5 := R7.wr.box.cell 5
              have d6 := R7.wr.box.cell 6
              have d7 := R7.wr.box.cell 7
              go_wp2_with fail
              refine (R7.sign c hc8).mono ?_
              rintro e w7 ⟨rfl, R8⟩
              clear d0 d1 d2 d3 d4 d5 d6 d7
              go_wp2_with fail
              refine (R8.str _ (by have := HR.out; simp only [List.length_append]; omega)).mono ?_
              rintro e w8 ⟨rfl, R9⟩
              rw [HN.out] at R9
              go_wp2
              go_roundw
              case rel => exact ⟨pre ++ [(a, c)], post, by rw [HRS.out]; simp, by rw [List.length_append, HK.out]; go_num, R9⟩
              case measure => have := HLT.out; simp [intOf]; omega
            · obtain rfl : c = a := by omega
              have hnew : (91 :: runsT pre) ++ sign cls c = 91 :: runsT (pre ++ [(c, c)]) := by simp [runsT, runT_one]
              have HN := Lib.hid hnew
              clear hnew
              go_wp2
              go_region
              have R5 := (R.below ((Below.refl _ wr).alloc (Nat.le_refl _) (.cells #[.int .u8 (c : Nat), .int .u8 (c : Nat)] 68))).drew
              clear R r1 r2
              have c0 := R5.wr.box.cell 0
              have c1 := R5.wr.box.cell 1
              have c2 := R5.wr.box.cell 2
              have c3 := R5.wr.box.cell 3
              have c4 := R5.wr.box.cell 4
              have c5 := R5.wr.box.cell 5
              have c6 := R5.wr.box.cell 6
              have c7 := R5.wr.box.cell 7
              go_wp2_with fail
              refine (R5.sign c hc8).mono ?_
              rintro e w5 ⟨rfl, R6⟩
              clear c0 c1 c2 c3 c4 c5 c6 c7
              go_wp2_with fail
              refine (R6.str _ (by have := HR.out; omega)).mono ?_
              rintro e w6 ⟨rfl, R7⟩
              rw [HN.out] at R7
              go_wp2
              go_roundw
              case rel => exact ⟨pre ++ [(c, c)], post, by rw [HRS.out]; simp, by rw [List.length_append, HK.out]; go_num, R7⟩
              case measure => have := HLT.out; simp [intOf]; omega
end Go.Proofs.YtkhokhmdiagckaaDoor

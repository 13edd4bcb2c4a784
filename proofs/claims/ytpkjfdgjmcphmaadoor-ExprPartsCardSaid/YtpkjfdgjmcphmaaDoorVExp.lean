/- bonsailaw05: ExprParts. -/
import Derived.Test.YtpkjfdgjmcphmaaDoorVExp0
namespace Go.Proofs.YtpkjfdgjmcphmaaDoor
open Go.RowKit Bset Tm

set_option maxRecDepth 100000 in
set_option maxHeartbeats 16000000 in
theorem exprParts_walk (vl : Value) (l : List Ar) (w : World) (hl : Trees w vl l) (hll : l.length ≤ 9223372036854775807) (hwl : ∀ t ∈ l, t.nodes.length ≤ 9223372036854775807 ∧ ∀ n ∈ t.nodes, okX n) (hE : Env w) :
    Calls Tryd.prog 8 #[vl] w fun e w' => e = .returned (.bool true) ∧ Below w.heap.size w w' := by
  obtain ⟨pl, cl, rfl⟩ := hl.len
  have aw := fun (W : World) (h2 : Env W) => awake5_any W h2
  go_enter Tryd.func8, Tryd.ntmps8
  go_wp2_with (fail)
  refine (large_any _ l _ hl hll (fun x hx => ⟨(hwl x hx).1, fun n hn => ⟨((hwl x hx).2 n hn).2.2, ((hwl x hx).2 n hn).2.1⟩⟩)).mono ?_
  rintro e w1 ⟨bl, rfl, hsm, b1⟩
  cases bl with
  | true =>
    go_wp2_with (go_at_call 44; refine (aw _ (hE.below b1)).mono ?_; rintro e w4 ⟨rfl, hb4⟩; have b4 := b1.trans (hb4.mono b1.size))
    go_ret
    exact ⟨rfl, b4⟩
  | false =>
    obtain ⟨hlen, hfew⟩ := hsm rfl
    have okl : ∀ x ∈ l, OkA x.nodes := fun x hx => few_okA (hfew x hx) (hwl x hx).2
    have nl : ∀ x ∈ l, x.nodes.length ≤ 400 := fun x hx => (hfew x hx).1
    have hL := few_okL okl nl hlen
    have htot := total_few nl hlen
    have kS := fun (W : World) (hv : Trees W (.slice pl l.length cl) l) (h2 : Env W) => seq_any _ l W hv hL h2
    have kC := fun (W : World) (hv : Trees W (.slice pl l.length cl) l) (h2 : Env W) => choice_any _ l W hv hL h2
    clear hsm hfew hwl hll hL
    go_wp2_with (go_at_call 44; refine (aw _ (hE.below b1)).mono ?_; rintro e w2 ⟨rfl, hb2⟩; have b2 := b1.trans (hb2.mono b1.size); clear hb2 aw)
    clear b1
    go_loopw [5, 3, 4] (fun v5 v3 v4 W => ∃ (i : Nat) (LP LW : List (Value × Ar)), v5 = .int .i64 i ∧ i ≤ l.length ∧ (l.take i).all rightB = true ∧ MadeTs w.heap.size W v3 LP ∧ LP.map Prod.snd = (l.take i).flatMap partsL ∧ MadeTs w.heap.size W v4 LW ∧ LW.map Prod.snd = (l.take i).flatMap waysL ∧ (∀ g, v3.ownBlock = some g → v4.ownBlock ≠ some g) ∧ Below w.heap.size w W) (fun v _ _ _ => l.length - (intOf v).toNat)
    case atStart => exact ⟨0, [], [], rfl, Nat.zero_le _, rfl, mades_nil _ _, rfl, mades_nil _ _, rfl, fun g h => by simp [Value.ownBlock] at h, b2⟩
    case round =>
      clear b2
      obtain ⟨i, LP, LW, rfl, hiL, hra, hP, hPm, hW, hWm, hsep, hB⟩ := hrel
      generalize hv3 : u3 = vP at *
      generalize hv4 : u4 = vW at *
      by_cases hlt : i < l.length
      · obtain ⟨b, off, nv, rfl, X0, X1, hNU⟩ := (hl.below hB).at hlt
        have hti : (l.take (i + 1)) = l.take i ++ [l[i]] := List.take_succ_eq_append_getElem hlt
        have hoki := okl _ (List.getElem_mem hlt)
        have hni := nl _ (List.getElem_mem hlt)
        have hpl : LP.length ≤ 160000 := by
          have h1 := congrArg List.length hPm
          rw [List.length_map] at h1
          have h2 := flat_len_le (f := partsL) (l := l.take i) fun T hT => parts_len (List.all_eq_true.1 hra T hT)
          have h3 := total_takeL l i
          omega
        have hwl : LW.length ≤ 160000 := by
          have h1 := congrArg List.length hWm
          rw [List.length_map] at h1
          have h2 := flat_len_le (f := waysL) (l := l.take i) fun T hT => ways_len (List.all_eq_true.1 hra T hT)
          have h3 := total_takeL l i
          omega
        obtain ⟨T, hT⟩ : ∃ T, T = l[i] := ⟨_, rfl⟩
        rw [← hT] at X1 hNU hti hoki hni
        obtain ⟨pT, cT, rfl⟩ := hNU.len
        have hi0 : (0 : Int) ≤ (i : Int) := by omega
        have hi1 : (i : Int) < (l.length : Int) := by omega
        have hwi : IntKind.i64.wrap ((i : Int) + 1) = ((i + 1 : Nat) : Int) := by rw [IntWalk.i64_in _ (by omega)]; omega
        have kM := fun (W : World) (hv : Tree W (treeV (.slice pT T.nodes.length cT) T.root) T) (h2 : Env W) => make_any _ T W hv hoki (by omega) h2
        have tT : Tree wr (treeV (.slice pT T.nodes.length cT) T.root) T := ⟨_, rfl, hNU⟩
        have h : By w [] wr := ⟨hB, fun i x hx => (by simp at hx), fun i j x y hx => (by simp at hx)⟩
        have HRA := Lib.hid hra
        have HPM := Lib.hid hPm
        have HWM := Lib.hid hWm
        have HTI := Lib.hid hti
        have HSEP := Lib.hid hsep
        clear hT hra hPm hWm hti hsep hNU
        cases hR : rightB T with
        | false =>
          rw [hR] at kM
          clear hP hW kS kC okl nl hlen htot
          go_wp2_with (go_at_call 60; refine (kM _ tT (hE.below hB)).mono ?_; rintro e u1 ⟨v, rfl, hm, hb⟩; obtain ⟨px, cx, rfl, h', hm'⟩ := h.made hb hm; have h9 := h'.more (.inr hm'); clear hm hb h' hm')
          go_ret
          exact ⟨rfl, h9.b⟩
        | true =>
          have hf := fits_at hR
          have hg := nrm_good _ hf
          have hz := nrm_size (tree T)
          have hsz : size (tree T) = T.nodes.length := (rightB_iff.1 hR).size
          have okX' := ok_fit hg.1 (by omega)
          have kP := fun (v : Value) (W : World) (hv : Tree W v T) (h2 : Env W) => parts_any v T W hv hoki (by omega) h2
          have kW := fun (v : Value) (W : World) (hv : Tree W v T) (h2 : Env W) => ways_any v T W hv hoki (by omega) h2
          have hpB : (partsL T).all rightB = true := by rw [partsL_eq hR]; exact all_right (partsR_good hf).1
          have hwB : (waysL T).all rightB = true := by rw [waysL_eq hR]; exact all_right (waysR_good hf).1
          have hokw : OkL (waysL T) := by rw [waysL_eq hR]; exact okL_fit (waysR_good hf).1 (by have := (waysR_good hf).2; omega)
          have kSp := fun (v : Value) (W : World) (hv : Trees W v (partsL T)) (h2 : Env W) => seq_any v (partsL T) W hv (okL_parts T (by omega)) h2
          have kCw := fun (v : Value) (W : World) (hv : Trees W v (waysL T)) (h2 : Env W) => choice_any v (waysL T) W hv hokw h2
          have e1 : seqT (partsL T) = arOf (nrm (tree T)) := by rw [(seq_eq _).2.2 hpB, partsL_eq hR, map_tree, seqR_partsR hf]
          have e2 : choT (waysL T) = arOf (nrm (tree T)) := by rw [(cho_eq _).2.2 hwB, waysL_eq hR, map_tree, choR_waysR hf]
          rw [(seq_eq _).1, hpB, e1] at kSp
          rw [(cho_eq _).1, hwB, e2] at kCw
          rw [hR, madeT_yes hR] at kM
          have hpL := parts_len hR
          have hwL := ways_len hR
          obtain ⟨X, hX⟩ : ∃ X, X = arOf (nrm (tree T)) := ⟨_, rfl⟩
          rw [← hX] at kSp kCw kM okX'
          obtain ⟨PL, hPL⟩ : ∃ X, X = partsL T := ⟨_, rfl⟩
          obtain ⟨WL, hWL⟩ : ∃ X, X = waysL T := ⟨_, rfl⟩
          rw [← hPL] at kP kSp hpL
          rw [← hWL] at kW kCw hwL
          have HPL := Lib.hid hPL
          have HWL := Lib.hid hWL
          have HR := Lib.hid hR
          clear hX hPL hWL hR e1 e2 hokw hpB hwB hz hsz hg hf hoki
          clear kS kC okl nl
          go_wp2_with (go_at_call 60; refine (kM _ tT (hE.below hB)).mono ?_; rintro e u1 ⟨v, rfl, hm, hb⟩; obtain ⟨px, cx, rfl, h', hm'⟩ := h.made hb hm; clear h; clear hm)
          have hA := (Below.refl u1.heap.size u1).alloc (Nat.le_refl _) (.cells #[.slice px X.nodes.length cx, .int .i64 X.root] 26)
          have h := h'.more (.inr hm')
          have hbw := hb.trans (hA.mono hb.size)
          have hP1 := hP.belowL hbw
          have hW1 := hW.belowL hbw
          have tT1 := tT.below hbw
          have y0 := (hbw.cell (p := ⟨b, off + i * 2, none⟩) (cell_lt X0)).trans X0
          have y1 := (hbw.cell (p := ⟨b, off + i * 2 + 1, none⟩) (cell_lt X1)).trans X1
          have hP0 := fun g e => hP.1.lt g e
          have hW0 := fun g e => hW.1.lt g e
          have hss := hbw.size
          have hB0 := hB.size
          have HP0 := Lib.hid hP0
          have HW0 := Lib.hid hW0
          clear hP hW tT X0 X1 hB hA hb h' hm' hP0 hW0
          generalize u1.alloc _ = W1 at *
          generalize u1.heap.size = gX at *
          have hE1 := hE.below h.b
          refine wp_region_mono [Mop.val [] [] (fun _ => .slice (some ⟨b, off, none⟩) l.length cl), Mop.val [] [] (fun _ => .int .i64 i), Mop.val [0, 1] [0, 1] (fun _ => .pointer (some ⟨b, off + i * 2, none⟩)), Mop.val [2] [2] (fun _ => (.agg #[.slice pT T.nodes.length cT, .int .i64 T.root])), ⟨[3], [3], none, fun _ lo hi u w => W1.heap.size ≤ lo ∧ Ats lo hi w u PL⟩, Mop.val [] [] (fun _ => .slice (some ⟨b, off, none⟩) l.length cl), Mop.val [] [] (fun _ => .int .i64 i), Mop.val [5, 6] [5, 6] (fun _ => .pointer (some ⟨b, off + i * 2, none⟩)), Mop.val [7] [7] (fun _ => (.agg #[.slice pT T.nodes.length cT, .int .i64 T.root])), ⟨[8], [8], none, fun _ lo hi u w => W1.heap.size ≤ lo ∧ Ats lo hi w u WL⟩, Mop.val [4] [4] (fun x => x 4), Mop.val [9] [9] (fun x => x 9)] [([], [], none), ([], [], none), ([0, 1], [0, 1], none), ([2], [2], none), ([3], [3], none), ([], [], none), ([], [], none), ([5, 6], [5, 6], none), ([7], [7], none), ([8], [8], none), ([4], [4], none), ([9], [9], none)] [0, 1, 2, 3, 4, 5, 6, 7, 8, 9, 10, 11] [0, 1, 2, 3, 4, 5, 6, 7, 8, 9, 10, 11] (by kernel_rfl) (by kernel_rfl) rfl (by kernel_rfl) ⟨?ys0, ?ys1, ?ys2, ?ys3, ?ys4, ?ys5, ?ys6, ?ys7, ?ys8, ?ys9, ?ys10, ?ys11, trivial⟩ ?ygood ?yfin
          case ys0 =>
            refine MStep.mk rfl (fun x lo hi w hb hf K hK => ?_)
            simp only [putAll, Mop.val, List.getElem_toArray, List.getElem_cons_zero, Act.put, List.setIfInBounds_toArray, List.set_cons_zero, List.set_cons_succ] at hK ⊢
            go_simp
            exact hK.out _ _ (Mop.done_make rfl (Below.refl _ _) rfl)
          case ys1 =>
            refine MStep.mk rfl (fun x lo hi w hb hf K hK => ?_)
            simp only [putAll, Mop.val, List.getElem_toArray, List.getElem_cons_zero, List.getElem_cons_succ, Act.put, List.setIfInBounds_toArray, List.set_cons_zero, List.set_cons_succ] at hK ⊢
            go_simp
            exact hK.out _ _ (Mop.done_make rfl (Below.refl _ _) rfl)
          case ys2 =>
            refine MStep.mk rfl (fun x lo hi w hb hf K hK => ?_)
            simp only [putAll, mdst, Mop.val, List.getElem_toArray, List.getElem_cons_zero, List.getElem_cons_succ, List.getElem?_toArray, List.getElem?_cons_zero, List.getElem?_cons_succ, Option.bind_some, Act.put, List.setIfInBounds_toArray, List.set_cons_zero, List.set_cons_succ] at hK ⊢
            obtain ⟨f0, f1, _⟩ := hf
            replace f0 : x 0 = .slice (some ⟨b, off, none⟩) l.length cl := f0
            replace f1 : x 1 = .int .i64 i := f1
            simp only [f0, f1] at hK ⊢
            go_simp
            exact hK.out _ _ (Mop.done_make rfl (Below.refl _ _) rfl)
          case ys3 =>
            refine MStep.mk rfl (fun x lo hi w hb hf K hK => ?_)
            simp only [putAll, mdst, Mop.val, List.getElem_toArray, List.getElem_cons_zero, List.getElem_cons_succ, List.getElem?_toArray, List.getElem?_cons_zero, List.getElem?_cons_succ, Option.bind_some, Act.put, List.setIfInBounds_toArray, List.set_cons_zero, List.set_cons_succ] at hK ⊢
            obtain ⟨f2, _⟩ := hf
            replace f2 : x 2 = .pointer (some ⟨b, off + i * 2, none⟩) := f2
            have c0 := (hb.cell (p := ⟨b, off + i * 2, none⟩) (cell_lt y0)).trans y0
            have c1 := (hb.cell (p := ⟨b, off + i * 2 + 1, none⟩) (cell_lt y1)).trans y1
            simp only [f2] at hK ⊢
            go_simp
            exact hK.out _ _ (Mop.done_make rfl (Below.refl _ _) rfl)
          case ys4 =>
            refine MStep.mk rfl (fun x lo hi w hb hf K hK => ?_)
            simp only [putAll, mdst, List.getElem_toArray, List.getElem_cons_zero, List.getElem_cons_succ, List.getElem?_toArray, List.getElem?_cons_zero, List.getElem?_cons_succ, Option.bind_some, Act.put, List.setIfInBounds_toArray, List.set_cons_zero, List.set_cons_succ] at hK ⊢
            obtain ⟨f3, _⟩ := hf
            replace f3 : x 3 = (.agg #[.slice pT T.nodes.length cT, .int .i64 T.root]) := f3
            simp only [f3] at hK ⊢
            go_simp
            refine (kP _ _ (tT1.below hb) (hE1.below hb)).mono ?_
            rintro e w' ⟨v, L, rfl, hm, hlm, hb'⟩
            try go_simp
            exact hK.out _ _ (Mop.done_make rfl hb' ⟨hb.size, Ats.of hm hlm⟩)
          case ys5 =>
            refine MStep.mk rfl (fun x lo hi w hb hf K hK => ?_)
            simp only [putAll, Mop.val, List.getElem_toArray, List.getElem_cons_zero, List.getElem_cons_succ, Act.put, List.setIfInBounds_toArray, List.set_cons_zero, List.set_cons_succ] at hK ⊢
            go_simp
            exact hK.out _ _ (Mop.done_make rfl (Below.refl _ _) rfl)
          case ys6 =>
            refine MStep.mk rfl (fun x lo hi w hb hf K hK => ?_)
            simp only [putAll, Mop.val, List.getElem_toArray, List.getElem_cons_zero, List.getElem_cons_succ, Act.put, List.setIfInBounds_toArray, List.set_cons_zero, List.set_cons_succ] at hK ⊢
            go_simp
            exact hK.out _ _ (Mop.done_make rfl (Below.refl _ _) rfl)
          case ys7 =>
            refine MStep.mk rfl (fun x lo hi w hb hf K hK => ?_)
            simp only [putAll, mdst, Mop.val, List.getElem_toArray, List.getElem_cons_zero, List.getElem_cons_succ, List.getElem?_toArray, List.getElem?_cons_zero, List.getElem?_cons_succ, Option.bind_some, Act.put, List.setIfInBounds_toArray, List.set_cons_zero, List.set_cons_succ] at hK ⊢
            obtain ⟨f5, f6, _⟩ := hf
            replace f5 : x 5 = .slice (some ⟨b, off, none⟩) l.length cl := f5
            replace f6 : x 6 = .int .i64 i := f6
            simp only [f5, f6] at hK ⊢
            go_simp
            exact hK.out _ _ (Mop.done_make rfl (Below.refl _ _) rfl)
          case ys8 =>
            refine MStep.mk rfl (fun x lo hi w hb hf K hK => ?_)
            simp only [putAll, mdst, Mop.val, List.getElem_toArray, List.getElem_cons_zero, List.getElem_cons_succ, List.getElem?_toArray, List.getElem?_cons_zero, List.getElem?_cons_succ, Option.bind_some, Act.put, List.setIfInBounds_toArray, List.set_cons_zero, List.set_cons_succ] at hK ⊢
            obtain ⟨f7, _⟩ := hf
            replace f7 : x 7 = .pointer (some ⟨b, off + i * 2, none⟩) := f7
            have c0 := (hb.cell (p := ⟨b, off + i * 2, none⟩) (cell_lt y0)).trans y0
            have c1 := (hb.cell (p := ⟨b, off + i * 2 + 1, none⟩) (cell_lt y1)).trans y1
            simp only [f7] at hK ⊢
            go_simp
            exact hK.out _ _ (Mop.done_make rfl (Below.refl _ _) rfl)
          case ys9 =>
            refine MStep.mk rfl (fun x lo hi w hb hf K hK => ?_)
            simp only [putAll, mdst, List.getElem_toArray, List.getElem_cons_zero, List.getElem_cons_succ, List.getElem?_toArray, List.getElem?_cons_zero, List.getElem?_cons_succ, Option.bind_some, Act.put, List.setIfInBounds_toArray, List.set_cons_zero, List.set_cons_succ] at hK ⊢
            obtain ⟨f8, _⟩ := hf
            replace f8 : x 8 = (.agg #[.slice pT T.nodes.length cT, .int .i64 T.root]) := f8
            simp only [f8] at hK ⊢
            go_simp
            refine (kW _ _ (tT1.below hb) (hE1.below hb)).mono ?_
            rintro e w' ⟨v, L, rfl, hm, hlm, hb'⟩
            try go_simp
            exact hK.out _ _ (Mop.done_make rfl hb' ⟨hb.size, Ats.of hm hlm⟩)
          case ys10 =>
            refine MStep.mk rfl (fun x lo hi w hb hf K hK => ?_)
            simp only [putAll, mdst, Mop.val, List.getElem_toArray, List.getElem_cons_zero, List.getElem_cons_succ, List.getElem?_toArray, List.getElem?_cons_zero, List.getElem?_cons_succ, Option.bind_some, Act.put, List.setIfInBounds_toArray, List.set_cons_zero, List.set_cons_succ] at hK ⊢
            obtain ⟨f4, _⟩ := hf
            replace f4 : W1.heap.size ≤ lo 4 ∧ Ats (lo 4) (hi 4) w (x 4) PL := f4
            go_simp
            exact hK.out _ _ (Mop.done_make rfl (Below.refl _ _) rfl)
          case ys11 =>
            refine MStep.mk rfl (fun x lo hi w hb hf K hK => ?_)
            simp only [putAll, mdst, Mop.val, List.getElem_toArray, List.getElem_cons_zero, List.getElem_cons_succ, List.getElem?_toArray, List.getElem?_cons_zero, List.getElem?_cons_succ, Option.bind_some, Act.put, List.setIfInBounds_toArray, List.set_cons_zero, List.set_cons_succ] at hK ⊢
            obtain ⟨f9, _⟩ := hf
            replace f9 : W1.heap.size ≤ lo 9 ∧ Ats (lo 9) (hi 9) w (x 9) WL := f9
            go_simp
            exact hK.out _ _ (Mop.done_make rfl (Below.refl _ _) rfl)
          case ygood => exact ⟨Mop.Good.val (fun _ _ _ => rfl), Mop.Good.val (fun _ _ _ => rfl), Mop.Good.val (fun _ _ _ => rfl), Mop.Good.val (fun _ _ _ => rfl), ⟨fun _ _ _ _ _ _ _ h => h, fun _ _ _ _ _ _ h hl => ⟨h.1, h.2.like hl⟩⟩, Mop.Good.val (fun _ _ _ => rfl), Mop.Good.val (fun _ _ _ => rfl), Mop.Good.val (fun _ _ _ => rfl), Mop.Good.val (fun _ _ _ => rfl), ⟨fun _ _ _ _ _ _ _ h => h, fun _ _ _ _ _ _ h hl => ⟨h.1, h.2.like hl⟩⟩, Mop.Good.val (fun x y h => h 4 (by simp)), Mop.Good.val (fun x y h => h 9 (by simp)), trivial⟩
          case yfin =>
            intro x lo hi w' hb hf
            obtain ⟨-, -, -, -, f4, -, -, -, -, f9, f10, f11, -⟩ := hf
            obtain ⟨l4, f4⟩ : W1.heap.size ≤ lo 4 ∧ Ats (lo 4) (hi 4) w' (x 4) PL := f4
            obtain ⟨l9, f9⟩ : W1.heap.size ≤ lo 9 ∧ Ats (lo 9) (hi 9) w' (x 9) WL := f9
            replace f10 : x 10 = x 4 := f10
            replace f11 : x 11 = x 9 := f11
            obtain ⟨L4, m4, e4⟩ := f4.made
            obtain ⟨L9, m9, e9⟩ := f9.made
            simp only [putAll, mdst, List.getElem?_toArray, List.getElem?_cons_zero, List.getElem?_cons_succ, Option.bind_some, Act.put, List.setIfInBounds_toArray, List.set_cons_zero, List.set_cons_succ, f10, f11]
            clear f10 f11 f4 f9
            generalize x 4 = vp at *
            generalize x 9 = vw at *
            generalize lo 4 = a4 at *
            generalize lo 9 = a9 at *
            have h2 := h.below hb
            have hP2 := hP1.belowL hb
            have hW2 := hW1.belowL hb
            have hl4 : L4.length ≤ 400 := by have := congrArg List.length e4; rw [List.length_map] at this; omega
            have hl9 : L9.length ≤ 400 := by have := congrArg List.length e9; rw [List.length_map] at this; omega
            have hs2 := hb.size
            clear h hP1 hW1 tT1 y0 y1 hE1 kP kW kM
            generalize hgw : w' = W2 at *
            clear hgw hb hbw
            have hwW : w.heap.size ≤ wr.heap.size := hB0
            have hla4 : w.heap.size ≤ a4 := by omega
            have hla9 : w.heap.size ≤ a9 := by omega
            have sep9 : ∀ g, vP.ownBlock = some g → vw.ownBlock ≠ some g := fun g e1 e2 => by have := (HP0.out g e1).2; have := (m9.1.lt g e2).1; omega
            have hE2 := fun (W : World) (hb : Below w.heap.size w W) => hE.below hb
            have HE4 := Lib.hid e4
            have HE9 := Lib.hid e9
            clear e4 e9
            have s1 : True := trivial
            have s2 : True := trivial
            have s3 : True := trivial
            have s4 : True := trivial
            have s5 : True := trivial
            have s6 : True := trivial
            go_wp2_with (first
              | (have := s1; go_at_call 46; refine (kSp _ _ (by rw [← HE4.out]; exact m4.trees) (hE2 _ h2.b)).mono ?_; rintro e u2 ⟨v, rfl, hm, hb⟩; obtain ⟨pa, ca, rfl, h', hm'⟩ := h2.made hb hm; have hbw := hb.trans (((Below.refl u2.heap.size u2).alloc (Nat.le_refl _) (.cells #[.slice pa X.nodes.length ca, .int .i64 X.root] 26)).mono hb.size); have h3 := h'.more (.inr hm'); replace hP2 := hP2.belowL hbw; replace hW2 := hW2.belowL hbw; replace m4 := m4.belowL hbw; replace m9 := m9.belowL hbw; clear h2 h' hm' hm hb hbw s1)
              | (have := s2; go_at_call 48; refine (kCw _ _ (by rw [← HE9.out]; exact m9.trees) (hE2 _ h3.b)).mono ?_; rintro e u3 ⟨v, rfl, hm, hb⟩; obtain ⟨pb, cb, rfl, h', hm'⟩ := h3.made hb hm; have hbw := hb.trans (((Below.refl u3.heap.size u3).alloc (Nat.le_refl _) (.cells #[.slice pb X.nodes.length cb, .int .i64 X.root] 26)).mono hb.size); have h4 := h'.more (.inr hm'); replace hP2 := hP2.belowL hbw; replace hW2 := hW2.belowL hbw; replace m4 := m4.belowL hbw; replace m9 := m9.belowL hbw; clear h3 h' hm' hm hb hbw s2; obtain ⟨qa0, qa1⟩ := h4.cells 1 rfl; obtain ⟨qx0, qx1⟩ := h4.cells 2 rfl)
              | (have := s3; go_at_call 62; refine (is_self _ _ _ _ okX' (h4.tree 1 rfl) (h4.tree 2 rfl)).mono ?_; rintro e z1 ⟨rfl, hb⟩; clear s3 qa0 qa1 qx0 qx1; replace h4 := h4.below hb; replace hP2 := hP2.belowL hb; replace hW2 := hW2.belowL hb; replace m4 := m4.belowL hb; replace m9 := m9.belowL hb; clear hb; obtain ⟨qb0, qb1⟩ := h4.cells 0 rfl; obtain ⟨qx0, qx1⟩ := h4.cells 2 rfl)
              | (have := s4; go_at_call 62; refine (is_self _ _ _ _ okX' (h4.tree 0 rfl) (h4.tree 2 rfl)).mono ?_; rintro e z2 ⟨rfl, hb⟩; clear s4 qb0 qb1 qx0 qx1; replace h4 := h4.below hb; replace hP2 := hP2.belowL hb; replace hW2 := hW2.belowL hb; replace m4 := m4.belowL hb; replace m9 := m9.belowL hb; clear hb; have hz2 := h4.b.size)
              | (have := s5; at_builtin; refine wpList_append_trees rfl _ _ rfl rfl rfl hP2 m4 hla4 (by omega) hz2 ?_; intro v' W6 hP6 hg6 hk6; clear s5; have hW6 := hW2.grow hP2 hg6 HSEP.out; have m96 := m9.grow hP2 hg6 sep9; have B6 := h4.b.grown hg6 hz2 (fun k hk => (hP2.1.lt k hk).1); have hz6 := B6.size; have hg6s := hg6.size; clear h4 m9)
              | (have := s6; at_builtin; refine wpList_append_trees rfl _ _ rfl rfl rfl hW6 m96 hla9 (by omega) hz6 ?_; intro v'' W7 hW7 hg7 hk7; clear s6)
              )
            have sepW : ∀ g, vW.ownBlock = some g → v'.ownBlock ≠ some g := fun g e1 e2 => by
              rcases hk6 with hk | hk
              · exact HSEP.out g (hk.symm.trans e2) e1
              · have := (hW2.1.lt g e1).2
                rw [hk] at e2
                have := Option.some.inj e2
                omega
            have hP7 := hP6.grow hW6 hg7 sepW
            have B7 := B6.grown hg7 hz6 (fun k hk => (hW6.1.lt k hk).1)
            refine ⟨⟨i + 1, LP ++ L4, LW ++ L9, by go_num, by omega, ?_, hP7, ?_, hW7, ?_, ?_, B7⟩, by simp [intOf]; omega⟩
            · rw [HTI.out, List.all_append, HRA.out, List.all_cons, HR.out]; rfl
            · rw [List.map_append, HPM.out, HE4.out, HTI.out, List.flatMap_append, HPL.out]; simp
            · rw [List.map_append, HWM.out, HE9.out, HTI.out, List.flatMap_append, HWL.out]; simp
            · intro g e1 e2
              rcases hk7 with hk | hk
              · exact sepW g (hk.symm.trans e2) e1
              · have := (hP6.1.lt g e1).2
                rw [hk] at e2
                have := Option.some.inj e2
                omega
      · obtain rfl : i = l.length := by omega
        rw [List.take_length] at hra hPm hWm
        have hf := trees_fit hra
        have h : By w [] wr := ⟨hB, fun i x hx => (by simp at hx), fun i j x y hx => (by simp at hx)⟩
        have gs := seqR_good hf
        have gc := choR_good hf
        have zs := seqR_size (l.map tree)
        have zc := choR_size (l.map tree)
        rw [sizes_totalB hra] at zs zc
        rw [(seq_eq l).1, (seq_eq l).2.2 hra, hra] at kS
        rw [(cho_eq l).1, (cho_eq l).2.2 hra, hra] at kC
        have okS := ok_fit gs.1 (by omega)
        have okC := ok_fit gc.1 (by omega)
        have lS : (arOf (seqR (l.map tree))).nodes.length = size (seqR (l.map tree)) := flat_length _
        have lC : (arOf (choR (l.map tree))).nodes.length = size (choR (l.map tree)) := flat_length _
        have kPS := fun (v : Value) (W : World) (hv : Tree W v (arOf (seqR (l.map tree)))) (h2 : Env W) => parts_any v _ W hv okS (by omega) h2
        have kWC := fun (v : Value) (W : World) (hv : Tree W v (arOf (choR (l.map tree)))) (h2 : Env W) => ways_any v _ W hv okC (by omega) h2
        rw [partsL_eq (arOf_rightB gs.1), tree_arOf] at kPS
        rw [waysL_eq (arOf_rightB gc.1), tree_arOf] at kWC
        have oP : OkL ((partsR (seqR (l.map tree))).map arOf) := okL_fit (partsR_good gs.1).1 (by have := (partsR_good gs.1).2; omega)
        have oW : OkL ((waysR (choR (l.map tree))).map arOf) := okL_fit (waysR_good gc.1).1 (by have := (waysR_good gc.1).2; omega)
        rw [parts_flat hra] at hPm
        have kXP := fun (v1 v2 : Value) (W : World) (h1 : Trees W v1 ((partsR (seqR (l.map tree))).map arOf)) (h2 : Trees W v2 ((partsR (seqR (l.map tree))).map arOf)) => exact5_any v1 v2 _ _ W h1 h2 oP.ok oP.len oP.len
        have kXW := fun (v1 v2 : Value) (W : World) (h1 : Trees W v1 ((waysR (choR (l.map tree))).map arOf)) (h2 : Trees W v2 ((waysR (choR (l.map tree))).map arOf)) => exact5_any v1 v2 _ _ W h1 h2 oW.ok oW.len oW.len
        simp only [exactL_self] at kXP kXW
        have hWm2 : ¬ ((l.length : Int) = 0) → LW.map Prod.snd = (waysR (choR (l.map tree))).map arOf := fun h0 => by
          rw [hWm]
          exact ways_flat hra fun e => h0 (by rw [e]; rfl)
        obtain ⟨S, hS⟩ : ∃ X, X = arOf (seqR (l.map tree)) := ⟨_, rfl⟩
        obtain ⟨C, hC⟩ : ∃ X, X = arOf (choR (l.map tree)) := ⟨_, rfl⟩
        obtain ⟨PS, hPS⟩ : ∃ X, X = (partsR (seqR (l.map tree))).map arOf := ⟨_, rfl⟩
        obtain ⟨WC, hWC⟩ : ∃ X, X = (waysR (choR (l.map tree))).map arOf := ⟨_, rfl⟩
        rw [← hS] at kS kPS
        rw [← hC] at kC kWC
        rw [← hPS] at kPS kXP hPm
        rw [← hWC] at kWC kXW hWm2
        have HPm := Lib.hid hPm
        have HWm := Lib.hid hWm2
        clear hS hC hPS hWC hPm hWm hWm2 oP oW lS lC okS okC zs zc gs gc hf hra okl nl htot hsep hlt
        have s1 : True := trivial
        have s2 : True := trivial
        have s3 : True := trivial
        have s4 : True := trivial
        have s5 : True := trivial
        have s6 : True := trivial
        by_cases h0 : (l.length : Int) = 0
        · have d0 : decide ((l.length : Int) = 0) = true := by simpa using h0
          have d1 : ((l.length : Int) == 0) = true := by simpa using h0
          clear h0
          go_wp2_with (first
            | (have := s1; go_at_call 46; refine (kS _ (hl.below h.b) (hE.below h.b)).mono ?_; rintro e u2 ⟨v, rfl, hm, hb⟩; obtain ⟨ps, cs, rfl, h', hm'⟩ := h.made hb hm; have hbw := hb.trans (((Below.refl u2.heap.size u2).alloc (Nat.le_refl _) (.cells #[.slice ps S.nodes.length cs, .int .i64 S.root] 26)).mono hb.size); have h1 := h'.more (.inr hm'); replace hP := hP.belowL hbw; replace hW := hW.belowL hbw; clear h h' hm' hm hb hbw s1)
            | (have := s2; go_at_call 48; refine (kC _ (hl.below h1.b) (hE.below h1.b)).mono ?_; rintro e u3 ⟨v, rfl, hm, hb⟩; obtain ⟨pc, cc, rfl, h', hm'⟩ := h1.made hb hm; have hbw := hb.trans (((Below.refl u3.heap.size u3).alloc (Nat.le_refl _) (.cells #[.slice pc C.nodes.length cc, .int .i64 C.root] 26)).mono hb.size); have h3 := h'.more (.inr hm'); replace hP := hP.belowL hbw; replace hW := hW.belowL hbw; clear h1 h' hm' hm hb hbw s2; obtain ⟨q0, q1⟩ := h3.cells 1 rfl)
            | (have := s3; go_at_call 63; refine (kPS _ _ (h3.tree 1 rfl) (hE.below h3.b)).mono ?_; rintro e zs3 ⟨v, LA, rfl, mLA, eLA, hb⟩; replace h3 := h3.below hb; replace hP := hP.belowL hb; replace hW := hW.belowL hb; have HLA := Lib.hid eLA; clear hb s3 q0 q1 eLA)
            | (have := s4; go_at_call 50; refine (kXP _ _ _ (by rw [← HLA.out]; exact mLA.trees) (by rw [← HPm.out]; exact hP.trees)).mono ?_; rintro e zs4 ⟨rfl, hb⟩; replace h3 := h3.below hb; replace hW := hW.belowL hb; clear hb s4 mLA)
            )
          go_ret
          exact ⟨rfl, h3.b⟩
        · have hw0 := HWm.out h0
          have d1 : ((l.length : Int) == 0) = false := by simpa using h0
          have HW0 := Lib.hid hw0
          clear h0 hw0
          go_wp2_with (first
            | (have := s1; go_at_call 46; refine (kS _ (hl.below h.b) (hE.below h.b)).mono ?_; rintro e u2 ⟨v, rfl, hm, hb⟩; obtain ⟨ps, cs, rfl, h', hm'⟩ := h.made hb hm; have hbw := hb.trans (((Below.refl u2.heap.size u2).alloc (Nat.le_refl _) (.cells #[.slice ps S.nodes.length cs, .int .i64 S.root] 26)).mono hb.size); have h1 := h'.more (.inr hm'); replace hP := hP.belowL hbw; replace hW := hW.belowL hbw; clear h h' hm' hm hb hbw s1)
            | (have := s2; go_at_call 48; refine (kC _ (hl.below h1.b) (hE.below h1.b)).mono ?_; rintro e u3 ⟨v, rfl, hm, hb⟩; obtain ⟨pc, cc, rfl, h', hm'⟩ := h1.made hb hm; have hbw := hb.trans (((Below.refl u3.heap.size u3).alloc (Nat.le_refl _) (.cells #[.slice pc C.nodes.length cc, .int .i64 C.root] 26)).mono hb.size); have h3 := h'.more (.inr hm'); replace hP := hP.belowL hbw; replace hW := hW.belowL hbw; clear h1 h' hm' hm hb hbw s2; obtain ⟨q0, q1⟩ := h3.cells 1 rfl)
            | (have := s3; go_at_call 63; refine (kPS _ _ (h3.tree 1 rfl) (hE.below h3.b)).mono ?_; rintro e zs3 ⟨v, LA, rfl, mLA, eLA, hb⟩; replace h3 := h3.below hb; replace hP := hP.belowL hb; replace hW := hW.belowL hb; have HLA := Lib.hid eLA; clear hb s3 q0 q1 eLA)
            | (have := s4; go_at_call 50; refine (kXP _ _ _ (by rw [← HLA.out]; exact mLA.trees) (by rw [← HPm.out]; exact hP.trees)).mono ?_; rintro e zs4 ⟨rfl, hb⟩; replace h3 := h3.below hb; replace hW := hW.belowL hb; clear hb s4 mLA; clear hP; obtain ⟨q0, q1⟩ := h3.cells 0 rfl)
            | (have := s5; go_at_call 64; refine (kWC _ _ (h3.tree 0 rfl) (hE.below h3.b)).mono ?_; rintro e zs5 ⟨v, LB, rfl, mLB, eLB, hb⟩; replace h3 := h3.below hb; replace hW := hW.belowL hb; have HLB := Lib.hid eLB; clear hb s5 q0 q1 eLB)
            | (have := s6; go_at_call 50; refine (kXW _ _ _ (by rw [← HLB.out]; exact mLB.trees) (by rw [← HW0.out]; exact hW.trees)).mono ?_; rintro e zs6 ⟨rfl, hb⟩; replace h3 := h3.below hb; replace hW := hW.belowL hb; clear hb s6 mLB)
            )
          go_ret
          exact ⟨rfl, h3.b⟩
end Go.Proofs.YtpkjfdgjmcphmaaDoor

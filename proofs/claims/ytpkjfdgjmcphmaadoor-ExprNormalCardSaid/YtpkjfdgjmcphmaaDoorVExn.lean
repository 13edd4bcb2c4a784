/- bonsailaw05: ExprNormal. -/
import Derived.Test.YtpkjfdgjmcphmaaDoorVExn0
namespace Go.Proofs.YtpkjfdgjmcphmaaDoor
open Go.RowKit Bset Tm

set_option maxRecDepth 100000 in
set_option maxHeartbeats 16000000 in
theorem exprNormal_walk (vt vl : Value) (t : Ar) (l : List Ar) (w : World) (ht : Tree w vt t) (hl : Trees w vl l) (hwt : t.nodes.length ≤ 9223372036854775807 ∧ ∀ n ∈ t.nodes, okX n) (hll : l.length ≤ 9223372036854775807) (hwl : ∀ t ∈ l, t.nodes.length ≤ 9223372036854775807 ∧ ∀ n ∈ t.nodes, okX n) (hE : Env w) :
    Calls Tryd.prog 7 #[vt, vl] w fun e w' => e = .returned (.bool true) ∧ Below w.heap.size w w' := by
  obtain ⟨nvt, rfl, hnt⟩ := ht
  obtain ⟨pt, ct, rfl⟩ := hnt.len
  obtain ⟨pl, cl, rfl⟩ := hl.len
  have h := (By.start w).more (T := t) (.inl ⟨_, rfl, hnt⟩)
  obtain ⟨qt0, qt1⟩ := h.cells 0 rfl
  have hts := trees_oneG (h.tree 0 rfl) rfl
  simp only [World.size_alloc] at hts
  have aw := fun (W : World) (h2 : Env W) => awake5_any W h2
  go_enter Tryd.func7, Tryd.ntmps7
  go_wp2_with (fail)
  refine (large_any _ [t] _ hts (by simp) (fun x hx => ?_)).mono ?_
  · obtain rfl := List.mem_singleton.1 hx
    exact ⟨hwt.1, fun n hn => ⟨(hwt.2 n hn).2.2, (hwt.2 n hn).2.1⟩⟩
  rintro e w1 ⟨bl, rfl, hsm, hb1⟩
  replace h := (h.alloc _).below hb1
  clear hts hb1 qt0 qt1
  cases bl with
  | true =>
    go_wp2_with (go_at_call 44; refine (aw _ (hE.below h.b)).mono ?_; rintro e w4 ⟨rfl, hb4⟩; have b4 := (h.below hb4).b)
    go_ret
    exact ⟨rfl, b4⟩
  | false =>
    have hsm' := (hsm rfl).2 t (by simp)
    have ft := few_okA hsm' hwt.2
    have st := hsm'.1
    clear hsm hsm' hwt hnt
    go_wp2_with (fail)
    refine (large_any _ l _ (hl.below h.b) hll (fun x hx => ⟨(hwl x hx).1, fun n hn => ⟨((hwl x hx).2 n hn).2.2, ((hwl x hx).2 n hn).2.1⟩⟩)).mono ?_
    rintro e w2 ⟨bl, rfl, hsm, hb1⟩
    replace h := h.below hb1
    clear hb1
    cases bl with
    | true =>
      go_wp2_with (go_at_call 44; refine (aw _ (hE.below h.b)).mono ?_; rintro e w4 ⟨rfl, hb4⟩; have b4 := (h.below hb4).b)
      go_ret
      exact ⟨rfl, b4⟩
    | false =>
      obtain ⟨hlen, hfew⟩ := hsm rfl
      have okl : ∀ x ∈ l, OkA x.nodes := fun x hx => few_okA (hfew x hx) (hwl x hx).2
      have nl : ∀ x ∈ l, x.nodes.length ≤ 400 := fun x hx => (hfew x hx).1
      have hL := few_okL okl nl hlen
      have G0 := goods_make st
      have G1 := goods_seq nl hlen
      have G2 := goods_cho nl hlen
      have kM := fun (W : World) (hv : Tree W (treeV (.slice pt t.nodes.length ct) t.root) t) (h2 : Env W) => make_any _ t W hv ft (by omega) h2
      have kR := fun (W : World) (hv : Tree W (treeV (.slice pt t.nodes.length ct) t.root) t) (h2 : Env W) => right_at' _ t W hv ft h2
      have kN := fun (W : World) (hv : Tree W (treeV (.slice pt t.nodes.length ct) t.root) t) (h2 : Env W) => normal_any _ t W hv ft h2
      have kS := fun (W : World) (hv : Trees W (.slice pl l.length cl) l) (h2 : Env W) => seq_any _ l W hv hL h2
      have kC := fun (W : World) (hv : Trees W (.slice pl l.length cl) l) (h2 : Env W) => choice_any _ l W hv hL h2
      have okX0 : OkA (madeT t).nodes := by
        rcases G0 with ⟨-, e⟩ | ⟨-, u, e, hf, -, hs⟩
        · rw [e]; exact okA_iff.2 ⟨by simp [noAr], fun n hn => by cases hn⟩
        · exact good_ok e hf hs
      have kSm := fun (v1 : Value) (W : World) (h1 : Tree W v1 (madeT t)) (hv : Tree W (treeV (.slice pt t.nodes.length ct) t.root) t) (h2 : Env W) => same_any v1 _ (madeT t) t W h1 hv okX0 ft h2
      have hsame := fun h1 h2 => same_made (t := t) h1 h2
      obtain ⟨AR, hAR⟩ : ∃ b, b = l.all rightB := ⟨_, rfl⟩
      rw [(seq_eq l).1, ← hAR] at kS G1
      rw [(cho_eq l).1, ← hAR] at kC G2
      obtain ⟨X, hX⟩ : ∃ X, X = madeT t := ⟨_, rfl⟩
      obtain ⟨Y, hY⟩ : ∃ X, X = seqT l := ⟨_, rfl⟩
      obtain ⟨Z, hZ⟩ : ∃ X, X = choT l := ⟨_, rfl⟩
      obtain ⟨B, hB⟩ : ∃ b, b = rightB t := ⟨_, rfl⟩
      rw [← hX, ← hB] at kM G0
      rw [← hY] at kS G1
      rw [← hZ] at kC G2
      rw [← hB] at kR kN hsame
      rw [← hX] at kSm hsame okX0
      clear hX hY hZ hsm hwl hll hfew nl hL ft st hB
      have HG0 := Lib.hid G0
      have HG1 := Lib.hid G1
      have HG2 := Lib.hid G2
      have HAR := Lib.hid hAR
      clear G0 G1 G2 hAR
      obtain ⟨NB, hNB⟩ : ∃ b, b = nmlA t.nodes := ⟨_, rfl⟩
      rw [← hNB] at kN hsame
      clear hNB
      cases hBN : (B && NB) with
      | true =>
        rw [hBN] at kN
        rw [Bool.and_eq_true] at hBN
        obtain ⟨hB1, hN1⟩ := hBN
        rw [hsame hB1 hN1] at kSm
        clear hsame hB1 hN1 okX0
        have s1 : True := trivial
        have s2 : True := trivial
        have s3 : True := trivial
        have s4 : True := trivial
        have s5 : True := trivial
        have s6 : True := trivial
        go_wp2_with (first
          | (go_at_call 44; refine (aw _ (hE.below h.b)).mono ?_; rintro e w3 ⟨rfl, hb2⟩; replace h := h.below hb2; clear hb2 aw; obtain ⟨qt0, qt1⟩ := h.cells 0 rfl)
          | (go_at_call 60; have := s1; refine (kM _ (h.tree 0 rfl) (hE.below h.b)).mono ?_; rintro e ux ⟨v, rfl, hm, hb⟩; obtain ⟨px, cx, rfl, h', hm'⟩ := h.made hb hm; clear h s1 qt0 qt1; have h := h'.more (.inr hm'); clear h' hm' hm hb; obtain ⟨qt0, qt1⟩ := h.cells 1 rfl)
          | (go_at_call 18; have := s2; refine (kR _ (h.tree 1 rfl) (hE.below h.b)).mono ?_; rintro e zs2 ⟨rfl, hb⟩; clear s2 qt0 qt1; replace h := h.below hb; clear hb; obtain ⟨qt0, qt1⟩ := h.cells 1 rfl)
          | (go_at_call 61; have := s3; refine (kN _ (h.tree 1 rfl) (hE.below h.b)).mono ?_; rintro e zs3 ⟨rfl, hb⟩; clear s3 qt0 qt1; replace h := h.below hb; clear hb; obtain ⟨qx0, qx1⟩ := h.cells 0 rfl; obtain ⟨qt0, qt1⟩ := h.cells 1 rfl)
          | (go_at_call 26; have := s4; refine (kSm _ _ (h.tree 0 rfl) (h.tree 1 rfl) (hE.below h.b)).mono ?_; rintro e zs4 ⟨rfl, hb⟩; clear s4 qx0 qx1 qt0 qt1; replace h := h.below hb; clear hb)
          | (go_at_call 46; have := s5; refine (kS _ (hl.below h.b) (hE.below h.b)).mono ?_; rintro e uy ⟨v, rfl, hm, hb⟩; obtain ⟨py, cy, rfl, h', hm'⟩ := h.made hb hm; clear h s5 ; have h := h'.more (.inr hm'); clear h' hm' hm hb)
          | (go_at_call 48; have := s6; refine (kC _ (hl.below h.b) (hE.below h.b)).mono ?_; rintro e uz ⟨v, rfl, hm, hb⟩; obtain ⟨pz, cz, rfl, h', hm'⟩ := h.made hb hm; clear h s6 ; have h := h'.more (.inr hm'); clear h' hm' hm hb)
          )
        generalize hgz : uz.heap.size = gz at *
        clear hgz
        generalize hgy : uy.heap.size = gy at *
        clear hgy
        generalize hgx : ux.heap.size = gx at *
        clear hgx
        generalize uz.alloc _ = W1 at *
        go_loopw [12, 11] (fun v12 v11 W => ∃ i : Nat, v12 = .int .i64 i ∧ v11 = .bool ((l.take i).all rightB) ∧ i ≤ l.length ∧ By w [(gz, .slice pz Z.nodes.length cz, Z), (gy, .slice py Y.nodes.length cy, Y), (gx, .slice px X.nodes.length cx, X), (w.heap.size, .slice pt t.nodes.length ct, t)] W) (fun v _ _ => l.length - (intOf v).toNat)
        case atStart => exact ⟨0, rfl, rfl, Nat.zero_le _, h⟩
        case round =>
          clear h
          obtain ⟨i, rfl, rfl, hiL, h⟩ := hrel
          by_cases hlt : i < l.length
          · obtain ⟨b, off, nv, rfl, X0, X1, hNU⟩ := (hl.below h.b).at hlt
            have hti : (l.take (i + 1)).all rightB = ((l.take i).all rightB && rightB l[i]) := by rw [List.take_succ_eq_append_getElem hlt, List.all_append]; simp
            have hoki := okl _ (List.getElem_mem hlt)
            have kRi := fun (W : World) (hv : Tree W (treeV nv l[i].root) l[i]) (h2 : Env W) => right_at' _ l[i] W hv hoki h2
            obtain ⟨U, hU⟩ : ∃ U, U = l[i] := ⟨_, rfl⟩
            rw [← hU] at X1 hNU hti hoki kRi
            obtain ⟨c1, hc1⟩ : ∃ b, b = (l.take i).all rightB := ⟨_, rfl⟩
            rw [← hc1] at hti ⊢
            have HT := Lib.hid hti
            clear hti hU hc1 hoki
            have hi0 : (0 : Int) ≤ (i : Int) := by omega
            have hi1 : (i : Int) < (l.length : Int) := by omega
            have hwi : IntKind.i64.wrap ((i : Int) + 1) = ((i + 1 : Nat) : Int) := by rw [IntWalk.i64_in _ (by omega)]; omega
            cases c1 with
            | true =>
              go_wp2_with (go_at_call 18; refine (kRi _ ⟨_, rfl, hNU⟩ (hE.below h.b)).mono ?_; rintro e zr ⟨rfl, hb⟩; replace h := h.below hb; clear hb X0 X1 hNU)
              exact ⟨⟨i + 1, by go_num, by rw [HT.out]; rfl, by omega, h⟩, by simp [intOf]; omega⟩
            | false =>
              go_wp2
              exact ⟨⟨i + 1, by go_num, by rw [HT.out]; rfl, by omega, h⟩, by simp [intOf]; omega⟩
          · obtain rfl : i = l.length := by omega
            rw [List.take_length, ← HAR.out]
            clear hlt hiL kS kC kM kR kN okl HAR
            obtain ⟨qx0, qx1⟩ := h.cells 2 rfl; obtain ⟨qy0, qy1⟩ := h.cells 1 rfl; obtain ⟨qz0, qz1⟩ := h.cells 0 rfl
            have k0 := h.alloc (.cells #[.slice px X.nodes.length cx, .int .i64 X.root, .bool B, .slice py Y.nodes.length cy, .int .i64 Y.root, .bool AR, .slice pz Z.nodes.length cz, .int .i64 Z.root, .bool AR] 61)
            have kA := Cl.new wr 61 #[.slice px X.nodes.length cx, .int .i64 X.root, .bool B, .slice py Y.nodes.length cy, .int .i64 Y.root, .bool AR, .slice pz Z.nodes.length cz, .int .i64 Z.root, .bool AR]
            go_wp2
            clear h qx0 qx1 qy0 qy1 qz0 qz1
            generalize wr.alloc _ = W2 at *
            generalize wr.heap.size = gA at *
            go_loopw [91] (fun v W => ∃ i : Nat, v = .int .i64 i ∧ i ≤ 3 ∧ By w [(gz, .slice pz Z.nodes.length cz, Z), (gy, .slice py Y.nodes.length cy, Y), (gx, .slice px X.nodes.length cx, X), (w.heap.size, .slice pt t.nodes.length ct, t)] W ∧ Cl W gA 61 #[.slice px X.nodes.length cx, .int .i64 X.root, .bool B, .slice py Y.nodes.length cy, .int .i64 Y.root, .bool AR, .slice pz Z.nodes.length cz, .int .i64 Z.root, .bool AR]) (fun v _ => 3 - (intOf v).toNat)
            case atStart => exact ⟨0, rfl, by omega, k0, kA⟩
            case round =>
              clear k0 kA
              obtain ⟨i, rfl, hi3, h, kA⟩ := hrel
              by_cases hlt : i < 3
              · obtain ⟨p, c, T, O, e0, e1, e2, hTr, hG⟩ : ∃ p c T O, wr.cell? ⟨gA, i * 3, none⟩ = some (.slice p T.nodes.length c) ∧ wr.cell? ⟨gA, i * 3 + 1, none⟩ = some (.int .i64 T.root) ∧ wr.cell? ⟨gA, i * 3 + 2, none⟩ = some (.bool O) ∧ Tree wr (treeV (.slice p T.nodes.length c) T.root) T ∧ Goods O T := by
                  have hi012 : i = 0 ∨ i = 1 ∨ i = 2 := by omega
                  rcases hi012 with rfl | rfl | rfl
                  · exact ⟨_, _, X, B, kA.cell 0, kA.cell 1, kA.cell 2, h.tree 2 rfl, HG0.out⟩
                  · exact ⟨_, _, Y, AR, kA.cell 3, kA.cell 4, kA.cell 5, h.tree 1 rfl, HG1.out⟩
                  · exact ⟨_, _, Z, AR, kA.cell 6, kA.cell 7, kA.cell 8, h.tree 0 rfl, HG2.out⟩
                have hi0 : (0 : Int) ≤ (i : Int) := by omega
                have hi1 : (i : Int) < 3 := by omega
                have hwi : IntKind.i64.wrap ((i : Int) + 1) = ((i + 1 : Nat) : Int) := by rw [IntWalk.i64_in _ (by omega)]; omega
                have b1 := (Below.refl wr.heap.size wr).alloc (Nat.le_refl _) (.cells #[.slice p T.nodes.length c, .int .i64 T.root, .bool O] 61)
                have h1 := h.below b1
                have kA1 := kA.below b1 kA.lt
                have hTr1 := hTr.below b1
                have k14 := Cl.new wr 61 #[.slice p T.nodes.length c, .int .i64 T.root, .bool O]
                rcases hG with ⟨rfl, hT0⟩ | ⟨rfl, u, hTu, hfu, hnu, hsu⟩
                · have hn0 : T.nodes.length = 0 := by rw [hT0]; rfl
                  have hgt : ¬ ((0 : Int) < (T.nodes.length : Int)) := by omega
                  clear hT0 hn0
                  go_wp2
                  exact ⟨⟨i + 1, by go_num, by omega, h1, kA1⟩, by simp [intOf]; omega⟩
                · have okT := good_ok hTu hfu hsu
                  have cM := fun (v : Value) (W : World) (hv : Tree W v T) (h2 : Env W) => good_make v hTu hfu hnu hsu W hv h2
                  have cR := fun (v : Value) (W : World) (hv : Tree W v T) (h2 : Env W) => good_right v hTu hfu hsu W hv h2
                  have cN := fun (v : Value) (W : World) (hv : Tree W v T) (h2 : Env W) => good_normal v hTu hfu hnu hsu W hv h2
                  have cC := fun (v : Value) (W : World) (hv : Tree W v T) (h2 : Env W) => good_clean v hTu hfu hsu W hv h2
                  clear hTu hfu hnu hsu h kA hTr
                  obtain ⟨⟨m0, m1, m2⟩, mf⟩ := k14.three
                  go_wp2_with (go_at_call 60; refine (cM _ _ hTr1 (hE.below h1.b)).mono ?_; rintro e u9 ⟨v, rfl, hm, hb⟩; clear m0 m1 m2 mf; obtain ⟨p9, c9, rfl, h', hm'⟩ := h1.made hb hm; have kA9 := kA1.below hb kA1.lt; have k9 := k14.below hb k14.lt; have t9 := hTr1.below hb; clear h1 kA1 k14 hTr1 b1 hm hb)
                  have hA := (Below.refl u9.heap.size u9).alloc (Nat.le_refl _) (.cells #[.slice p9 T.nodes.length c9, .int .i64 T.root] 26)
                  have h := h'.more (.inr hm')
                  have kA := kA9.below hA kA9.lt
                  have k14 := k9.below hA k9.lt
                  have tT := t9.below hA
                  have tM := h.tree 0 rfl
                  obtain ⟨q150, q151⟩ := h.cells 0 rfl
                  obtain ⟨⟨m0, m1, m2⟩, mf⟩ := k14.three
                  replace h := h'.below hA
                  clear h' hm' kA9 k9 t9 hA mf
                  generalize u9.alloc _ = W9 at *
                  generalize u9.heap.size = g15 at *
                  generalize wr.heap.size = g14 at *
                  have hE9 := hE.below h.b
                  refine wp_region_mono [Mop.val [] [] (fun _ => .pointer (some ⟨g14, 0, none⟩)), Mop.val [0] [0] (fun _ => (.agg #[.slice p T.nodes.length c, .int .i64 T.root])), Mop.val [1] [1] (fun _ => .bool true), Mop.val [2] [2] (fun _ => .bool false), Mop.val [3] [3] (fun _ => .bool false), Mop.val [4] [4] (fun _ => .pointer (some ⟨g14, 0, none⟩)), Mop.val [4, 5] [4, 5] (fun _ => (.agg #[.slice p T.nodes.length c, .int .i64 T.root])), Mop.val [4, 6] [4, 6] (fun _ => .bool true), Mop.val [4, 7] [4, 7] (fun _ => .bool false), Mop.val [4, 8] [4, 8] (fun _ => .bool false), Mop.val [9] [9] (fun _ => .bool false), Mop.val [10] [10] (fun _ => .pointer (some ⟨g14, 0, none⟩)), Mop.val [10, 11] [10, 11] (fun _ => (.agg #[.slice p T.nodes.length c, .int .i64 T.root])), ⟨[10, 12], [10, 12], none, fun _ lo hi u w => TreeAt lo hi w u T⟩, Mop.val [10] [10] (fun _ => .pointer (some ⟨g14, 0, none⟩)), Mop.val [10, 14] [10, 14] (fun _ => (.agg #[.slice p T.nodes.length c, .int .i64 T.root])), Mop.val [10, 13, 15] [10, 13, 15] (fun _ => .bool true), Mop.val [10, 16] [10, 16] (fun _ => .bool false), Mop.val [10, 17] [10, 17] (fun _ => .bool false), Mop.val [18] [18] (fun _ => .bool false), Mop.val [19] [19] (fun _ => (.agg #[.slice p9 T.nodes.length c9, .int .i64 T.root])), Mop.val [19] [19] (fun _ => .bool true), Mop.val [19] [19] (fun _ => .pointer (some ⟨g14, 0, none⟩)), Mop.val [19, 22] [19, 22] (fun _ => (.agg #[.slice p T.nodes.length c, .int .i64 T.root])), Mop.val [19, 20, 21, 23] [19, 20, 21, 23] (fun _ => .bool true), Mop.val [19, 24] [19, 24] (fun _ => .bool false), Mop.val [19, 25] [19, 25] (fun _ => .bool false)] [([], [], none), ([0], [0], none), ([1], [1], none), ([2], [2], none), ([3], [3], none), ([4], [4], none), ([4, 5], [4, 5], none), ([4, 6], [4, 6], none), ([4, 7], [4, 7], none), ([4, 8], [4, 8], none), ([9], [9], none), ([10], [10], none), ([10, 11], [10, 11], none), ([10, 12], [10, 12], none), ([10], [10], none), ([10, 14], [10, 14], none), ([10, 13, 15], [10, 13, 15], none), ([10, 16], [10, 16], none), ([10, 17], [10, 17], none), ([18], [18], none), ([19], [19], none), ([19], [19], none), ([19], [19], none), ([19, 22], [19, 22], none), ([19, 20, 21, 23], [19, 20, 21, 23], none), ([19, 24], [19, 24], none), ([19, 25], [19, 25], none)] [0, 1, 2, 3, 4, 5, 6, 7, 8, 9, 10, 11, 12, 13, 14, 15, 16, 17, 18, 19, 20, 21, 22, 23, 24, 25, 26] [0, 1, 2, 3, 4, 5, 6, 7, 8, 9, 10, 11, 12, 13, 14, 15, 16, 17, 18, 19, 20, 21, 22, 23, 24, 25, 26] (by kernel_rfl) (by kernel_rfl) rfl (by kernel_rfl) ⟨?ys0, ?ys1, ?ys2, ?ys3, ?ys4, ?ys5, ?ys6, ?ys7, ?ys8, ?ys9, ?ys10, ?ys11, ?ys12, ?ys13, ?ys14, ?ys15, ?ys16, ?ys17, ?ys18, ?ys19, ?ys20, ?ys21, ?ys22, ?ys23, ?ys24, ?ys25, ?ys26, trivial⟩ ?ygood ?yfin
                  case ys0 =>
                    refine MStep.mk rfl (fun x lo hi w hb hf K hK => ?_)
                    simp only [putAll, Mop.val, List.getElem_toArray, List.getElem_cons_zero, Act.put, List.setIfInBounds_toArray, List.set_cons_zero, List.set_cons_succ] at hK ⊢
                    go_simp
                    exact hK.out _ _ (Mop.done_make rfl (Below.refl _ _) rfl)
                  case ys1 =>
                    refine MStep.mk rfl (fun x lo hi w hb hf K hK => ?_)
                    simp only [putAll, mdst, Mop.val, List.getElem_toArray, List.getElem_cons_zero, List.getElem_cons_succ, List.getElem?_toArray, List.getElem?_cons_zero, Option.bind_some, Act.put, List.setIfInBounds_toArray, List.set_cons_zero, List.set_cons_succ] at hK ⊢
                    obtain ⟨f0, _⟩ := hf
                    replace f0 : x 0 = .pointer (some ⟨g14, 0, none⟩) := f0
                    have c0 := (hb.cell (p := ⟨g14, 0, none⟩) (cell_lt m0)).trans m0
                    have c1 := (hb.cell (p := ⟨g14, 1, none⟩) (cell_lt m1)).trans m1
                    simp only [f0] at hK ⊢
                    go_simp
                    exact hK.out _ _ (Mop.done_make rfl (Below.refl _ _) rfl)
                  case ys2 =>
                    refine MStep.mk rfl (fun x lo hi w hb hf K hK => ?_)
                    simp only [putAll, mdst, Mop.val, List.getElem_toArray, List.getElem_cons_zero, List.getElem_cons_succ, List.getElem?_toArray, List.getElem?_cons_zero, List.getElem?_cons_succ, Option.bind_some, Act.put, List.setIfInBounds_toArray, List.set_cons_zero, List.set_cons_succ] at hK ⊢
                    obtain ⟨f1, _⟩ := hf
                    replace f1 : x 1 = (.agg #[.slice p T.nodes.length c, .int .i64 T.root]) := f1
                    simp only [f1] at hK ⊢
                    go_simp
                    refine (cR _ _ (tT.below hb) (hE9.below hb)).mono ?_
                    rintro e w' ⟨rfl, hb'⟩
                    try go_simp
                    exact hK.out _ _ (Mop.done_make rfl hb' rfl)
                  case ys3 =>
                    refine MStep.mk rfl (fun x lo hi w hb hf K hK => ?_)
                    simp only [putAll, mdst, Mop.val, List.getElem_toArray, List.getElem_cons_zero, List.getElem_cons_succ, List.getElem?_toArray, List.getElem?_cons_zero, List.getElem?_cons_succ, Option.bind_some, Act.put, List.setIfInBounds_toArray, List.set_cons_zero, List.set_cons_succ] at hK ⊢
                    obtain ⟨f2, _⟩ := hf
                    replace f2 : x 2 = .bool true := f2
                    simp only [f2] at hK ⊢
                    go_simp
                    exact hK.out _ _ (Mop.done_make rfl (Below.refl _ _) rfl)
                  case ys4 =>
                    refine MStep.mk rfl (fun x lo hi w hb hf K hK => ?_)
                    simp only [putAll, mdst, Mop.val, List.getElem_toArray, List.getElem_cons_zero, List.getElem_cons_succ, List.getElem?_toArray, List.getElem?_cons_zero, List.getElem?_cons_succ, Option.bind_some, Act.put, List.setIfInBounds_toArray, List.set_cons_zero, List.set_cons_succ] at hK ⊢
                    obtain ⟨f3, _⟩ := hf
                    replace f3 : x 3 = .bool false := f3
                    simp only [f3] at hK ⊢
                    go_simp
                    exact hK.out _ _ (Mop.done_make rfl (Below.refl _ _) rfl)
                  case ys5 =>
                    refine MStep.mk rfl (fun x lo hi w hb hf K hK => ?_)
                    simp only [putAll, mdst, Mop.val, List.getElem_toArray, List.getElem_cons_zero, List.getElem_cons_succ, List.getElem?_toArray, List.getElem?_cons_zero, List.getElem?_cons_succ, Option.bind_some, Act.put, List.setIfInBounds_toArray, List.set_cons_zero, List.set_cons_succ] at hK ⊢
                    obtain ⟨f4, _⟩ := hf
                    replace f4 : x 4 = .bool false := f4
                    simp only [f4] at hK ⊢
                    go_simp
                    exact hK.out _ _ (Mop.done_make rfl (Below.refl _ _) rfl)
                  case ys6 =>
                    refine MStep.mk rfl (fun x lo hi w hb hf K hK => ?_)
                    simp only [putAll, mdst, Mop.val, List.getElem_toArray, List.getElem_cons_zero, List.getElem_cons_succ, List.getElem?_toArray, List.getElem?_cons_zero, List.getElem?_cons_succ, Option.bind_some, Act.put, List.setIfInBounds_toArray, List.set_cons_zero, List.set_cons_succ] at hK ⊢
                    obtain ⟨f4, f5, _⟩ := hf
                    replace f4 : x 4 = .bool false := f4
                    replace f5 : x 5 = .pointer (some ⟨g14, 0, none⟩) := f5
                    have c0 := (hb.cell (p := ⟨g14, 0, none⟩) (cell_lt m0)).trans m0
                    have c1 := (hb.cell (p := ⟨g14, 1, none⟩) (cell_lt m1)).trans m1
                    simp only [f4, f5] at hK ⊢
                    go_simp
                    exact hK.out _ _ (Mop.done_make rfl (Below.refl _ _) rfl)
                  case ys7 =>
                    refine MStep.mk rfl (fun x lo hi w hb hf K hK => ?_)
                    simp only [putAll, mdst, Mop.val, List.getElem_toArray, List.getElem_cons_zero, List.getElem_cons_succ, List.getElem?_toArray, List.getElem?_cons_zero, List.getElem?_cons_succ, Option.bind_some, Act.put, List.setIfInBounds_toArray, List.set_cons_zero, List.set_cons_succ] at hK ⊢
                    obtain ⟨f4, f6, _⟩ := hf
                    replace f4 : x 4 = .bool false := f4
                    replace f6 : x 6 = (.agg #[.slice p T.nodes.length c, .int .i64 T.root]) := f6
                    simp only [f4, f6] at hK ⊢
                    go_simp
                    refine (cN _ _ (tT.below hb) (hE9.below hb)).mono ?_
                    rintro e w' ⟨rfl, hb'⟩
                    try go_simp
                    exact hK.out _ _ (Mop.done_make rfl hb' rfl)
                  case ys8 =>
                    refine MStep.mk rfl (fun x lo hi w hb hf K hK => ?_)
                    simp only [putAll, mdst, Mop.val, List.getElem_toArray, List.getElem_cons_zero, List.getElem_cons_succ, List.getElem?_toArray, List.getElem?_cons_zero, List.getElem?_cons_succ, Option.bind_some, Act.put, List.setIfInBounds_toArray, List.set_cons_zero, List.set_cons_succ] at hK ⊢
                    obtain ⟨f4, f7, _⟩ := hf
                    replace f4 : x 4 = .bool false := f4
                    replace f7 : x 7 = .bool true := f7
                    simp only [f4, f7] at hK ⊢
                    go_simp
                    exact hK.out _ _ (Mop.done_make rfl (Below.refl _ _) rfl)
                  case ys9 =>
                    refine MStep.mk rfl (fun x lo hi w hb hf K hK => ?_)
                    simp only [putAll, mdst, Mop.val, List.getElem_toArray, List.getElem_cons_zero, List.getElem_cons_succ, List.getElem?_toArray, List.getElem?_cons_zero, List.getElem?_cons_succ, Option.bind_some, Act.put, List.setIfInBounds_toArray, List.set_cons_zero, List.set_cons_succ] at hK ⊢
                    obtain ⟨f4, f8, _⟩ := hf
                    replace f4 : x 4 = .bool false := f4
                    replace f8 : x 8 = .bool false := f8
                    simp only [f4, f8] at hK ⊢
                    go_simp
                    exact hK.out _ _ (Mop.done_make rfl (Below.refl _ _) rfl)
                  case ys10 =>
                    refine MStep.mk rfl (fun x lo hi w hb hf K hK => ?_)
                    simp only [putAll, mdst, Mop.val, List.getElem_toArray, List.getElem_cons_zero, List.getElem_cons_succ, List.getElem?_toArray, List.getElem?_cons_zero, List.getElem?_cons_succ, Option.bind_some, Act.put, List.setIfInBounds_toArray, List.set_cons_zero, List.set_cons_succ] at hK ⊢
                    obtain ⟨f9, _⟩ := hf
                    replace f9 : x 9 = .bool false := f9
                    simp only [f9] at hK ⊢
                    go_simp
                    exact hK.out _ _ (Mop.done_make rfl (Below.refl _ _) rfl)
                  case ys11 =>
                    refine MStep.mk rfl (fun x lo hi w hb hf K hK => ?_)
                    simp only [putAll, mdst, Mop.val, List.getElem_toArray, List.getElem_cons_zero, List.getElem_cons_succ, List.getElem?_toArray, List.getElem?_cons_zero, List.getElem?_cons_succ, Option.bind_some, Act.put, List.setIfInBounds_toArray, List.set_cons_zero, List.set_cons_succ] at hK ⊢
                    obtain ⟨f10, _⟩ := hf
                    replace f10 : x 10 = .bool false := f10
                    simp only [f10] at hK ⊢
                    go_simp
                    exact hK.out _ _ (Mop.done_make rfl (Below.refl _ _) rfl)
                  case ys12 =>
                    refine MStep.mk rfl (fun x lo hi w hb hf K hK => ?_)
                    simp only [putAll, mdst, Mop.val, List.getElem_toArray, List.getElem_cons_zero, List.getElem_cons_succ, List.getElem?_toArray, List.getElem?_cons_zero, List.getElem?_cons_succ, Option.bind_some, Act.put, List.setIfInBounds_toArray, List.set_cons_zero, List.set_cons_succ] at hK ⊢
                    obtain ⟨f10, f11, _⟩ := hf
                    replace f10 : x 10 = .bool false := f10
                    replace f11 : x 11 = .pointer (some ⟨g14, 0, none⟩) := f11
                    have c0 := (hb.cell (p := ⟨g14, 0, none⟩) (cell_lt m0)).trans m0
                    have c1 := (hb.cell (p := ⟨g14, 1, none⟩) (cell_lt m1)).trans m1
                    simp only [f10, f11] at hK ⊢
                    go_simp
                    exact hK.out _ _ (Mop.done_make rfl (Below.refl _ _) rfl)
                  case ys13 =>
                    refine MStep.mk rfl (fun x lo hi w hb hf K hK => ?_)
                    simp only [putAll, mdst, List.getElem_toArray, List.getElem_cons_zero, List.getElem_cons_succ, List.getElem?_toArray, List.getElem?_cons_zero, List.getElem?_cons_succ, Option.bind_some, Act.put, List.setIfInBounds_toArray, List.set_cons_zero, List.set_cons_succ] at hK ⊢
                    obtain ⟨f10, f12, _⟩ := hf
                    replace f10 : x 10 = .bool false := f10
                    replace f12 : x 12 = (.agg #[.slice p T.nodes.length c, .int .i64 T.root]) := f12
                    simp only [f10, f12] at hK ⊢
                    go_simp
                    refine (cC _ _ (tT.below hb) (hE9.below hb)).mono ?_
                    rintro e w' ⟨v, rfl, hm, hb'⟩
                    try go_simp
                    exact hK.out _ _ (Mop.done_make rfl hb' (TreeAt.of hm))
                  case ys14 =>
                    refine MStep.mk rfl (fun x lo hi w hb hf K hK => ?_)
                    simp only [putAll, mdst, Mop.val, List.getElem_toArray, List.getElem_cons_zero, List.getElem_cons_succ, List.getElem?_toArray, List.getElem?_cons_zero, List.getElem?_cons_succ, Option.bind_some, Act.put, List.setIfInBounds_toArray, List.set_cons_zero, List.set_cons_succ] at hK ⊢
                    obtain ⟨f10, _⟩ := hf
                    replace f10 : x 10 = .bool false := f10
                    simp only [f10] at hK ⊢
                    go_simp
                    exact hK.out _ _ (Mop.done_make rfl (Below.refl _ _) rfl)
                  case ys15 =>
                    refine MStep.mk rfl (fun x lo hi w hb hf K hK => ?_)
                    simp only [putAll, mdst, Mop.val, List.getElem_toArray, List.getElem_cons_zero, List.getElem_cons_succ, List.getElem?_toArray, List.getElem?_cons_zero, List.getElem?_cons_succ, Option.bind_some, Act.put, List.setIfInBounds_toArray, List.set_cons_zero, List.set_cons_succ] at hK ⊢
                    obtain ⟨f10, f14, _⟩ := hf
                    replace f10 : x 10 = .bool false := f10
                    replace f14 : x 14 = .pointer (some ⟨g14, 0, none⟩) := f14
                    have c0 := (hb.cell (p := ⟨g14, 0, none⟩) (cell_lt m0)).trans m0
                    have c1 := (hb.cell (p := ⟨g14, 1, none⟩) (cell_lt m1)).trans m1
                    simp only [f10, f14] at hK ⊢
                    go_simp
                    exact hK.out _ _ (Mop.done_make rfl (Below.refl _ _) rfl)
                  case ys16 =>
                    refine MStep.mk rfl (fun x lo hi w hb hf K hK => ?_)
                    simp only [putAll, mdst, Mop.val, List.getElem_toArray, List.getElem_cons_zero, List.getElem_cons_succ, List.getElem?_toArray, List.getElem?_cons_zero, List.getElem?_cons_succ, Option.bind_some, Act.put, List.setIfInBounds_toArray, List.set_cons_zero, List.set_cons_succ] at hK ⊢
                    obtain ⟨f10, f13, f15, _⟩ := hf
                    replace f10 : x 10 = .bool false := f10
                    replace f13 : TreeAt (lo 13) (hi 13) w (x 13) T := f13
                    obtain ⟨p13, c13, e13, t13⟩ := f13.tree
                    replace f15 : x 15 = (.agg #[.slice p T.nodes.length c, .int .i64 T.root]) := f15
                    simp only [f10, e13, f15] at hK ⊢
                    go_simp
                    refine (is_self _ _ _ _ okT t13 (tT.below hb)).mono ?_
                    rintro e w' ⟨rfl, hb'⟩
                    try go_simp
                    exact hK.out _ _ (Mop.done_make rfl hb' rfl)
                  case ys17 =>
                    refine MStep.mk rfl (fun x lo hi w hb hf K hK => ?_)
                    simp only [putAll, mdst, Mop.val, List.getElem_toArray, List.getElem_cons_zero, List.getElem_cons_succ, List.getElem?_toArray, List.getElem?_cons_zero, List.getElem?_cons_succ, Option.bind_some, Act.put, List.setIfInBounds_toArray, List.set_cons_zero, List.set_cons_succ] at hK ⊢
                    obtain ⟨f10, f16, _⟩ := hf
                    replace f10 : x 10 = .bool false := f10
                    replace f16 : x 16 = .bool true := f16
                    simp only [f10, f16] at hK ⊢
                    go_simp
                    exact hK.out _ _ (Mop.done_make rfl (Below.refl _ _) rfl)
                  case ys18 =>
                    refine MStep.mk rfl (fun x lo hi w hb hf K hK => ?_)
                    simp only [putAll, mdst, Mop.val, List.getElem_toArray, List.getElem_cons_zero, List.getElem_cons_succ, List.getElem?_toArray, List.getElem?_cons_zero, List.getElem?_cons_succ, Option.bind_some, Act.put, List.setIfInBounds_toArray, List.set_cons_zero, List.set_cons_succ] at hK ⊢
                    obtain ⟨f10, f17, _⟩ := hf
                    replace f10 : x 10 = .bool false := f10
                    replace f17 : x 17 = .bool false := f17
                    simp only [f10, f17] at hK ⊢
                    go_simp
                    exact hK.out _ _ (Mop.done_make rfl (Below.refl _ _) rfl)
                  case ys19 =>
                    refine MStep.mk rfl (fun x lo hi w hb hf K hK => ?_)
                    simp only [putAll, mdst, Mop.val, List.getElem_toArray, List.getElem_cons_zero, List.getElem_cons_succ, List.getElem?_toArray, List.getElem?_cons_zero, List.getElem?_cons_succ, Option.bind_some, Act.put, List.setIfInBounds_toArray, List.set_cons_zero, List.set_cons_succ] at hK ⊢
                    obtain ⟨f18, _⟩ := hf
                    replace f18 : x 18 = .bool false := f18
                    simp only [f18] at hK ⊢
                    go_simp
                    exact hK.out _ _ (Mop.done_make rfl (Below.refl _ _) rfl)
                  case ys20 =>
                    refine MStep.mk rfl (fun x lo hi w hb hf K hK => ?_)
                    simp only [putAll, mdst, Mop.val, List.getElem_toArray, List.getElem_cons_zero, List.getElem_cons_succ, List.getElem?_toArray, List.getElem?_cons_zero, List.getElem?_cons_succ, Option.bind_some, Act.put, List.setIfInBounds_toArray, List.set_cons_zero, List.set_cons_succ] at hK ⊢
                    obtain ⟨f19, _⟩ := hf
                    replace f19 : x 19 = .bool false := f19
                    have c0 := (hb.cell (p := ⟨g15, 0, none⟩) (cell_lt q150)).trans q150
                    have c1 := (hb.cell (p := ⟨g15, 1, none⟩) (cell_lt q151)).trans q151
                    simp only [f19] at hK ⊢
                    go_simp
                    exact hK.out _ _ (Mop.done_make rfl (Below.refl _ _) rfl)
                  case ys21 =>
                    refine MStep.mk rfl (fun x lo hi w hb hf K hK => ?_)
                    simp only [putAll, mdst, Mop.val, List.getElem_toArray, List.getElem_cons_zero, List.getElem_cons_succ, List.getElem?_toArray, List.getElem?_cons_zero, List.getElem?_cons_succ, Option.bind_some, Act.put, List.setIfInBounds_toArray, List.set_cons_zero, List.set_cons_succ] at hK ⊢
                    obtain ⟨f19, _⟩ := hf
                    replace f19 : x 19 = .bool false := f19
                    simp only [f19] at hK ⊢
                    go_simp
                    exact hK.out _ _ (Mop.done_make rfl (Below.refl _ _) rfl)
                  case ys22 =>
                    refine MStep.mk rfl (fun x lo hi w hb hf K hK => ?_)
                    simp only [putAll, mdst, Mop.val, List.getElem_toArray, List.getElem_cons_zero, List.getElem_cons_succ, List.getElem?_toArray, List.getElem?_cons_zero, List.getElem?_cons_succ, Option.bind_some, Act.put, List.setIfInBounds_toArray, List.set_cons_zero, List.set_cons_succ] at hK ⊢
                    obtain ⟨f19, _⟩ := hf
                    replace f19 : x 19 = .bool false := f19
                    simp only [f19] at hK ⊢
                    go_simp
                    exact hK.out _ _ (Mop.done_make rfl (Below.refl _ _) rfl)
                  case ys23 =>
                    refine MStep.mk rfl (fun x lo hi w hb hf K hK => ?_)
                    simp only [putAll, mdst, Mop.val, List.getElem_toArray, List.getElem_cons_zero, List.getElem_cons_succ, List.getElem?_toArray, List.getElem?_cons_zero, List.getElem?_cons_succ, Option.bind_some, Act.put, List.setIfInBounds_toArray, List.set_cons_zero, List.set_cons_succ] at hK ⊢
                    obtain ⟨f19, f22, _⟩ := hf
                    replace f19 : x 19 = .bool false := f19
                    replace f22 : x 22 = .pointer (some ⟨g14, 0, none⟩) := f22
                    have c0 := (hb.cell (p := ⟨g14, 0, none⟩) (cell_lt m0)).trans m0
                    have c1 := (hb.cell (p := ⟨g14, 1, none⟩) (cell_lt m1)).trans m1
                    simp only [f19, f22] at hK ⊢
                    go_simp
                    exact hK.out _ _ (Mop.done_make rfl (Below.refl _ _) rfl)
                  case ys24 =>
                    refine MStep.mk rfl (fun x lo hi w hb hf K hK => ?_)
                    simp only [putAll, mdst, Mop.val, List.getElem_toArray, List.getElem_cons_zero, List.getElem_cons_succ, List.getElem?_toArray, List.getElem?_cons_zero, List.getElem?_cons_succ, Option.bind_some, Act.put, List.setIfInBounds_toArray, List.set_cons_zero, List.set_cons_succ] at hK ⊢
                    obtain ⟨f19, f20, f21, f23, _⟩ := hf
                    replace f19 : x 19 = .bool false := f19
                    replace f20 : x 20 = (.agg #[.slice p9 T.nodes.length c9, .int .i64 T.root]) := f20
                    replace f21 : x 21 = .bool true := f21
                    replace f23 : x 23 = (.agg #[.slice p T.nodes.length c, .int .i64 T.root]) := f23
                    simp only [f19, f20, f21, f23] at hK ⊢
                    go_simp
                    refine (is_self _ _ _ _ okT (tM.below hb) (tT.below hb)).mono ?_
                    rintro e w' ⟨rfl, hb'⟩
                    try go_simp
                    exact hK.out _ _ (Mop.done_make rfl hb' rfl)
                  case ys25 =>
                    refine MStep.mk rfl (fun x lo hi w hb hf K hK => ?_)
                    simp only [putAll, mdst, Mop.val, List.getElem_toArray, List.getElem_cons_zero, List.getElem_cons_succ, List.getElem?_toArray, List.getElem?_cons_zero, List.getElem?_cons_succ, Option.bind_some, Act.put, List.setIfInBounds_toArray, List.set_cons_zero, List.set_cons_succ] at hK ⊢
                    obtain ⟨f19, f24, _⟩ := hf
                    replace f19 : x 19 = .bool false := f19
                    replace f24 : x 24 = .bool true := f24
                    simp only [f19, f24] at hK ⊢
                    go_simp
                    exact hK.out _ _ (Mop.done_make rfl (Below.refl _ _) rfl)
                  case ys26 =>
                    refine MStep.mk rfl (fun x lo hi w hb hf K hK => ?_)
                    simp only [putAll, mdst, Mop.val, List.getElem_toArray, List.getElem_cons_zero, List.getElem_cons_succ, List.getElem?_toArray, List.getElem?_cons_zero, List.getElem?_cons_succ, Option.bind_some, Act.put, List.setIfInBounds_toArray, List.set_cons_zero, List.set_cons_succ] at hK ⊢
                    obtain ⟨f19, f25, _⟩ := hf
                    replace f19 : x 19 = .bool false := f19
                    replace f25 : x 25 = .bool false := f25
                    simp only [f19, f25] at hK ⊢
                    go_simp
                    exact hK.out _ _ (Mop.done_make rfl (Below.refl _ _) rfl)
                  case ygood => exact ⟨Mop.Good.val (fun _ _ _ => rfl), Mop.Good.val (fun _ _ _ => rfl), Mop.Good.val (fun _ _ _ => rfl), Mop.Good.val (fun _ _ _ => rfl), Mop.Good.val (fun _ _ _ => rfl), Mop.Good.val (fun _ _ _ => rfl), Mop.Good.val (fun _ _ _ => rfl), Mop.Good.val (fun _ _ _ => rfl), Mop.Good.val (fun _ _ _ => rfl), Mop.Good.val (fun _ _ _ => rfl), Mop.Good.val (fun _ _ _ => rfl), Mop.Good.val (fun _ _ _ => rfl), Mop.Good.val (fun _ _ _ => rfl), ⟨fun _ _ _ _ _ _ _ h => h, fun _ _ _ _ _ _ h hl => TreeAt.like h hl⟩, Mop.Good.val (fun _ _ _ => rfl), Mop.Good.val (fun _ _ _ => rfl), Mop.Good.val (fun _ _ _ => rfl), Mop.Good.val (fun _ _ _ => rfl), Mop.Good.val (fun _ _ _ => rfl), Mop.Good.val (fun _ _ _ => rfl), Mop.Good.val (fun _ _ _ => rfl), Mop.Good.val (fun _ _ _ => rfl), Mop.Good.val (fun _ _ _ => rfl), Mop.Good.val (fun _ _ _ => rfl), Mop.Good.val (fun _ _ _ => rfl), Mop.Good.val (fun _ _ _ => rfl), Mop.Good.val (fun _ _ _ => rfl), trivial⟩
                  case yfin =>
                    intro x lo hi w' hb hf
                    obtain ⟨-, -, -, -, -, -, -, -, -, -, -, -, -, -, -, -, -, -, -, -, -, -, -, -, -, -, f26, -⟩ := hf
                    replace f26 : x 26 = .bool false := f26
                    simp only [putAll, mdst, List.getElem?_toArray, List.getElem?_cons_zero, List.getElem?_cons_succ, Option.bind_some, Act.put, List.setIfInBounds_toArray, List.set_cons_zero, List.set_cons_succ, f26]
                    have h2 := h.below hb
                    have kA2 := kA.below hb kA.lt
                    clear h kA k14 m0 m1 m2 q150 q151 tT tM hb hE9
                    go_wp2
                    exact ⟨⟨i + 1, by go_num, by omega, h2, kA2⟩, by simp [intOf]; omega⟩
              · obtain rfl : i = 3 := by omega
                clear kA
                go_wp2
                go_ret
                exact ⟨rfl, h.b⟩
      | false =>
        rw [hBN] at kN
        clear hsame kSm hBN okX0
        have s1 : True := trivial
        have s2 : True := trivial
        have s3 : True := trivial
        have s4 : True := trivial
        have s5 : True := trivial
        have s6 : True := trivial
        go_wp2_with (first
          | (go_at_call 44; refine (aw _ (hE.below h.b)).mono ?_; rintro e w3 ⟨rfl, hb2⟩; replace h := h.below hb2; clear hb2 aw; obtain ⟨qt0, qt1⟩ := h.cells 0 rfl)
          | (go_at_call 60; have := s1; refine (kM _ (h.tree 0 rfl) (hE.below h.b)).mono ?_; rintro e ux ⟨v, rfl, hm, hb⟩; obtain ⟨px, cx, rfl, h', hm'⟩ := h.made hb hm; clear h s1 qt0 qt1; have h := h'.more (.inr hm'); clear h' hm' hm hb; obtain ⟨qt0, qt1⟩ := h.cells 1 rfl)
          | (go_at_call 18; have := s2; refine (kR _ (h.tree 1 rfl) (hE.below h.b)).mono ?_; rintro e zs2 ⟨rfl, hb⟩; clear s2 qt0 qt1; replace h := h.below hb; clear hb; obtain ⟨qt0, qt1⟩ := h.cells 1 rfl)
          | (go_at_call 61; have := s3; refine (kN _ (h.tree 1 rfl) (hE.below h.b)).mono ?_; rintro e zs3 ⟨rfl, hb⟩; clear s3 qt0 qt1; replace h := h.below hb; clear hb)
          | (go_at_call 46; have := s5; refine (kS _ (hl.below h.b) (hE.below h.b)).mono ?_; rintro e uy ⟨v, rfl, hm, hb⟩; obtain ⟨py, cy, rfl, h', hm'⟩ := h.made hb hm; clear h s5 ; have h := h'.more (.inr hm'); clear h' hm' hm hb)
          | (go_at_call 48; have := s6; refine (kC _ (hl.below h.b) (hE.below h.b)).mono ?_; rintro e uz ⟨v, rfl, hm, hb⟩; obtain ⟨pz, cz, rfl, h', hm'⟩ := h.made hb hm; clear h s6 ; have h := h'.more (.inr hm'); clear h' hm' hm hb)
          )
        generalize hgz : uz.heap.size = gz at *
        clear hgz
        generalize hgy : uy.heap.size = gy at *
        clear hgy
        generalize hgx : ux.heap.size = gx at *
        clear hgx
        generalize uz.alloc _ = W1 at *
        go_loopw [12, 11] (fun v12 v11 W => ∃ i : Nat, v12 = .int .i64 i ∧ v11 = .bool ((l.take i).all rightB) ∧ i ≤ l.length ∧ By w [(gz, .slice pz Z.nodes.length cz, Z), (gy, .slice py Y.nodes.length cy, Y), (gx, .slice px X.nodes.length cx, X), (w.heap.size, .slice pt t.nodes.length ct, t)] W) (fun v _ _ => l.length - (intOf v).toNat)
        case atStart => exact ⟨0, rfl, rfl, Nat.zero_le _, h⟩
        case round =>
          clear h
          obtain ⟨i, rfl, rfl, hiL, h⟩ := hrel
          by_cases hlt : i < l.length
          · obtain ⟨b, off, nv, rfl, X0, X1, hNU⟩ := (hl.below h.b).at hlt
            have hti : (l.take (i + 1)).all rightB = ((l.take i).all rightB && rightB l[i]) := by rw [List.take_succ_eq_append_getElem hlt, List.all_append]; simp
            have hoki := okl _ (List.getElem_mem hlt)
            have kRi := fun (W : World) (hv : Tree W (treeV nv l[i].root) l[i]) (h2 : Env W) => right_at' _ l[i] W hv hoki h2
            obtain ⟨U, hU⟩ : ∃ U, U = l[i] := ⟨_, rfl⟩
            rw [← hU] at X1 hNU hti hoki kRi
            obtain ⟨c1, hc1⟩ : ∃ b, b = (l.take i).all rightB := ⟨_, rfl⟩
            rw [← hc1] at hti ⊢
            have HT := Lib.hid hti
            clear hti hU hc1 hoki
            have hi0 : (0 : Int) ≤ (i : Int) := by omega
            have hi1 : (i : Int) < (l.length : Int) := by omega
            have hwi : IntKind.i64.wrap ((i : Int) + 1) = ((i + 1 : Nat) : Int) := by rw [IntWalk.i64_in _ (by omega)]; omega
            cases c1 with
            | true =>
              go_wp2_with (go_at_call 18; refine (kRi _ ⟨_, rfl, hNU⟩ (hE.below h.b)).mono ?_; rintro e zr ⟨rfl, hb⟩; replace h := h.below hb; clear hb X0 X1 hNU)
              exact ⟨⟨i + 1, by go_num, by rw [HT.out]; rfl, by omega, h⟩, by simp [intOf]; omega⟩
            | false =>
              go_wp2
              exact ⟨⟨i + 1, by go_num, by rw [HT.out]; rfl, by omega, h⟩, by simp [intOf]; omega⟩
          · obtain rfl : i = l.length := by omega
            rw [List.take_length, ← HAR.out]
            clear hlt hiL kS kC kM kR kN okl HAR
            obtain ⟨qx0, qx1⟩ := h.cells 2 rfl; obtain ⟨qy0, qy1⟩ := h.cells 1 rfl; obtain ⟨qz0, qz1⟩ := h.cells 0 rfl
            have k0 := h.alloc (.cells #[.slice px X.nodes.length cx, .int .i64 X.root, .bool B, .slice py Y.nodes.length cy, .int .i64 Y.root, .bool AR, .slice pz Z.nodes.length cz, .int .i64 Z.root, .bool AR] 61)
            have kA := Cl.new wr 61 #[.slice px X.nodes.length cx, .int .i64 X.root, .bool B, .slice py Y.nodes.length cy, .int .i64 Y.root, .bool AR, .slice pz Z.nodes.length cz, .int .i64 Z.root, .bool AR]
            go_wp2
            clear h qx0 qx1 qy0 qy1 qz0 qz1
            generalize wr.alloc _ = W2 at *
            generalize wr.heap.size = gA at *
            go_loopw [91] (fun v W => ∃ i : Nat, v = .int .i64 i ∧ i ≤ 3 ∧ By w [(gz, .slice pz Z.nodes.length cz, Z), (gy, .slice py Y.nodes.length cy, Y), (gx, .slice px X.nodes.length cx, X), (w.heap.size, .slice pt t.nodes.length ct, t)] W ∧ Cl W gA 61 #[.slice px X.nodes.length cx, .int .i64 X.root, .bool B, .slice py Y.nodes.length cy, .int .i64 Y.root, .bool AR, .slice pz Z.nodes.length cz, .int .i64 Z.root, .bool AR]) (fun v _ => 3 - (intOf v).toNat)
            case atStart => exact ⟨0, rfl, by omega, k0, kA⟩
            case round =>
              clear k0 kA
              obtain ⟨i, rfl, hi3, h, kA⟩ := hrel
              by_cases hlt : i < 3
              · obtain ⟨p, c, T, O, e0, e1, e2, hTr, hG⟩ : ∃ p c T O, wr.cell? ⟨gA, i * 3, none⟩ = some (.slice p T.nodes.length c) ∧ wr.cell? ⟨gA, i * 3 + 1, none⟩ = some (.int .i64 T.root) ∧ wr.cell? ⟨gA, i * 3 + 2, none⟩ = some (.bool O) ∧ Tree wr (treeV (.slice p T.nodes.length c) T.root) T ∧ Goods O T := by
                  have hi012 : i = 0 ∨ i = 1 ∨ i = 2 := by omega
                  rcases hi012 with rfl | rfl | rfl
                  · exact ⟨_, _, X, B, kA.cell 0, kA.cell 1, kA.cell 2, h.tree 2 rfl, HG0.out⟩
                  · exact ⟨_, _, Y, AR, kA.cell 3, kA.cell 4, kA.cell 5, h.tree 1 rfl, HG1.out⟩
                  · exact ⟨_, _, Z, AR, kA.cell 6, kA.cell 7, kA.cell 8, h.tree 0 rfl, HG2.out⟩
                have hi0 : (0 : Int) ≤ (i : Int) := by omega
                have hi1 : (i : Int) < 3 := by omega
                have hwi : IntKind.i64.wrap ((i : Int) + 1) = ((i + 1 : Nat) : Int) := by rw [IntWalk.i64_in _ (by omega)]; omega
                have b1 := (Below.refl wr.heap.size wr).alloc (Nat.le_refl _) (.cells #[.slice p T.nodes.length c, .int .i64 T.root, .bool O] 61)
                have h1 := h.below b1
                have kA1 := kA.below b1 kA.lt
                have hTr1 := hTr.below b1
                have k14 := Cl.new wr 61 #[.slice p T.nodes.length c, .int .i64 T.root, .bool O]
                rcases hG with ⟨rfl, hT0⟩ | ⟨rfl, u, hTu, hfu, hnu, hsu⟩
                · have hn0 : T.nodes.length = 0 := by rw [hT0]; rfl
                  have hgt : ¬ ((0 : Int) < (T.nodes.length : Int)) := by omega
                  clear hT0 hn0
                  go_wp2
                  exact ⟨⟨i + 1, by go_num, by omega, h1, kA1⟩, by simp [intOf]; omega⟩
                · have okT := good_ok hTu hfu hsu
                  have cM := fun (v : Value) (W : World) (hv : Tree W v T) (h2 : Env W) => good_make v hTu hfu hnu hsu W hv h2
                  have cR := fun (v : Value) (W : World) (hv : Tree W v T) (h2 : Env W) => good_right v hTu hfu hsu W hv h2
                  have cN := fun (v : Value) (W : World) (hv : Tree W v T) (h2 : Env W) => good_normal v hTu hfu hnu hsu W hv h2
                  have cC := fun (v : Value) (W : World) (hv : Tree W v T) (h2 : Env W) => good_clean v hTu hfu hsu W hv h2
                  clear hTu hfu hnu hsu h kA hTr
                  obtain ⟨⟨m0, m1, m2⟩, mf⟩ := k14.three
                  go_wp2_with (go_at_call 60; refine (cM _ _ hTr1 (hE.below h1.b)).mono ?_; rintro e u9 ⟨v, rfl, hm, hb⟩; clear m0 m1 m2 mf; obtain ⟨p9, c9, rfl, h', hm'⟩ := h1.made hb hm; have kA9 := kA1.below hb kA1.lt; have k9 := k14.below hb k14.lt; have t9 := hTr1.below hb; clear h1 kA1 k14 hTr1 b1 hm hb)
                  have hA := (Below.refl u9.heap.size u9).alloc (Nat.le_refl _) (.cells #[.slice p9 T.nodes.length c9, .int .i64 T.root] 26)
                  have h := h'.more (.inr hm')
                  have kA := kA9.below hA kA9.lt
                  have k14 := k9.below hA k9.lt
                  have tT := t9.below hA
                  have tM := h.tree 0 rfl
                  obtain ⟨q150, q151⟩ := h.cells 0 rfl
                  obtain ⟨⟨m0, m1, m2⟩, mf⟩ := k14.three
                  replace h := h'.below hA
                  clear h' hm' kA9 k9 t9 hA mf
                  generalize u9.alloc _ = W9 at *
                  generalize u9.heap.size = g15 at *
                  generalize wr.heap.size = g14 at *
                  have hE9 := hE.below h.b
                  refine wp_region_mono [Mop.val [] [] (fun _ => .pointer (some ⟨g14, 0, none⟩)), Mop.val [0] [0] (fun _ => (.agg #[.slice p T.nodes.length c, .int .i64 T.root])), Mop.val [1] [1] (fun _ => .bool true), Mop.val [2] [2] (fun _ => .bool false), Mop.val [3] [3] (fun _ => .bool false), Mop.val [4] [4] (fun _ => .pointer (some ⟨g14, 0, none⟩)), Mop.val [4, 5] [4, 5] (fun _ => (.agg #[.slice p T.nodes.length c, .int .i64 T.root])), Mop.val [4, 6] [4, 6] (fun _ => .bool true), Mop.val [4, 7] [4, 7] (fun _ => .bool false), Mop.val [4, 8] [4, 8] (fun _ => .bool false), Mop.val [9] [9] (fun _ => .bool false), Mop.val [10] [10] (fun _ => .pointer (some ⟨g14, 0, none⟩)), Mop.val [10, 11] [10, 11] (fun _ => (.agg #[.slice p T.nodes.length c, .int .i64 T.root])), ⟨[10, 12], [10, 12], none, fun _ lo hi u w => TreeAt lo hi w u T⟩, Mop.val [10] [10] (fun _ => .pointer (some ⟨g14, 0, none⟩)), Mop.val [10, 14] [10, 14] (fun _ => (.agg #[.slice p T.nodes.length c, .int .i64 T.root])), Mop.val [10, 13, 15] [10, 13, 15] (fun _ => .bool true), Mop.val [10, 16] [10, 16] (fun _ => .bool false), Mop.val [10, 17] [10, 17] (fun _ => .bool false), Mop.val [18] [18] (fun _ => .bool false), Mop.val [19] [19] (fun _ => (.agg #[.slice p9 T.nodes.length c9, .int .i64 T.root])), Mop.val [19] [19] (fun _ => .bool true), Mop.val [19] [19] (fun _ => .pointer (some ⟨g14, 0, none⟩)), Mop.val [19, 22] [19, 22] (fun _ => (.agg #[.slice p T.nodes.length c, .int .i64 T.root])), Mop.val [19, 20, 21, 23] [19, 20, 21, 23] (fun _ => .bool true), Mop.val [19, 24] [19, 24] (fun _ => .bool false), Mop.val [19, 25] [19, 25] (fun _ => .bool false)] [([], [], none), ([0], [0], none), ([1], [1], none), ([2], [2], none), ([3], [3], none), ([4], [4], none), ([4, 5], [4, 5], none), ([4, 6], [4, 6], none), ([4, 7], [4, 7], none), ([4, 8], [4, 8], none), ([9], [9], none), ([10], [10], none), ([10, 11], [10, 11], none), ([10, 12], [10, 12], none), ([10], [10], none), ([10, 14], [10, 14], none), ([10, 13, 15], [10, 13, 15], none), ([10, 16], [10, 16], none), ([10, 17], [10, 17], none), ([18], [18], none), ([19], [19], none), ([19], [19], none), ([19], [19], none), ([19, 22], [19, 22], none), ([19, 20, 21, 23], [19, 20, 21, 23], none), ([19, 24], [19, 24], none), ([19, 25], [19, 25], none)] [0, 1, 2, 3, 4, 5, 6, 7, 8, 9, 10, 11, 12, 13, 14, 15, 16, 17, 18, 19, 20, 21, 22, 23, 24, 25, 26] [0, 1, 2, 3, 4, 5, 6, 7, 8, 9, 10, 11, 12, 13, 14, 15, 16, 17, 18, 19, 20, 21, 22, 23, 24, 25, 26] (by kernel_rfl) (by kernel_rfl) rfl (by kernel_rfl) ⟨?ys0, ?ys1, ?ys2, ?ys3, ?ys4, ?ys5, ?ys6, ?ys7, ?ys8, ?ys9, ?ys10, ?ys11, ?ys12, ?ys13, ?ys14, ?ys15, ?ys16, ?ys17, ?ys18, ?ys19, ?ys20, ?ys21, ?ys22, ?ys23, ?ys24, ?ys25, ?ys26, trivial⟩ ?ygood ?yfin
                  case ys0 =>
                    refine MStep.mk rfl (fun x lo hi w hb hf K hK => ?_)
                    simp only [putAll, Mop.val, List.getElem_toArray, List.getElem_cons_zero, Act.put, List.setIfInBounds_toArray, List.set_cons_zero, List.set_cons_succ] at hK ⊢
                    go_simp
                    exact hK.out _ _ (Mop.done_make rfl (Below.refl _ _) rfl)
                  case ys1 =>
                    refine MStep.mk rfl (fun x lo hi w hb hf K hK => ?_)
                    simp only [putAll, mdst, Mop.val, List.getElem_toArray, List.getElem_cons_zero, List.getElem_cons_succ, List.getElem?_toArray, List.getElem?_cons_zero, Option.bind_some, Act.put, List.setIfInBounds_toArray, List.set_cons_zero, List.set_cons_succ] at hK ⊢
                    obtain ⟨f0, _⟩ := hf
                    replace f0 : x 0 = .pointer (some ⟨g14, 0, none⟩) := f0
                    have c0 := (hb.cell (p := ⟨g14, 0, none⟩) (cell_lt m0)).trans m0
                    have c1 := (hb.cell (p := ⟨g14, 1, none⟩) (cell_lt m1)).trans m1
                    simp only [f0] at hK ⊢
                    go_simp
                    exact hK.out _ _ (Mop.done_make rfl (Below.refl _ _) rfl)
                  case ys2 =>
                    refine MStep.mk rfl (fun x lo hi w hb hf K hK => ?_)
                    simp only [putAll, mdst, Mop.val, List.getElem_toArray, List.getElem_cons_zero, List.getElem_cons_succ, List.getElem?_toArray, List.getElem?_cons_zero, List.getElem?_cons_succ, Option.bind_some, Act.put, List.setIfInBounds_toArray, List.set_cons_zero, List.set_cons_succ] at hK ⊢
                    obtain ⟨f1, _⟩ := hf
                    replace f1 : x 1 = (.agg #[.slice p T.nodes.length c, .int .i64 T.root]) := f1
                    simp only [f1] at hK ⊢
                    go_simp
                    refine (cR _ _ (tT.below hb) (hE9.below hb)).mono ?_
                    rintro e w' ⟨rfl, hb'⟩
                    try go_simp
                    exact hK.out _ _ (Mop.done_make rfl hb' rfl)
                  case ys3 =>
                    refine MStep.mk rfl (fun x lo hi w hb hf K hK => ?_)
                    simp only [putAll, mdst, Mop.val, List.getElem_toArray, List.getElem_cons_zero, List.getElem_cons_succ, List.getElem?_toArray, List.getElem?_cons_zero, List.getElem?_cons_succ, Option.bind_some, Act.put, List.setIfInBounds_toArray, List.set_cons_zero, List.set_cons_succ] at hK ⊢
                    obtain ⟨f2, _⟩ := hf
                    replace f2 : x 2 = .bool true := f2
                    simp only [f2] at hK ⊢
                    go_simp
                    exact hK.out _ _ (Mop.done_make rfl (Below.refl _ _) rfl)
                  case ys4 =>
                    refine MStep.mk rfl (fun x lo hi w hb hf K hK => ?_)
                    simp only [putAll, mdst, Mop.val, List.getElem_toArray, List.getElem_cons_zero, List.getElem_cons_succ, List.getElem?_toArray, List.getElem?_cons_zero, List.getElem?_cons_succ, Option.bind_some, Act.put, List.setIfInBounds_toArray, List.set_cons_zero, List.set_cons_succ] at hK ⊢
                    obtain ⟨f3, _⟩ := hf
                    replace f3 : x 3 = .bool false := f3
                    simp only [f3] at hK ⊢
                    go_simp
                    exact hK.out _ _ (Mop.done_make rfl (Below.refl _ _) rfl)
                  case ys5 =>
                    refine MStep.mk rfl (fun x lo hi w hb hf K hK => ?_)
                    simp only [putAll, mdst, Mop.val, List.getElem_toArray, List.getElem_cons_zero, List.getElem_cons_succ, List.getElem?_toArray, List.getElem?_cons_zero, List.getElem?_cons_succ, Option.bind_some, Act.put, List.setIfInBounds_toArray, List.set_cons_zero, List.set_cons_succ] at hK ⊢
                    obtain ⟨f4, _⟩ := hf
                    replace f4 : x 4 = .bool false := f4
                    simp only [f4] at hK ⊢
                    go_simp
                    exact hK.out _ _ (Mop.done_make rfl (Below.refl _ _) rfl)
                  case ys6 =>
                    refine MStep.mk rfl (fun x lo hi w hb hf K hK => ?_)
                    simp only [putAll, mdst, Mop.val, List.getElem_toArray, List.getElem_cons_zero, List.getElem_cons_succ, List.getElem?_toArray, List.getElem?_cons_zero, List.getElem?_cons_succ, Option.bind_some, Act.put, List.setIfInBounds_toArray, List.set_cons_zero, List.set_cons_succ] at hK ⊢
                    obtain ⟨f4, f5, _⟩ := hf
                    replace f4 : x 4 = .bool false := f4
                    replace f5 : x 5 = .pointer (some ⟨g14, 0, none⟩) := f5
                    have c0 := (hb.cell (p := ⟨g14, 0, none⟩) (cell_lt m0)).trans m0
                    have c1 := (hb.cell (p := ⟨g14, 1, none⟩) (cell_lt m1)).trans m1
                    simp only [f4, f5] at hK ⊢
                    go_simp
                    exact hK.out _ _ (Mop.done_make rfl (Below.refl _ _) rfl)
                  case ys7 =>
                    refine MStep.mk rfl (fun x lo hi w hb hf K hK => ?_)
                    simp only [putAll, mdst, Mop.val, List.getElem_toArray, List.getElem_cons_zero, List.getElem_cons_succ, List.getElem?_toArray, List.getElem?_cons_zero, List.getElem?_cons_succ, Option.bind_some, Act.put, List.setIfInBounds_toArray, List.set_cons_zero, List.set_cons_succ] at hK ⊢
                    obtain ⟨f4, f6, _⟩ := hf
                    replace f4 : x 4 = .bool false := f4
                    replace f6 : x 6 = (.agg #[.slice p T.nodes.length c, .int .i64 T.root]) := f6
                    simp only [f4, f6] at hK ⊢
                    go_simp
                    refine (cN _ _ (tT.below hb) (hE9.below hb)).mono ?_
                    rintro e w' ⟨rfl, hb'⟩
                    try go_simp
                    exact hK.out _ _ (Mop.done_make rfl hb' rfl)
                  case ys8 =>
                    refine MStep.mk rfl (fun x lo hi w hb hf K hK => ?_)
                    simp only [putAll, mdst, Mop.val, List.getElem_toArray, List.getElem_cons_zero, List.getElem_cons_succ, List.getElem?_toArray, List.getElem?_cons_zero, List.getElem?_cons_succ, Option.bind_some, Act.put, List.setIfInBounds_toArray, List.set_cons_zero, List.set_cons_succ] at hK ⊢
                    obtain ⟨f4, f7, _⟩ := hf
                    replace f4 : x 4 = .bool false := f4
                    replace f7 : x 7 = .bool true := f7
                    simp only [f4, f7] at hK ⊢
                    go_simp
                    exact hK.out _ _ (Mop.done_make rfl (Below.refl _ _) rfl)
                  case ys9 =>
                    refine MStep.mk rfl (fun x lo hi w hb hf K hK => ?_)
                    simp only [putAll, mdst, Mop.val, List.getElem_toArray, List.getElem_cons_zero, List.getElem_cons_succ, List.getElem?_toArray, List.getElem?_cons_zero, List.getElem?_cons_succ, Option.bind_some, Act.put, List.setIfInBounds_toArray, List.set_cons_zero, List.set_cons_succ] at hK ⊢
                    obtain ⟨f4, f8, _⟩ := hf
                    replace f4 : x 4 = .bool false := f4
                    replace f8 : x 8 = .bool false := f8
                    simp only [f4, f8] at hK ⊢
                    go_simp
                    exact hK.out _ _ (Mop.done_make rfl (Below.refl _ _) rfl)
                  case ys10 =>
                    refine MStep.mk rfl (fun x lo hi w hb hf K hK => ?_)
                    simp only [putAll, mdst, Mop.val, List.getElem_toArray, List.getElem_cons_zero, List.getElem_cons_succ, List.getElem?_toArray, List.getElem?_cons_zero, List.getElem?_cons_succ, Option.bind_some, Act.put, List.setIfInBounds_toArray, List.set_cons_zero, List.set_cons_succ] at hK ⊢
                    obtain ⟨f9, _⟩ := hf
                    replace f9 : x 9 = .bool false := f9
                    simp only [f9] at hK ⊢
                    go_simp
                    exact hK.out _ _ (Mop.done_make rfl (Below.refl _ _) rfl)
                  case ys11 =>
                    refine MStep.mk rfl (fun x lo hi w hb hf K hK => ?_)
                    simp only [putAll, mdst, Mop.val, List.getElem_toArray, List.getElem_cons_zero, List.getElem_cons_succ, List.getElem?_toArray, List.getElem?_cons_zero, List.getElem?_cons_succ, Option.bind_some, Act.put, List.setIfInBounds_toArray, List.set_cons_zero, List.set_cons_succ] at hK ⊢
                    obtain ⟨f10, _⟩ := hf
                    replace f10 : x 10 = .bool false := f10
                    simp only [f10] at hK ⊢
                    go_simp
                    exact hK.out _ _ (Mop.done_make rfl (Below.refl _ _) rfl)
                  case ys12 =>
                    refine MStep.mk rfl (fun x lo hi w hb hf K hK => ?_)
                    simp only [putAll, mdst, Mop.val, List.getElem_toArray, List.getElem_cons_zero, List.getElem_cons_succ, List.getElem?_toArray, List.getElem?_cons_zero, List.getElem?_cons_succ, Option.bind_some, Act.put, List.setIfInBounds_toArray, List.set_cons_zero, List.set_cons_succ] at hK ⊢
                    obtain ⟨f10, f11, _⟩ := hf
                    replace f10 : x 10 = .bool false := f10
                    replace f11 : x 11 = .pointer (some ⟨g14, 0, none⟩) := f11
                    have c0 := (hb.cell (p := ⟨g14, 0, none⟩) (cell_lt m0)).trans m0
                    have c1 := (hb.cell (p := ⟨g14, 1, none⟩) (cell_lt m1)).trans m1
                    simp only [f10, f11] at hK ⊢
                    go_simp
                    exact hK.out _ _ (Mop.done_make rfl (Below.refl _ _) rfl)
                  case ys13 =>
                    refine MStep.mk rfl (fun x lo hi w hb hf K hK => ?_)
                    simp only [putAll, mdst, List.getElem_toArray, List.getElem_cons_zero, List.getElem_cons_succ, List.getElem?_toArray, List.getElem?_cons_zero, List.getElem?_cons_succ, Option.bind_some, Act.put, List.setIfInBounds_toArray, List.set_cons_zero, List.set_cons_succ] at hK ⊢
                    obtain ⟨f10, f12, _⟩ := hf
                    replace f10 : x 10 = .bool false := f10
                    replace f12 : x 12 = (.agg #[.slice p T.nodes.length c, .int .i64 T.root]) := f12
                    simp only [f10, f12] at hK ⊢
                    go_simp
                    refine (cC _ _ (tT.below hb) (hE9.below hb)).mono ?_
                    rintro e w' ⟨v, rfl, hm, hb'⟩
                    try go_simp
                    exact hK.out _ _ (Mop.done_make rfl hb' (TreeAt.of hm))
                  case ys14 =>
                    refine MStep.mk rfl (fun x lo hi w hb hf K hK => ?_)
                    simp only [putAll, mdst, Mop.val, List.getElem_toArray, List.getElem_cons_zero, List.getElem_cons_succ, List.getElem?_toArray, List.getElem?_cons_zero, List.getElem?_cons_succ, Option.bind_some, Act.put, List.setIfInBounds_toArray, List.set_cons_zero, List.set_cons_succ] at hK ⊢
                    obtain ⟨f10, _⟩ := hf
                    replace f10 : x 10 = .bool false := f10
                    simp only [f10] at hK ⊢
                    go_simp
                    exact hK.out _ _ (Mop.done_make rfl (Below.refl _ _) rfl)
                  case ys15 =>
                    refine MStep.mk rfl (fun x lo hi w hb hf K hK => ?_)
                    simp only [putAll, mdst, Mop.val, List.getElem_toArray, List.getElem_cons_zero, List.getElem_cons_succ, List.getElem?_toArray, List.getElem?_cons_zero, List.getElem?_cons_succ, Option.bind_some, Act.put, List.setIfInBounds_toArray, List.set_cons_zero, List.set_cons_succ] at hK ⊢
                    obtain ⟨f10, f14, _⟩ := hf
                    replace f10 : x 10 = .bool false := f10
                    replace f14 : x 14 = .pointer (some ⟨g14, 0, none⟩) := f14
                    have c0 := (hb.cell (p := ⟨g14, 0, none⟩) (cell_lt m0)).trans m0
                    have c1 := (hb.cell (p := ⟨g14, 1, none⟩) (cell_lt m1)).trans m1
                    simp only [f10, f14] at hK ⊢
                    go_simp
                    exact hK.out _ _ (Mop.done_make rfl (Below.refl _ _) rfl)
                  case ys16 =>
                    refine MStep.mk rfl (fun x lo hi w hb hf K hK => ?_)
                    simp only [putAll, mdst, Mop.val, List.getElem_toArray, List.getElem_cons_zero, List.getElem_cons_succ, List.getElem?_toArray, List.getElem?_cons_zero, List.getElem?_cons_succ, Option.bind_some, Act.put, List.setIfInBounds_toArray, List.set_cons_zero, List.set_cons_succ] at hK ⊢
                    obtain ⟨f10, f13, f15, _⟩ := hf
                    replace f10 : x 10 = .bool false := f10
                    replace f13 : TreeAt (lo 13) (hi 13) w (x 13) T := f13
                    obtain ⟨p13, c13, e13, t13⟩ := f13.tree
                    replace f15 : x 15 = (.agg #[.slice p T.nodes.length c, .int .i64 T.root]) := f15
                    simp only [f10, e13, f15] at hK ⊢
                    go_simp
                    refine (is_self _ _ _ _ okT t13 (tT.below hb)).mono ?_
                    rintro e w' ⟨rfl, hb'⟩
                    try go_simp
                    exact hK.out _ _ (Mop.done_make rfl hb' rfl)
                  case ys17 =>
                    refine MStep.mk rfl (fun x lo hi w hb hf K hK => ?_)
                    simp only [putAll, mdst, Mop.val, List.getElem_toArray, List.getElem_cons_zero, List.getElem_cons_succ, List.getElem?_toArray, List.getElem?_cons_zero, List.getElem?_cons_succ, Option.bind_some, Act.put, List.setIfInBounds_toArray, List.set_cons_zero, List.set_cons_succ] at hK ⊢
                    obtain ⟨f10, f16, _⟩ := hf
                    replace f10 : x 10 = .bool false := f10
                    replace f16 : x 16 = .bool true := f16
                    simp only [f10, f16] at hK ⊢
                    go_simp
                    exact hK.out _ _ (Mop.done_make rfl (Below.refl _ _) rfl)
                  case ys18 =>
                    refine MStep.mk rfl (fun x lo hi w hb hf K hK => ?_)
                    simp only [putAll, mdst, Mop.val, List.getElem_toArray, List.getElem_cons_zero, List.getElem_cons_succ, List.getElem?_toArray, List.getElem?_cons_zero, List.getElem?_cons_succ, Option.bind_some, Act.put, List.setIfInBounds_toArray, List.set_cons_zero, List.set_cons_succ] at hK ⊢
                    obtain ⟨f10, f17, _⟩ := hf
                    replace f10 : x 10 = .bool false := f10
                    replace f17 : x 17 = .bool false := f17
                    simp only [f10, f17] at hK ⊢
                    go_simp
                    exact hK.out _ _ (Mop.done_make rfl (Below.refl _ _) rfl)
                  case ys19 =>
                    refine MStep.mk rfl (fun x lo hi w hb hf K hK => ?_)
                    simp only [putAll, mdst, Mop.val, List.getElem_toArray, List.getElem_cons_zero, List.getElem_cons_succ, List.getElem?_toArray, List.getElem?_cons_zero, List.getElem?_cons_succ, Option.bind_some, Act.put, List.setIfInBounds_toArray, List.set_cons_zero, List.set_cons_succ] at hK ⊢
                    obtain ⟨f18, _⟩ := hf
                    replace f18 : x 18 = .bool false := f18
                    simp only [f18] at hK ⊢
                    go_simp
                    exact hK.out _ _ (Mop.done_make rfl (Below.refl _ _) rfl)
                  case ys20 =>
                    refine MStep.mk rfl (fun x lo hi w hb hf K hK => ?_)
                    simp only [putAll, mdst, Mop.val, List.getElem_toArray, List.getElem_cons_zero, List.getElem_cons_succ, List.getElem?_toArray, List.getElem?_cons_zero, List.getElem?_cons_succ, Option.bind_some, Act.put, List.setIfInBounds_toArray, List.set_cons_zero, List.set_cons_succ] at hK ⊢
                    obtain ⟨f19, _⟩ := hf
                    replace f19 : x 19 = .bool false := f19
                    have c0 := (hb.cell (p := ⟨g15, 0, none⟩) (cell_lt q150)).trans q150
                    have c1 := (hb.cell (p := ⟨g15, 1, none⟩) (cell_lt q151)).trans q151
                    simp only [f19] at hK ⊢
                    go_simp
                    exact hK.out _ _ (Mop.done_make rfl (Below.refl _ _) rfl)
                  case ys21 =>
                    refine MStep.mk rfl (fun x lo hi w hb hf K hK => ?_)
                    simp only [putAll, mdst, Mop.val, List.getElem_toArray, List.getElem_cons_zero, List.getElem_cons_succ, List.getElem?_toArray, List.getElem?_cons_zero, List.getElem?_cons_succ, Option.bind_some, Act.put, List.setIfInBounds_toArray, List.set_cons_zero, List.set_cons_succ] at hK ⊢
                    obtain ⟨f19, _⟩ := hf
                    replace f19 : x 19 = .bool false := f19
                    simp only [f19] at hK ⊢
                    go_simp
                    exact hK.out _ _ (Mop.done_make rfl (Below.refl _ _) rfl)
                  case ys22 =>
                    refine MStep.mk rfl (fun x lo hi w hb hf K hK => ?_)
                    simp only [putAll, mdst, Mop.val, List.getElem_toArray, List.getElem_cons_zero, List.getElem_cons_succ, List.getElem?_toArray, List.getElem?_cons_zero, List.getElem?_cons_succ, Option.bind_some, Act.put, List.setIfInBounds_toArray, List.set_cons_zero, List.set_cons_succ] at hK ⊢
                    obtain ⟨f19, _⟩ := hf
                    replace f19 : x 19 = .bool false := f19
                    simp only [f19] at hK ⊢
                    go_simp
                    exact hK.out _ _ (Mop.done_make rfl (Below.refl _ _) rfl)
                  case ys23 =>
                    refine MStep.mk rfl (fun x lo hi w hb hf K hK => ?_)
                    simp only [putAll, mdst, Mop.val, List.getElem_toArray, List.getElem_cons_zero, List.getElem_cons_succ, List.getElem?_toArray, List.getElem?_cons_zero, List.getElem?_cons_succ, Option.bind_some, Act.put, List.setIfInBounds_toArray, List.set_cons_zero, List.set_cons_succ] at hK ⊢
                    obtain ⟨f19, f22, _⟩ := hf
                    replace f19 : x 19 = .bool false := f19
                    replace f22 : x 22 = .pointer (some ⟨g14, 0, none⟩) := f22
                    have c0 := (hb.cell (p := ⟨g14, 0, none⟩) (cell_lt m0)).trans m0
                    have c1 := (hb.cell (p := ⟨g14, 1, none⟩) (cell_lt m1)).trans m1
                    simp only [f19, f22] at hK ⊢
                    go_simp
                    exact hK.out _ _ (Mop.done_make rfl (Below.refl _ _) rfl)
                  case ys24 =>
                    refine MStep.mk rfl (fun x lo hi w hb hf K hK => ?_)
                    simp only [putAll, mdst, Mop.val, List.getElem_toArray, List.getElem_cons_zero, List.getElem_cons_succ, List.getElem?_toArray, List.getElem?_cons_zero, List.getElem?_cons_succ, Option.bind_some, Act.put, List.setIfInBounds_toArray, List.set_cons_zero, List.set_cons_succ] at hK ⊢
                    obtain ⟨f19, f20, f21, f23, _⟩ := hf
                    replace f19 : x 19 = .bool false := f19
                    replace f20 : x 20 = (.agg #[.slice p9 T.nodes.length c9, .int .i64 T.root]) := f20
                    replace f21 : x 21 = .bool true := f21
                    replace f23 : x 23 = (.agg #[.slice p T.nodes.length c, .int .i64 T.root]) := f23
                    simp only [f19, f20, f21, f23] at hK ⊢
                    go_simp
                    refine (is_self _ _ _ _ okT (tM.below hb) (tT.below hb)).mono ?_
                    rintro e w' ⟨rfl, hb'⟩
                    try go_simp
                    exact hK.out _ _ (Mop.done_make rfl hb' rfl)
                  case ys25 =>
                    refine MStep.mk rfl (fun x lo hi w hb hf K hK => ?_)
                    simp only [putAll, mdst, Mop.val, List.getElem_toArray, List.getElem_cons_zero, List.getElem_cons_succ, List.getElem?_toArray, List.getElem?_cons_zero, List.getElem?_cons_succ, Option.bind_some, Act.put, List.setIfInBounds_toArray, List.set_cons_zero, List.set_cons_succ] at hK ⊢
                    obtain ⟨f19, f24, _⟩ := hf
                    replace f19 : x 19 = .bool false := f19
                    replace f24 : x 24 = .bool true := f24
                    simp only [f19, f24] at hK ⊢
                    go_simp
                    exact hK.out _ _ (Mop.done_make rfl (Below.refl _ _) rfl)
                  case ys26 =>
                    refine MStep.mk rfl (fun x lo hi w hb hf K hK => ?_)
                    simp only [putAll, mdst, Mop.val, List.getElem_toArray, List.getElem_cons_zero, List.getElem_cons_succ, List.getElem?_toArray, List.getElem?_cons_zero, List.getElem?_cons_succ, Option.bind_some, Act.put, List.setIfInBounds_toArray, List.set_cons_zero, List.set_cons_succ] at hK ⊢
                    obtain ⟨f19, f25, _⟩ := hf
                    replace f19 : x 19 = .bool false := f19
                    replace f25 : x 25 = .bool false := f25
                    simp only [f19, f25] at hK ⊢
                    go_simp
                    exact hK.out _ _ (Mop.done_make rfl (Below.refl _ _) rfl)
                  case ygood => exact ⟨Mop.Good.val (fun _ _ _ => rfl), Mop.Good.val (fun _ _ _ => rfl), Mop.Good.val (fun _ _ _ => rfl), Mop.Good.val (fun _ _ _ => rfl), Mop.Good.val (fun _ _ _ => rfl), Mop.Good.val (fun _ _ _ => rfl), Mop.Good.val (fun _ _ _ => rfl), Mop.Good.val (fun _ _ _ => rfl), Mop.Good.val (fun _ _ _ => rfl), Mop.Good.val (fun _ _ _ => rfl), Mop.Good.val (fun _ _ _ => rfl), Mop.Good.val (fun _ _ _ => rfl), Mop.Good.val (fun _ _ _ => rfl), ⟨fun _ _ _ _ _ _ _ h => h, fun _ _ _ _ _ _ h hl => TreeAt.like h hl⟩, Mop.Good.val (fun _ _ _ => rfl), Mop.Good.val (fun _ _ _ => rfl), Mop.Good.val (fun _ _ _ => rfl), Mop.Good.val (fun _ _ _ => rfl), Mop.Good.val (fun _ _ _ => rfl), Mop.Good.val (fun _ _ _ => rfl), Mop.Good.val (fun _ _ _ => rfl), Mop.Good.val (fun _ _ _ => rfl), Mop.Good.val (fun _ _ _ => rfl), Mop.Good.val (fun _ _ _ => rfl), Mop.Good.val (fun _ _ _ => rfl), Mop.Good.val (fun _ _ _ => rfl), Mop.Good.val (fun _ _ _ => rfl), trivial⟩
                  case yfin =>
                    intro x lo hi w' hb hf
                    obtain ⟨-, -, -, -, -, -, -, -, -, -, -, -, -, -, -, -, -, -, -, -, -, -, -, -, -, -, f26, -⟩ := hf
                    replace f26 : x 26 = .bool false := f26
                    simp only [putAll, mdst, List.getElem?_toArray, List.getElem?_cons_zero, List.getElem?_cons_succ, Option.bind_some, Act.put, List.setIfInBounds_toArray, List.set_cons_zero, List.set_cons_succ, f26]
                    have h2 := h.below hb
                    have kA2 := kA.below hb kA.lt
                    clear h kA k14 m0 m1 m2 q150 q151 tT tM hb hE9
                    go_wp2
                    exact ⟨⟨i + 1, by go_num, by omega, h2, kA2⟩, by simp [intOf]; omega⟩
              · obtain rfl : i = 3 := by omega
                clear kA
                go_wp2
                go_ret
                exact ⟨rfl, h.b⟩
end Go.Proofs.YtpkjfdgjmcphmaaDoor

/- bonsailaw05: ExprHead. -/
import Derived.Test.YtpkjfdgjmcphmaaDoorVExh0
import Derived.Test.YtpkjfdgjmcphmaaDoorVExb
namespace Go.Proofs.YtpkjfdgjmcphmaaDoor
open Go.RowKit Bset Tm

set_option maxRecDepth 100000 in
set_option maxHeartbeats 16000000 in
theorem exprHead_walk (vt : Value) (t : Ar) (w : World) (ht : Tree w vt t) (hwt : t.nodes.length ≤ 9223372036854775807 ∧ ∀ n ∈ t.nodes, okX n) (hE : Env w) :
    Calls Tryd.prog 9 #[vt] w fun e w' => e = .returned (.bool true) ∧ Below w.heap.size w w' := by
  obtain ⟨nvt, rfl, hnt⟩ := ht
  obtain ⟨pt, ct, rfl⟩ := hnt.len
  have h := (By.start w).more (T := t) (.inl ⟨_, rfl, hnt⟩)
  obtain ⟨qt0, qt1⟩ := h.cells 0 rfl
  have hts := trees_oneG (h.tree 0 rfl) rfl
  simp only [World.size_alloc] at hts
  go_enter Tryd.func9, Tryd.ntmps9
  go_wp2_with (fail)
  refine (large_any _ [t] _ hts (by simp) (fun x hx => ?_)).mono ?_
  · obtain rfl := List.mem_singleton.1 hx
    exact ⟨hwt.1, fun n hn => ⟨(hwt.2 n hn).2.2, (hwt.2 n hn).2.1⟩⟩
  rintro e w1 ⟨bl, rfl, hsm, hb1⟩
  replace h := (h.alloc _).below hb1
  clear hts hb1 qt0 qt1
  cases bl with
  | true =>
    go_wp2_with (go_at_call 44; refine (awake5_any _ (hE.below h.b)).mono ?_; rintro e w4 ⟨rfl, hb4⟩; have b4 := (h.below hb4).b)
    go_ret
    exact ⟨rfl, b4⟩
  | false =>
    have hsm' := (hsm rfl).2 t (by simp)
    have ft := few_okA hsm' hwt.2
    have st := hsm'.1
    clear hsm hsm' hwt hnt
    have kM := fun (W : World) (hv : Tree W (treeV (.slice pt t.nodes.length ct) t.root) t) (h2 : Env W) => make_any _ t W hv ft (by omega) h2
    have kH := fun (W : World) (hv : Tree W (treeV (.slice pt t.nodes.length ct) t.root) t) (h2 : Env W) => head_any _ t W hv ft (by omega) h2
    have kT := fun (W : World) (hv : Tree W (treeV (.slice pt t.nodes.length ct) t.root) t) (h2 : Env W) => tail_any _ t W hv ft (by omega) h2
    cases hR : rightB t with
    | false =>
      rw [hR, madeT_no hR] at kM
      rw [partsL_no hR] at kH kT
      simp only [List.isEmpty_nil, Bool.not_true, Bool.false_and, List.headD_nil, if_true] at kH kT
      have s1 : True := trivial
      have s2 : True := trivial
      have s3 : True := trivial
      have hfl := fldK
      go_wp2_with (first
        | (go_at_call 44; refine (awake5_any _ (hE.below h.b)).mono ?_; rintro e w2 ⟨rfl, hb2⟩; replace h := h.below hb2; clear hb2; obtain ⟨qt0, qt1⟩ := h.cells 0 rfl)
        | (go_at_call 60; have := s1; refine (kM _ (h.tree 0 rfl) (hE.below h.b)).mono ?_; rintro e u1 ⟨v, rfl, hm, hb⟩; obtain ⟨pq, cq, rfl, h', hm'⟩ := h.made0 hb hm; clear h s1 qt0 qt1; have h := h'.more (.inr hm'); clear h' hm' hm hb; obtain ⟨qt0, qt1⟩ := h.cells 1 rfl)
        | (go_at_call 65; have := s2; refine (kH _ (h.tree 1 rfl) (hE.below h.b)).mono ?_; rintro e u2 ⟨v, rfl, hm, hb⟩; obtain ⟨pq, cq, rfl, h', hm'⟩ := h.made0 hb hm; clear h s2 qt0 qt1; have h := h'.more (.inr hm'); clear h' hm' hm hb; obtain ⟨qt0, qt1⟩ := h.cells 2 rfl)
        | (go_at_call 66; have := s3; refine (kT _ (h.tree 2 rfl) (hE.below h.b)).mono ?_; rintro e u3 ⟨v, rfl, hm, hb⟩; obtain ⟨pq, cq, rfl, h', hm'⟩ := h.made0 hb hm; clear h s3 qt0 qt1; have h := h'.more (.inr hm'); clear h' hm' hm hb; obtain ⟨qh0, qh1⟩ := h.cells 1 rfl; obtain ⟨qs0, qs1⟩ := h.cells 0 rfl)
        )
      go_ret
      exact ⟨rfl, h.b⟩
    | true =>
      have hf := trees_fit (l := [t]) (by simp [hR]) _ (List.mem_map.2 ⟨t, List.mem_singleton.2 rfl, rfl⟩)
      have hs := fine_size (M := 400) ⟨hR, ft, st⟩
      have hg := nrm_good _ hf
      have hz := nrm_size (tree t)
      have okX' := ok_fit hg.1 (by omega)
      rw [hR, madeT_yes hR] at kM
      have kR := fun (v : Value) (W : World) (hv : Tree W v (arOf (nrm (tree t)))) (h2 : Env W) => root_agg v _ W hv okX' h2
      rw [arOf_root hg.1] at kR
      rw [partsL_eq hR] at kH kT
      obtain ⟨X, hX⟩ : ∃ X, X = arOf (nrm (tree t)) := ⟨_, rfl⟩
      by_cases hk : (top (nrm (tree t))).kind = 0
      · rw [partsR_none hk] at kH kT
        simp only [List.map_nil, List.isEmpty_nil, Bool.not_true, Bool.false_and, List.headD_nil, if_true] at kH kT
        rw [hk] at kR
        rw [← hX] at kM kR
        clear hk hX okX' hg hz hs hf
        have s1 : True := trivial
        have s2 : True := trivial
        have s3 : True := trivial
        have s4 : True := trivial
        have hfl := fldK
        go_wp2_with (first
          | (go_at_call 44; refine (awake5_any _ (hE.below h.b)).mono ?_; rintro e w2 ⟨rfl, hb2⟩; replace h := h.below hb2; clear hb2; obtain ⟨qt0, qt1⟩ := h.cells 0 rfl)
          | (go_at_call 60; have := s1; refine (kM _ (h.tree 0 rfl) (hE.below h.b)).mono ?_; rintro e u1 ⟨v, rfl, hm, hb⟩; obtain ⟨pq, cq, rfl, h', hm'⟩ := h.made hb hm; clear h s1 qt0 qt1; have h := h'.more (.inr hm'); clear h' hm' hm hb; obtain ⟨qt0, qt1⟩ := h.cells 1 rfl)
          | (go_at_call 65; have := s2; refine (kH _ (h.tree 1 rfl) (hE.below h.b)).mono ?_; rintro e u2 ⟨v, rfl, hm, hb⟩; obtain ⟨pq, cq, rfl, h', hm'⟩ := h.made0 hb hm; clear h s2 qt0 qt1; have h := h'.more (.inr hm'); clear h' hm' hm hb; obtain ⟨qt0, qt1⟩ := h.cells 2 rfl)
          | (go_at_call 66; have := s3; refine (kT _ (h.tree 2 rfl) (hE.below h.b)).mono ?_; rintro e u3 ⟨v, rfl, hm, hb⟩; obtain ⟨pq, cq, rfl, h', hm'⟩ := h.made0 hb hm; clear h s3 qt0 qt1; have h := h'.more (.inr hm'); clear h' hm' hm hb; obtain ⟨qx0, qx1⟩ := h.cells 2 rfl)
          | (go_at_call 27; have := s4; refine (kR _ _ (h.tree 2 rfl) (hE.below h.b)).mono ?_; rintro e z4 ⟨x1, x2, x3, x4, x5, x6, x7, x8, rfl, hb⟩; clear s4 qx0 qx1; replace h := h.below hb; clear hb; obtain ⟨qh0, qh1⟩ := h.cells 1 rfl; obtain ⟨qs0, qs1⟩ := h.cells 0 rfl)
          )
        go_ret
        exact ⟨rfl, h.b⟩
      · obtain ⟨p, ps, hp, fp, np, k4, k0, fps, hseq⟩ := partsR_some hf hk
        rw [hp] at kH kT
        have hps := partsR_good hf
        rw [hp] at hps
        simp only [sizes] at hps
        have hTl : (List.map arOf (p :: ps)).tail = ps.map arOf := rfl
        have hrt := all_right fps
        rw [hTl, (seq_eq _).1, (seq_eq _).2.2 hrt, hrt, map_tree] at kT
        simp only [List.map_cons, List.isEmpty_cons, Bool.not_false, List.headD_cons, Bool.and_true, Bool.false_eq_true, if_false] at kH kT
        have gs := seqR_good fps
        have zs := seqR_size ps
        have hpl := hps.2
        have Fp : Fine 2000 (arOf p) := fine_arOf (by omega) fp (by omega)
        have Fs : Fine 2000 (arOf (seqR ps)) := fine_arOf (by omega) gs.1 (by omega)
        have kS := fun (lv : Value) (W : World) (hl : Trees W lv [arOf p, arOf (seqR ps)]) (h2 : Env W) => seq_fine lv (M := 2000) (by omega) [arOf p, arOf (seqR ps)] W hl (fun T hT => by
          simp only [List.mem_cons, List.not_mem_nil, or_false] at hT
          rcases hT with rfl | rfl <;> assumption) (by simp) h2
        simp only [List.map_cons, List.map_nil, tree_arOf, seqR_head fps, hseq] at kS
        have kRh := fun (v : Value) (W : World) (hv : Tree W v (arOf p)) (h2 : Env W) => root_agg v _ W hv Fp.ok h2
        rw [arOf_root fp] at kRh
        have kNh := fun (v : Value) (W : World) (hv : Tree W v (arOf p)) (h2 : Env W) => normal_yes v p W hv fp np (by omega) h2
        have kNs := fun (v : Value) (W : World) (hv : Tree W v (arOf (seqR ps))) (h2 : Env W) => normal_yes v (seqR ps) W hv gs.1 gs.2 (by omega) h2
        obtain ⟨kx, hkx⟩ : ∃ k, k = (top (nrm (tree t))).kind := ⟨_, rfl⟩
        obtain ⟨kp, hkp⟩ : ∃ k, k = (top p).kind := ⟨_, rfl⟩
        obtain ⟨H, hH⟩ : ∃ X, X = arOf p := ⟨_, rfl⟩
        obtain ⟨S, hS⟩ : ∃ X, X = arOf (seqR ps) := ⟨_, rfl⟩
        rw [← hkx] at kR hk
        rw [← hkp] at kRh
        have hk0 : ((kx : Int) != 0) = true := by rw [bne_iff_ne]; omega
        have hp0 : ((kp : Int) != 0) = true := by rw [bne_iff_ne, hkp]; have : (top p).kind ≠ 0 := k0; omega
        have hp4 : ((kp : Int) != 4) = true := by rw [bne_iff_ne, hkp]; have : (top p).kind ≠ 4 := k4; omega
        rw [← hX] at kM kR kS okX'
        rw [← hH] at kH kS kRh kNh
        rw [← hS] at kT kS kNs
        clear hk hX hH hS hkx hkp Fp Fs zs gs hpl hps hrt hTl hseq fps k0 k4 np fp hp hg hz hs hf
        have s1 : True := trivial
        have s2 : True := trivial
        have s3 : True := trivial
        have s4 : True := trivial
        have s5 : True := trivial
        have s6 : True := trivial
        have s7 : True := trivial
        have s8 : True := trivial
        have s9 : True := trivial
        have hfl := fldK
        go_wp2_with (first
          | (go_at_call 44; refine (awake5_any _ (hE.below h.b)).mono ?_; rintro e w2 ⟨rfl, hb2⟩; replace h := h.below hb2; clear hb2; obtain ⟨qt0, qt1⟩ := h.cells 0 rfl)
          | (go_at_call 60; have := s1; refine (kM _ (h.tree 0 rfl) (hE.below h.b)).mono ?_; rintro e u1 ⟨v, rfl, hm, hb⟩; obtain ⟨pq, cq, rfl, h', hm'⟩ := h.made hb hm; clear h s1 qt0 qt1; have h := h'.more (.inr hm'); clear h' hm' hm hb; obtain ⟨qt0, qt1⟩ := h.cells 1 rfl)
          | (go_at_call 65; have := s2; refine (kH _ (h.tree 1 rfl) (hE.below h.b)).mono ?_; rintro e u2 ⟨v, rfl, hm, hb⟩; obtain ⟨pq, cq, rfl, h', hm'⟩ := h.made hb hm; clear h s2 qt0 qt1; have h := h'.more (.inr hm'); clear h' hm' hm hb; obtain ⟨qt0, qt1⟩ := h.cells 2 rfl)
          | (go_at_call 66; have := s3; refine (kT _ (h.tree 2 rfl) (hE.below h.b)).mono ?_; rintro e u3 ⟨v, rfl, hm, hb⟩; obtain ⟨pq, cq, rfl, h', hm'⟩ := h.made hb hm; clear h s3 qt0 qt1; have h := h'.more (.inr hm'); clear h' hm' hm hb; obtain ⟨qx0, qx1⟩ := h.cells 2 rfl)
          | (go_at_call 27; have := s4; refine (kR _ _ (h.tree 2 rfl) (hE.below h.b)).mono ?_; rintro e z4 ⟨x1, x2, x3, x4, x5, x6, x7, x8, rfl, hb⟩; clear s4 qx0 qx1; replace h := h.below hb; clear hb; obtain ⟨qh0, qh1⟩ := h.cells 1 rfl; obtain ⟨qs0, qs1⟩ := h.cells 0 rfl)
          | (go_at_call 46; have := s5; refine (kS _ _ (trees_twoG (h.tree 1 rfl) (h.tree 0 rfl) (by first | simp only | simp [World.setCell])) (hE.below (h.alloc _).b)).mono ?_; rintro e u5 ⟨v, rfl, hm, hb⟩; obtain ⟨pq, cq, rfl, h', hm'⟩ := (h.alloc _).made hb hm; clear h s5 qh0 qh1 qs0 qs1; have h := h'.more (.inr hm'); clear h' hm' hm hb; obtain ⟨qh0, qh1⟩ := h.cells 2 rfl)
          | (go_at_call 27; have := s6; refine (kRh _ _ (h.tree 2 rfl) (hE.below h.b)).mono ?_; rintro e z6 ⟨x1, x2, x3, x4, x5, x6, x7, x8, rfl, hb⟩; clear s6 qh0 qh1; replace h := h.below hb; clear hb; obtain ⟨qy0, qy1⟩ := h.cells 0 rfl; obtain ⟨qx0, qx1⟩ := h.cells 3 rfl)
          | (go_at_call 62; have := s7; refine (is_self _ _ _ _ okX' (h.tree 0 rfl) (h.tree 3 rfl)).mono ?_; rintro e z7 ⟨rfl, hb⟩; clear s7 qy0 qy1 qx0 qx1; replace h := h.below hb; clear hb; obtain ⟨qh0, qh1⟩ := h.cells 2 rfl)
          | (go_at_call 61; have := s8; refine (kNh _ _ (h.tree 2 rfl) (hE.below h.b)).mono ?_; rintro e z8 ⟨rfl, hb⟩; clear s8 qh0 qh1; replace h := h.below hb; clear hb; obtain ⟨qs0, qs1⟩ := h.cells 1 rfl)
          | (go_at_call 61; have := s9; refine (kNs _ _ (h.tree 1 rfl) (hE.below h.b)).mono ?_; rintro e z9 ⟨rfl, hb⟩; clear s9 qs0 qs1; replace h := h.below hb; clear hb)
          )
        go_ret
        exact ⟨rfl, h.b⟩
end Go.Proofs.YtpkjfdgjmcphmaaDoor

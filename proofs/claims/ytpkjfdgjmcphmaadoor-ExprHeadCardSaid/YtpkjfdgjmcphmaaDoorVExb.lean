/- bonsailaw05: ExprBrackets. -/
import Derived.Test.YtpkjfdgjmcphmaaDoorVEr
import Derived.Test.YtpkjfdgjmcphmaaDoorVEw2
import Derived.Test.YtpkjfdgjmcphmaaDoorVTrow
namespace Go.Proofs.YtpkjfdgjmcphmaaDoor
open Go.RowKit Bset Tm

theorem few_okA {t : Ar} (h : fewT t) (hx : ∀ n ∈ t.nodes, okX n) : OkA t.nodes := okA_iff.2 ⟨by have := h.1; omega, fun n hn => ⟨(hx n hn).1, (hx n hn).2.1, by have := (h.2 n hn).1; omega⟩⟩

set_option maxRecDepth 100000 in
set_option maxHeartbeats 16000000 in
theorem exprBrackets_walk (va vb vc : Value) (a b c : Ar) (w : World) (ha : Tree w va a) (hb : Tree w vb b) (hc : Tree w vc c) (hwa : a.nodes.length ≤ 9223372036854775807 ∧ ∀ n ∈ a.nodes, okX n) (hwb : b.nodes.length ≤ 9223372036854775807 ∧ ∀ n ∈ b.nodes, okX n) (hwc : c.nodes.length ≤ 9223372036854775807 ∧ ∀ n ∈ c.nodes, okX n) (hE : Env w) :
    Calls Tryd.prog 10 #[va, vb, vc] w fun e w' => e = .returned (.bool true) ∧ Below w.heap.size w w' := by
  obtain ⟨nva, rfl, hna⟩ := ha
  obtain ⟨pa, ca, rfl⟩ := hna.len
  obtain ⟨nvb, rfl, hnb⟩ := hb
  obtain ⟨pb, cb, rfl⟩ := hnb.len
  obtain ⟨nvc, rfl, hnc⟩ := hc
  obtain ⟨pc, cc, rfl⟩ := hnc.len
  have h := (((By.start w).more (T := a) (.inl ⟨_, rfl, hna⟩)).more (T := b) (.inl ⟨_, rfl, hnb⟩)).more (T := c) (.inl ⟨_, rfl, hnc⟩)
  simp only [World.size_alloc] at h
  obtain ⟨qa0, qa1⟩ := h.cells 2 rfl
  obtain ⟨qb0, qb1⟩ := h.cells 1 rfl
  obtain ⟨qc0, qc1⟩ := h.cells 0 rfl
  have hts := trees_three (h.tree 2 rfl) (h.tree 1 rfl) (h.tree 0 rfl)
  simp only [World.size_alloc] at hts
  go_enter Tryd.func10, Tryd.ntmps10
  go_wp2_with (fail)
  refine (large_any _ [a, b, c] _ hts (by simp) (fun t ht => ?_)).mono ?_
  · have h3 : ∀ n : Nd, okX n → n.kids.length ≤ 9223372036854775807 ∧ n.hd.text.size ≤ 140737488355328 := fun n hn => ⟨hn.2.2, hn.2.1⟩
    simp only [List.mem_cons, List.not_mem_nil, or_false] at ht
    rcases ht with rfl | rfl | rfl
    · exact ⟨hwa.1, fun n hn => h3 n (hwa.2 n hn)⟩
    · exact ⟨hwb.1, fun n hn => h3 n (hwb.2 n hn)⟩
    · exact ⟨hwc.1, fun n hn => h3 n (hwc.2 n hn)⟩
  rintro e w1 ⟨bl, rfl, hsm, hb1⟩
  replace h := (h.alloc _).below hb1
  clear hts hb1 qa0 qa1 qb0 qb1 qc0 qc1
  cases bl with
  | true =>
    go_wp2_with (go_at_call 44; refine (awake5_any _ (hE.below h.b)).mono ?_; rintro e w4 ⟨rfl, hb4⟩; have b4 := (h.below hb4).b)
    go_ret
    exact ⟨rfl, b4⟩
  | false =>
    have hsm' := (hsm rfl).2
    have fa := few_okA (hsm' a (by simp)) hwa.2
    have fb := few_okA (hsm' b (by simp)) hwb.2
    have fc := few_okA (hsm' c (by simp)) hwc.2
    have sa := (hsm' a (by simp)).1
    have sb := (hsm' b (by simp)).1
    have sc := (hsm' c (by simp)).1
    clear hsm hsm' hwa hwb hwc hna hnb hnc
    cases hR : (rightB a && rightB b && rightB c) with
    | false =>
      have hL : OkL [a, b, c] := ⟨fun t ht => by
        simp only [List.mem_cons, List.not_mem_nil, or_false] at ht
        rcases ht with rfl | rfl | rfl <;> assumption, by simp [total]; omega, by simp⟩
      have hsB : seqB [a, b, c] = false := by
        rw [(seq_eq _).1]
        simpa [Bool.and_assoc] using hR
      go_wp2_with (first
        | (go_at_call 44; refine (awake5_any _ (hE.below h.b)).mono ?_; rintro e w2 ⟨rfl, hb2⟩; replace h := h.below hb2; clear hb2; obtain ⟨qa0, qa1⟩ := h.cells 2 rfl; obtain ⟨qb0, qb1⟩ := h.cells 1 rfl; obtain ⟨qc0, qc1⟩ := h.cells 0 rfl)
        | (go_at_call 46; refine (seq_any _ [a, b, c] _ (trees_three (h.tree 2 rfl) (h.tree 1 rfl) (h.tree 0 rfl)) hL (hE.below (h.alloc _).b)).mono ?_; rintro e u1 ⟨v, rfl, hm, hb⟩; rw [hsB]; obtain ⟨pq, cq, rfl, h', hm'⟩ := (h.alloc _).made hb hm; clear h qa0 qa1 qb0 qb1 qc0 qc1; have h := h'.more (.inr hm'); clear h' hm' hm hb; obtain ⟨qa0, qa1⟩ := h.cells 3 rfl))
      have hcase : rightB a = false ∨ (rightB a = true ∧ rightB b = false) ∨ (rightB a = true ∧ rightB b = true ∧ rightB c = false) := by revert hR; cases rightB a <;> cases rightB b <;> cases rightB c <;> simp
      have ra := fun (W : World) (hv : Tree W (treeV (.slice pa a.nodes.length ca) a.root) a) (h2 : Env W) => right_at' _ a W hv fa h2
      have rb := fun (W : World) (hv : Tree W (treeV (.slice pb b.nodes.length cb) b.root) b) (h2 : Env W) => right_at' _ b W hv fb h2
      have rc := fun (W : World) (hv : Tree W (treeV (.slice pc c.nodes.length cc) c.root) c) (h2 : Env W) => right_at' _ c W hv fc h2
      have ma : True := trivial
      have mb : True := trivial
      have mc : True := trivial
      clear hsB hL hR
      rcases hcase with e1 | ⟨e1, e2⟩ | ⟨e1, e2, e3⟩
      · simp only [e1] at ra
        go_wp2_with (first
          | (have := ma; go_at_call 18; refine (ra _ (h.tree 3 rfl) (hE.below h.b)).mono ?_; rintro e za ⟨rfl, hb⟩; clear ma qa0 qa1; replace h := h.below hb; clear hb)
          )
        go_ret
        exact ⟨rfl, h.b⟩
      · simp only [e1] at ra; simp only [e2] at rb
        go_wp2_with (first
          | (have := ma; go_at_call 18; refine (ra _ (h.tree 3 rfl) (hE.below h.b)).mono ?_; rintro e za ⟨rfl, hb⟩; clear ma qa0 qa1; replace h := h.below hb; clear hb; obtain ⟨qb0, qb1⟩ := h.cells 2 rfl)
          | (have := mb; go_at_call 18; refine (rb _ (h.tree 2 rfl) (hE.below h.b)).mono ?_; rintro e zb ⟨rfl, hb⟩; clear mb qb0 qb1; replace h := h.below hb; clear hb)
          )
        go_ret
        exact ⟨rfl, h.b⟩
      · simp only [e1] at ra; simp only [e2] at rb; simp only [e3] at rc
        go_wp2_with (first
          | (have := ma; go_at_call 18; refine (ra _ (h.tree 3 rfl) (hE.below h.b)).mono ?_; rintro e za ⟨rfl, hb⟩; clear ma qa0 qa1; replace h := h.below hb; clear hb; obtain ⟨qb0, qb1⟩ := h.cells 2 rfl)
          | (have := mb; go_at_call 18; refine (rb _ (h.tree 2 rfl) (hE.below h.b)).mono ?_; rintro e zb ⟨rfl, hb⟩; clear mb qb0 qb1; replace h := h.below hb; clear hb; obtain ⟨qc0, qc1⟩ := h.cells 1 rfl)
          | (have := mc; go_at_call 18; refine (rc _ (h.tree 1 rfl) (hE.below h.b)).mono ?_; rintro e zc ⟨rfl, hb⟩; clear mc qc0 qc1; replace h := h.below hb; clear hb)
          )
        go_ret
        exact ⟨rfl, h.b⟩
    | true =>
      simp only [Bool.and_eq_true] at hR
      obtain ⟨⟨ra, rb⟩, rc⟩ := hR
      have Fa : Fine 2000 a := ⟨ra, fa, by omega⟩
      have Fb : Fine 2000 b := ⟨rb, fb, by omega⟩
      have Fc : Fine 2000 c := ⟨rc, fc, by omega⟩
      have ga := fine_fit Fa
      have gb := fine_fit Fb
      have gc := fine_fit Fc
      have za := fine_size (M := 400) ⟨ra, fa, sa⟩
      have zb := fine_size (M := 400) ⟨rb, fb, sb⟩
      have zc := fine_size (M := 400) ⟨rc, fc, sc⟩
      have f2 : ∀ {s t : Ar}, Fine 2000 s → Fine 2000 t → ∀ T ∈ [s, t], Fine 2000 T := fun h1 h2 T hT => by
        simp only [List.mem_cons, List.not_mem_nil, or_false] at hT
        rcases hT with rfl | rfl <;> assumption
      have f3 : ∀ T ∈ [a, b, c], Fine 2000 T := fun T hT => by
        simp only [List.mem_cons, List.not_mem_nil, or_false] at hT
        rcases hT with rfl | rfl | rfl <;> assumption
      have gab := two_fit ga gb
      have gbc := two_fit gb gc
      have gabc : ∀ t ∈ [tree a, tree b, tree c], fitT t = true := fun t ht => by
        simp only [List.mem_cons, List.not_mem_nil, or_false] at ht
        rcases ht with rfl | rfl | rfl <;> assumption
      have FL1 : Fine 2000 (arOf (seqR [tree a, tree b])) := fine_arOf (by omega) (seqR_good gab).1 (by have := seqR_size [tree a, tree b]; simp only [sizes] at this; omega)
      have FR1 : Fine 2000 (arOf (seqR [tree b, tree c])) := fine_arOf (by omega) (seqR_good gbc).1 (by have := seqR_size [tree b, tree c]; simp only [sizes] at this; omega)
      have FA1 : Fine 2000 (arOf (seqR [tree a, tree b, tree c])) := fine_arOf (by omega) (seqR_good gabc).1 (by have := seqR_size [tree a, tree b, tree c]; simp only [sizes] at this; omega)
      have ex1 : arOf (seqR [tree (arOf (seqR [tree a, tree b])), tree c]) = arOf (seqR [tree a, tree b, tree c]) := by rw [tree_arOf, seq_left ga gb]
      have ey1 : arOf (seqR [tree a, tree (arOf (seqR [tree b, tree c]))]) = arOf (seqR [tree a, tree b, tree c]) := by rw [tree_arOf, seq_right gb gc]
      obtain ⟨L1, hL1⟩ : ∃ x, x = arOf (seqR [tree a, tree b]) := ⟨_, rfl⟩
      obtain ⟨R1, hR1⟩ : ∃ x, x = arOf (seqR [tree b, tree c]) := ⟨_, rfl⟩
      obtain ⟨A1, hA1⟩ : ∃ x, x = arOf (seqR [tree a, tree b, tree c]) := ⟨_, rfl⟩
      rw [← hL1] at FL1 ex1
      rw [← hR1] at FR1 ey1
      rw [← hA1] at FA1 ex1 ey1
      have k31 := fun (lv : Value) (W : World) (hl : Trees W lv [a, b, c]) (h2 : Env W) => seq_fine lv (M := 2000) (by omega) [a, b, c] W hl f3 (by simp) h2
      simp only [List.map_cons, List.map_nil, ← hA1] at k31
      have kab1 := fun (lv : Value) (W : World) (hl : Trees W lv [a, b]) (h2 : Env W) => seq_fine lv (M := 2000) (by omega) [a, b] W hl (f2 Fa Fb) (by simp) h2
      simp only [List.map_cons, List.map_nil, ← hL1] at kab1
      have kbc1 := fun (lv : Value) (W : World) (hl : Trees W lv [b, c]) (h2 : Env W) => seq_fine lv (M := 2000) (by omega) [b, c] W hl (f2 Fb Fc) (by simp) h2
      simp only [List.map_cons, List.map_nil, ← hR1] at kbc1
      have klc1 := fun (lv : Value) (W : World) (hl : Trees W lv [L1, c]) (h2 : Env W) => seq_fine lv (M := 2000) (by omega) [L1, c] W hl (f2 FL1 Fc) (by simp) h2
      simp only [List.map_cons, List.map_nil, ex1] at klc1
      have kar1 := fun (lv : Value) (W : World) (hl : Trees W lv [a, R1]) (h2 : Env W) => seq_fine lv (M := 2000) (by omega) [a, R1] W hl (f2 Fa FR1) (by simp) h2
      simp only [List.map_cons, List.map_nil, ey1] at kar1
      have okA1 := FA1.ok
      clear hL1 hR1 hA1 ex1 ey1 FL1 FR1 FA1
      have FL2 : Fine 2000 (arOf (choR [tree a, tree b])) := fine_arOf (by omega) (choR_good gab).1 (by have := choR_size [tree a, tree b]; simp only [sizes] at this; omega)
      have FR2 : Fine 2000 (arOf (choR [tree b, tree c])) := fine_arOf (by omega) (choR_good gbc).1 (by have := choR_size [tree b, tree c]; simp only [sizes] at this; omega)
      have FA2 : Fine 2000 (arOf (choR [tree a, tree b, tree c])) := fine_arOf (by omega) (choR_good gabc).1 (by have := choR_size [tree a, tree b, tree c]; simp only [sizes] at this; omega)
      have ex2 : arOf (choR [tree (arOf (choR [tree a, tree b])), tree c]) = arOf (choR [tree a, tree b, tree c]) := by rw [tree_arOf, cho_left ga gb]
      have ey2 : arOf (choR [tree a, tree (arOf (choR [tree b, tree c]))]) = arOf (choR [tree a, tree b, tree c]) := by rw [tree_arOf, cho_right gb gc]
      obtain ⟨L2, hL2⟩ : ∃ x, x = arOf (choR [tree a, tree b]) := ⟨_, rfl⟩
      obtain ⟨R2, hR2⟩ : ∃ x, x = arOf (choR [tree b, tree c]) := ⟨_, rfl⟩
      obtain ⟨A2, hA2⟩ : ∃ x, x = arOf (choR [tree a, tree b, tree c]) := ⟨_, rfl⟩
      rw [← hL2] at FL2 ex2
      rw [← hR2] at FR2 ey2
      rw [← hA2] at FA2 ex2 ey2
      have k32 := fun (lv : Value) (W : World) (hl : Trees W lv [a, b, c]) (h2 : Env W) => cho_fine lv (M := 2000) (by omega) [a, b, c] W hl f3 (by simp) h2
      simp only [List.map_cons, List.map_nil, ← hA2] at k32
      have kab2 := fun (lv : Value) (W : World) (hl : Trees W lv [a, b]) (h2 : Env W) => cho_fine lv (M := 2000) (by omega) [a, b] W hl (f2 Fa Fb) (by simp) h2
      simp only [List.map_cons, List.map_nil, ← hL2] at kab2
      have kbc2 := fun (lv : Value) (W : World) (hl : Trees W lv [b, c]) (h2 : Env W) => cho_fine lv (M := 2000) (by omega) [b, c] W hl (f2 Fb Fc) (by simp) h2
      simp only [List.map_cons, List.map_nil, ← hR2] at kbc2
      have klc2 := fun (lv : Value) (W : World) (hl : Trees W lv [L2, c]) (h2 : Env W) => cho_fine lv (M := 2000) (by omega) [L2, c] W hl (f2 FL2 Fc) (by simp) h2
      simp only [List.map_cons, List.map_nil, ex2] at klc2
      have kar2 := fun (lv : Value) (W : World) (hl : Trees W lv [a, R2]) (h2 : Env W) => cho_fine lv (M := 2000) (by omega) [a, R2] W hl (f2 Fa FR2) (by simp) h2
      simp only [List.map_cons, List.map_nil, ey2] at kar2
      have okA2 := FA2.ok
      clear hL2 hR2 hA2 ex2 ey2 FL2 FR2 FA2
      clear f2 f3 gab gbc gabc za zb zc ga gb gc Fa Fb Fc fa fb fc sa sb sc ra rb rc
      have s1 : True := trivial
      have s2 : True := trivial
      have s3 : True := trivial
      have s4 : True := trivial
      have s5 : True := trivial
      have s6 : True := trivial
      have s7 : True := trivial
      have s8 : True := trivial
      have s9 : True := trivial
      have s10 : True := trivial
      have s11 : True := trivial
      have s12 : True := trivial
      have s13 : True := trivial
      have s14 : True := trivial
      go_wp2_with (first
        | (go_at_call 44; refine (awake5_any _ (hE.below h.b)).mono ?_; rintro e w2 ⟨rfl, hb2⟩; replace h := h.below hb2; clear hb2; obtain ⟨qa0, qa1⟩ := h.cells 2 rfl; obtain ⟨qb0, qb1⟩ := h.cells 1 rfl; obtain ⟨qc0, qc1⟩ := h.cells 0 rfl)
        | (go_at_call 46; have := s1; refine (k31 _ _ (trees_threeG (h.tree 2 rfl) (h.tree 1 rfl) (h.tree 0 rfl) (by first | simp only | simp [World.setCell])) (hE.below (h.alloc _).b)).mono ?_; rintro e u0 ⟨v, rfl, hm, hb⟩; obtain ⟨pq, cq, rfl, h', hm'⟩ := (h.alloc _).made hb hm; clear h s1 qa0 qa1 qb0 qb1 qc0 qc1; have h := h'.more (.inr hm'); clear h' hm' hm hb; obtain ⟨qa0, qa1⟩ := h.cells 3 rfl; obtain ⟨qb0, qb1⟩ := h.cells 2 rfl)
        | (go_at_call 46; have := s2; refine (kab1 _ _ (trees_twoG (h.tree 3 rfl) (h.tree 2 rfl) (by first | simp only [World.size_alloc] | simp [World.setCell])) (hE.below (h.alloc _).b)).mono ?_; rintro e u1 ⟨v, rfl, hm, hb⟩; obtain ⟨pq, cq, rfl, h', hm'⟩ := (h.alloc _).made hb hm; clear h s2 qa0 qa1 qb0 qb1; have h := h'.more (.inr hm'); clear h' hm' hm hb; obtain ⟨qb0, qb1⟩ := h.cells 3 rfl; obtain ⟨qc0, qc1⟩ := h.cells 2 rfl)
        | (go_at_call 46; have := s3; refine (kbc1 _ _ (trees_twoG (h.tree 3 rfl) (h.tree 2 rfl) (by first | simp only [World.size_alloc] | simp [World.setCell])) (hE.below (h.alloc _).b)).mono ?_; rintro e u2 ⟨v, rfl, hm, hb⟩; obtain ⟨pq, cq, rfl, h', hm'⟩ := (h.alloc _).made hb hm; clear h s3 qb0 qb1 qc0 qc1; have h := h'.more (.inr hm'); clear h' hm' hm hb; obtain ⟨ql0, ql1⟩ := h.cells 1 rfl; obtain ⟨qc0, qc1⟩ := h.cells 3 rfl)
        | (go_at_call 46; have := s4; refine (klc1 _ _ (trees_twoG (h.tree 1 rfl) (h.tree 3 rfl) (by first | simp only [World.size_alloc] | simp [World.setCell])) (hE.below (h.alloc _).b)).mono ?_; rintro e u3 ⟨v, rfl, hm, hb⟩; obtain ⟨pq, cq, rfl, h', hm'⟩ := (h.alloc _).made hb hm; clear h s4 ql0 ql1 qc0 qc1; have h := h'.more (.inr hm'); clear h' hm' hm hb; obtain ⟨qa0, qa1⟩ := h.cells 6 rfl; obtain ⟨qr0, qr1⟩ := h.cells 1 rfl)
        | (go_at_call 46; have := s5; refine (kar1 _ _ (trees_twoG (h.tree 6 rfl) (h.tree 1 rfl) (by first | simp only [World.size_alloc] | simp [World.setCell])) (hE.below (h.alloc _).b)).mono ?_; rintro e u4 ⟨v, rfl, hm, hb⟩; obtain ⟨pq, cq, rfl, h', hm'⟩ := (h.alloc _).made hb hm; clear h s5 qa0 qa1 qr0 qr1; have h := h'.more (.inr hm'); clear h' hm' hm hb; obtain ⟨qx0, qx1⟩ := h.cells 1 rfl; obtain ⟨qall0, qall1⟩ := h.cells 4 rfl)
        | (go_at_call 62; have := s6; refine (is_self _ _ _ _ okA1 (h.tree 1 rfl) (h.tree 4 rfl)).mono ?_; rintro e z5 ⟨rfl, hb⟩; clear s6 qx0 qx1 qall0 qall1; replace h := h.below hb; clear hb; obtain ⟨qy0, qy1⟩ := h.cells 0 rfl; obtain ⟨qall0, qall1⟩ := h.cells 4 rfl)
        | (go_at_call 62; have := s7; refine (is_self _ _ _ _ okA1 (h.tree 0 rfl) (h.tree 4 rfl)).mono ?_; rintro e z6 ⟨rfl, hb⟩; clear s7 qy0 qy1 qall0 qall1; replace h := h.below hb; clear hb; obtain ⟨qa0, qa1⟩ := h.cells 7 rfl; obtain ⟨qb0, qb1⟩ := h.cells 6 rfl; obtain ⟨qc0, qc1⟩ := h.cells 5 rfl)
        | (go_at_call 48; have := s8; refine (k32 _ _ (trees_threeG (h.tree 7 rfl) (h.tree 6 rfl) (h.tree 5 rfl) (by first | simp only | simp [World.setCell])) (hE.below (h.alloc _).b)).mono ?_; rintro e u7 ⟨v, rfl, hm, hb⟩; obtain ⟨pq, cq, rfl, h', hm'⟩ := (h.alloc _).made hb hm; clear h s8 qa0 qa1 qb0 qb1 qc0 qc1; have h := h'.more (.inr hm'); clear h' hm' hm hb; obtain ⟨qa0, qa1⟩ := h.cells 8 rfl; obtain ⟨qb0, qb1⟩ := h.cells 7 rfl)
        | (go_at_call 48; have := s9; refine (kab2 _ _ (trees_twoG (h.tree 8 rfl) (h.tree 7 rfl) (by first | simp only [World.size_alloc] | simp [World.setCell])) (hE.below (h.alloc _).b)).mono ?_; rintro e u8 ⟨v, rfl, hm, hb⟩; obtain ⟨pq, cq, rfl, h', hm'⟩ := (h.alloc _).made hb hm; clear h s9 qa0 qa1 qb0 qb1; obtain ⟨y0, y1⟩ := h'.cells 4 rfl; obtain ⟨yf0, yf1⟩ := h'.free 4 rfl; have h := h'.over 4 rfl hm'; simp only [List.set_cons_zero, List.set_cons_succ] at h; clear h' hm' hm hb; obtain ⟨qb0, qb1⟩ := h.cells 7 rfl; obtain ⟨qc0, qc1⟩ := h.cells 6 rfl)
        | (go_at_call 48; have := s10; refine (kbc2 _ _ (trees_twoG (h.tree 7 rfl) (h.tree 6 rfl) (by first | simp only [World.size_alloc] | simp [World.setCell])) (hE.below (h.alloc _).b)).mono ?_; rintro e u9 ⟨v, rfl, hm, hb⟩; obtain ⟨pq, cq, rfl, h', hm'⟩ := (h.alloc _).made hb hm; clear h s10 qb0 qb1 qc0 qc1; obtain ⟨y0, y1⟩ := h'.cells 3 rfl; obtain ⟨yf0, yf1⟩ := h'.free 3 rfl; have h := h'.over 3 rfl hm'; simp only [List.set_cons_zero, List.set_cons_succ] at h; clear h' hm' hm hb; obtain ⟨ql0, ql1⟩ := h.cells 4 rfl; obtain ⟨qc0, qc1⟩ := h.cells 6 rfl)
        | (go_at_call 48; have := s11; refine (klc2 _ _ (trees_twoG (h.tree 4 rfl) (h.tree 6 rfl) (by first | simp only [World.size_alloc] | simp [World.setCell])) (hE.below (h.alloc _).b)).mono ?_; rintro e u10 ⟨v, rfl, hm, hb⟩; obtain ⟨pq, cq, rfl, h', hm'⟩ := (h.alloc _).made hb hm; clear h s11 ql0 ql1 qc0 qc1; obtain ⟨y0, y1⟩ := h'.cells 2 rfl; obtain ⟨yf0, yf1⟩ := h'.free 2 rfl; have h := h'.over 2 rfl hm'; simp only [List.set_cons_zero, List.set_cons_succ] at h; clear h' hm' hm hb; obtain ⟨qa0, qa1⟩ := h.cells 8 rfl; obtain ⟨qr0, qr1⟩ := h.cells 3 rfl)
        | (go_at_call 48; have := s12; refine (kar2 _ _ (trees_twoG (h.tree 8 rfl) (h.tree 3 rfl) (by first | simp only [World.size_alloc] | simp [World.setCell])) (hE.below (h.alloc _).b)).mono ?_; rintro e u11 ⟨v, rfl, hm, hb⟩; obtain ⟨pq, cq, rfl, h', hm'⟩ := (h.alloc _).made hb hm; clear h s12 qa0 qa1 qr0 qr1; obtain ⟨y0, y1⟩ := h'.cells 1 rfl; obtain ⟨yf0, yf1⟩ := h'.free 1 rfl; have h := h'.over 1 rfl hm'; simp only [List.set_cons_zero, List.set_cons_succ] at h; clear h' hm' hm hb; obtain ⟨qx0, qx1⟩ := h.cells 2 rfl; obtain ⟨qevery0, qevery1⟩ := h.cells 0 rfl)
        | (go_at_call 62; have := s13; refine (is_self _ _ _ _ okA2 (h.tree 2 rfl) (h.tree 0 rfl)).mono ?_; rintro e z12 ⟨rfl, hb⟩; clear s13 qx0 qx1 qevery0 qevery1; replace h := h.below hb; clear hb; obtain ⟨qy0, qy1⟩ := h.cells 1 rfl; obtain ⟨qevery0, qevery1⟩ := h.cells 0 rfl)
        | (go_at_call 62; have := s14; refine (is_self _ _ _ _ okA2 (h.tree 1 rfl) (h.tree 0 rfl)).mono ?_; rintro e z13 ⟨rfl, hb⟩; clear s14 qy0 qy1 qevery0 qevery1; replace h := h.below hb; clear hb)
        )
      go_ret
      exact ⟨rfl, h.b⟩
end Go.Proofs.YtpkjfdgjmcphmaaDoor

/- The head and the tail of a tree, put together again. -/
import Derived.Test.YtpkjfdgjmcphmaaDoorVEno
namespace Go.Proofs.YtpkjfdgjmcphmaaDoor
open Go.RowKit Bset Tm

theorem trees_oneG {w : World} {g : Nat} {v1 : Value} {T : Ar} (h1 : Tree w (treeV v1 T.root) T) (hg : g = w.heap.size) : Trees (w.alloc (.cells #[v1, .int .i64 T.root] 26)) (.slice (some ⟨g, 0, none⟩) 1 1) [T] := by
  subst hg
  exact trees_one' h1
theorem By.made0 {w0 W : World} {L : List (Nat × Value × Ar)} (h : By w0 L W) {W' : World} (hb : Below W.heap.size W W') {v : Value} (hm : MadeT W.heap.size W' v noAr) : ∃ p c, v = treeV (.slice p 0 c) noAr.root ∧ By w0 L W' ∧ MadeT w0.heap.size W' (treeV (.slice p 0 c) noAr.root) noAr := h.made hb hm
theorem fldK (a0 a1 a2 a3 a4 a5 a6 a7 a8 : Value) (w : World) : (Instr.field 38 (.agg #[a0, a1, a2, a3, a4, a5, a6, a7, a8]) 0).run Tryd.prog w = .ok a0 w := by kernel_rfl
theorem partsR_none {t : RT Hd} (h : (top (nrm t)).kind = 0) : partsR t = [] := by unfold partsR; rw [if_pos h]
theorem partsR_some {t : RT Hd} (hf : fitT t = true) (h : (top (nrm t)).kind ≠ 0) :
    ∃ p ps, partsR t = p :: ps ∧ fitT p = true ∧ nml p = true ∧ kd p ≠ 4 ∧ kd p ≠ 0 ∧ (∀ x ∈ ps, fitT x = true) ∧ seqR (p :: ps) = nrm t := by
  have h1 := nrm_good t hf
  have h2 := nrm_nrm hf
  unfold partsR
  rw [if_neg h]
  split
  · rename_i h4
    have hx : ∃ a ks, nrm t = .mk a ks := ⟨_, _, (by cases nrm t; rfl : nrm t = .mk (top (nrm t)) (kidsR (nrm t)))⟩
    obtain ⟨a, ks, hn⟩ := hx
    rw [hn] at h1 h2 h4 ⊢
    have h3 := fit_kids h1.1
    have h5 := nml_kids h1.2
    have h6 := fits_two h3.1 (.inl h4)
    have h7 : a = hdK 4 := by
      have := fits_bare h3.1 (.inr (.inl h4))
      have e : (top (RT.mk a ks)).kind = 4 := h4
      rw [e] at this
      exact this
    subst h7
    match ks, h3, h5, h6 with
    | [], _, _, h6 => simp [kidsR] at h6
    | p :: ps, h3, h5, _ =>
      have ho := h5.1 p (by simp [kidsR])
      have ho2 : ¬ (kd p = 4 ∨ kd p = 0) := fun e => by
        have := (opens_four (kd p)).2 e
        rw [show kd (RT.mk (hdK 4) (p :: ps)) = 4 from rfl] at ho
        rw [this] at ho
        cases ho
      refine ⟨p, ps, rfl, h3.2 p (by simp [kidsR]), h5.2 p (by simp [kidsR]), fun e => ho2 (.inl e), fun e => ho2 (.inr e), fun x hx => h3.2 x (by simp [kidsR, hx]), ?_⟩
      rw [← seqR_many, h2]
  · rename_i h4
    exact ⟨nrm t, [], rfl, h1.1, h1.2, h4, h, fun x hx => (by cases hx), by rw [seqR_one h1.1, h2]⟩
theorem seqR_head {p : RT Hd} {ps : List (RT Hd)} (h : ∀ x ∈ ps, fitT x = true) : seqR [p, seqR ps] = seqR (p :: ps) := by
  have := seqR_in (l' := [p]) (r := []) h
  simpa using this
theorem partsL_no {T : Ar} (h : rightB T = false) : partsL T = [] := by unfold partsL; rw [h, if_neg (by simp)]

theorem root_agg (v : Value) (T : Ar) (w : World) (hv : Tree w v T) (hok : OkA T.nodes) (hE : Env w) :
    Calls Tryd.prog 27 #[v] w fun e w' => ∃ x1 x2 x3 x4 x5 x6 x7 x8, e = .returned (.agg #[.int .u8 (rootT T).kind, x1, x2, x3, x4, x5, x6, x7, x8]) ∧ Below w.heap.size w w' :=
  (root_any v T w hv hok hE).mono fun _ _ ⟨h1, h2⟩ => ⟨_, _, _, _, _, _, _, _, h1, h2⟩
theorem normal_yes (v : Value) (t : RT Hd) (w : World) (hv : Tree w v (arOf t)) (hf : fitT t = true) (hn : nml t = true) (hs : size t ≤ 1000000) (hE : Env w) :
    Calls Tryd.prog 61 #[v] w fun e w' => e = .returned (.bool true) ∧ Below w.heap.size w w' := by
  have h := normal_any v _ w hv (ok_fit hf (by omega)) hE
  rw [← nml_right (arOf_rightB hf), arOf_rightB hf, tree_arOf, hn] at h
  exact h
end Go.Proofs.YtpkjfdgjmcphmaaDoor

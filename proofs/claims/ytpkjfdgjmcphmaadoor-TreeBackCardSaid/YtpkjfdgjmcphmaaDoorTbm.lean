/- bonsailaw04: TreeBack, its parts. -/
import Derived.Test.YtpkjfdgjmcphmaaDoorTki
import Derived.Test.YtpkjfdgjmcphmaaDoorTz5
namespace Go.Proofs.YtpkjfdgjmcphmaaDoor
open Go.RowKit Bset Tm

theorem fit_mk {h : Hd} {l : List Ar} (hB : ofB h l = true) : fitT (.mk h (l.map tree)) = true := by
  unfold ofB at hB
  rw [Bool.and_eq_true, List.all_eq_true] at hB
  rw [fitT, Bool.and_eq_true, List.length_map]
  refine ⟨hB.1, fitTs_iff.2 fun t ht => ?_⟩
  obtain ⟨x, hx, rfl⟩ := List.mem_map.1 ht
  exact (rightB_iff.1 (hB.2 x hx)).fit
theorem ofT_eq {h : Hd} {l : List Ar} (hB : ofB h l = true) : ofT h l = arOf (.mk h (l.map tree)) := by
  unfold ofT
  rw [if_pos hB]
theorem arOf_rightB {t : RT Hd} (h : fitT t = true) : rightB (arOf t) = true := rightB_iff.2 (arOf_right h)
theorem arOf_clean {t : RT Hd} (h : fitT t = true) : cleanT (arOf t) = arOf t := by
  unfold cleanT
  rw [if_pos (arOf_rightB h), tree_arOf]
theorem arOf_kids {t : RT Hd} (h : fitT t = true) : kidsT (arOf t) = (kidsR t).map arOf := by
  unfold kidsT
  rw [if_pos (arOf_rightB h), tree_arOf]
theorem arOf_root {t : RT Hd} (h : fitT t = true) : rootT (arOf t) = top t := by
  unfold rootT
  rw [if_pos (arOf_rightB h), tree_arOf]
theorem arOf_size {t : RT Hd} (h : fitT t = true) : sizeT (arOf t) = size t := by
  unfold sizeT
  rw [if_pos (arOf_rightB h)]
  simp [arOf, flat_length]
theorem arOf_deep {t : RT Hd} (h : fitT t = true) : deepT (arOf t) = deep t := by
  unfold deepT
  rw [if_pos (arOf_rightB h), tree_arOf]

noncomputable def okB (h : Hd) (l : List Ar) (i : Nat) : Bool := fits h l.length && (l.take i).all rightB
theorem okB_zero (h : Hd) (l : List Ar) : okB h l 0 = fits h l.length := by simp [okB]
theorem okB_next {h : Hd} {l : List Ar} {i : Nat} (hi : i < l.length) : okB h l (i + 1) = (okB h l i && rightB l[i]) := by
  unfold okB
  rw [List.take_succ_eq_append_getElem hi, List.all_append]
  simp [Bool.and_assoc]
theorem okB_all (h : Hd) (l : List Ar) : okB h l l.length = ofB h l := by
  unfold okB ofB
  rw [List.take_of_length_le (Nat.le_refl _)]
noncomputable def szs (l : List Ar) : Nat := (l.map sizeT).sum
noncomputable def dps : List Ar → Nat
  | [] => 0
  | t :: l => max (deepT t) (dps l)
theorem dps_append (a b : List Ar) : dps (a ++ b) = max (dps a) (dps b) := by
  induction a with
  | nil => simp [dps]
  | cons t a ih => simp only [List.cons_append, dps, ih]; omega
theorem sizeT_le (t : Ar) : sizeT t ≤ t.nodes.length := by
  unfold sizeT
  split <;> omega
theorem deepT_le (t : Ar) : deepT t ≤ t.nodes.length := by
  unfold deepT
  split
  · rename_i h
    exact deep_le_n (rightB_iff.1 h)
  · omega
theorem szs_next {l : List Ar} {i : Nat} (hi : i < l.length) : szs (l.take (i + 1)) = szs (l.take i) + sizeT l[i] := by
  unfold szs
  rw [List.take_succ_eq_append_getElem hi, List.map_append, List.sum_append]
  simp
theorem dps_next {l : List Ar} {i : Nat} (hi : i < l.length) : dps (l.take (i + 1)) = max (dps (l.take i)) (deepT l[i]) := by
  rw [List.take_succ_eq_append_getElem hi, dps_append]
  simp [dps]
theorem szs_le (l : List Ar) : szs l ≤ total l := by
  unfold szs total
  induction l with
  | nil => simp
  | cons t l ih =>
    have := sizeT_le t
    simp only [List.map_cons, List.sum_cons]
    omega
theorem dps_le (l : List Ar) : dps l ≤ total l := by
  induction l with
  | nil => simp [dps]
  | cons t l ih =>
    have := deepT_le t
    unfold total at ih ⊢
    simp only [List.map_cons, List.sum_cons, dps]
    omega
theorem total_le_cnt (l : List Ar) : total l + l.length = cnt l := by
  unfold total cnt
  induction l with
  | nil => rfl
  | cons t l ih =>
    simp only [List.map_cons, List.sum_cons, List.length_cons]
    omega
theorem total_take_le (l : List Ar) (i : Nat) : total (l.take i) ≤ total l := by
  have h2 := List.take_append_drop i l
  have h3 : total l = total (l.take i) + total (l.drop i) := by
    unfold total
    rw [← List.sum_append, ← List.map_append, h2]
  omega
theorem szs_sizes {l : List Ar} (h : ∀ t ∈ l, rightB t = true) : szs l = sizes (l.map tree) := by
  induction l with
  | nil => rfl
  | cons t l ih =>
    have h1 := h t (by simp)
    have : sizeT t = size (tree t) := by rw [(rightB_iff.1 h1).size, sizeT, if_pos h1]
    rw [List.map_cons, sizes, ← ih (fun x hx => h x (by simp [hx])), ← this]
    simp [szs]
theorem dps_deeps {l : List Ar} (h : ∀ t ∈ l, rightB t = true) : dps l = deeps (l.map tree) := by
  induction l with
  | nil => rfl
  | cons t l ih =>
    have h1 := h t (by simp)
    have : deepT t = deep (tree t) := by rw [deepT, if_pos h1]
    rw [List.map_cons, deeps, ← ih (fun x hx => h x (by simp [hx])), ← this, dps]
theorem ofB_all {h : Hd} {l : List Ar} (hB : ofB h l = true) : ∀ t ∈ l, rightB t = true := by
  unfold ofB at hB
  rw [Bool.and_eq_true, List.all_eq_true] at hB
  exact hB.2
theorem of_size {h : Hd} {l : List Ar} (hB : ofB h l = true) : sizeT (ofT h l) = 1 + szs l := by
  rw [ofT_eq hB, arOf_size (fit_mk hB), szs_sizes (ofB_all hB), size, Nat.add_comm]
theorem of_deep {h : Hd} {l : List Ar} (hB : ofB h l = true) : deepT (ofT h l) = dps l + 1 := by
  rw [ofT_eq hB, arOf_deep (fit_mk hB), dps_deeps (ofB_all hB), deep]
theorem of_right {h : Hd} {l : List Ar} (hB : ofB h l = true) : rightB (ofT h l) = true := by rw [ofT_eq hB]; exact arOf_rightB (fit_mk hB)
theorem of_clean {h : Hd} {l : List Ar} (hB : ofB h l = true) : cleanT (ofT h l) = ofT h l := by rw [ofT_eq hB]; exact arOf_clean (fit_mk hB)
theorem of_root {h : Hd} {l : List Ar} (hB : ofB h l = true) : rootT (ofT h l) = h := by rw [ofT_eq hB, arOf_root (fit_mk hB)]; rfl
theorem of_kids {h : Hd} {l : List Ar} (hB : ofB h l = true) : kidsT (ofT h l) = l.map fun t => arOf (tree t) := by
  rw [ofT_eq hB, arOf_kids (fit_mk hB)]
  simp [kidsR]
theorem allT_mk {P : Hd → Nat → Prop} {h : Hd} {ks : List (RT Hd)} (h1 : P h ks.length) (h2 : ∀ t ∈ ks, allT P t) : allT P (.mk h ks) := by
  rw [allT]
  exact ⟨h1, allTs_iff.2 h2⟩
theorem of_ok {h : Hd} {l : List Ar} (hh : okP h 0) (hok : ∀ t ∈ l, OkA t.nodes) (hs : total l + 1 ≤ 4294967296) (hl : l.length ≤ 4294967296) : OkA (ofT h l).nodes := by
  unfold ofT
  split
  · rename_i hB
    refine ok_arOf (allT_mk ⟨hh.1, hh.2.1, by simpa using hl⟩ fun t ht => ?_) ?_
    · obtain ⟨x, hx, rfl⟩ := List.mem_map.1 ht
      exact ok_tree (rightB_iff.1 (ofB_all hB x hx)) (hok x hx)
    · rw [size, sizes_total fun t ht => rightB_iff.1 (ofB_all hB t ht)]
      exact hs
  · exact okA_iff.2 ⟨by simp [noAr], fun n hn => by simp [noAr] at hn⟩
theorem same_arOf {t : Ar} (h : rightB t = true) : sameT (arOf (tree t)) t = true :=
  same_iff.2 ⟨arOf_rightB (rightB_iff.1 h).fit, h, tree_arOf _⟩

/- Root and Kids of a tree, put together again. -/
theorem kids_none {T : Ar} (h : rightB T = false) : kidsT T = [] := by
  unfold kidsT
  rw [if_neg (by rw [h]; decide)]
theorem mem_kids {T : Ar} (h : rightB T = true) {x : Ar} (hx : x ∈ kidsT T) : ∃ t ∈ kidsR (tree T), x = arOf t := by
  unfold kidsT at hx
  rw [if_pos h] at hx
  obtain ⟨t, ht, rfl⟩ := List.mem_map.1 hx
  exact ⟨t, ht, rfl⟩
theorem size_mem {ts : List (RT Hd)} {t : RT Hd} (h : t ∈ ts) : size t ≤ sizes ts := by
  rw [sizes_eq]
  have key : ∀ {l : List Nat} {x : Nat}, x ∈ l → x ≤ l.sum := by
    intro l
    induction l with
    | nil => intro x h; cases h
    | cons a l ih =>
      intro x h
      rw [List.sum_cons]
      rcases List.mem_cons.1 h with rfl | h
      · omega
      · have := ih h
        omega
  exact key (List.mem_map.2 ⟨t, h, rfl⟩)
theorem tree_eta (t : RT Hd) : t = .mk (top t) (kidsR t) := by cases t; rfl
theorem kids_ok {T : Ar} (hok : OkA T.nodes) : ∀ x ∈ kidsT T, OkA x.nodes := by
  intro x hx
  cases hR : rightB T with
  | false => rw [kids_none hR] at hx; cases hx
  | true =>
    obtain ⟨t, ht, rfl⟩ := mem_kids hR hx
    have h1 := ok_tree (rightB_iff.1 hR) hok
    have h2 := (rightB_iff.1 hR).size
    rw [tree_eta (tree T), allT] at h1
    rw [tree_eta (tree T), size] at h2
    exact ok_arOf (allTs_iff.1 h1.2 t ht) (by have := size_mem ht; have := hok.len; omega)
theorem kids_total {T : Ar} : total (kidsT T) ≤ T.nodes.length ∧ (kidsT T).length ≤ T.nodes.length := by
  cases hR : rightB T with
  | false => rw [kids_none hR]; simp [total]
  | true =>
    have h2 := (rightB_iff.1 hR).size
    rw [tree_eta (tree T), size] at h2
    have h3 : total (kidsT T) = sizes (kidsR (tree T)) := by
      unfold kidsT total
      rw [if_pos hR, sizes_eq, List.map_map]
      congr 1
      refine List.map_congr_left fun t _ => ?_
      simp [arOf, flat_length]
    have h4 : (kidsT T).length = (kidsR (tree T)).length := by
      unfold kidsT
      rw [if_pos hR, List.length_map]
    have := sizes_len (kidsR (tree T))
    omega
theorem root_ok {T : Ar} (hok : OkA T.nodes) : okP (rootT T) 0 := by
  unfold rootT
  cases hR : rightB T with
  | false =>
    rw [if_neg (by decide)]
    exact ⟨by decide, by decide, by omega⟩
  | true =>
    have h1 := ok_tree (rightB_iff.1 hR) hok
    rw [tree_eta (tree T), allT] at h1
    rw [if_pos rfl]
    exact ⟨h1.1.1, h1.1.2.1, by omega⟩
theorem back_of {T : Ar} (hR : rightB T = true) : ofB (rootT T) (kidsT T) = true ∧ ofT (rootT T) (kidsT T) = arOf (tree T) := by
  have hf := (rightB_iff.1 hR).fit
  have hk : (kidsT T).map tree = kidsR (tree T) := by
    unfold kidsT
    rw [if_pos hR, List.map_map]
    conv => rhs; rw [← List.map_id (kidsR (tree T))]
    exact List.map_congr_left fun t _ => tree_arOf t
  have hr : rootT T = top (tree T) := by unfold rootT; rw [if_pos hR]
  have hB : ofB (rootT T) (kidsT T) = true := by
    rw [tree_eta (tree T), fitT, Bool.and_eq_true] at hf
    unfold ofB
    rw [Bool.and_eq_true, List.all_eq_true, hr]
    refine ⟨by rw [← hk, List.length_map] at hf; exact hf.1, fun x hx => ?_⟩
    obtain ⟨t, ht, rfl⟩ := mem_kids hR hx
    exact arOf_rightB (fitTs_iff.1 hf.2 t ht)
  refine ⟨hB, ?_⟩
  rw [ofT_eq hB, hk, hr, ← tree_eta]
theorem back_same {T : Ar} (hR : rightB T = true) : sameT (ofT (rootT T) (kidsT T)) T = true := by
  rw [(back_of hR).2]
  exact same_arOf hR
end Go.Proofs.YtpkjfdgjmcphmaaDoor

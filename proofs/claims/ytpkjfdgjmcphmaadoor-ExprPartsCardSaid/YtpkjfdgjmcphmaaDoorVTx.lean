/- What a clean arena keeps of the arena that it is of. -/
import Derived.Test.YtpkjfdgjmcphmaaDoorVTw
namespace Go.Proofs.YtpkjfdgjmcphmaaDoor
open Go.RowKit Bset Tm
namespace Tm

mutual
def allT (P : Hd → Nat → Prop) : RT Hd → Prop
  | .mk h ks => P h ks.length ∧ allTs P ks
def allTs (P : Hd → Nat → Prop) : List (RT Hd) → Prop
  | [] => True
  | t :: ts => allT P t ∧ allTs P ts
end
theorem allTs_iff {P : Hd → Nat → Prop} {ts : List (RT Hd)} : allTs P ts ↔ ∀ t ∈ ts, allT P t := by
  induction ts with
  | nil => simp [allTs]
  | cons t ts ih => simp [allTs, ih]
theorem all_tau {P : Hd → Nat → Prop} {A : List Nd} (hK : Dec (kidsN A)) (h : ∀ (i : Nat) n, A[i]? = some n → P n.hd n.kids.length) (i : Nat) (hi : i < A.length) : allT P (tau A i) := by
  induction i using Nat.strongRecOn with
  | ind i ih =>
    have hA : A[i]? = some A[i] := by simp [hi]
    rw [tau_eq hK, allT, hdAt_some hA, List.length_map, kidsN_some hA, List.length_map]
    refine ⟨h i _ hA, allTs_iff.2 fun t ht => ?_⟩
    obtain ⟨k, hk, rfl⟩ := List.mem_map.1 ht
    have := hK i k (by rw [kidsN_some hA]; exact hk)
    exact ih k this (by omega)
mutual
theorem all_flat {P : Hd → Nat → Prop} : ∀ (t : RT Hd) (b : Nat), allT P t → ∀ n ∈ flatAt b t, P n.hd n.kids.length
  | .mk h ks, b, hf, n, hn => by
    rw [allT] at hf
    rw [flatAt, List.mem_append, List.mem_singleton] at hn
    rcases hn with hn | rfl
    · exact alls_flat ks b hf.2 n hn
    · simpa [roots_len] using hf.1
theorem alls_flat {P : Hd → Nat → Prop} : ∀ (ts : List (RT Hd)) (b : Nat), allTs P ts → ∀ n ∈ flatsAt b ts, P n.hd n.kids.length
  | [], _, _, n, hn => by simp [flatsAt] at hn
  | t :: ts, b, hf, n, hn => by
    rw [allTs] at hf
    rw [flatsAt, List.mem_append] at hn
    rcases hn with hn | hn
    · exact all_flat t b hf.1 n hn
    · exact alls_flat ts _ hf.2 n hn
end
end Tm

/-- How nodes are that are worked on. -/
def okP (h : Hd) (m : Nat) : Prop := h.kind < 256 ∧ h.text.size ≤ 140737488355328 ∧ m ≤ 4294967296
theorem okA_iff {A : List Nd} : OkA A ↔ A.length ≤ 4294967296 ∧ ∀ n ∈ A, okP n.hd n.kids.length :=
  ⟨fun h => ⟨h.len, fun n hn => ⟨h.kind n hn, h.text n hn, h.kids n hn⟩⟩, fun h => ⟨h.1, fun n hn => (h.2 n hn).1, fun n hn => (h.2 n hn).2.1, fun n hn => (h.2 n hn).2.2⟩⟩
theorem ok_tree {T : Ar} (h : RightT T) (hok : OkA T.nodes) : Tm.allT okP (tree T) := by
  have h2 := h.2.k.pos
  unfold tree
  rw [h.at.1]
  exact Tm.all_tau h.2.k.dec (fun i n hn => (okA_iff.1 hok).2 n (List.mem_of_getElem? hn)) _ (by omega)
theorem ok_arOf {t : RT Hd} (h : Tm.allT okP t) (hs : size t ≤ 4294967296) : OkA (arOf t).nodes := okA_iff.2 ⟨by simp only [arOf, flat_length]; exact hs, Tm.all_flat t 0 h⟩
theorem ok_clean {T : Ar} (hok : OkA T.nodes) : OkA (cleanT T).nodes := by
  unfold cleanT
  cases hR : rightB T with
  | false => exact okA_iff.2 ⟨by simp [noAr], fun n hn => by simp [noAr] at hn⟩
  | true =>
    have h := rightB_iff.1 hR
    rw [if_pos rfl]
    exact ok_arOf (ok_tree h hok) (by rw [h.size]; exact hok.len)

theorem noAr_right : rightB noAr = false := rightB_no.2 fun h => h.2.pos rfl
theorem clean_right (T : Ar) : rightB (cleanT T) = rightB T := by
  unfold cleanT
  cases hR : rightB T with
  | false => exact noAr_right
  | true =>
    rw [if_pos rfl]
    exact rightB_iff.2 (arOf_right (rightB_iff.1 hR).fit)
theorem clean_tree {T : Ar} (h : rightB T = true) : tree (cleanT T) = tree T := by
  unfold cleanT
  rw [if_pos h, tree_arOf]
theorem clean_clean (T : Ar) : cleanT (cleanT T) = cleanT T := by
  unfold cleanT
  cases hR : rightB T with
  | false => simp [noAr_right]
  | true =>
    have h := rightB_iff.2 (arOf_right (rightB_iff.1 hR).fit)
    simp [h, tree_arOf]

noncomputable def sameT (a b : Ar) : Bool := rightB a && rightB b && eqB (cleanT a).nodes (cleanT b).nodes
theorem clean_nodes {T : Ar} (h : rightB T = true) : (cleanT T).nodes = flat (tree T) := by
  unfold cleanT
  rw [if_pos h]
  rfl
theorem same_iff {a b : Ar} : sameT a b = true ↔ rightB a = true ∧ rightB b = true ∧ tree a = tree b := by
  unfold sameT
  rw [Bool.and_eq_true, Bool.and_eq_true, eqB_iff]
  constructor
  · rintro ⟨⟨h1, h2⟩, h3⟩
    rw [clean_nodes h1, clean_nodes h2] at h3
    exact ⟨h1, h2, flat_inj h3⟩
  · rintro ⟨h1, h2, h3⟩
    rw [clean_nodes h1, clean_nodes h2, h3]
    exact ⟨⟨h1, h2⟩, rfl⟩
end Go.Proofs.YtpkjfdgjmcphmaaDoor

/- Package tree: Same. -/
namespace Go.Proofs.YtpkjfdgjmcphmaaDoor
open Go.RowKit Bset Tm

theorem fld0 (a b : Value) (w : World) : (Instr.field 26 (.agg #[a, b]) 0).run Tryd.prog w = .ok a w := by kernel_rfl
theorem fld1 (a b : Value) (w : World) : (Instr.field 26 (.agg #[a, b]) 1).run Tryd.prog w = .ok b w := by kernel_rfl

set_option maxRecDepth 100000 in
set_option maxHeartbeats 8000000 in
theorem same_any (v1 v2 : Value) (a b : Ar) (w : World) (h1 : Tree w v1 a) (h2 : Tree w v2 b) (hoka : OkA a.nodes) (hokb : OkA b.nodes) (hE : Env w) :
    Calls Tryd.prog 26 #[v1, v2] w fun e w' => e = .returned (.bool (sameT a b)) ∧ Below w.heap.size w w' := by
  obtain ⟨nv1, rfl, hna⟩ := h1
  obtain ⟨nv2, rfl, hnb⟩ := h2
  obtain ⟨pa, ca, rfl⟩ := hna.len
  obtain ⟨pb, cb, rfl⟩ := hnb.len
  have hra := fun w h1 h2 => right_at' (treeV (.slice pa a.nodes.length ca) a.root) a w h1 hoka h2
  have hrb := fun w h1 h2 => right_at' (treeV (.slice pb b.nodes.length cb) b.root) b w h1 hokb h2
  have hca := fun w h1 h2 => clean_any (treeV (.slice pa a.nodes.length ca) a.root) a w h1 hoka h2
  have hcb := fun w h1 h2 => clean_any (treeV (.slice pb b.nodes.length cb) b.root) b w h1 hokb h2
  have B0 := (((Below.refl w.heap.size w).alloc (Nat.le_refl _) (.cells #[.slice pa a.nodes.length ca, .int .i64 a.root] 26)).alloc (by simp) (.cells #[.slice pb b.nodes.length cb, .int .i64 b.root] 26)).drew
  have KA0 := ((Cl.new w 26 #[.slice pa a.nodes.length ca, .int .i64 a.root]).alloc (.cells #[.slice pb b.nodes.length cb, .int .i64 b.root] 26)).drew
  have KB0 : Cl ((w.alloc (.cells #[.slice pa a.nodes.length ca, .int .i64 a.root] 26)).alloc (.cells #[.slice pb b.nodes.length cb, .int .i64 b.root] 26)).drew (w.heap.size + 1) 26 #[.slice pb b.nodes.length cb, .int .i64 b.root] := Cl.drew (Cl.new' (by simp) _ _)
  have f0 := fld0
  unfold sameT
  go_enter Tryd.func26, Tryd.ntmps26
  cases hRa : rightB a with
  | false =>
    simp only [hRa] at hra
    go_wp2
    refine wp_region_held_drew (S := (fun w' => w'.cell? ⟨w.heap.size, 0, none⟩ = some (.slice pa a.nodes.length ca) ∧ w'.cell? ⟨w.heap.size, 1, none⟩ = some (.int .i64 a.root) ∧ w'.cell? ⟨w.heap.size + 1, 0, none⟩ = some (.slice pb b.nodes.length cb) ∧ w'.cell? ⟨w.heap.size + 1, 1, none⟩ = some (.int .i64 b.root))) (by kernel_rfl) (⟨KA0.two.1.1, KA0.two.1.2, KB0.two.1.1, KB0.two.1.2⟩) (fun hHeld => ?_)
    refine wpAnyH_take (i := 0) (v := ?r1v0) rfl (by kernel_rfl) (by kernel_rfl) (by kernel_rfl) (fun _ _ _ h => h) (Or.inl ⟨by rfl, ?r1y0⟩) (by assumption) ?r1t0
    case r1y0 => (intro w hSw; (try dsimp only at hSw); (try simp only [List.getElem_toArray, List.getElem_cons_zero]); go_simp; try with_reducible rfl)
    try simp only [Act.put, List.getElem_toArray, List.getElem_cons_zero, List.setIfInBounds_toArray, List.set_cons_zero, List.set_cons_succ]
    refine wpAnyH_ready (rs := [1]) (by kernel_rfl) (by simp) ?_
    refine AllReadyH.cons rfl (fun K hK => ?_) AllReadyH.nil
    try simp only [List.getElem_toArray, List.getElem_cons_zero, List.getElem_cons_succ]
    go_simp
    (refine (hra _ ⟨_, rfl, hna.below B0⟩ (hE.below B0)).mono ?_; rintro e w1 ⟨rfl, hb1⟩; have KA1 := KA0.below hb1 KA0.lt; have KB1 := KB0.below hb1 KB0.lt; have B1 := B0.trans (hb1.mono B0.size))
    try go_simp
    refine hK.out _ _ ?r1S1 (fun hHeld2 => ?_)
    case r1S1 => (try dsimp only); (first | exact ⟨KA5.two.1.1, KA5.two.1.2, KB5.two.1.1, KB5.two.1.2⟩ | exact ⟨KA4.two.1.1, KA4.two.1.2, KB4.two.1.1, KB4.two.1.2⟩ | exact ⟨KA3.two.1.1, KA3.two.1.2, KB3.two.1.1, KB3.two.1.2⟩ | exact ⟨KA2.two.1.1, KA2.two.1.2, KB2.two.1.1, KB2.two.1.2⟩ | exact ⟨KA1.two.1.1, KA1.two.1.2, KB1.two.1.1, KB1.two.1.2⟩)
    clear hHeld hK K
    have hHeld := hHeld2
    clear hHeld2
    try simp only [Act.put, List.getElem_toArray, List.getElem_cons_zero, List.getElem_cons_succ, List.setIfInBounds_toArray, List.set_cons_zero, List.set_cons_succ]
    refine wpAnyH_take (i := 2) (v := ?r1v2) rfl (by kernel_rfl) (by kernel_rfl) (by kernel_rfl) (fun _ _ _ h => h) (Or.inl ⟨by rfl, ?r1y2⟩) (by assumption) ?r1t2
    case r1y2 => (intro w hSw; (try dsimp only at hSw); (try simp only [List.getElem_toArray, List.getElem_cons_zero, List.getElem_cons_succ]); go_simp; try with_reducible rfl)
    try simp only [Act.put, List.getElem_toArray, List.getElem_cons_zero, List.getElem_cons_succ, List.setIfInBounds_toArray, List.set_cons_zero, List.set_cons_succ]
    refine wpAnyH_take (i := 3) (v := undef) rfl (by kernel_rfl) (by kernel_rfl) (by kernel_rfl) (fun _ _ _ h => h) (Or.inr ⟨by rfl, rfl⟩) (by assumption) ?_
    try simp only [Act.put, List.getElem_toArray, List.getElem_cons_zero, List.getElem_cons_succ, List.setIfInBounds_toArray, List.set_cons_zero, List.set_cons_succ]
    refine wpAnyH_take (i := 4) (v := undef) rfl (by kernel_rfl) (by kernel_rfl) (by kernel_rfl) (fun _ _ _ h => h) (Or.inr ⟨by rfl, rfl⟩) (by assumption) ?_
    try simp only [Act.put, List.getElem_toArray, List.getElem_cons_zero, List.getElem_cons_succ, List.setIfInBounds_toArray, List.set_cons_zero, List.set_cons_succ]
    refine wpAnyH_take (i := 5) (v := ?r1v5) rfl (by kernel_rfl) (by kernel_rfl) (by kernel_rfl) (fun _ _ _ h => h) (Or.inl ⟨by rfl, ?r1y5⟩) (by assumption) ?r1t5
    case r1y5 => (intro w hSw; (try dsimp only at hSw); (try simp only [List.getElem_toArray, List.getElem_cons_zero, List.getElem_cons_succ]); go_simp; try with_reducible rfl)
    try simp only [Act.put, List.getElem_toArray, List.getElem_cons_zero, List.getElem_cons_succ, List.setIfInBounds_toArray, List.set_cons_zero, List.set_cons_succ]
    refine wpAnyH_take (i := 6) (v := ?r1v6) rfl (by kernel_rfl) (by kernel_rfl) (by kernel_rfl) (fun _ _ _ h => h) (Or.inl ⟨by rfl, ?r1y6⟩) (by assumption) ?r1t6
    case r1y6 => (intro w hSw; (try dsimp only at hSw); (try simp only [List.getElem_toArray, List.getElem_cons_zero, List.getElem_cons_succ]); go_simp; try with_reducible rfl)
    try simp only [Act.put, List.getElem_toArray, List.getElem_cons_zero, List.getElem_cons_succ, List.setIfInBounds_toArray, List.set_cons_zero, List.set_cons_succ]
    refine wpAnyH_take (i := 7) (v := undef) rfl (by kernel_rfl) (by kernel_rfl) (by kernel_rfl) (fun _ _ _ h => h) (Or.inr ⟨by rfl, rfl⟩) (by assumption) ?_
    try simp only [Act.put, List.getElem_toArray, List.getElem_cons_zero, List.getElem_cons_succ, List.setIfInBounds_toArray, List.set_cons_zero, List.set_cons_succ]
    refine wpAnyH_take (i := 8) (v := undef) rfl (by kernel_rfl) (by kernel_rfl) (by kernel_rfl) (fun _ _ _ h => h) (Or.inr ⟨by rfl, rfl⟩) (by assumption) ?_
    try simp only [Act.put, List.getElem_toArray, List.getElem_cons_zero, List.getElem_cons_succ, List.setIfInBounds_toArray, List.set_cons_zero, List.set_cons_succ]
    refine wpAnyH_take (i := 9) (v := undef) rfl (by kernel_rfl) (by kernel_rfl) (by kernel_rfl) (fun _ _ _ h => h) (Or.inr ⟨by rfl, rfl⟩) (by assumption) ?_
    try simp only [Act.put, List.getElem_toArray, List.getElem_cons_zero, List.getElem_cons_succ, List.setIfInBounds_toArray, List.set_cons_zero, List.set_cons_succ]
    refine wpAnyH_take (i := 10) (v := undef) rfl (by kernel_rfl) (by kernel_rfl) (by kernel_rfl) (fun _ _ _ h => h) (Or.inr ⟨by rfl, rfl⟩) (by assumption) ?_
    try simp only [Act.put, List.getElem_toArray, List.getElem_cons_zero, List.getElem_cons_succ, List.setIfInBounds_toArray, List.set_cons_zero, List.set_cons_succ]
    refine wpAnyH_take (i := 11) (v := undef) rfl (by kernel_rfl) (by kernel_rfl) (by kernel_rfl) (fun _ _ _ h => h) (Or.inr ⟨by rfl, rfl⟩) (by assumption) ?_
    try simp only [Act.put, List.getElem_toArray, List.getElem_cons_zero, List.getElem_cons_succ, List.setIfInBounds_toArray, List.set_cons_zero, List.set_cons_succ]
    refine wpAnyH_take (i := 12) (v := undef) rfl (by kernel_rfl) (by kernel_rfl) (by kernel_rfl) (fun _ _ _ h => h) (Or.inr ⟨by rfl, rfl⟩) (by assumption) ?_
    try simp only [Act.put, List.getElem_toArray, List.getElem_cons_zero, List.getElem_cons_succ, List.setIfInBounds_toArray, List.set_cons_zero, List.set_cons_succ]
    refine wpAnyH_take (i := 13) (v := undef) rfl (by kernel_rfl) (by kernel_rfl) (by kernel_rfl) (fun _ _ _ h => h) (Or.inr ⟨by rfl, rfl⟩) (by assumption) ?_
    try simp only [Act.put, List.getElem_toArray, List.getElem_cons_zero, List.getElem_cons_succ, List.setIfInBounds_toArray, List.set_cons_zero, List.set_cons_succ]
    refine wpAnyH_take (i := 14) (v := ?r1v14) rfl (by kernel_rfl) (by kernel_rfl) (by kernel_rfl) (fun _ _ _ h => h) (Or.inl ⟨by rfl, ?r1y14⟩) (by assumption) ?r1t14
    case r1y14 => (intro w hSw; (try dsimp only at hSw); (try simp only [List.getElem_toArray, List.getElem_cons_zero, List.getElem_cons_succ]); go_simp; try with_reducible rfl)
    try simp only [Act.put, List.getElem_toArray, List.getElem_cons_zero, List.getElem_cons_succ, List.setIfInBounds_toArray, List.set_cons_zero, List.set_cons_succ]
    refine wpAnyH_take (i := 15) (v := ?r1v15) rfl (by kernel_rfl) (by kernel_rfl) (by kernel_rfl) (fun _ _ _ h => h) (Or.inl ⟨by rfl, ?r1y15⟩) (by assumption) ?r1t15
    case r1y15 => (intro w hSw; (try dsimp only at hSw); (try simp only [List.getElem_toArray, List.getElem_cons_zero, List.getElem_cons_succ]); go_simp; try with_reducible rfl)
    try simp only [Act.put, List.getElem_toArray, List.getElem_cons_zero, List.getElem_cons_succ, List.setIfInBounds_toArray, List.set_cons_zero, List.set_cons_succ]
    refine wpAnyH_done (by kernel_rfl) ?_ _
    go_wp2
    go_ret
    exact ⟨rfl, B1⟩
  | true =>
    simp only [hRa] at hra
    cases hRb : rightB b with
    | false =>
      simp only [hRb] at hrb
      go_wp2
      refine wp_region_held_drew (S := (fun w' => w'.cell? ⟨w.heap.size, 0, none⟩ = some (.slice pa a.nodes.length ca) ∧ w'.cell? ⟨w.heap.size, 1, none⟩ = some (.int .i64 a.root) ∧ w'.cell? ⟨w.heap.size + 1, 0, none⟩ = some (.slice pb b.nodes.length cb) ∧ w'.cell? ⟨w.heap.size + 1, 1, none⟩ = some (.int .i64 b.root))) (by kernel_rfl) (⟨KA0.two.1.1, KA0.two.1.2, KB0.two.1.1, KB0.two.1.2⟩) (fun hHeld => ?_)
      refine wpAnyH_take (i := 0) (v := ?r2v0) rfl (by kernel_rfl) (by kernel_rfl) (by kernel_rfl) (fun _ _ _ h => h) (Or.inl ⟨by rfl, ?r2y0⟩) (by assumption) ?r2t0
      case r2y0 => (intro w hSw; (try dsimp only at hSw); (try simp only [List.getElem_toArray, List.getElem_cons_zero]); go_simp; try with_reducible rfl)
      try simp only [Act.put, List.getElem_toArray, List.getElem_cons_zero, List.setIfInBounds_toArray, List.set_cons_zero, List.set_cons_succ]
      refine wpAnyH_ready (rs := [1]) (by kernel_rfl) (by simp) ?_
      refine AllReadyH.cons rfl (fun K hK => ?_) AllReadyH.nil
      try simp only [List.getElem_toArray, List.getElem_cons_zero, List.getElem_cons_succ]
      go_simp
      (refine (hra _ ⟨_, rfl, hna.below B0⟩ (hE.below B0)).mono ?_; rintro e w1 ⟨rfl, hb1⟩; have KA1 := KA0.below hb1 KA0.lt; have KB1 := KB0.below hb1 KB0.lt; have B1 := B0.trans (hb1.mono B0.size))
      try go_simp
      refine hK.out _ _ ?r2S1 (fun hHeld2 => ?_)
      case r2S1 => (try dsimp only); (first | exact ⟨KA5.two.1.1, KA5.two.1.2, KB5.two.1.1, KB5.two.1.2⟩ | exact ⟨KA4.two.1.1, KA4.two.1.2, KB4.two.1.1, KB4.two.1.2⟩ | exact ⟨KA3.two.1.1, KA3.two.1.2, KB3.two.1.1, KB3.two.1.2⟩ | exact ⟨KA2.two.1.1, KA2.two.1.2, KB2.two.1.1, KB2.two.1.2⟩ | exact ⟨KA1.two.1.1, KA1.two.1.2, KB1.two.1.1, KB1.two.1.2⟩)
      clear hHeld hK K
      have hHeld := hHeld2
      clear hHeld2
      try simp only [Act.put, List.getElem_toArray, List.getElem_cons_zero, List.getElem_cons_succ, List.setIfInBounds_toArray, List.set_cons_zero, List.set_cons_succ]
      refine wpAnyH_take (i := 2) (v := ?r2v2) rfl (by kernel_rfl) (by kernel_rfl) (by kernel_rfl) (fun _ _ _ h => h) (Or.inl ⟨by rfl, ?r2y2⟩) (by assumption) ?r2t2
      case r2y2 => (intro w hSw; (try dsimp only at hSw); (try simp only [List.getElem_toArray, List.getElem_cons_zero, List.getElem_cons_succ]); go_simp; try with_reducible rfl)
      try simp only [Act.put, List.getElem_toArray, List.getElem_cons_zero, List.getElem_cons_succ, List.setIfInBounds_toArray, List.set_cons_zero, List.set_cons_succ]
      refine wpAnyH_take (i := 3) (v := ?r2v3) rfl (by kernel_rfl) (by kernel_rfl) (by kernel_rfl) (fun _ _ _ h => h) (Or.inl ⟨by rfl, ?r2y3⟩) (by assumption) ?r2t3
      case r2y3 => (intro w hSw; (try dsimp only at hSw); (try simp only [List.getElem_toArray, List.getElem_cons_zero, List.getElem_cons_succ]); go_simp; try with_reducible rfl)
      try simp only [Act.put, List.getElem_toArray, List.getElem_cons_zero, List.getElem_cons_succ, List.setIfInBounds_toArray, List.set_cons_zero, List.set_cons_succ]
      refine wpAnyH_ready (rs := [4]) (by kernel_rfl) (by simp) ?_
      refine AllReadyH.cons rfl (fun K hK => ?_) AllReadyH.nil
      try simp only [List.getElem_toArray, List.getElem_cons_zero, List.getElem_cons_succ]
      go_simp
      (refine (hrb _ ⟨_, rfl, hnb.below B1⟩ (hE.below B1)).mono ?_; rintro e w2 ⟨rfl, hb2⟩; have KA2 := KA1.below hb2 KA1.lt; have KB2 := KB1.below hb2 KB1.lt; have B2 := B1.trans (hb2.mono B1.size))
      try go_simp
      refine hK.out _ _ ?r2S4 (fun hHeld2 => ?_)
      case r2S4 => (try dsimp only); (first | exact ⟨KA5.two.1.1, KA5.two.1.2, KB5.two.1.1, KB5.two.1.2⟩ | exact ⟨KA4.two.1.1, KA4.two.1.2, KB4.two.1.1, KB4.two.1.2⟩ | exact ⟨KA3.two.1.1, KA3.two.1.2, KB3.two.1.1, KB3.two.1.2⟩ | exact ⟨KA2.two.1.1, KA2.two.1.2, KB2.two.1.1, KB2.two.1.2⟩ | exact ⟨KA1.two.1.1, KA1.two.1.2, KB1.two.1.1, KB1.two.1.2⟩)
      clear hHeld hK K
      have hHeld := hHeld2
      clear hHeld2
      try simp only [Act.put, List.getElem_toArray, List.getElem_cons_zero, List.getElem_cons_succ, List.setIfInBounds_toArray, List.set_cons_zero, List.set_cons_succ]
      refine wpAnyH_take (i := 5) (v := ?r2v5) rfl (by kernel_rfl) (by kernel_rfl) (by kernel_rfl) (fun _ _ _ h => h) (Or.inl ⟨by rfl, ?r2y5⟩) (by assumption) ?r2t5
      case r2y5 => (intro w hSw; (try dsimp only at hSw); (try simp only [List.getElem_toArray, List.getElem_cons_zero, List.getElem_cons_succ]); go_simp; try with_reducible rfl)
      try simp only [Act.put, List.getElem_toArray, List.getElem_cons_zero, List.getElem_cons_succ, List.setIfInBounds_toArray, List.set_cons_zero, List.set_cons_succ]
      refine wpAnyH_take (i := 6) (v := ?r2v6) rfl (by kernel_rfl) (by kernel_rfl) (by kernel_rfl) (fun _ _ _ h => h) (Or.inl ⟨by rfl, ?r2y6⟩) (by assumption) ?r2t6
      case r2y6 => (intro w hSw; (try dsimp only at hSw); (try simp only [List.getElem_toArray, List.getElem_cons_zero, List.getElem_cons_succ]); go_simp; try with_reducible rfl)
      try simp only [Act.put, List.getElem_toArray, List.getElem_cons_zero, List.getElem_cons_succ, List.setIfInBounds_toArray, List.set_cons_zero, List.set_cons_succ]
      refine wpAnyH_take (i := 7) (v := undef) rfl (by kernel_rfl) (by kernel_rfl) (by kernel_rfl) (fun _ _ _ h => h) (Or.inr ⟨by rfl, rfl⟩) (by assumption) ?_
      try simp only [Act.put, List.getElem_toArray, List.getElem_cons_zero, List.getElem_cons_succ, List.setIfInBounds_toArray, List.set_cons_zero, List.set_cons_succ]
      refine wpAnyH_take (i := 8) (v := undef) rfl (by kernel_rfl) (by kernel_rfl) (by kernel_rfl) (fun _ _ _ h => h) (Or.inr ⟨by rfl, rfl⟩) (by assumption) ?_
      try simp only [Act.put, List.getElem_toArray, List.getElem_cons_zero, List.getElem_cons_succ, List.setIfInBounds_toArray, List.set_cons_zero, List.set_cons_succ]
      refine wpAnyH_take (i := 9) (v := undef) rfl (by kernel_rfl) (by kernel_rfl) (by kernel_rfl) (fun _ _ _ h => h) (Or.inr ⟨by rfl, rfl⟩) (by assumption) ?_
      try simp only [Act.put, List.getElem_toArray, List.getElem_cons_zero, List.getElem_cons_succ, List.setIfInBounds_toArray, List.set_cons_zero, List.set_cons_succ]
      refine wpAnyH_take (i := 10) (v := undef) rfl (by kernel_rfl) (by kernel_rfl) (by kernel_rfl) (fun _ _ _ h => h) (Or.inr ⟨by rfl, rfl⟩) (by assumption) ?_
      try simp only [Act.put, List.getElem_toArray, List.getElem_cons_zero, List.getElem_cons_succ, List.setIfInBounds_toArray, List.set_cons_zero, List.set_cons_succ]
      refine wpAnyH_take (i := 11) (v := undef) rfl (by kernel_rfl) (by kernel_rfl) (by kernel_rfl) (fun _ _ _ h => h) (Or.inr ⟨by rfl, rfl⟩) (by assumption) ?_
      try simp only [Act.put, List.getElem_toArray, List.getElem_cons_zero, List.getElem_cons_succ, List.setIfInBounds_toArray, List.set_cons_zero, List.set_cons_succ]
      refine wpAnyH_take (i := 12) (v := undef) rfl (by kernel_rfl) (by kernel_rfl) (by kernel_rfl) (fun _ _ _ h => h) (Or.inr ⟨by rfl, rfl⟩) (by assumption) ?_
      try simp only [Act.put, List.getElem_toArray, List.getElem_cons_zero, List.getElem_cons_succ, List.setIfInBounds_toArray, List.set_cons_zero, List.set_cons_succ]
      refine wpAnyH_take (i := 13) (v := undef) rfl (by kernel_rfl) (by kernel_rfl) (by kernel_rfl) (fun _ _ _ h => h) (Or.inr ⟨by rfl, rfl⟩) (by assumption) ?_
      try simp only [Act.put, List.getElem_toArray, List.getElem_cons_zero, List.getElem_cons_succ, List.setIfInBounds_toArray, List.set_cons_zero, List.set_cons_succ]
      refine wpAnyH_take (i := 14) (v := ?r2v14) rfl (by kernel_rfl) (by kernel_rfl) (by kernel_rfl) (fun _ _ _ h => h) (Or.inl ⟨by rfl, ?r2y14⟩) (by assumption) ?r2t14
      case r2y14 => (intro w hSw; (try dsimp only at hSw); (try simp only [List.getElem_toArray, List.getElem_cons_zero, List.getElem_cons_succ]); go_simp; try with_reducible rfl)
      try simp only [Act.put, List.getElem_toArray, List.getElem_cons_zero, List.getElem_cons_succ, List.setIfInBounds_toArray, List.set_cons_zero, List.set_cons_succ]
      refine wpAnyH_take (i := 15) (v := ?r2v15) rfl (by kernel_rfl) (by kernel_rfl) (by kernel_rfl) (fun _ _ _ h => h) (Or.inl ⟨by rfl, ?r2y15⟩) (by assumption) ?r2t15
      case r2y15 => (intro w hSw; (try dsimp only at hSw); (try simp only [List.getElem_toArray, List.getElem_cons_zero, List.getElem_cons_succ]); go_simp; try with_reducible rfl)
      try simp only [Act.put, List.getElem_toArray, List.getElem_cons_zero, List.getElem_cons_succ, List.setIfInBounds_toArray, List.set_cons_zero, List.set_cons_succ]
      refine wpAnyH_done (by kernel_rfl) ?_ _
      go_wp2
      go_ret
      exact ⟨rfl, B2⟩
    | true =>
      simp only [hRb] at hrb
      go_wp2
      refine wp_region_held_drew (S := (fun w' => w'.cell? ⟨w.heap.size, 0, none⟩ = some (.slice pa a.nodes.length ca) ∧ w'.cell? ⟨w.heap.size, 1, none⟩ = some (.int .i64 a.root) ∧ w'.cell? ⟨w.heap.size + 1, 0, none⟩ = some (.slice pb b.nodes.length cb) ∧ w'.cell? ⟨w.heap.size + 1, 1, none⟩ = some (.int .i64 b.root))) (by kernel_rfl) (⟨KA0.two.1.1, KA0.two.1.2, KB0.two.1.1, KB0.two.1.2⟩) (fun hHeld => ?_)
      refine wpAnyH_take (i := 0) (v := ?r3v0) rfl (by kernel_rfl) (by kernel_rfl) (by kernel_rfl) (fun _ _ _ h => h) (Or.inl ⟨by rfl, ?r3y0⟩) (by assumption) ?r3t0
      case r3y0 => (intro w hSw; (try dsimp only at hSw); (try simp only [List.getElem_toArray, List.getElem_cons_zero]); go_simp; try with_reducible rfl)
      try simp only [Act.put, List.getElem_toArray, List.getElem_cons_zero, List.setIfInBounds_toArray, List.set_cons_zero, List.set_cons_succ]
      refine wpAnyH_ready (rs := [1]) (by kernel_rfl) (by simp) ?_
      refine AllReadyH.cons rfl (fun K hK => ?_) AllReadyH.nil
      try simp only [List.getElem_toArray, List.getElem_cons_zero, List.getElem_cons_succ]
      go_simp
      (refine (hra _ ⟨_, rfl, hna.below B0⟩ (hE.below B0)).mono ?_; rintro e w1 ⟨rfl, hb1⟩; have KA1 := KA0.below hb1 KA0.lt; have KB1 := KB0.below hb1 KB0.lt; have B1 := B0.trans (hb1.mono B0.size))
      try go_simp
      refine hK.out _ _ ?r3S1 (fun hHeld2 => ?_)
      case r3S1 => (try dsimp only); (first | exact ⟨KA5.two.1.1, KA5.two.1.2, KB5.two.1.1, KB5.two.1.2⟩ | exact ⟨KA4.two.1.1, KA4.two.1.2, KB4.two.1.1, KB4.two.1.2⟩ | exact ⟨KA3.two.1.1, KA3.two.1.2, KB3.two.1.1, KB3.two.1.2⟩ | exact ⟨KA2.two.1.1, KA2.two.1.2, KB2.two.1.1, KB2.two.1.2⟩ | exact ⟨KA1.two.1.1, KA1.two.1.2, KB1.two.1.1, KB1.two.1.2⟩)
      clear hHeld hK K
      have hHeld := hHeld2
      clear hHeld2
      try simp only [Act.put, List.getElem_toArray, List.getElem_cons_zero, List.getElem_cons_succ, List.setIfInBounds_toArray, List.set_cons_zero, List.set_cons_succ]
      refine wpAnyH_take (i := 2) (v := ?r3v2) rfl (by kernel_rfl) (by kernel_rfl) (by kernel_rfl) (fun _ _ _ h => h) (Or.inl ⟨by rfl, ?r3y2⟩) (by assumption) ?r3t2
      case r3y2 => (intro w hSw; (try dsimp only at hSw); (try simp only [List.getElem_toArray, List.getElem_cons_zero, List.getElem_cons_succ]); go_simp; try with_reducible rfl)
      try simp only [Act.put, List.getElem_toArray, List.getElem_cons_zero, List.getElem_cons_succ, List.setIfInBounds_toArray, List.set_cons_zero, List.set_cons_succ]
      refine wpAnyH_take (i := 3) (v := ?r3v3) rfl (by kernel_rfl) (by kernel_rfl) (by kernel_rfl) (fun _ _ _ h => h) (Or.inl ⟨by rfl, ?r3y3⟩) (by assumption) ?r3t3
      case r3y3 => (intro w hSw; (try dsimp only at hSw); (try simp only [List.getElem_toArray, List.getElem_cons_zero, List.getElem_cons_succ]); go_simp; try with_reducible rfl)
      try simp only [Act.put, List.getElem_toArray, List.getElem_cons_zero, List.getElem_cons_succ, List.setIfInBounds_toArray, List.set_cons_zero, List.set_cons_succ]
      refine wpAnyH_ready (rs := [4]) (by kernel_rfl) (by simp) ?_
      refine AllReadyH.cons rfl (fun K hK => ?_) AllReadyH.nil
      try simp only [List.getElem_toArray, List.getElem_cons_zero, List.getElem_cons_succ]
      go_simp
      (refine (hrb _ ⟨_, rfl, hnb.below B1⟩ (hE.below B1)).mono ?_; rintro e w2 ⟨rfl, hb2⟩; have KA2 := KA1.below hb2 KA1.lt; have KB2 := KB1.below hb2 KB1.lt; have B2 := B1.trans (hb2.mono B1.size))
      try go_simp
      refine hK.out _ _ ?r3S4 (fun hHeld2 => ?_)
      case r3S4 => (try dsimp only); (first | exact ⟨KA5.two.1.1, KA5.two.1.2, KB5.two.1.1, KB5.two.1.2⟩ | exact ⟨KA4.two.1.1, KA4.two.1.2, KB4.two.1.1, KB4.two.1.2⟩ | exact ⟨KA3.two.1.1, KA3.two.1.2, KB3.two.1.1, KB3.two.1.2⟩ | exact ⟨KA2.two.1.1, KA2.two.1.2, KB2.two.1.1, KB2.two.1.2⟩ | exact ⟨KA1.two.1.1, KA1.two.1.2, KB1.two.1.1, KB1.two.1.2⟩)
      clear hHeld hK K
      have hHeld := hHeld2
      clear hHeld2
      try simp only [Act.put, List.getElem_toArray, List.getElem_cons_zero, List.getElem_cons_succ, List.setIfInBounds_toArray, List.set_cons_zero, List.set_cons_succ]
      refine wpAnyH_take (i := 5) (v := ?r3v5) rfl (by kernel_rfl) (by kernel_rfl) (by kernel_rfl) (fun _ _ _ h => h) (Or.inl ⟨by rfl, ?r3y5⟩) (by assumption) ?r3t5
      case r3y5 => (intro w hSw; (try dsimp only at hSw); (try simp only [List.getElem_toArray, List.getElem_cons_zero, List.getElem_cons_succ]); go_simp; try with_reducible rfl)
      try simp only [Act.put, List.getElem_toArray, List.getElem_cons_zero, List.getElem_cons_succ, List.setIfInBounds_toArray, List.set_cons_zero, List.set_cons_succ]
      refine wpAnyH_take (i := 6) (v := ?r3v6) rfl (by kernel_rfl) (by kernel_rfl) (by kernel_rfl) (fun _ _ _ h => h) (Or.inl ⟨by rfl, ?r3y6⟩) (by assumption) ?r3t6
      case r3y6 => (intro w hSw; (try dsimp only at hSw); (try simp only [List.getElem_toArray, List.getElem_cons_zero, List.getElem_cons_succ]); go_simp; try with_reducible rfl)
      try simp only [Act.put, List.getElem_toArray, List.getElem_cons_zero, List.getElem_cons_succ, List.setIfInBounds_toArray, List.set_cons_zero, List.set_cons_succ]
      refine wpAnyH_take (i := 7) (v := ?r3v7) rfl (by kernel_rfl) (by kernel_rfl) (by kernel_rfl) (fun _ _ _ h => h) (Or.inl ⟨by rfl, ?r3y7⟩) (by assumption) ?r3t7
      case r3y7 => (intro w hSw; (try dsimp only at hSw); (try simp only [List.getElem_toArray, List.getElem_cons_zero, List.getElem_cons_succ]); go_simp; try with_reducible rfl)
      try simp only [Act.put, List.getElem_toArray, List.getElem_cons_zero, List.getElem_cons_succ, List.setIfInBounds_toArray, List.set_cons_zero, List.set_cons_succ]
      refine wpAnyH_take (i := 10) (v := ?r3v8) rfl (by kernel_rfl) (by kernel_rfl) (by kernel_rfl) (fun _ _ _ h => h) (Or.inl ⟨by rfl, ?r3y8⟩) (by assumption) ?r3t8
      case r3y8 => (intro w hSw; (try dsimp only at hSw); (try simp only [List.getElem_toArray, List.getElem_cons_zero, List.getElem_cons_succ]); go_simp; try with_reducible rfl)
      try simp only [Act.put, List.getElem_toArray, List.getElem_cons_zero, List.getElem_cons_succ, List.setIfInBounds_toArray, List.set_cons_zero, List.set_cons_succ]
      refine wpAnyH_ready (rs := [8]) (by kernel_rfl) (by simp) ?_
      refine AllReadyH.cons rfl (fun K hK => ?_) AllReadyH.nil
      try simp only [List.getElem_toArray, List.getElem_cons_zero, List.getElem_cons_succ]
      go_simp
      (refine (hca _ ⟨_, rfl, hna.below B2⟩ (hE.below B2)).mono ?_; rintro e w3 ⟨va, rfl, ⟨nva, CA, rfl, hma, hxa⟩, hb3⟩; obtain ⟨pva, cva, rfl⟩ := own_slice hma.row; have KA3 := KA2.below hb3 KA2.lt; have KB3 := KB2.below hb3 KB2.lt; have B3 := B2.trans (hb3.mono B2.size))
      try go_simp
      refine hK.out _ _ ?r3S9 (fun hHeld2 => ?_)
      case r3S9 => (try dsimp only); (first | exact ⟨KA5.two.1.1, KA5.two.1.2, KB5.two.1.1, KB5.two.1.2⟩ | exact ⟨KA4.two.1.1, KA4.two.1.2, KB4.two.1.1, KB4.two.1.2⟩ | exact ⟨KA3.two.1.1, KA3.two.1.2, KB3.two.1.1, KB3.two.1.2⟩ | exact ⟨KA2.two.1.1, KA2.two.1.2, KB2.two.1.1, KB2.two.1.2⟩ | exact ⟨KA1.two.1.1, KA1.two.1.2, KB1.two.1.1, KB1.two.1.2⟩)
      clear hHeld hK K
      have hHeld := hHeld2
      clear hHeld2
      try simp only [Act.put, List.getElem_toArray, List.getElem_cons_zero, List.getElem_cons_succ, List.setIfInBounds_toArray, List.set_cons_zero, List.set_cons_succ]
      refine wpAnyH_take (i := 9) (v := ?r3v10) rfl (by kernel_rfl) (by kernel_rfl) (by kernel_rfl) (fun _ _ _ h => h) (Or.inl ⟨by rfl, ?r3y10⟩) (by assumption) ?r3t10
      case r3y10 => (intro w hSw; (try dsimp only at hSw); (try simp only [List.getElem_toArray, List.getElem_cons_zero, List.getElem_cons_succ]); go_simp; try with_reducible rfl)
      try simp only [Act.put, List.getElem_toArray, List.getElem_cons_zero, List.getElem_cons_succ, List.setIfInBounds_toArray, List.set_cons_zero, List.set_cons_succ]
      refine wpAnyH_ready (rs := [11]) (by kernel_rfl) (by simp) ?_
      refine AllReadyH.cons rfl (fun K hK => ?_) AllReadyH.nil
      try simp only [List.getElem_toArray, List.getElem_cons_zero, List.getElem_cons_succ]
      go_simp
      (refine (hcb _ ⟨_, rfl, hnb.below B3⟩ (hE.below B3)).mono ?_; rintro e w4 ⟨vb, rfl, ⟨nvb, CB, rfl, hmb, hxb⟩, hb4⟩; obtain ⟨pvb, cvb, rfl⟩ := own_slice hmb.row; have NA4 := (hma.below hb4).nodes; have NB4 := hmb.nodes; rw [hxa] at NA4; rw [hxb] at NB4; have KA4 := KA3.below hb4 KA3.lt; have KB4 := KB3.below hb4 KB3.lt; have B4 := B3.trans (hb4.mono B3.size))
      try go_simp
      refine hK.out _ _ ?r3S11 (fun hHeld2 => ?_)
      case r3S11 => (try dsimp only); (first | exact ⟨KA5.two.1.1, KA5.two.1.2, KB5.two.1.1, KB5.two.1.2⟩ | exact ⟨KA4.two.1.1, KA4.two.1.2, KB4.two.1.1, KB4.two.1.2⟩ | exact ⟨KA3.two.1.1, KA3.two.1.2, KB3.two.1.1, KB3.two.1.2⟩ | exact ⟨KA2.two.1.1, KA2.two.1.2, KB2.two.1.1, KB2.two.1.2⟩ | exact ⟨KA1.two.1.1, KA1.two.1.2, KB1.two.1.1, KB1.two.1.2⟩)
      clear hHeld hK K
      have hHeld := hHeld2
      clear hHeld2
      try simp only [Act.put, List.getElem_toArray, List.getElem_cons_zero, List.getElem_cons_succ, List.setIfInBounds_toArray, List.set_cons_zero, List.set_cons_succ]
      refine wpAnyH_take (i := 12) (v := ?r3v12) rfl (by kernel_rfl) (by kernel_rfl) (by kernel_rfl) (fun _ _ _ h => h) (Or.inl ⟨by rfl, ?r3y12⟩) (by assumption) ?r3t12
      case r3y12 => (intro w hSw; (try dsimp only at hSw); (try simp only [List.getElem_toArray, List.getElem_cons_zero, List.getElem_cons_succ]); go_simp; try with_reducible rfl)
      try simp only [Act.put, List.getElem_toArray, List.getElem_cons_zero, List.getElem_cons_succ, List.setIfInBounds_toArray, List.set_cons_zero, List.set_cons_succ]
      refine wpAnyH_ready (rs := [13]) (by kernel_rfl) (by simp) ?_
      refine AllReadyH.cons rfl (fun K hK => ?_) AllReadyH.nil
      try simp only [List.getElem_toArray, List.getElem_cons_zero, List.getElem_cons_succ]
      go_simp
      (refine (eqf_any _ _ _ _ _ NA4 NB4 (ok_clean hoka).len (ok_clean hoka).kids).mono ?_; rintro e w5 ⟨rfl, hb5⟩; have KA5 := KA4.below hb5 KA4.lt; have KB5 := KB4.below hb5 KB4.lt; have B5 := B4.trans (hb5.mono B4.size))
      try go_simp
      refine hK.out _ _ ?r3S13 (fun hHeld2 => ?_)
      case r3S13 => (try dsimp only); (first | exact ⟨KA5.two.1.1, KA5.two.1.2, KB5.two.1.1, KB5.two.1.2⟩ | exact ⟨KA4.two.1.1, KA4.two.1.2, KB4.two.1.1, KB4.two.1.2⟩ | exact ⟨KA3.two.1.1, KA3.two.1.2, KB3.two.1.1, KB3.two.1.2⟩ | exact ⟨KA2.two.1.1, KA2.two.1.2, KB2.two.1.1, KB2.two.1.2⟩ | exact ⟨KA1.two.1.1, KA1.two.1.2, KB1.two.1.1, KB1.two.1.2⟩)
      clear hHeld hK K
      have hHeld := hHeld2
      clear hHeld2
      try simp only [Act.put, List.getElem_toArray, List.getElem_cons_zero, List.getElem_cons_succ, List.setIfInBounds_toArray, List.set_cons_zero, List.set_cons_succ]
      refine wpAnyH_take (i := 14) (v := ?r3v14) rfl (by kernel_rfl) (by kernel_rfl) (by kernel_rfl) (fun _ _ _ h => h) (Or.inl ⟨by rfl, ?r3y14⟩) (by assumption) ?r3t14
      case r3y14 => (intro w hSw; (try dsimp only at hSw); (try simp only [List.getElem_toArray, List.getElem_cons_zero, List.getElem_cons_succ]); go_simp; try with_reducible rfl)
      try simp only [Act.put, List.getElem_toArray, List.getElem_cons_zero, List.getElem_cons_succ, List.setIfInBounds_toArray, List.set_cons_zero, List.set_cons_succ]
      refine wpAnyH_take (i := 15) (v := ?r3v15) rfl (by kernel_rfl) (by kernel_rfl) (by kernel_rfl) (fun _ _ _ h => h) (Or.inl ⟨by rfl, ?r3y15⟩) (by assumption) ?r3t15
      case r3y15 => (intro w hSw; (try dsimp only at hSw); (try simp only [List.getElem_toArray, List.getElem_cons_zero, List.getElem_cons_succ]); go_simp; try with_reducible rfl)
      try simp only [Act.put, List.getElem_toArray, List.getElem_cons_zero, List.getElem_cons_succ, List.setIfInBounds_toArray, List.set_cons_zero, List.set_cons_succ]
      refine wpAnyH_done (by kernel_rfl) ?_ _
      go_wp2
      go_ret
      exact ⟨rfl, B5⟩
end Go.Proofs.YtpkjfdgjmcphmaaDoor

/- Package tree: Walk. -/
namespace Go.Proofs.YtpkjfdgjmcphmaaDoor
open Go.RowKit Bset Tm

/-- A tree's row. -/
def rowN (A : List Nd) : List Nat := pre (X (kidsN A) (A.length - 1))
noncomputable def rowT (T : Ar) : List Int := if rightB T = true then (rowN T.nodes).map Int.ofNat else []

theorem row_perm {A : List Nd} (h : RightA A) : (rowN A).Perm (List.range A.length) := (pre_post _).trans h.k.perm
theorem row_len {A : List Nd} (h : RightA A) : (rowN A).length = A.length := by
  have := (row_perm h).length_eq
  simpa using this
theorem row_places {A : List Nd} (h : RightA A) {F : Nat → Nat} (hF : Frm (kidsN A) A.length 1 0 F) : (rowN A).map F = List.range' 0 A.length := by
  have hp := h.k.pos
  have h1 := pre_places h.k.dec hF.spread (A.length - 1) (by omega)
  rw [hF.root, h.k.size] at h1
  exact h1
theorem row_lt {A : List Nd} (_h : RightA A) {F : Nat → Nat} (hF : Frm (kidsN A) A.length 1 0 F) {i : Nat} (hi : i < A.length) : F i < A.length := by
  have h1 := hF.low i hi
  have h2 := M_pos (kidsN A) i
  omega
theorem row_filled {A : List Nd} (h : RightA A) {F O : Nat → Nat} (hF : Frm (kidsN A) A.length 1 0 F) (hO : ∀ j, j < A.length → O (F j) = j) (a : Nat) (ha : a < (rowN A).length) : O a = (rowN A)[a] := by
  have h1 := row_places h hF
  have h2 : F (rowN A)[a] = a := by
    have : ((rowN A).map F)[a]? = some a := by
      have ha' : a < A.length := by rw [← row_len h]; exact ha
      rw [h1]
      simp [ha']
    rw [List.getElem?_map, List.getElem?_eq_getElem ha] at this
    simpa using this
  have h3 : (rowN A)[a] < A.length := List.mem_range.1 ((row_perm h).subset (List.getElem_mem ha))
  have := hO _ h3
  rw [h2] at this
  exact this
theorem row_inj {A : List Nd} (h : RightA A) {F : Nat → Nat} (hF : Frm (kidsN A) A.length 1 0 F) {i j : Nat} (hi : i < A.length) (hj : j < A.length) (e : F i = F j) : i = j := by
  have h1 := row_places h hF
  have h2 : ((rowN A).map F).Nodup := by rw [h1]; exact List.nodup_range'
  obtain ⟨a, ha, rfl⟩ := List.mem_iff_getElem.1 ((row_perm h).symm.subset (List.mem_range.2 hi))
  obtain ⟨b, hb, rfl⟩ := List.mem_iff_getElem.1 ((row_perm h).symm.subset (List.mem_range.2 hj))
  have h3 := (List.pairwise_iff_getElem.1 h2)
  rcases Nat.lt_trichotomy a b with hab | hab | hab
  · exact absurd (by rw [List.getElem_map, List.getElem_map]; exact e) (h3 a b (by simpa using ha) (by simpa using hb) hab)
  · subst hab
    rfl
  · exact absurd (by rw [List.getElem_map, List.getElem_map]; exact e.symm) (h3 b a (by simpa using hb) (by simpa using ha) hab)

set_option maxRecDepth 100000 in
set_option maxHeartbeats 4000000 in
theorem walk_any (v : Value) (T : Ar) (w : World) (hv : Tree w v T) (hok : OkA T.nodes) (hE : Env w) :
    Calls Tryd.prog 23 #[v] w fun e w' => ∃ v', e = .returned v' ∧ w'.ownsRow w.heap.size 3 1 v' (rowT T).length ((rowT T).map (Value.int .i64)) ∧ Below w.heap.size w w' := by
  obtain ⟨nv, rfl, hn⟩ := hv
  obtain ⟨p0, c0, rfl⟩ := hn.len
  have hr := fun w h1 h2 => right_at' (treeV (.slice p0 T.nodes.length c0) T.root) T w h1 hok h2
  have b0 := (Below.refl w.heap.size w).alloc (Nat.le_refl _) (.cells #[.slice p0 T.nodes.length c0, .int .i64 T.root] 26)
  have k0 := Cl.new w 26 #[.slice p0 T.nodes.length c0, .int .i64 T.root]
  have hv0 : Tree (w.alloc (.cells #[.slice p0 T.nodes.length c0, .int .i64 T.root] 26)) (treeV (.slice p0 T.nodes.length c0) T.root) T := ⟨_, rfl, hn.below b0⟩
  have hE0 := hE.below b0
  unfold rowT
  cases hR : rightB T with
  | false =>
    rw [if_neg (by simp)]
    simp only [hR] at hr
    go_enter Tryd.func23, Tryd.ntmps23
    go_wp2_with (go_at_call 18; refine (hr _ hv0 hE0).mono ?_; rintro e w1 ⟨rfl, hb⟩; obtain ⟨⟨y0, y1⟩, yf⟩ := (k0.below hb k0.lt).two)
    go_ret
    exact ⟨_, rfl, World.ownsRow_nil _ _ _ _, b0.trans (hb.mono b0.size)⟩
  | true =>
    have hRT := rightB_iff.1 hR
    rw [if_pos rfl]
    simp only [hR] at hr
    obtain ⟨A, root⟩ := T
    dsimp only at *
    have hRA : RightA A := hRT.2
    have hlen := hok.len
    have hpos := hRA.k.pos
    have hsp := fun w h => spread_any (.slice p0 A.length c0) A 1 w h hRA hok (by omega)
    have hmk := make_ints A.length hlen
    clear hR hRT
    go_enter Tryd.func23, Tryd.ntmps23
    go_wp2_with (first
      | (go_at_call 18; refine (hr _ hv0 hE0).mono ?_; rintro e w1 ⟨rfl, hb⟩; have k1 := k0.below hb k0.lt; have b1 := b0.trans (hb.mono b0.size); have hn1 := hn.below b1; clear hb k0 b0 hr hv0 hE0; obtain ⟨⟨y0, y1⟩, yf⟩ := k1.two)
      | (go_at_call 78; refine (hsp _ hn1).mono ?_; rintro e w2 ⟨g1, g2, F, rfl, hne, hg1, hg2, r1, r2, hF, hb⟩
         have b2 := b1.trans (hb.mono b1.size)
         have hl1 := r1.lt
         have s1 := r1.alloc (.cells (madeCells #[.int .i64 0] A.length) 3)
         have s4 := made_at w2 (g := w2.heap.size) rfl (.int .i64 0) A.length 3
         have b4 := b2.alloc b2.size (.cells (madeCells #[.int .i64 0] A.length) 3)
         have hz := Lib.hid b2.size
         clear hsp hn1 hb k1 y0 y1 yf r1 r2 b2))
    have hgl := hz.out
    generalize w2.alloc _ = W4 at *
    generalize w2.heap.size = gB at *
    go_loopw [22] (fun v W => ∃ (i : Nat) (O : Nat → Nat), v = .int .i64 i ∧ i ≤ A.length ∧ Below w.heap.size w W ∧ W.rowIs g1 3 A.length (fun j => .int .i64 (F j : Nat)) ∧ W.rowIs gB 3 A.length (fun j => .int .i64 (O j : Nat)) ∧ ∀ j, j < i → O (F j) = j)
      (fun v _ => A.length - (intOf v).toNat)
    case atStart => exact ⟨0, fun _ => 0, rfl, Nat.zero_le _, b4, s1, s4.congr fun j _ => rfl, fun j hj => by omega⟩
    case round =>
      clear b4 s1 s4
      obtain ⟨i, O, rfl, hi, hB, s1, s2, hall⟩ := hrel
      by_cases hlt : i < A.length
      · have x1 := s1.cell hlt
        have hF1 := row_lt hRA hF hlt
        have x2 := s2.cell hF1
        have xf := s2.frozen (F i)
        obtain ⟨m, hm⟩ : ∃ m, m = F i := ⟨_, rfl⟩
        rw [← hm] at x1 x2 xf hF1
        have hi0 : (0 : Int) ≤ (i : Int) := by omega
        have hi1 : (i : Int) < (A.length : Int) := by omega
        have hm0 : (0 : Int) ≤ (m : Int) := by omega
        have hm1 : (m : Int) < (A.length : Int) := by omega
        have HM := Lib.hid hm
        clear hm
        go_wp2
        go_roundw
        case rel =>
          refine ⟨i + 1, fun j => if j = m then i else O j, by go_num, by omega, hB.setCell (p := ⟨gB, m, none⟩) hgl _, s1.setOther (a := ⟨gB, m, none⟩) (by simp; omega) _, (s2.set m _).congr fun j _ => ?_, fun j hj => ?_⟩
          · by_cases e : j = m <;> simp [e]
          · show (if F j = m then i else O (F j)) = j
            by_cases e : j = i
            · subst e
              rw [if_pos HM.out.symm]
            · rw [if_neg]
              · exact hall j (by omega)
              · intro e2
                exact e (row_inj hRA hF (by omega) hlt (e2.trans HM.out))
        case measure => simp [intOf]; omega
      · obtain rfl : i = A.length := by omega
        have hrl := row_len hRA
        have hown := own_of_row (lo := w.heap.size) (l := (rowN A).map Int.ofNat) s2 (by simpa using hrl) (fun j hj => by
          simp at hj
          rw [row_filled hRA hF hall j hj]
          simp) hgl hlen
        clear hrl hall
        go_wp2
        go_ret
        exact ⟨_, rfl, hown, hB⟩
end Go.Proofs.YtpkjfdgjmcphmaaDoor

/- Loads and stores of whole nodes, as laws. -/
namespace Go.Proofs.YtpkjfdgjmcphmaaDoor
open Go.RowKit Bset Tm

set_option maxHeartbeats 2000000 in
theorem store9 {w : World} {g : Nat} {t : TypeId} {a0 a1 a2 a3 a4 a5 a6 a7 a8 : Value} (hc : Cl w g t #[a0, a1, a2, a3, a4, a5, a6, a7, a8]) (h : Hd) (p : Option Addr) (n c : Nat) :
    (Instr.storeAt 38 (.pointer (some ⟨g, 0, none⟩)) (nodeV h (.slice p n c))).run Tryd.prog w = .ok () (node9 w g (.int .u8 h.kind) (.int .u64 (word (setN h.set) 0 : Nat)) (.int .u64 (word (setN h.set) 1 : Nat)) (.int .u64 (word (setN h.set) 2 : Nat)) (.int .u64 (word (setN h.set) 3 : Nat)) (.string h.text) (.int .i64 h.lo) (.int .i64 h.hi) (.slice p n c)) := by
  obtain ⟨⟨y0, y1, y2, y3, y4, y5, y6, y7, y8⟩, yf⟩ := hc.nine
  simp [go_sem, y0, y1, y2, y3, y4, y5, y6, y7, y8, yf]
theorem load9 {w : World} {g : Nat} {t : TypeId} {a0 a1 a2 a3 a4 a5 a6 a7 a8 : Value} (hc : Cl w g t #[a0, a1, a2, a3, a4, a5, a6, a7, a8]) :
    (Instr.loadAt 38 (.pointer (some ⟨g, 0, none⟩))).run Tryd.prog w = .ok (.agg #[a0, a1, a2, a3, a4, a5, a6, a7, a8]) w := by
  obtain ⟨⟨y0, y1, y2, y3, y4, y5, y6, y7, y8⟩, yf⟩ := hc.nine
  simp [go_sem, y0, y1, y2, y3, y4, y5, y6, y7, y8]

theorem gb_node9 (w : World) (g : Nat) (v0 v1 v2 v3 v4 v5 v6 v7 v8 : Value) : w.grownBy (node9 w g v0 v1 v2 v3 v4 v5 v6 v7 v8) (some g) :=
  gb_set (gb_set (gb_set (gb_set (gb_set (gb_set (gb_set (gb_set (gb_set (gb_refl w (some g)) 0 v0) 1 v1) 2 v2) 3 v3) 4 v4) 5 v5) 6 v6) 7 v7) 8 v8

theorem wpList_load9 {w : World} {g : Nat} {t : TypeId} {a0 a1 a2 a3 a4 a5 a6 a7 a8 : Value} (hc : Cl w g t #[a0, a1, a2, a3, a4, a5, a6, a7, a8]) {ops : Array Oper} {rest : List Oper} {o : Oper} {a : Act} {Q : Exit → Act → World → Prop} (hgd : o.guard = none) (s : Operand) (ho : o.op = .load 38 s)
    (hs : a.eval s = .pointer (some ⟨g, 0, none⟩)) (h : wpList Tryd.prog ops Q rest (a.put o.dst (.agg #[a0, a1, a2, a3, a4, a5, a6, a7, a8])) w) : wpList Tryd.prog ops Q (o :: rest) a w := by
  refine wpList_plain hgd fun K' hK' => ?_
  have hrun := load9 hc
  unfold Oper.wp execOp
  simp only [ho, hs, hrun, Sem.run_bind, Sem.run_pure, Result.andThen_ok]
  exact hK' _ _ h
theorem wpList_store9 {w : World} {g : Nat} {t : TypeId} {a0 a1 a2 a3 a4 a5 a6 a7 a8 : Value} (hc : Cl w g t #[a0, a1, a2, a3, a4, a5, a6, a7, a8]) {ops : Array Oper} {rest : List Oper} {o : Oper} {a : Act} {Q : Exit → Act → World → Prop} (hgd : o.guard = none) (s x : Operand) (ho : o.op = .store 38 s x)
    (hd : Hd) (p : Option Addr) (n c : Nat) (hs : a.eval s = .pointer (some ⟨g, 0, none⟩)) (hx : a.eval x = nodeV hd (.slice p n c))
    (h : ∀ w', Cl w' g t (nodeC hd (.slice p n c)) → w.grownBy w' (some g) → ∀ v, wpList Tryd.prog ops Q rest (a.put o.dst v) w') : wpList Tryd.prog ops Q (o :: rest) a w := by
  refine wpList_plain hgd fun K' hK' => ?_
  have hrun := store9 hc hd p n c
  have h1 := h _ (hc.set9 (.int .u8 hd.kind) (.int .u64 (word (setN hd.set) 0 : Nat)) (.int .u64 (word (setN hd.set) 1 : Nat)) (.int .u64 (word (setN hd.set) 2 : Nat)) (.int .u64 (word (setN hd.set) 3 : Nat)) (.string hd.text) (.int .i64 hd.lo) (.int .i64 hd.hi) (.slice p n c)) (gb_node9 w g _ _ _ _ _ _ _ _ _)
  unfold Oper.wp execOp
  simp only [ho, hs, hx, hrun, Sem.run_bind, Sem.run_pure, Result.andThen_ok]
  exact hK' _ _ (h1 _)
theorem Cl.gb' {w w' : World} {g g' : Nat} {t : TypeId} {cs : Array Value} (h : Cl w g' t cs) (hg : w.grownBy w' (some g)) (hne : g' ≠ g) : Cl w' g' t cs := h.gb hg hne
theorem own_gb {w w' : World} {lo g : Nat} {t : TypeId} {size : Nat} {v : Value} {n : Nat} {xs : List Value} (h : w.ownsRow lo t size v n xs) (hg : w.grownBy w' (some g)) (hl : g < lo) : w'.ownsRow lo t size v n xs :=
  own_keep h fun b hb hlt => hg.block b hlt (by intro e; cases e; omega)
theorem Made.gb {lo g : Nat} {w w' : World} {v : Value} {B : List (Nd × Value)} (h : Made lo w v B) (hg : w.grownBy w' (some g)) (hl : g < lo) : Made lo w' v B :=
  h.keep fun b hb hlt => hg.block b hlt (by intro e; cases e; omega)
theorem below_gb {lo g : Nat} {w0 w w' : World} (h : Below lo w0 w) (hg : w.grownBy w' (some g)) (hl : lo ≤ g) (hs : lo ≤ w.heap.size) : Below lo w0 w' :=
  h.grown hg hs (fun k e => by cases e; exact hl)
end Go.Proofs.YtpkjfdgjmcphmaaDoor

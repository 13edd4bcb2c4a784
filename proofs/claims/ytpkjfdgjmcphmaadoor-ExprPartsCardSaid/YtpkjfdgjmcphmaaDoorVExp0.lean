/- Parts and ways of what is put together; lists of trees that are appended. -/
import Derived.Test.YtpkjfdgjmcphmaaDoorVExn0
import Derived.Test.YtpkjfdgjmcphmaaDoorVEt5
import Derived.Laws.AppendOwnNone
import Derived.Maps.AppendAt
namespace Go.Proofs.YtpkjfdgjmcphmaaDoor
open Go.RowKit Bset Tm

theorem flat_congr {α β : Type} {l : List α} {f g : α → List β} (h : ∀ x ∈ l, f x = g x) : l.flatMap f = l.flatMap g := by
  induction l with
  | nil => rfl
  | cons a l ih => rw [List.flatMap_cons, List.flatMap_cons, h a (by simp), ih fun x hx => h x (by simp [hx])]
noncomputable def waysR (t : RT Hd) : List (RT Hd) := pt 5 (nrm t)
theorem partsR_pt {t : RT Hd} (hf : fitT t = true) : partsR t = pt 4 (nrm t) := by
  have h1 := (nrm_good t hf).1
  unfold partsR pt
  by_cases h0 : (top (nrm t)).kind = 0
  · rw [if_pos h0, if_pos (show opens (kd (nrm t)) 4 = true from (opens_four _).2 (.inr h0))]
    have h2 := fits_none (fit_kids h1).1 h0
    exact (List.eq_nil_of_length_eq_zero (by omega)).symm
  · rw [if_neg h0]
    by_cases h4 : (top (nrm t)).kind = 4
    · rw [if_pos h4, if_pos (show opens (kd (nrm t)) 4 = true from (opens_four _).2 (.inl h4))]
    · rw [if_neg h4, if_neg (show ¬ opens (kd (nrm t)) 4 = true from fun e => ((opens_four _).1 e).elim h4 h0)]
theorem waysL_eq {T : Ar} (h : rightB T = true) : waysL T = (waysR (tree T)).map arOf := by
  unfold waysL waysR splitL pt
  rw [if_pos h]
  by_cases h5 : (top (nrm (tree T))).kind = 5
  · rw [if_pos h5, if_pos (show opens (kd (nrm (tree T))) 5 = true from (opens_five _).2 h5)]
  · rw [if_neg h5, if_neg (show ¬ opens (kd (nrm (tree T))) 5 = true from fun e => h5 ((opens_five _).1 e))]
    rfl
theorem seqR_pt {p : RT Hd} (hf : fitT p = true) (hn : nml p = true) : seqR (pt 4 p) = p := by
  have hg : ∀ x ∈ pt 4 p, nrm x = x ∧ opens (kd x) 4 = false := fun x hx => by
    have := mem_gat (wi := 4) (ps := [p]) (fun q hq => by rw [List.mem_singleton.1 hq]; exact hf) (fun q hq => by rw [List.mem_singleton.1 hq]; exact hn) x (by rw [gat_cons, gat_nil, List.append_nil]; exact hx)
    exact ⟨nrm_self x this.1 this.2.1, this.2.2⟩
  unfold seqR
  rw [show (pt 4 p).map nrm = pt 4 p from (List.map_congr_left fun x hx => (hg x hx).1).trans (List.map_id' _), gat_self fun x hx => (hg x hx).2]
  exact seq_one hf
theorem choR_pt {p : RT Hd} (hf : fitT p = true) (hn : nml p = true) : choR (pt 5 p) = p := by
  have hg : ∀ x ∈ pt 5 p, nrm x = x ∧ opens (kd x) 5 = false := fun x hx => by
    have := mem_gat (wi := 5) (ps := [p]) (fun q hq => by rw [List.mem_singleton.1 hq]; exact hf) (fun q hq => by rw [List.mem_singleton.1 hq]; exact hn) x (by rw [gat_cons, gat_nil, List.append_nil]; exact hx)
    exact ⟨nrm_self x this.1 this.2.1, this.2.2⟩
  unfold choR
  rw [show (pt 5 p).map nrm = pt 5 p from (List.map_congr_left fun x hx => (hg x hx).1).trans (List.map_id' _), gat_self fun x hx => (hg x hx).2]
  exact cho_one hf
theorem seqR_partsR {t : RT Hd} (hf : fitT t = true) : seqR (partsR t) = nrm t := by
  rw [partsR_pt hf]
  exact seqR_pt (nrm_good t hf).1 (nrm_good t hf).2
theorem choR_waysR {t : RT Hd} (hf : fitT t = true) : choR (waysR t) = nrm t := choR_pt (nrm_good t hf).1 (nrm_good t hf).2
theorem partsR_seqR {l : List (RT Hd)} (h : ∀ t ∈ l, fitT t = true) : partsR (seqR l) = l.flatMap partsR := by
  rw [partsR_pt (seqR_good h).1, nrm_seqR h, seqR_parts h]
  unfold gat
  rw [List.flatMap_map]
  exact flat_congr fun t ht => (partsR_pt (h t ht)).symm
theorem waysR_choR {l : List (RT Hd)} (h : ∀ t ∈ l, fitT t = true) (h0 : l ≠ []) : waysR (choR l) = l.flatMap waysR := by
  unfold waysR
  rw [nrm_choR h, choR_ways h h0]
  unfold gat
  rw [List.flatMap_map]
theorem waysR_good {t : RT Hd} (h : fitT t = true) : (∀ x ∈ waysR t, fitT x = true) ∧ sizes (waysR t) ≤ size t := by
  have h1 := (nrm_good t h).1
  have h2 := nrm_size t
  have h3 := pt_size 5 (nrm t)
  refine ⟨fun x hx => ?_, by unfold waysR; omega⟩
  have := mem_gat (wi := 5) (ps := [nrm t]) (fun q hq => by rw [List.mem_singleton.1 hq]; exact h1) (fun q hq => by rw [List.mem_singleton.1 hq]; exact (nrm_good t h).2) x (by rw [gat_cons, gat_nil, List.append_nil]; exact hx)
  exact this.1
theorem exactL_self (a : List Ar) : exactL a a = true := exactL_iff.2 ⟨rfl, fun _ _ => exact_self _⟩

theorem cellsT_one {lo : Nat} {w : World} : ∀ {L : List (Value × Ar)}, (∀ x ∈ L, ∃ C, Made lo w x.1 C ∧ C.map Prod.fst = x.2.nodes) → ∀ u ∈ cellsT L, u.oneCell' = true
  | [], _, _, hu => by cases hu
  | x :: r, h, u, hu => by
    have e : cellsT (x :: r) = x.1 :: .int .i64 x.2.root :: cellsT r := rfl
    rw [e] at hu
    rcases List.mem_cons.1 hu with rfl | hu
    · obtain ⟨C, hC, _⟩ := h x (by simp)
      obtain ⟨p, c, e⟩ := own_slice hC.row
      rw [e]
      rfl
    · rcases List.mem_cons.1 hu with rfl | hu
      · rfl
      · exact cellsT_one (fun y hy => h y (by simp [hy])) u hu
theorem MadeTs.keep {lo : Nat} {w w' : World} {v : Value} {L : List (Value × Ar)} (h : MadeTs lo w v L) (hk : ∀ b, lo ≤ b → b < w.heap.size → w'.heap[b]? = w.heap[b]?) : MadeTs lo w' v L :=
  ⟨own_keep h.1 hk, fun x hx => by obtain ⟨C, h1, h2⟩ := h.2 x hx; exact ⟨C, h1.keep hk, h2⟩⟩
theorem MadeTs.belowL {lo : Nat} {w w' : World} {v : Value} {L : List (Value × Ar)} (h : MadeTs lo w v L) (hb : Below w.heap.size w w') : MadeTs lo w' v L := h.keep fun b _ => hb.block b
theorem MadeTs.monoL {lo lo' : Nat} {w : World} {v : Value} {L : List (Value × Ar)} (h : MadeTs lo w v L) (hl : lo' ≤ lo) : MadeTs lo' w v L :=
  ⟨h.1.mono hl, fun x hx => by obtain ⟨C, h1, h2⟩ := h.2 x hx; exact ⟨C, h1.mono hl, h2⟩⟩
/-- A list stays while another one, that lies elsewhere, grows. -/
theorem MadeTs.grow {lo lo' : Nat} {w w' : World} {v v' : Value} {L L' : List (Value × Ar)} (h : MadeTs lo w v L) (h' : MadeTs lo' w v' L') (hg : w.grownBy w' v'.ownBlock) (hd : ∀ g, v'.ownBlock = some g → v.ownBlock ≠ some g) : MadeTs lo w' v L :=
  ⟨kept_dis h.1 hg hd, fun x hx => by
    obtain ⟨C, h1, h2⟩ := h.2 x hx
    exact ⟨C, ⟨own_type h1.row h'.1 (by decide) hg, fun y hy => own_type (h1.kids y hy) h'.1 (by decide) hg⟩, h2⟩⟩
theorem grown_refl (w : World) (r : Option Nat) : w.grownBy w r := ⟨rfl, rfl, rfl, Nat.le_refl _, fun _ _ _ => rfl⟩

set_option maxRecDepth 100000 in
/-- 'append(v, x...)' of lists of trees that the call has made. -/
theorem wpList_append_trees {w : World} {ops : Array Oper} {rest : List Oper} {o : Oper} {a : Act} {Q : Exit → Act → World → Prop} (hgd : o.guard = none) (s x : Operand)
    (ho : o.op = .call { callee := .builtin .append, args := #[s, x], argTypes := #[29, 29] }) {lo lo' : Nat} {v vx : Value} {L1 L2 : List (Value × Ar)} (hs : a.eval s = v) (hx : a.eval x = vx)
    (h1 : MadeTs lo w v L1) (h2 : MadeTs lo' w vx L2) (hlo : lo ≤ lo') (hsz : L1.length + L2.length ≤ 1000000) (hbase : lo ≤ w.heap.size)
    (h : ∀ v' w', MadeTs lo w' v' (L1 ++ L2) → w.grownBy w' v.ownBlock → (v'.ownBlock = v.ownBlock ∨ v'.ownBlock = some w.heap.size) → wpList Tryd.prog ops Q rest (a.put o.dst v') w') : wpList Tryd.prog ops Q (o :: rest) a w := by
  obtain ⟨iT, hiT, hzT⟩ := Option.map_eq_some_iff.1 infoTree
  simp only [Prod.mk.injEq] at hzT
  obtain ⟨hz0, hz1, hz2⟩ := hzT
  rcases h2.1.2 with ⟨e, h0⟩ | ⟨g, cap, cur, e, hg⟩
  · have hL2 : L2 = [] := List.eq_nil_of_length_eq_zero h0
    subst hL2
    refine wpList_append_own_none hgd s x 29 ho lo 26 iT 2 Tryd.underlying29 hiT v _ _ hs h1.1 (hx.trans e) ?_
    exact h v w (by rw [List.append_nil]; exact h1) (grown_refl w _) (.inl rfl)
  · refine wpList_append_own_at _ hgd s x 29 ho lo 26 iT (.agg #[.slice none 0 0, .int .i64 0]) 2 32 Tryd.underlying29 hiT hz0 hz1 hz2 rfl (by decide) v _ _ hs h1.1 ⟨g, 0, none⟩ L2.length cap (cellsT L2) (hx.trans e) h2.1.1 ((e ▸ h2.1).cells rfl) (cellsT_one h2.2) (by unfold maxLen; omega) (by omega) hbase fun v' w' hown hgrow _ hblk => ?_
    refine h v' w' ⟨?_, fun y hy => ?_⟩ hgrow hblk
    · rw [cellsT_append, List.length_append]
      exact hown
    · have grow : ∀ {lo2 : Nat} {z : Value} {D : List (Nd × Value)}, Made lo2 w z D → Made lo2 w' z D := fun m => ⟨own_type m.row h1.1 (by decide) hgrow, fun y hy => own_type (m.kids y hy) h1.1 (by decide) hgrow⟩
      rcases List.mem_append.1 hy with hy | hy
      · obtain ⟨C, m1, m2⟩ := h1.2 y hy
        exact ⟨C, grow m1, m2⟩
      · obtain ⟨C, m1, m2⟩ := h2.2 y hy
        exact ⟨C, (grow m1).mono hlo, m2⟩

/-- A list of trees made in the blocks from lo on, ahead of hi. -/
def Ats (lo hi : Nat) (w : World) (v : Value) (l : List Ar) : Prop := ∃ (w1 : World) (L : List (Value × Ar)), w1.heap.size = hi ∧ MadeTs lo w1 v L ∧ L.map Prod.snd = l ∧ ∀ b, lo ≤ b → b < hi → w.heap[b]? = w1.heap[b]?
theorem Ats.of {lo : Nat} {w : World} {v : Value} {L : List (Value × Ar)} {l : List Ar} (h : MadeTs lo w v L) (hl : L.map Prod.snd = l) : Ats lo w.heap.size w v l := ⟨w, L, rfl, h, hl, fun _ _ _ => rfl⟩
theorem Ats.like {B lo hi : Nat} {w w' : World} {v : Value} {l : List Ar} (h : Ats lo hi w v l) (hl : Like B lo hi w w') : Ats lo hi w' v l := by
  obtain ⟨w1, L, h1, h2, h3, h4⟩ := h
  exact ⟨w1, L, h1, h2, h3, fun b hb hb2 => (hl.own b hb hb2).trans (h4 b hb hb2)⟩
theorem Ats.made {lo hi : Nat} {w : World} {v : Value} {l : List Ar} (h : Ats lo hi w v l) : ∃ L, MadeTs lo w v L ∧ L.map Prod.snd = l := by
  obtain ⟨w1, L, h1, h2, h3, h4⟩ := h
  exact ⟨L, h2.keep fun b hb hb2 => h4 b hb (by omega), h3⟩

/-- What the loop goes over. -/
theorem fits_at {T : Ar} (h : rightB T = true) : fitT (tree T) = true := trees_fit (l := [T]) (by simp [h]) _ (List.mem_map.2 ⟨T, List.mem_singleton.2 rfl, rfl⟩)
theorem len_sizes (l : List (RT Hd)) : l.length ≤ sizes l := by
  induction l with
  | nil => exact Nat.le_refl _
  | cons t l ih => have := size_pos t; rw [sizes, List.length_cons]; omega
theorem parts_len {T : Ar} (h : rightB T = true) : (partsL T).length ≤ T.nodes.length := by
  rw [partsL_eq h, List.length_map]
  have h1 := (partsR_good (fits_at h)).2
  have h2 := len_sizes (partsR (tree T))
  rw [(rightB_iff.1 h).size] at h1
  omega
theorem ways_len {T : Ar} (h : rightB T = true) : (waysL T).length ≤ T.nodes.length := by
  rw [waysL_eq h, List.length_map]
  have h1 := (waysR_good (fits_at h)).2
  have h2 := len_sizes (waysR (tree T))
  rw [(rightB_iff.1 h).size] at h1
  omega
theorem flat_len_le {f : Ar → List Ar} : ∀ {l : List Ar}, (∀ T ∈ l, (f T).length ≤ T.nodes.length) → (l.flatMap f).length ≤ total l
  | [], _ => Nat.le_refl _
  | T :: l, h => by
    have h1 := h T (by simp)
    have h2 := flat_len_le (f := f) (l := l) fun x hx => h x (by simp [hx])
    have h3 : total (T :: l) = T.nodes.length + total l := by simp [total]
    rw [List.flatMap_cons, List.length_append, h3]
    omega
theorem total_takeL (l : List Ar) (i : Nat) : total (l.take i) ≤ total l := by
  conv => rhs; rw [← List.take_append_drop i l]
  unfold total
  rw [List.map_append, List.sum_append]
  omega
/-- Of lists of right trees. -/
theorem parts_flat {l : List Ar} (h : l.all rightB = true) : (l.flatMap partsL) = (partsR (seqR (l.map tree))).map arOf := by
  rw [partsR_seqR (trees_fit h), List.flatMap_map, List.map_flatMap]
  exact flat_congr fun T hT => partsL_eq (List.all_eq_true.1 h T hT)
theorem ways_flat {l : List Ar} (h : l.all rightB = true) (h0 : l ≠ []) : (l.flatMap waysL) = (waysR (choR (l.map tree))).map arOf := by
  rw [waysR_choR (trees_fit h) (by simpa using h0), List.flatMap_map, List.map_flatMap]
  exact flat_congr fun T hT => waysL_eq (List.all_eq_true.1 h T hT)
end Go.Proofs.YtpkjfdgjmcphmaaDoor

/- What ExprNormal asks of trees that were made. -/
import Derived.Test.YtpkjfdgjmcphmaaDoorVExh0
import Derived.Test.YtpkjfdgjmcphmaaDoorVExb
namespace Go.Proofs.YtpkjfdgjmcphmaaDoor
open Go.RowKit Bset Tm

/-- What was made: nothing, or a tree that is right, normal, and not great. -/
def Goods (O : Bool) (T : Ar) : Prop := (O = false ∧ T = noAr) ∨ (O = true ∧ ∃ u, T = arOf u ∧ fitT u = true ∧ nml u = true ∧ size u ≤ 1000000)
theorem goods_make {t : Ar} (h : t.nodes.length ≤ 400) : Goods (rightB t) (madeT t) := by
  cases hR : rightB t with
  | false => exact .inl ⟨rfl, madeT_no hR⟩
  | true =>
    have hf := trees_fit (l := [t]) (by simp [hR]) _ (List.mem_map.2 ⟨t, List.mem_singleton.2 rfl, rfl⟩)
    have hg := nrm_good _ hf
    have hz := nrm_size (tree t)
    have hs : size (tree t) ≤ 400 := by rw [(rightB_iff.1 hR).size]; exact h
    exact .inr ⟨rfl, _, madeT_yes hR, hg.1, hg.2, by omega⟩
theorem sizes_totalB {l : List Ar} (h : l.all rightB = true) : sizes (l.map tree) = total l := by
  induction l with
  | nil => rfl
  | cons t l ih =>
    rw [List.all_cons, Bool.and_eq_true] at h
    have : total (t :: l) = t.nodes.length + total l := by simp [total]
    rw [List.map_cons, sizes, ih h.2, this, (rightB_iff.1 h.1).size]
theorem total_few {l : List Ar} (h : ∀ t ∈ l, t.nodes.length ≤ 400) (hl : l.length ≤ 400) : total l ≤ 160000 := by
  have : ∀ l : List Ar, (∀ t ∈ l, t.nodes.length ≤ 400) → total l ≤ l.length * 400 := by
    intro l
    induction l with
    | nil => intro _; simp [total]
    | cons t l ih =>
      intro h
      have h1 := h t (by simp)
      have h2 := ih fun x hx => h x (by simp [hx])
      have h3 : total (t :: l) = t.nodes.length + total l := by simp [total]
      rw [h3, List.length_cons, Nat.add_mul]
      omega
  have := this l h
  omega
theorem goods_seq {l : List Ar} (h : ∀ t ∈ l, t.nodes.length ≤ 400) (hl : l.length ≤ 400) : Goods (seqB l) (seqT l) := by
  rw [(seq_eq l).1]
  cases hR : l.all rightB with
  | false => exact .inl ⟨rfl, (seq_eq l).2.1 hR⟩
  | true =>
    have hf := trees_fit hR
    have hg := seqR_good hf
    have hz := seqR_size (l.map tree)
    rw [sizes_totalB hR] at hz
    have := total_few h hl
    exact .inr ⟨rfl, _, (seq_eq l).2.2 hR, hg.1, hg.2, by omega⟩
theorem goods_cho {l : List Ar} (h : ∀ t ∈ l, t.nodes.length ≤ 400) (hl : l.length ≤ 400) : Goods (choB l) (choT l) := by
  rw [(cho_eq l).1]
  cases hR : l.all rightB with
  | false => exact .inl ⟨rfl, (cho_eq l).2.1 hR⟩
  | true =>
    have hf := trees_fit hR
    have hg := choR_good hf
    have hz := choR_size (l.map tree)
    rw [sizes_totalB hR] at hz
    have := total_few h hl
    exact .inr ⟨rfl, _, (cho_eq l).2.2 hR, hg.1, hg.2, by omega⟩
theorem few_okL {l : List Ar} (h : ∀ t ∈ l, OkA t.nodes) (hn : ∀ t ∈ l, t.nodes.length ≤ 400) (hl : l.length ≤ 400) : OkL l := ⟨h, by have := total_few hn hl; omega, by omega⟩

theorem good_make (v : Value) {T : Ar} {u : RT Hd} (hT : T = arOf u) (hf : fitT u = true) (hn : nml u = true) (hs : size u ≤ 1000000) (w : World) (hv : Tree w v T) (hE : Env w) : Calls Tryd.prog 60 #[v] w fun e w' => ∃ v', e = .returned (.tuple #[v', .bool true]) ∧ MadeT w.heap.size w' v' T ∧ Below w.heap.size w w' := by
  subst hT
  have h := make_any v _ w hv (ok_fit hf (by omega)) (by have : (arOf u).nodes.length = size u := flat_length u; omega) hE
  rw [arOf_rightB hf, madeT_yes (arOf_rightB hf), tree_arOf, nrm_self u hf hn] at h
  exact h
theorem good_right (v : Value) {T : Ar} {u : RT Hd} (hT : T = arOf u) (hf : fitT u = true) (hs : size u ≤ 1000000) (w : World) (hv : Tree w v T) (hE : Env w) : Calls Tryd.prog 18 #[v] w fun e w' => e = .returned (.bool true) ∧ Below w.heap.size w w' := by
  subst hT
  have h := right_at' v _ w hv (ok_fit hf (by omega)) hE
  rw [arOf_rightB hf] at h
  exact h
theorem good_normal (v : Value) {T : Ar} {u : RT Hd} (hT : T = arOf u) (hf : fitT u = true) (hn : nml u = true) (hs : size u ≤ 1000000) (w : World) (hv : Tree w v T) (hE : Env w) : Calls Tryd.prog 61 #[v] w fun e w' => e = .returned (.bool true) ∧ Below w.heap.size w w' := by
  subst hT
  exact normal_yes v u w hv hf hn hs hE
theorem good_clean (v : Value) {T : Ar} {u : RT Hd} (hT : T = arOf u) (hf : fitT u = true) (hs : size u ≤ 1000000) (w : World) (hv : Tree w v T) (hE : Env w) : Calls Tryd.prog 25 #[v] w fun e w' => ∃ v', e = .returned v' ∧ MadeT w.heap.size w' v' T ∧ Below w.heap.size w w' := by
  subst hT
  have h := clean_at v _ w hv (ok_fit hf (by omega)) hE
  rw [arOf_clean hf] at h
  exact h.mono fun e w' ⟨p, c, C, h1, h2, h3, h4⟩ => ⟨_, h1, ⟨_, C, rfl, h2, h3⟩, h4⟩
theorem good_ok {T : Ar} {u : RT Hd} (hT : T = arOf u) (hf : fitT u = true) (hs : size u ≤ 1000000) : OkA T.nodes := by
  subst hT
  exact ok_fit hf (by omega)
/-- A normal tree is made what it is. -/
theorem same_made {t : Ar} (hR : rightB t = true) (hN : nmlA t.nodes = true) : sameT (madeT t) t = true := by
  have hf := trees_fit (l := [t]) (by simp [hR]) _ (List.mem_map.2 ⟨t, List.mem_singleton.2 rfl, rfl⟩)
  rw [madeT_yes hR, nrm_self _ hf (by rw [nml_right hR]; exact hN)]
  exact same_arOf hR
end Go.Proofs.YtpkjfdgjmcphmaaDoor

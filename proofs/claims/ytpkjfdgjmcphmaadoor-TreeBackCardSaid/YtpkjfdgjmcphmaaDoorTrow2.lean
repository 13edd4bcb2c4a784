/- Arguments that are a node, or a list of trees. -/
import Derived.Test.YtpkjfdgjmcphmaaDoorTrow
namespace Go.Proofs.YtpkjfdgjmcphmaaDoor
open Go.Deep Go.ChangeShapes Go.WideShapes Go.ChangeAt Go.WideMaps Go.WideElems Go.RowKit Bset Tm

section
variable {H : Type} {enc : TypeId × Value → H} {W : World}

set_option maxRecDepth 100000 in
theorem open_node_arg {base : Nat} {v : Value} {d : DataW H} {p : List MemPlace} (hv : Value.okWide Tryd.prog W .any base 38 v) (h : DataW.Trod enc Tryd.prog W 0 (fun _ => true) true 38 v d p) (hw : ∀ k ∈ d.weights Tryd.prog 38, k ≤ reachBytes) :
    ∃ (nd : Nd) (kv : Value), v = nodeV nd.hd kv ∧ Ints W kv nd.kids ∧ okW nd := by
  obtain ⟨cs, rfl, hsz⟩ := okWide_struct Tryd.underlying38 hv
  obtain ⟨fuel, hf⟩ := h
  obtain ⟨nd, kv, e, hI, h1, h2⟩ := open_node hf hw
  refine ⟨nd, kv, ?_, hI, h1, h2⟩
  have : cs.toList = (nodeC nd.hd kv).toList := e
  rw [Array.toList_inj.1 this]

set_option maxRecDepth 100000 in
theorem open_trees {base : Nat} {v : Value} {d : DataW H} {p : List MemPlace} (hv : Value.okWide Tryd.prog W .any base 29 v) (h : DataW.Trod enc Tryd.prog W 0 (fun _ => true) true 29 v d p) (hw : ∀ k ∈ d.weights Tryd.prog 29, k ≤ reachBytes) :
    ∃ l, Trees W v l ∧ ∀ t ∈ l, ∀ n ∈ t.nodes, okW n := by
  obtain ⟨a0, len0, cap0, rfl⟩ := okWide_slice Tryd.underlying29 hv
  obtain ⟨fuel, hf⟩ := h
  rcases open_slice Tryd.underlying29 hf with ⟨hcs, _⟩ | ⟨a, len, cap, m, n', D, Pl, hcs, _, hl, _, hm, hx0, hx⟩
  · simp [Value.cells] at hcs
    obtain ⟨rfl, rfl, rfl⟩ := hcs
    exact ⟨[], ⟨none, 0, rfl, .inl rfl⟩, fun t ht => by cases ht⟩
  · simp [Value.cells] at hcs
    obtain ⟨rfl, rfl, rfl⟩ := hcs
    simp only [Prod.mk.injEq] at hx0
    obtain ⟨rfl, _⟩ := hx0
    simp only [if_true] at hm
    subst hm
    rw [cTree] at hx
    by_cases hl0 : len0 = 0
    · subst hl0
      exact ⟨[], ⟨some a, m, rfl, .inl rfl⟩, fun t ht => by cases ht⟩
    have hspot : a.spot = none := by
      obtain ⟨cs', h1, _⟩ := hx 0 (by omega)
      obtain ⟨_, hlen, hc⟩ := World.cells?_some h1
      have c0 := hc 0 (by omega)
      obtain ⟨v, hv⟩ : ∃ v, cs'[0]? = some v := ⟨_, List.getElem?_eq_getElem (by omega)⟩
      rw [hv] at c0
      simpa [Addr.add] using World.cell?_spot c0
    obtain ⟨b, off, spot⟩ := a
    dsimp only at hspot
    subst hspot
    have key : ∀ i, i < len0 → ∃ u : Value × Ar, W.cell? ⟨b, off + i * 2, none⟩ = some u.1 ∧ W.cell? ⟨b, off + i * 2 + 1, none⟩ = some (.int .i64 u.2.root) ∧ Nodes W u.1 u.2.nodes ∧ ∀ n ∈ u.2.nodes, okW n := fun i hi => by
      obtain ⟨cs', h1, h2⟩ := hx i (by omega)
      obtain ⟨nv, r, A, rfl, hN, hA⟩ := open_tree_at h2 (fun k hk => hw k (by
        have : D i ∈ (List.range len0).map D := List.mem_map.2 ⟨i, List.mem_range.2 hi, rfl⟩
        simp only [DataW.weights, Tryd.underlying29]
        exact List.mem_cons_of_mem _ (List.mem_append_left _ (weightsAll_mem this k hk))))
      obtain ⟨_, _, hc⟩ := World.cells?_some h1
      rw [at_add] at hc
      simp only [at_add] at hc
      exact ⟨(nv, ⟨A, r⟩), hc 0 (by omega), hc 1 (by omega), hN, hA⟩
    haveI : Inhabited (Value × Ar) := ⟨(.bool false, noAr)⟩
    obtain ⟨U, hU⟩ := choose_lt (α := Value × Ar) key
    refine ⟨(List.range len0).map fun i => (U i).2, ⟨some ⟨b, off, none⟩, m, by simp, .inr ⟨b, off, rfl, fun j hj => ?_⟩⟩, fun t ht => ?_⟩
    · have hj' : j < len0 := by simpa using hj
      obtain ⟨h1, h2, h3, _⟩ := hU j hj'
      exact ⟨(U j).1, by simpa using h1, by simpa using h2, by simpa using h3⟩
    · obtain ⟨i, hi, rfl⟩ := List.mem_map.1 ht
      exact (hU i (List.mem_range.1 hi)).2.2.2
end
end Go.Proofs.YtpkjfdgjmcphmaaDoor

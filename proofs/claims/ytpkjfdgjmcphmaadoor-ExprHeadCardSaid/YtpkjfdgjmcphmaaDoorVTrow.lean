/- What each row of this seat wants: the table out of what the row lists; an argument that is a tree; the start that fits. -/
import Derived.Test.YtpkjfdgjmcphmaaDoorRows
import Derived.Test.YtpkjfdgjmcphmaaDoorVTo
import Derived.Test.YtpkjfdgjmcphmaaDoorVTz5
import Derived.ProofKit
import Derived.LaidMore
import Derived.OpenShut
import Derived.SizedLaws
import Derived.ChangeMaps5
import Derived.Deep.Slices
import Derived.Stop.Joined
import Derived.Laws.IdiomArrays
import Derived.Lib.SmallJoins
import Derived.Deep.RegionHeld3
import Derived.Below
import Derived.Test.YtpkjfdgjmcphmaaDoorVTz2
namespace Go.Proofs.YtpkjfdgjmcphmaaDoor
open Go.Deep Go.ChangeShapes Go.WideShapes Go.ChangeAt Go.WideMaps Go.WideElems Go.RowKit Bset Tm

theorem own : ownKnob Tryd.prog.godebug = none := by kernel_rfl
theorem laidOut : laidOutB Tryd.prog = true := by kernel_rfl
theorem cInt : Tryd.prog.cellsOf 3 = 1 := by kernel_rfl
theorem cU8 : Tryd.prog.cellsOf 5 = 1 := by kernel_rfl
theorem cU64 : Tryd.prog.cellsOf 33 = 1 := by kernel_rfl
theorem cStr : Tryd.prog.cellsOf 9 = 1 := by kernel_rfl
theorem cBytes : Tryd.prog.cellsOf 35 = 4 := by kernel_rfl
theorem cInts : Tryd.prog.cellsOf 36 = 1 := by kernel_rfl
theorem cNodes : Tryd.prog.cellsOf 24 = 1 := by kernel_rfl
theorem cNode : Tryd.prog.cellsOf 38 = 9 := by kernel_rfl
theorem cTree : Tryd.prog.cellsOf 26 = 2 := by kernel_rfl

theorem setN_of (S : Nat → Bool) : ∃ x : BitVec 256, ∀ n, n < 256 → setN x n = S n := by
  refine ⟨(BitVec.ofBoolListLE ((List.range 256).map S)).cast (by simp), fun n hn => ?_⟩
  show BitVec.getLsbD _ n = _
  rw [BitVec.getLsbD_cast, BitVec.getLsbD_ofBoolListLE]
  simp [List.getD, hn]

theorem weightsAll_mem {H : Type} {P : Program} {e : TypeId} : ∀ {l : List (DataW H)} {d : DataW H}, d ∈ l → ∀ n ∈ d.weights P e, n ∈ DataW.weightsAll P e l
  | d' :: r, d, hd, n, hn => by
    simp only [DataW.weightsAll, List.mem_append]
    rcases List.mem_cons.1 hd with rfl | h
    · exact .inl hn
    · exact .inr (weightsAll_mem h n hn)

section
variable {H : Type} {enc : TypeId × Value → H} {W : World}

theorem at_add (b off i : Nat) : (⟨b, off, none⟩ : Addr).add i = ⟨b, off + i, none⟩ := by
  unfold Addr.add
  split
  · simp_all
  · rfl

set_option maxRecDepth 100000 in
theorem open_ints {n : Nat} {cs : List Value} {x : DataW H × List MemPlace} (h : DataW.trod enc Tryd.prog W 0 (fun _ => true) true n 36 cs = some x) : ∃ v l, cs = [v] ∧ Ints W v l := by
  rcases open_slice1 Tryd.underlying36 cInt h with ⟨rfl, _⟩ | ⟨a, len, cap, m, n, V, D, Pl, rfl, _, hl, _, hm, _, hx⟩
  · exact ⟨_, [], rfl, none, 0, rfl, .inl rfl⟩
  · simp only [if_true] at hm
    subst hm
    have key : ∀ i, i < len → ∃ k : Int, V i = .int .i64 k := fun i hi => by
      obtain ⟨k, e, _⟩ := DataW.trod_int Tryd.underlying3 (hx i (by omega)).2
      exact ⟨k, by simpa using e⟩
    obtain ⟨K, hK⟩ := choose_lt (α := Int) key
    refine ⟨_, (List.range len).map K, rfl, some a, m, by simp, ?_⟩
    by_cases hl0 : len = 0
    · subst hl0
      exact .inl rfl
    · obtain ⟨b, off, spot⟩ := a
      have hspot : spot = none := by simpa [Addr.add] using World.cell?_spot (hx 0 (by omega)).1
      subst hspot
      refine .inr ⟨b, off, rfl, fun j hj => ?_⟩
      have hj' : j < len := by simpa using hj
      have h1 := (hx j (by omega)).1
      rw [hK j hj', at_add] at h1
      simpa using h1

set_option maxRecDepth 100000 in
/-- A node that is read. -/
theorem open_node {n : Nat} {cs : List Value} {x : DataW H × List MemPlace} (h : DataW.trod enc Tryd.prog W 0 (fun _ => true) true n 38 cs = some x) (hw : ∀ k ∈ x.1.weights Tryd.prog 38, k ≤ reachBytes) :
    ∃ (nd : Nd) (kv : Value), cs = (nodeC nd.hd kv).toList ∧ Ints W kv nd.kids ∧ nd.hd.kind < 256 ∧ nd.hd.text.size ≤ 140737488355328 := by
  obtain ⟨xs, m, _, rfl, hl, hlen, hf⟩ := DataW.trod_struct Tryd.underlying38 h
  rw [cNode] at hl
  match xs, hlen, cs, hl with
  | [y0, y1, y2, y3, y4, y5], _, [a0, a1, a2, a3, a4, a5, a6, a7, a8], _ =>
    have h0 : DataW.trod enc Tryd.prog W 0 (fun _ => true) true m 5 [a0] = some y0 := hf 0 _ rfl
    have h1 : DataW.trod enc Tryd.prog W 0 (fun _ => true) true m 35 [a1, a2, a3, a4] = some y1 := hf 1 _ rfl
    have h2 : DataW.trod enc Tryd.prog W 0 (fun _ => true) true m 9 [a5] = some y2 := hf 2 _ rfl
    have h3 : DataW.trod enc Tryd.prog W 0 (fun _ => true) true m 3 [a6] = some y3 := hf 3 _ rfl
    have h4 : DataW.trod enc Tryd.prog W 0 (fun _ => true) true m 3 [a7] = some y4 := hf 4 _ rfl
    have h5 : DataW.trod enc Tryd.prog W 0 (fun _ => true) true m 36 [a8] = some y5 := hf 5 _ rfl
    obtain ⟨k, e0, _, w0⟩ := DataW.trod_int Tryd.underlying5 h0
    have b0 := bounds_u8 w0
    obtain ⟨z0, z1, z2, z3, m1, _, g0, g1, g2, g3⟩ := trod_array4 Tryd.underlying35 cU64 h1
    obtain ⟨k0, f0, _, v0⟩ := DataW.trod_int Tryd.underlying33 g0
    obtain ⟨k1, f1, _, v1⟩ := DataW.trod_int Tryd.underlying33 g1
    obtain ⟨k2, f2, _, v2⟩ := DataW.trod_int Tryd.underlying33 g2
    obtain ⟨k3, f3, _, v3⟩ := DataW.trod_int Tryd.underlying33 g3
    obtain ⟨s, e2, r2, hs⟩ := DataW.trod_string Tryd.underlying9 h2
    obtain ⟨lo, e3, _, _⟩ := DataW.trod_int Tryd.underlying3 h3
    obtain ⟨hi, e4, _, _⟩ := DataW.trod_int Tryd.underlying3 h4
    obtain ⟨kv, l, e5, hI⟩ := open_ints h5
    simp only [List.cons.injEq, and_true] at e0 f0 f1 f2 f3 e2 e3 e4 e5
    subst e0 f0 f1 f2 f3 e2 e3 e4 e5
    have b1 := bounds_u64 v0
    have b2 := bounds_u64 v1
    have b3 := bounds_u64 v2
    have b4 := bounds_u64 v3
    obtain ⟨S, r0, r1, r2', r3⟩ := ofWs b1.1 b1.2 b2.1 b2.2 b3.1 b3.2 b4.1 b4.2
    obtain ⟨set, hset⟩ := setN_of S
    obtain ⟨kn, rfl⟩ : ∃ kn : Nat, k = kn := ⟨k.toNat, by omega⟩
    refine ⟨⟨⟨kn, set, s, lo, hi⟩, l⟩, a8, ?_, hI, by show kn < 256; omega, ?_⟩
    · show _ = [_, _, _, _, _, _, _, _, _]
      rw [word_congr hset (by omega : 0 < 4), word_congr hset (by omega : 1 < 4), word_congr hset (by omega : 2 < 4), word_congr hset (by omega : 3 < 4), r0, r1, r2', r3]
    · have : s.data.toList.length ≤ reachBytes := hw _ (by
        rw [r2]
        simp [DataW.weights, Tryd.underlying38, DataW.weightsEach])
      have h47 := reachBytes_lt
      have hsz : s.data.toList.length = s.size := Array.length_toList
      show s.size ≤ _
      omega

abbrev okW (n : Nd) : Prop := n.hd.kind < 256 ∧ n.hd.text.size ≤ 140737488355328

set_option maxRecDepth 100000 in
theorem open_nodes {n : Nat} {cs : List Value} {x : DataW H × List MemPlace} (h : DataW.trod enc Tryd.prog W 0 (fun _ => true) true n 24 cs = some x) (hw : ∀ k ∈ x.1.weights Tryd.prog 24, k ≤ reachBytes) :
    ∃ v A, cs = [v] ∧ Nodes W v A ∧ ∀ n ∈ A, okW n := by
  rcases open_slice Tryd.underlying24 h with ⟨rfl, _⟩ | ⟨a, len, cap, m, n', D, Pl, rfl, _, hl, _, hm, rfl, hx⟩
  · exact ⟨_, [], rfl, ⟨none, 0, rfl, .inl rfl⟩, fun n hn => by cases hn⟩
  · simp only [if_true] at hm
    subst hm
    rw [cNode] at hx
    by_cases hl0 : len = 0
    · subst hl0
      exact ⟨_, [], rfl, ⟨some a, m, rfl, .inl rfl⟩, fun n hn => by cases hn⟩
    have hspot : a.spot = none := by
      obtain ⟨cs', h1, _⟩ := hx 0 (by omega)
      obtain ⟨_, _, hc⟩ := World.cells?_some h1
      have c0 := hc 0 (by omega)
      have hl9 : ∃ v, cs'[0]? = some v := ⟨_, List.getElem?_eq_getElem (by have := (World.cells?_some h1).2.1; omega)⟩
      obtain ⟨v, hv⟩ := hl9
      rw [hv] at c0
      simpa [Addr.add] using World.cell?_spot c0
    obtain ⟨b, off, spot⟩ := a
    dsimp only at hspot
    subst hspot
    have key : ∀ i, i < len → ∃ u : Nd × Value, NodeAt W b (off + i * 9) u.1.hd u.2 ∧ Ints W u.2 u.1.kids ∧ okW u.1 := fun i hi => by
      obtain ⟨cs', h1, h2⟩ := hx i (by omega)
      obtain ⟨nd, kv, rfl, hI, ho⟩ := open_node h2 (fun k hk => hw k (by
        have : D i ∈ (List.range len).map D := List.mem_map.2 ⟨i, List.mem_range.2 hi, rfl⟩
        simp only [DataW.weights, Tryd.underlying24]
        exact List.mem_cons_of_mem _ (List.mem_append_left _ (weightsAll_mem this k hk))))
      obtain ⟨_, _, hc⟩ := World.cells?_some h1
      rw [at_add] at hc
      simp only [at_add] at hc
      exact ⟨(nd, kv), ⟨hc 0 (by omega), hc 1 (by omega), hc 2 (by omega), hc 3 (by omega), hc 4 (by omega), hc 5 (by omega), hc 6 (by omega), hc 7 (by omega), hc 8 (by omega)⟩, hI, ho⟩
    haveI : Inhabited (Nd × Value) := ⟨(noNd, .bool false)⟩
    obtain ⟨U, hU⟩ := choose_lt (α := Nd × Value) key
    refine ⟨_, (List.range len).map fun i => (U i).1, rfl, ⟨some ⟨b, off, none⟩, m, by simp, .inr ⟨b, off, rfl, fun j hj => ?_⟩⟩, fun n hn => ?_⟩
    · have hj' : j < len := by simpa using hj
      obtain ⟨h1, h2, _⟩ := hU j hj'
      exact ⟨(U j).2, by simpa using h1, by simpa using h2⟩
    · obtain ⟨i, hi, rfl⟩ := List.mem_map.1 hn
      exact (hU i (List.mem_range.1 hi)).2.2

set_option maxRecDepth 100000 in
theorem open_tree_at {n : Nat} {cs : List Value} {x : DataW H × List MemPlace} (h : DataW.trod enc Tryd.prog W 0 (fun _ => true) true n 26 cs = some x) (hw : ∀ k ∈ x.1.weights Tryd.prog 26, k ≤ reachBytes) :
    ∃ v r A, cs = [v, .int .i64 r] ∧ Nodes W v A ∧ ∀ n ∈ A, okW n := by
  obtain ⟨y0, y1, m, rfl, hl, h0, h1⟩ := trod_struct2 Tryd.underlying26 h
  rw [cTree] at hl
  match cs, hl with
  | [a0, a1], _ =>
    have h0' : DataW.trod enc Tryd.prog W 0 (fun _ => true) true m 24 [a0] = some y0 := h0
    have h1' : DataW.trod enc Tryd.prog W 0 (fun _ => true) true m 3 [a1] = some y1 := h1
    obtain ⟨r, e1, _, _⟩ := DataW.trod_int Tryd.underlying3 h1'
    obtain ⟨v, A, e0, hN, hA⟩ := open_nodes h0' (fun k hk => hw k (by
      simp only [DataW.weights, Tryd.underlying26]
      simp [DataW.weightsEach, hk]))
    simp only [List.cons.injEq, and_true] at e0 e1
    subst e0 e1
    exact ⟨_, r, A, rfl, hN, hA⟩

set_option maxRecDepth 100000 in
/-- An argument that is a tree. -/
theorem open_tree {base : Nat} {v : Value} {d : DataW H} {p : List MemPlace} (hv : Value.okWide Tryd.prog W .any base 26 v) (h : DataW.Trod enc Tryd.prog W 0 (fun _ => true) true 26 v d p) (hw : ∀ k ∈ d.weights Tryd.prog 26, k ≤ reachBytes) :
    ∃ nv r A, v = treeV nv r ∧ Nodes W nv A ∧ ∀ n ∈ A, okW n := by
  obtain ⟨cs, rfl, hsz⟩ := okWide_struct Tryd.underlying26 hv
  obtain ⟨fuel, hf⟩ := h
  obtain ⟨nv, r, A, e, hN, hA⟩ := open_tree_at hf hw
  refine ⟨nv, r, A, ?_, hN, hA⟩
  have : cs.toList = [nv, .int .i64 r] := e
  obtain ⟨l⟩ := cs
  dsimp only at this
  rw [this]
end
end Go.Proofs.YtpkjfdgjmcphmaaDoor

/- What each row of this seat lists: the table of how many kids a kind has; the start that fits. -/
namespace Go.Proofs.YtpkjfdgjmcphmaaDoor
open Go.Deep Go.ChangeShapes Go.WideShapes Go.ChangeAt Go.WideMaps Go.WideElems Go.RowKit Bset Tm

theorem gTab : Tryd.prog.globalNamed "bonsai/tree.kidsOf" = some 0 := by kernel_rfl
theorem tTab : (Tryd.prog.globals[0]?).map (·.type) = some 78 := by kernel_rfl
theorem cBounds : Tryd.prog.cellsOf 77 = 2 := by kernel_rfl

abbrev laidL : List (String × DataW Unit) := [("bonsai/tree.kidsOf", Rows.laid_bonsai_tree_kidsOf)]

set_option maxRecDepth 100000 in
theorem tab_data : ∀ j, j < 10 → (match (Rows.laid_bonsai_tree_kidsOf : DataW Unit) with | .agg l => l[j]? | _ => none) = some (.agg [.lit (.int .i64 (kidsTab.getD (2 * j) 0)), .lit (.int .i64 (kidsTab.getD (2 * j + 1) 0))]) := by
  intro j hj
  have h : ∀ j : Fin 10, (match (Rows.laid_bonsai_tree_kidsOf : DataW Unit) with | .agg l => l[j.1]? | _ => none) = some (.agg [.lit (.int .i64 (kidsTab.getD (2 * j.1) 0)), .lit (.int .i64 (kidsTab.getD (2 * j.1 + 1) 0))]) := by
    intro j
    match j with
    | ⟨j, hj⟩ =>
      iterate 10 (rcases j with _ | j; · rfl)
      omega
  exact h ⟨j, hj⟩

set_option maxRecDepth 100000 in
/-- What the row's condition gives the walks: the table's cells; and it lies in the heap. -/
theorem of_laid {W : World} (h : laidMetH Tryd.prog laidL W) : Env W := by
  rw [MakeChecks.laidMetH_plain _ _ _ (by kernel_rfl)] at h
  obtain ⟨ps, ⟨g0, t0, cs0, f0, p0, q0, hg0, ht0, hv0, hd0, _⟩, _⟩ := h
  obtain rfl := Option.some.inj (gTab.symm.trans hg0)
  obtain rfl := Option.some.inj (tTab.symm.trans ht0)
  obtain ⟨xs, m1, rfl, hx1, hlen, hn, hel⟩ := DataW.trod_array Tryd.underlying78 hd0
  have key : ∀ j, j < 10 → W.cell? ⟨0, 2 * j, none⟩ = some (.int .i64 (kidsTab.getD (2 * j) 0)) ∧ W.cell? ⟨0, 2 * j + 1, none⟩ = some (.int .i64 (kidsTab.getD (2 * j + 1) 0)) := by
    intro j hj
    have h0 := hel j hj
    rw [cBounds] at h0
    have hxj : j < xs.length := by omega
    rw [List.getElem?_eq_getElem hxj] at h0
    obtain ⟨y0, y1, m, hy, hl, i0, i1⟩ := trod_struct2 Tryd.underlying77 h0
    have i0' : DataW.trod _ Tryd.prog W _ _ _ m 3 ((((cs0.toList.drop (j * 2)).take 2).drop 0).take 1) = some y0 := i0
    have i1' : DataW.trod _ Tryd.prog W _ _ _ m 3 ((((cs0.toList.drop (j * 2)).take 2).drop 1).take 1) = some y1 := i1
    obtain ⟨k0, e0, r0, _⟩ := DataW.trod_int Tryd.underlying3 i0'
    obtain ⟨k1, e1, r1, _⟩ := DataW.trod_int Tryd.underlying3 i1'
    have hd := tab_data j hj
    simp only [Prod.mk.injEq] at hx1
    rw [hx1.1] at hd
    have hk : (xs.map (·.1))[j]? = some (.agg [.lit (.int .i64 k0), .lit (.int .i64 k1)]) := by
      rw [List.getElem?_map, List.getElem?_eq_getElem hxj, hy, r0, r1]
      rfl
    simp only at hd
    rw [hk] at hd
    simp only [Option.some.injEq, DataW.agg.injEq, List.cons.injEq, DataW.lit.injEq, Lit.int.injEq, true_and, and_true] at hd
    obtain ⟨a0, a1⟩ := hd
    have c0 := World.var?_cell hg0 hv0 (2 * j)
    have c1 := World.var?_cell hg0 hv0 (2 * j + 1)
    have d0 := congrArg (fun l => l[0]?) e0
    have d1 := congrArg (fun l => l[0]?) e1
    rw [c0, c1, ← a0, ← a1]
    constructor
    · simpa [Nat.mul_comm] using d0
    · simpa [Nat.mul_comm, Nat.add_comm] using d1
  have hcell : TabK W := fun j hj => by
    have hj' : j < 20 := hj
    obtain ⟨h1, h2⟩ := key (j / 2) (by omega)
    by_cases e : j % 2 = 0
    · have : 2 * (j / 2) = j := by omega
      rw [this] at h1
      simpa [List.getD, hj] using h1
    · have : 2 * (j / 2) + 1 = j := by omega
      rw [this] at h2
      simpa [List.getD, hj] using h2
  exact ⟨hcell, World.block_lt_of_cell? W _ (hcell 0 (by decide))⟩

set_option maxRecDepth 100000 in
/-- The door's own heap meets the condition. -/
theorem door_met (os : Os) (args : Array Value) : laidMetH Tryd.prog laidL ((World.doorLaid Tryd.prog 24 os).forCall (fun _ _ => 0) ⟨#[], args, []⟩).memory :=
  laidMetH_of_parts3 (fuel := 8) (laidMet_of_run' 8 (by kernel_rfl) (by kernel_rfl)) (by kernel_rfl) (by kernel_rfl)
end Go.Proofs.YtpkjfdgjmcphmaaDoor

/- Arguments that are a node, or a list of trees. -/
namespace Go.Proofs.YtpkjfdgjmcphmaaDoor
open Go.Deep Go.ChangeShapes Go.WideShapes Go.ChangeAt Go.WideMaps Go.WideElems Go.RowKit Bset Tm

section
variable {H : Type} {enc : TypeId × Value → H} {W : World}

set_option maxRecDepth 100000 in
theorem open_node_arg {base : Nat} {v : Value} {d : DataW H} {p : List MemPlace} (hv : Value.okWide Tryd.prog W .any base 38 v) (h : DataW.Trod enc Tryd.prog W 0 (fun _ => true) true 38 v d p) (hw : ∀ k ∈ d.weights Tryd.prog 38, k ≤ reachBytes) :
    ∃ (nd : Nd) (kv : Value), v = nodeV nd.hd kv ∧ Ints W kv nd.kids ∧ okW nd := by
  obtain ⟨cs, rfl, hsz⟩ := okWide_struct Tryd.underlying38 hv
  obtain ⟨fuel, hf⟩ := h
  obtain ⟨nd, kv, e, hI, h1, h2⟩ := open_node hf hw
  refine ⟨nd, kv, ?_, hI, h1, h2⟩
  have : cs.toList = (nodeC nd.hd kv).toList := e
  rw [Array.toList_inj.1 this]

set_option maxRecDepth 100000 in
theorem open_trees {base : Nat} {v : Value} {d : DataW H} {p : List MemPlace} (hv : Value.okWide Tryd.prog W .any base 29 v) (h : DataW.Trod enc Tryd.prog W 0 (fun _ => true) true 29 v d p) (hw : ∀ k ∈ d.weights Tryd.prog 29, k ≤ reachBytes) :
    ∃ l, Trees W v l ∧ ∀ t ∈ l, ∀ n ∈ t.nodes, okW n := by
  obtain ⟨a0, len0, cap0, rfl⟩ := okWide_slice Tryd.underlying29 hv
  obtain ⟨fuel, hf⟩ := h
  rcases open_slice Tryd.underlying29 hf with ⟨hcs, _⟩ | ⟨a, len, cap, m, n', D, Pl, hcs, _, hl, _, hm, hx0, hx⟩
  · simp [Value.cells] at hcs
    obtain ⟨rfl, rfl, rfl⟩ := hcs
    exact ⟨[], ⟨none, 0, rfl, .inl rfl⟩, fun t ht => by cases ht⟩
  · simp [Value.cells] at hcs
    obtain ⟨rfl, rfl, rfl⟩ := hcs
    simp only [Prod.mk.injEq] at hx0
    obtain ⟨rfl, _⟩ := hx0
    simp only [if_true] at hm
    subst hm
    rw [cTree] at hx
    by_cases hl0 : len0 = 0
    · subst hl0
      exact ⟨[], ⟨some a, m, rfl, .inl rfl⟩, fun t ht => by cases ht⟩
    have hspot : a.spot = none := by
      obtain ⟨cs', h1, _⟩ := hx 0 (by omega)
      obtain ⟨_, hlen, hc⟩ := World.cells?_some h1
      have c0 := hc 0 (by omega)
      obtain ⟨v, hv⟩ : ∃ v, cs'[0]? = some v := ⟨_, List.getElem?_eq_getElem (by omega)⟩
      rw [hv] at c0
      simpa [Addr.add] using World.cell?_spot c0
    obtain ⟨b, off, spot⟩ := a
    dsimp only at hspot
    subst hspot
    have key : ∀ i, i < len0 → ∃ u : Value × Ar, W.cell? ⟨b, off + i * 2, none⟩ = some u.1 ∧ W.cell? ⟨b, off + i * 2 + 1, none⟩ = some (.int .i64 u.2.root) ∧ Nodes W u.1 u.2.nodes ∧ ∀ n ∈ u.2.nodes, okW n := fun i hi => by
      obtain ⟨cs', h1, h2⟩ := hx i (by omega)
      obtain ⟨nv, r, A, rfl, hN, hA⟩ := open_tree_at h2 (fun k hk => hw k (by
        have : D i ∈ (List.range len0).map D := List.mem_map.2 ⟨i, List.mem_range.2 hi, rfl⟩
        simp only [DataW.weights, Tryd.underlying29]
        exact List.mem_cons_of_mem _ (List.mem_append_left _ (weightsAll_mem this k hk))))
      obtain ⟨_, _, hc⟩ := World.cells?_some h1
      rw [at_add] at hc
      simp only [at_add] at hc
      exact ⟨(nv, ⟨A, r⟩), hc 0 (by omega), hc 1 (by omega), hN, hA⟩
    haveI : Inhabited (Value × Ar) := ⟨(.bool false, noAr)⟩
    obtain ⟨U, hU⟩ := choose_lt (α := Value × Ar) key
    refine ⟨(List.range len0).map fun i => (U i).2, ⟨some ⟨b, off, none⟩, m, by simp, .inr ⟨b, off, rfl, fun j hj => ?_⟩⟩, fun t ht => ?_⟩
    · have hj' : j < len0 := by simpa using hj
      obtain ⟨h1, h2, h3, _⟩ := hU j hj'
      exact ⟨(U j).1, by simpa using h1, by simpa using h2, by simpa using h3⟩
    · obtain ⟨i, hi, rfl⟩ := List.mem_map.1 ht
      exact (hU i (List.mem_range.1 hi)).2.2.2
end
end Go.Proofs.YtpkjfdgjmcphmaaDoor

/- Arguments that are trees: how long they may be. -/
namespace Go.Proofs.YtpkjfdgjmcphmaaDoor
open Go.Deep Go.ChangeShapes Go.WideShapes Go.ChangeAt Go.WideMaps Go.WideElems Go.RowKit Bset Tm

theorem maxLen_eq : maxLen = 9223372036854775807 := rfl
abbrev okX (n : Nd) : Prop := n.hd.kind < 256 ∧ n.hd.text.size ≤ 140737488355328 ∧ n.kids.length ≤ 9223372036854775807
section
variable {H : Type} {enc : TypeId × Value → H} {W : World}

set_option maxRecDepth 100000 in
theorem open_intsx {n : Nat} {cs : List Value} {x : DataW H × List MemPlace} (h : DataW.trod enc Tryd.prog W 0 (fun _ => true) true n 36 cs = some x) : ∃ v l, cs = [v] ∧ Ints W v l ∧ l.length ≤ 9223372036854775807 := by
  rcases open_slice1 Tryd.underlying36 cInt h with ⟨rfl, _⟩ | ⟨a, len, cap, m, n, V, D, Pl, rfl, _, hl, hmax, hm, _, hx⟩
  · exact ⟨_, [], rfl, ⟨none, 0, rfl, .inl rfl⟩, by simp⟩
  · simp only [if_true] at hm
    subst hm
    have key : ∀ i, i < len → ∃ k : Int, V i = .int .i64 k := fun i hi => by
      obtain ⟨k, e, _⟩ := DataW.trod_int Tryd.underlying3 (hx i (by omega)).2
      exact ⟨k, by simpa using e⟩
    obtain ⟨K, hK⟩ := choose_lt (α := Int) key
    refine ⟨_, (List.range len).map K, rfl, ⟨some a, m, by simp, ?_⟩, by simp only [List.length_map, List.length_range]; have := maxLen_eq; omega⟩
    by_cases hl0 : len = 0
    · subst hl0
      exact .inl rfl
    · obtain ⟨b, off, spot⟩ := a
      have hspot : spot = none := by simpa [Addr.add] using World.cell?_spot (hx 0 (by omega)).1
      subst hspot
      refine .inr ⟨b, off, rfl, fun j hj => ?_⟩
      have hj' : j < len := by simpa using hj
      have h1 := (hx j (by omega)).1
      rw [hK j hj', at_add] at h1
      simpa using h1

set_option maxRecDepth 100000 in
/-- A node that is read. -/
theorem open_nodex {n : Nat} {cs : List Value} {x : DataW H × List MemPlace} (h : DataW.trod enc Tryd.prog W 0 (fun _ => true) true n 38 cs = some x) (hw : ∀ k ∈ x.1.weights Tryd.prog 38, k ≤ reachBytes) :
    ∃ (nd : Nd) (kv : Value), cs = (nodeC nd.hd kv).toList ∧ Ints W kv nd.kids ∧ nd.hd.kind < 256 ∧ nd.hd.text.size ≤ 140737488355328 ∧ nd.kids.length ≤ 9223372036854775807 := by
  obtain ⟨xs, m, _, rfl, hl, hlen, hf⟩ := DataW.trod_struct Tryd.underlying38 h
  rw [cNode] at hl
  match xs, hlen, cs, hl with
  | [y0, y1, y2, y3, y4, y5], _, [a0, a1, a2, a3, a4, a5, a6, a7, a8], _ =>
    have h0 : DataW.trod enc Tryd.prog W 0 (fun _ => true) true m 5 [a0] = some y0 := hf 0 _ rfl
    have h1 : DataW.trod enc Tryd.prog W 0 (fun _ => true) true m 35 [a1, a2, a3, a4] = some y1 := hf 1 _ rfl
    have h2 : DataW.trod enc Tryd.prog W 0 (fun _ => true) true m 9 [a5] = some y2 := hf 2 _ rfl
    have h3 : DataW.trod enc Tryd.prog W 0 (fun _ => true) true m 3 [a6] = some y3 := hf 3 _ rfl
    have h4 : DataW.trod enc Tryd.prog W 0 (fun _ => true) true m 3 [a7] = some y4 := hf 4 _ rfl
    have h5 : DataW.trod enc Tryd.prog W 0 (fun _ => true) true m 36 [a8] = some y5 := hf 5 _ rfl
    obtain ⟨k, e0, _, w0⟩ := DataW.trod_int Tryd.underlying5 h0
    have b0 := bounds_u8 w0
    obtain ⟨z0, z1, z2, z3, m1, _, g0, g1, g2, g3⟩ := trod_array4 Tryd.underlying35 cU64 h1
    obtain ⟨k0, f0, _, v0⟩ := DataW.trod_int Tryd.underlying33 g0
    obtain ⟨k1, f1, _, v1⟩ := DataW.trod_int Tryd.underlying33 g1
    obtain ⟨k2, f2, _, v2⟩ := DataW.trod_int Tryd.underlying33 g2
    obtain ⟨k3, f3, _, v3⟩ := DataW.trod_int Tryd.underlying33 g3
    obtain ⟨s, e2, r2, hs⟩ := DataW.trod_string Tryd.underlying9 h2
    obtain ⟨lo, e3, _, _⟩ := DataW.trod_int Tryd.underlying3 h3
    obtain ⟨hi, e4, _, _⟩ := DataW.trod_int Tryd.underlying3 h4
    obtain ⟨kv, l, e5, hI, hIl⟩ := open_intsx h5
    simp only [List.cons.injEq, and_true] at e0 f0 f1 f2 f3 e2 e3 e4 e5
    subst e0 f0 f1 f2 f3 e2 e3 e4 e5
    have b1 := bounds_u64 v0
    have b2 := bounds_u64 v1
    have b3 := bounds_u64 v2
    have b4 := bounds_u64 v3
    obtain ⟨S, r0, r1, r2', r3⟩ := ofWs b1.1 b1.2 b2.1 b2.2 b3.1 b3.2 b4.1 b4.2
    obtain ⟨set, hset⟩ := setN_of S
    obtain ⟨kn, rfl⟩ : ∃ kn : Nat, k = kn := ⟨k.toNat, by omega⟩
    refine ⟨⟨⟨kn, set, s, lo, hi⟩, l⟩, a8, ?_, hI, by show kn < 256; omega, ?_, hIl⟩
    · show _ = [_, _, _, _, _, _, _, _, _]
      rw [word_congr hset (by omega : 0 < 4), word_congr hset (by omega : 1 < 4), word_congr hset (by omega : 2 < 4), word_congr hset (by omega : 3 < 4), r0, r1, r2', r3]
    · have : s.data.toList.length ≤ reachBytes := hw _ (by
        rw [r2]
        simp [DataW.weights, Tryd.underlying38, DataW.weightsEach])
      have h47 := reachBytes_lt
      have hsz : s.data.toList.length = s.size := Array.length_toList
      show s.size ≤ _
      omega

set_option maxRecDepth 100000 in
theorem open_nodesx {n : Nat} {cs : List Value} {x : DataW H × List MemPlace} (h : DataW.trod enc Tryd.prog W 0 (fun _ => true) true n 24 cs = some x) (hw : ∀ k ∈ x.1.weights Tryd.prog 24, k ≤ reachBytes) :
    ∃ v A, cs = [v] ∧ Nodes W v A ∧ (A.length ≤ 9223372036854775807 ∧ ∀ n ∈ A, okX n) := by
  rcases open_slice Tryd.underlying24 h with ⟨rfl, _⟩ | ⟨a, len, cap, m, n', D, Pl, rfl, _, hl, hmax, hm, rfl, hx⟩
  · exact ⟨_, [], rfl, ⟨none, 0, rfl, .inl rfl⟩, by simp⟩
  · simp only [if_true] at hm
    subst hm
    rw [cNode] at hx
    by_cases hl0 : len = 0
    · subst hl0
      exact ⟨_, [], rfl, ⟨some a, m, rfl, .inl rfl⟩, by simp⟩
    have hspot : a.spot = none := by
      obtain ⟨cs', h1, _⟩ := hx 0 (by omega)
      obtain ⟨_, _, hc⟩ := World.cells?_some h1
      have c0 := hc 0 (by omega)
      have hl9 : ∃ v, cs'[0]? = some v := ⟨_, List.getElem?_eq_getElem (by have := (World.cells?_some h1).2.1; omega)⟩
      obtain ⟨v, hv⟩ := hl9
      rw [hv] at c0
      simpa [Addr.add] using World.cell?_spot c0
    obtain ⟨b, off, spot⟩ := a
    dsimp only at hspot
    subst hspot
    have key : ∀ i, i < len → ∃ u : Nd × Value, NodeAt W b (off + i * 9) u.1.hd u.2 ∧ Ints W u.2 u.1.kids ∧ okX u.1 := fun i hi => by
      obtain ⟨cs', h1, h2⟩ := hx i (by omega)
      obtain ⟨nd, kv, rfl, hI, ho⟩ := open_nodex h2 (fun k hk => hw k (by
        have : D i ∈ (List.range len).map D := List.mem_map.2 ⟨i, List.mem_range.2 hi, rfl⟩
        simp only [DataW.weights, Tryd.underlying24]
        exact List.mem_cons_of_mem _ (List.mem_append_left _ (weightsAll_mem this k hk))))
      obtain ⟨_, _, hc⟩ := World.cells?_some h1
      rw [at_add] at hc
      simp only [at_add] at hc
      exact ⟨(nd, kv), ⟨hc 0 (by omega), hc 1 (by omega), hc 2 (by omega), hc 3 (by omega), hc 4 (by omega), hc 5 (by omega), hc 6 (by omega), hc 7 (by omega), hc 8 (by omega)⟩, hI, ho⟩
    haveI : Inhabited (Nd × Value) := ⟨(noNd, .bool false)⟩
    obtain ⟨U, hU⟩ := choose_lt (α := Nd × Value) key
    refine ⟨_, (List.range len).map fun i => (U i).1, rfl, ⟨some ⟨b, off, none⟩, m, by simp, .inr ⟨b, off, rfl, fun j hj => ?_⟩⟩, ?_, fun n hn => ?_⟩
    · have hj' : j < len := by simpa using hj
      obtain ⟨h1, h2, _⟩ := hU j hj'
      exact ⟨(U j).2, by simpa using h1, by simpa using h2⟩
    · simp only [List.length_map, List.length_range]; have := maxLen_eq; omega
    · obtain ⟨i, hi, rfl⟩ := List.mem_map.1 hn
      exact (hU i (List.mem_range.1 hi)).2.2

set_option maxRecDepth 100000 in
theorem open_tree_atx {n : Nat} {cs : List Value} {x : DataW H × List MemPlace} (h : DataW.trod enc Tryd.prog W 0 (fun _ => true) true n 26 cs = some x) (hw : ∀ k ∈ x.1.weights Tryd.prog 26, k ≤ reachBytes) :
    ∃ v r A, cs = [v, .int .i64 r] ∧ Nodes W v A ∧ (A.length ≤ 9223372036854775807 ∧ ∀ n ∈ A, okX n) := by
  obtain ⟨y0, y1, m, rfl, hl, h0, h1⟩ := trod_struct2 Tryd.underlying26 h
  rw [cTree] at hl
  match cs, hl with
  | [a0, a1], _ =>
    have h0' : DataW.trod enc Tryd.prog W 0 (fun _ => true) true m 24 [a0] = some y0 := h0
    have h1' : DataW.trod enc Tryd.prog W 0 (fun _ => true) true m 3 [a1] = some y1 := h1
    obtain ⟨r, e1, _, _⟩ := DataW.trod_int Tryd.underlying3 h1'
    obtain ⟨v, A, e0, hN, hA⟩ := open_nodesx h0' (fun k hk => hw k (by
      simp only [DataW.weights, Tryd.underlying26]
      simp [DataW.weightsEach, hk]))
    simp only [List.cons.injEq, and_true] at e0 e1
    subst e0 e1
    exact ⟨_, r, A, rfl, hN, hA⟩

set_option maxRecDepth 100000 in
/-- An argument that is a tree. -/
theorem open_treex {base : Nat} {v : Value} {d : DataW H} {p : List MemPlace} (hv : Value.okWide Tryd.prog W .any base 26 v) (h : DataW.Trod enc Tryd.prog W 0 (fun _ => true) true 26 v d p) (hw : ∀ k ∈ d.weights Tryd.prog 26, k ≤ reachBytes) :
    ∃ nv r A, v = treeV nv r ∧ Nodes W nv A ∧ (A.length ≤ 9223372036854775807 ∧ ∀ n ∈ A, okX n) := by
  obtain ⟨cs, rfl, hsz⟩ := okWide_struct Tryd.underlying26 hv
  obtain ⟨fuel, hf⟩ := h
  obtain ⟨nv, r, A, e, hN, hA⟩ := open_tree_atx hf hw
  refine ⟨nv, r, A, ?_, hN, hA⟩
  have : cs.toList = [nv, .int .i64 r] := e
  obtain ⟨l⟩ := cs
  dsimp only at this
  rw [this]
set_option maxRecDepth 100000 in
theorem open_treesx {base : Nat} {v : Value} {d : DataW H} {p : List MemPlace} (hv : Value.okWide Tryd.prog W .any base 29 v) (h : DataW.Trod enc Tryd.prog W 0 (fun _ => true) true 29 v d p) (hw : ∀ k ∈ d.weights Tryd.prog 29, k ≤ reachBytes) :
    ∃ l, Trees W v l ∧ l.length ≤ 9223372036854775807 ∧ ∀ t ∈ l, t.nodes.length ≤ 9223372036854775807 ∧ ∀ n ∈ t.nodes, okX n := by
  obtain ⟨a0, len0, cap0, rfl⟩ := okWide_slice Tryd.underlying29 hv
  obtain ⟨fuel, hf⟩ := h
  rcases open_slice Tryd.underlying29 hf with ⟨hcs, _⟩ | ⟨a, len, cap, m, n', D, Pl, hcs, _, hl, hmax, hm, hx0, hx⟩
  · simp [Value.cells] at hcs
    obtain ⟨rfl, rfl, rfl⟩ := hcs
    exact ⟨[], ⟨none, 0, rfl, .inl rfl⟩, by simp⟩
  · simp [Value.cells] at hcs
    obtain ⟨rfl, rfl, rfl⟩ := hcs
    simp only [Prod.mk.injEq] at hx0
    obtain ⟨rfl, _⟩ := hx0
    simp only [if_true] at hm
    subst hm
    rw [cTree] at hx
    by_cases hl0 : len0 = 0
    · subst hl0
      exact ⟨[], ⟨some a, m, rfl, .inl rfl⟩, by simp⟩
    have hspot : a.spot = none := by
      obtain ⟨cs', h1, _⟩ := hx 0 (by omega)
      obtain ⟨_, hlen, hc⟩ := World.cells?_some h1
      have c0 := hc 0 (by omega)
      obtain ⟨v, hv⟩ : ∃ v, cs'[0]? = some v := ⟨_, List.getElem?_eq_getElem (by omega)⟩
      rw [hv] at c0
      simpa [Addr.add] using World.cell?_spot c0
    obtain ⟨b, off, spot⟩ := a
    dsimp only at hspot
    subst hspot
    have key : ∀ i, i < len0 → ∃ u : Value × Ar, W.cell? ⟨b, off + i * 2, none⟩ = some u.1 ∧ W.cell? ⟨b, off + i * 2 + 1, none⟩ = some (.int .i64 u.2.root) ∧ Nodes W u.1 u.2.nodes ∧ (u.2.nodes.length ≤ 9223372036854775807 ∧ ∀ n ∈ u.2.nodes, okX n) := fun i hi => by
      obtain ⟨cs', h1, h2⟩ := hx i (by omega)
      obtain ⟨nv, r, A, rfl, hN, hA⟩ := open_tree_atx h2 (fun k hk => hw k (by
        have : D i ∈ (List.range len0).map D := List.mem_map.2 ⟨i, List.mem_range.2 hi, rfl⟩
        simp only [DataW.weights, Tryd.underlying29]
        exact List.mem_cons_of_mem _ (List.mem_append_left _ (weightsAll_mem this k hk))))
      obtain ⟨_, _, hc⟩ := World.cells?_some h1
      rw [at_add] at hc
      simp only [at_add] at hc
      exact ⟨(nv, ⟨A, r⟩), hc 0 (by omega), hc 1 (by omega), hN, hA⟩
    haveI : Inhabited (Value × Ar) := ⟨(.bool false, noAr)⟩
    obtain ⟨U, hU⟩ := choose_lt (α := Value × Ar) key
    refine ⟨(List.range len0).map fun i => (U i).2, ⟨some ⟨b, off, none⟩, m, by simp, .inr ⟨b, off, rfl, fun j hj => ?_⟩⟩, ?_, fun t ht => ?_⟩
    · have hj' : j < len0 := by simpa using hj
      obtain ⟨h1, h2, h3, _⟩ := hU j hj'
      exact ⟨(U j).1, by simpa using h1, by simpa using h2, by simpa using h3⟩
    · simp only [List.length_map, List.length_range]; have := maxLen_eq; omega
    · obtain ⟨i, hi, rfl⟩ := List.mem_map.1 ht
      exact (hU i (List.mem_range.1 hi)).2.2.2
end
end Go.Proofs.YtpkjfdgjmcphmaaDoor

/- A region whose operations come in whatever order, and make memory, or write what the region has made: each is looked at once. -/
namespace Go.Proofs.YtpkjfdgjmcphmaaDoor
open Go Go.RowKit

/-- The blocks below B, and those from lo on, ahead of hi, are as they were. -/
structure Like (B lo hi : Nat) (w w' : World) : Prop where
  size : w.heap.size ≤ w'.heap.size
  old : ∀ k, k < B → w'.heap[k]? = w.heap[k]?
  own : ∀ k, lo ≤ k → k < hi → w'.heap[k]? = w.heap[k]?
/-- Only the blocks from lo on, ahead of hi, are written. -/
structure Writes (lo hi : Nat) (w w' : World) : Prop where
  os : w'.os = w.os
  tape : w'.tape = w.tape
  output : w'.output = w.output
  size : w'.heap.size = w.heap.size
  block : ∀ k, ¬ (lo ≤ k ∧ k < hi) → w'.heap[k]? = w.heap[k]?

/-- An operation: whose values it looks at (by number), whose facts it leans on, whose block it writes, if one's; and what it tells: of the values so far, the blocks that it has made, its own value, and the world. -/
structure Mop where
  vals : List Nat
  needs : List Nat
  into : Option Nat
  tells : (Nat → Value) → Nat → Nat → Value → World → Prop
/-- An operation that yields a value made of the values so far. -/
def Mop.val (vs ns : List Nat) (e : (Nat → Value) → Value) : Mop := ⟨vs, ns, none, fun x _ _ u _ => u = e x⟩
/-- Nothing is told. -/
def Mop.any (vs ns : List Nat) : Mop := ⟨vs, ns, none, fun _ _ _ _ _ => True⟩
/-- What is told hangs on the values that are looked at alone, and stays where nobody writes what was made. -/
structure Mop.Good (B : Nat) (m : Mop) : Prop where
  loc : ∀ x y : Nat → Value, (∀ j ∈ m.vals, x j = y j) → ∀ lo hi u w, m.tells x lo hi u w → m.tells y lo hi u w
  stay : ∀ x lo hi u w w', m.tells x lo hi u w → Like B lo hi w w' → m.tells x lo hi u w'
theorem Mop.Good.val {B : Nat} {vs ns : List Nat} {e : (Nat → Value) → Value} (h : ∀ x y : Nat → Value, (∀ j ∈ vs, x j = y j) → e x = e y) : (Mop.val vs ns e).Good B :=
  ⟨fun x y hxy _ _ _ _ hu => hu.trans (h x y hxy), fun _ _ _ _ _ _ h _ => h⟩
theorem Mop.Good.any {B : Nat} {vs ns : List Nat} : (Mop.any vs ns).Good B := ⟨fun _ _ _ _ _ _ _ _ => trivial, fun _ _ _ _ _ _ _ _ => trivial⟩

/-- What operation j tells. -/
def MF (ms : List Mop) (x : Nat → Value) (lo hi : Nat → Nat) (w : World) (j : Nat) : Prop :=
  match ms[j]? with
  | some m => m.tells x (lo j) (hi j) (x j) w
  | none => True
/-- What these operations tell. -/
def MFs (ms : List Mop) (x : Nat → Value) (lo hi : Nat → Nat) (w : World) : List Nat → Prop
  | [] => True
  | j :: js => MF ms x lo hi w j ∧ MFs ms x lo hi w js
theorem MFs.iff {ms : List Mop} {x : Nat → Value} {lo hi : Nat → Nat} {w : World} : ∀ {js : List Nat}, MFs ms x lo hi w js ↔ ∀ j ∈ js, MF ms x lo hi w j
  | [] => ⟨fun _ => (fun _ h => (by cases h)), fun _ => trivial⟩
  | j :: js => by
    show MF ms x lo hi w j ∧ MFs ms x lo hi w js ↔ _
    rw [MFs.iff, List.forall_mem_cons]

def mdst (ops : Array Oper) (j : Nat) : Option Tmp := (ops[j]?).bind (·.dst)
/-- The state with these operations' values. -/
def putAll (ops : Array Oper) (x : Nat → Value) (a : Act) : List Nat → Act
  | [] => a
  | j :: js => (putAll ops x a js).put (mdst ops j) (x j)

section
variable {P : Program} {ops : Array Oper} {Q : Exit → Act → World → Prop}

/-- What is to be shown behind an operation. -/
def Mop.done (m : Mop) (x : Nat → Value) (lo hi : Nat → Nat) (w : World) (u : Value) (w' : World) : Prop :=
  match m.into with
  | none => Below w.heap.size w w' ∧ m.tells x w.heap.size w'.heap.size u w'
  | some j => Writes (lo j) (hi j) w w' ∧ m.tells x (lo j) (hi j) u w'

theorem Mop.done_make {m : Mop} (hi0 : m.into = none) {x : Nat → Value} {lo hi : Nat → Nat} {w w' : World} {u : Value} (hb : Below w.heap.size w w') (ht : m.tells x w.heap.size w'.heap.size u w') : m.done x lo hi w u w' := by
  unfold Mop.done
  rw [hi0]
  exact ⟨hb, ht⟩
theorem Mop.done_write {m : Mop} {j : Nat} (hi0 : m.into = some j) {x : Nat → Value} {lo hi : Nat → Nat} {w w' : World} {u : Value} (hb : Writes (lo j) (hi j) w w') (ht : m.tells x (lo j) (hi j) u w') : m.done x lo hi w u w' := by
  unfold Mop.done
  rw [hi0]
  exact ⟨hb, ht⟩

/-- One operation, from the state with what it looks at. -/
def MStep (P : Program) (ops : Array Oper) (a0 : Act) (w0 : World) (ms : List Mop) (i : Nat) (m : Mop) : Prop :=
  ∃ o, ops[i]? = some o ∧ ∀ x lo hi w, Below w0.heap.size w0 w → MFs ms x lo hi w m.needs → ∀ K : Act → World → Prop,
    Shut (∀ u w', m.done x lo hi w u w' → K ((putAll ops x a0 m.vals).put o.dst u) w') →
    if Region.wanted o (yielded ops (putAll ops x a0 m.vals).tmps) = true then Oper.wp P o (putAll ops x a0 m.vals) w K (fun _ _ _ => False) else K ((putAll ops x a0 m.vals).put o.dst undef) w
theorem MStep.mk {a0 : Act} {w0 : World} {ms : List Mop} {i : Nat} {m : Mop} {o : Oper} (ho : ops[i]? = some o)
    (h : ∀ x lo hi w, Below w0.heap.size w0 w → MFs ms x lo hi w m.needs → ∀ K : Act → World → Prop,
      Shut (∀ u w', m.done x lo hi w u w' → K ((putAll ops x a0 m.vals).put o.dst u) w') →
      if Region.wanted o (yielded ops (putAll ops x a0 m.vals).tmps) = true then Oper.wp P o (putAll ops x a0 m.vals) w K (fun _ _ _ => False) else K ((putAll ops x a0 m.vals).put o.dst undef) w) :
    MStep P ops a0 w0 ms i m := ⟨o, ho, h⟩
def MSteps (P : Program) (ops : Array Oper) (a0 : Act) (w0 : World) (ms : List Mop) : Nat → List Mop → Prop
  | _, [] => True
  | i, m :: l => MStep P ops a0 w0 ms i m ∧ MSteps P ops a0 w0 ms (i + 1) l
theorem MSteps.at {a0 : Act} {w0 : World} {ms : List Mop} : ∀ {l : List Mop} {i : Nat}, MSteps P ops a0 w0 ms i l → ∀ {k : Nat} {m : Mop}, l[k]? = some m → MStep P ops a0 w0 ms (i + k) m
  | [], _, _, _, _, hk => by simp at hk
  | m :: l, i, h, 0, m', hk => by
    obtain rfl : m = m' := by simpa using hk
    exact h.1
  | m :: l, i, h, k + 1, m', hk => by
    have := MSteps.at h.2 (k := k) (by simpa using hk)
    rw [show i + 1 + k = i + (k + 1) by omega] at this
    exact this
def MGoods (B : Nat) : List Mop → Prop
  | [] => True
  | m :: l => m.Good B ∧ MGoods B l
theorem MGoods.at {B : Nat} : ∀ {l : List Mop}, MGoods B l → ∀ {k : Nat} {m : Mop}, l[k]? = some m → m.Good B
  | [], _, _, _, hk => by simp at hk
  | m :: l, h, 0, m', hk => by
    obtain rfl : m = m' := by simpa using hk
    exact h.1
  | m :: l, h, k + 1, m', hk => MGoods.at h.2 (k := k) (by simpa using hk)

/-- The plan of a region: of each operation whose values it looks at, whose facts it leans on, whose block it writes. -/
abbrev Plan := List (List Nat × List Nat × Option Nat)
def Plan.vals (p : Plan) (i : Nat) : List Nat := ((p[i]?).map (·.1)).getD []
def Plan.needs (p : Plan) (i : Nat) : List Nat := ((p[i]?).map (·.2.1)).getD []
def Plan.into (p : Plan) (i : Nat) : Option Nat := (p[i]?).bind (·.2.2)
def planOf (ms : List Mop) : Plan := ms.map fun m => (m.vals, m.needs, m.into)
/-- The side conditions, as one Bool: nothing waits for what comes later; what is looked at has come; no two write one temporary, nor one block; nobody leans on what was written over. -/
def monoB (ops : Array Oper) (p : Plan) (keep : List Nat) : Bool :=
  Region.noSelect ops && p.length == ops.size && keep == (List.range ops.size).filter (fun i => (List.range ops.size).all fun s => p.into s != some i) &&
  (List.range ops.size).all fun i => match ops[i]? with
    | none => false
    | some o =>
      (o.after.all fun e => !Region.binds .any e || decide (e.on < i)) &&
      (p.vals i).Nodup &&
      ((p.vals i).all fun j => o.after.any fun e => Region.binds .any e && (e.on == j || (p.vals e.on).contains j)) &&
      ((List.range ops.size).all fun k => match mdst ops k with
        | none => true
        | some d => (k == i || mdst ops i != some d) && (!(o.looksAt ops).contains d || (p.vals i).contains k)) &&
      ((p.needs i).all fun k => (p.vals i).contains k && (List.range ops.size).all fun s => p.into s != some k || s == i || (p.vals s).contains i) &&
      (match p.into i with
        | none => true
        | some j => (p.vals i).contains j && (p.into j).isNone && (List.range ops.size).all fun s => s == i || p.into s != some j)
structure MonoOk (ops : Array Oper) (p : Plan) (i : Nat) (o : Oper) : Prop where
  back : ∀ e ∈ o.after, Region.binds .any e = true → e.on < i
  nodup : (p.vals i).Nodup
  vals : ∀ j ∈ p.vals i, ∃ e ∈ o.after, Region.binds .any e = true ∧ (e.on = j ∨ j ∈ p.vals e.on)
  dst : ∀ k d, mdst ops k = some d → k ≠ i → mdst ops i ≠ some d
  looks : ∀ k d, mdst ops k = some d → d ∈ o.looksAt ops → k ∈ p.vals i
  needs : ∀ k ∈ p.needs i, k ∈ p.vals i ∧ ∀ s, s < ops.size → p.into s = some k → s ≠ i → i ∈ p.vals s
  into : ∀ j, p.into i = some j → j ∈ p.vals i ∧ p.into j = none ∧ ∀ s, s < ops.size → s ≠ i → p.into s ≠ some j
theorem mdst_lt {k : Nat} {d : Tmp} (h : mdst ops k = some d) : k < ops.size := by
  rcases Nat.lt_or_ge k ops.size with h1 | h1
  · exact h1
  · simp [mdst, Array.getElem?_eq_none h1] at h
theorem monoB_spec {p : Plan} {keep : List Nat} (h : monoB ops p keep = true) :
    Region.noSelect ops = true ∧ p.length = ops.size ∧ (∀ j, j ∈ keep ↔ j < ops.size ∧ ∀ s, s < ops.size → p.into s ≠ some j) ∧ ∀ i o, ops[i]? = some o → MonoOk ops p i o := by
  unfold monoB at h
  simp only [Bool.and_eq_true, beq_iff_eq] at h
  obtain ⟨⟨⟨h1, h2⟩, h3⟩, h4⟩ := h
  refine ⟨h1, h2, fun j => ?_, fun i o ho => ?_⟩
  · rw [h3, List.mem_filter, List.mem_range]
    simp
  have hi : i < ops.size := by
    rcases Nat.lt_or_ge i ops.size with h1 | h1
    · exact h1
    · simp [Array.getElem?_eq_none h1] at ho
  have h5 := List.all_eq_true.1 h4 i (List.mem_range.2 hi)
  simp only [ho, Bool.and_eq_true] at h5
  obtain ⟨⟨⟨⟨⟨c1, c2⟩, c3⟩, c4⟩, c5⟩, c6⟩ := h5
  refine ⟨?_, by simpa using c2, ?_, ?_, ?_, ?_, ?_⟩
  · intro e he hb
    have := Array.all_eq_true_iff_forall_mem.1 c1 e he
    simpa [hb] using this
  · intro j hj
    have t2 := List.all_eq_true.1 c3 j hj
    obtain ⟨e, he, t3⟩ := Array.any_eq_true'.1 t2
    simp only [Bool.and_eq_true, Bool.or_eq_true, beq_iff_eq] at t3
    exact ⟨e, he, t3.1, t3.2.imp id (fun h => by simpa using h)⟩
  · intro k d hk hki
    have := List.all_eq_true.1 c4 k (List.mem_range.2 (mdst_lt hk))
    simp only [hk, Bool.and_eq_true] at this
    intro hd
    have := this.1
    simp [hki, hd] at this
  · intro k d hk hd
    have := List.all_eq_true.1 c4 k (List.mem_range.2 (mdst_lt hk))
    simp only [hk, Bool.and_eq_true] at this
    have := this.2
    simpa [hd] using this
  · intro k hk
    have := List.all_eq_true.1 c5 k hk
    simp only [Bool.and_eq_true] at this
    refine ⟨by simpa using this.1, fun s hs hi2 hsi => ?_⟩
    have := List.all_eq_true.1 this.2 s (List.mem_range.2 hs)
    simpa [hi2, hsi] using this
  · intro j hj
    rw [hj] at c6
    simp only [Bool.and_eq_true] at c6
    refine ⟨by simpa using c6.1.1, by simpa using c6.1.2, fun s hs hsi h => ?_⟩
    have := List.all_eq_true.1 c6.2 s (List.mem_range.2 hs)
    simp [hsi, h] at this
theorem putAll_defers (x : Nat → Value) (a : Act) : ∀ js, (putAll ops x a js).defers = a.defers
  | [] => rfl
  | j :: js => by
    show ((putAll ops x a js).put (mdst ops j) (x j)).defers = _
    unfold Act.put
    split <;> exact putAll_defers x a js
theorem putAll_size (x : Nat → Value) (a : Act) : ∀ js, (putAll ops x a js).tmps.size = a.tmps.size
  | [] => rfl
  | j :: js => by
    show ((putAll ops x a js).put (mdst ops j) (x j)).tmps.size = _
    unfold Act.put
    split
    · rw [Array.size_setIfInBounds]; exact putAll_size x a js
    · exact putAll_size x a js
theorem putAll_congr {x y : Nat → Value} {a : Act} : ∀ {js : List Nat}, (∀ j ∈ js, x j = y j) → putAll ops x a js = putAll ops y a js
  | [], _ => rfl
  | j :: js, h => by
    show (putAll ops x a js).put _ _ = (putAll ops y a js).put _ _
    rw [putAll_congr fun k hk => h k (.tail _ hk), h j (.head _)]
theorem putAll_append (x : Nat → Value) (a : Act) (js : List Nat) : ∀ ks, putAll ops x a (ks ++ js) = putAll ops x (putAll ops x a js) ks
  | [] => rfl
  | k :: ks => by
    show (putAll ops x a (ks ++ js)).put _ _ = (putAll ops x (putAll ops x a js) ks).put _ _
    rw [putAll_append x a js ks]
theorem putAll_perm (hd : ∀ j k, j ≠ k → ∀ d, mdst ops j = some d → mdst ops k ≠ some d) {x : Nat → Value} {a : Act} {js ks : List Nat} (h : js.Perm ks) : putAll ops x a js = putAll ops x a ks := by
  induction h with
  | nil => rfl
  | cons j _ ih => exact congrArg (fun s => Act.put s (mdst ops j) (x j)) ih
  | swap j k l =>
    show ((putAll ops x a l).put (mdst ops j) (x j)).put (mdst ops k) (x k) = ((putAll ops x a l).put (mdst ops k) (x k)).put (mdst ops j) (x j)
    by_cases hjk : j = k
    · subst hjk; rfl
    · exact Act.put_comm _ _ _ fun d hd1 => hd j k hjk d hd1
  | trans _ _ ih1 ih2 => exact ih1.trans ih2
theorem perm_of_same : ∀ {l l' : List Nat}, l.Nodup → l'.Nodup → (∀ j, j ∈ l ↔ j ∈ l') → l.Perm l'
  | [], l', _, _, h => by
    cases l' with
    | nil => exact .nil
    | cons j _ => exact absurd ((h j).2 (.head _)) (by simp)
  | j :: l, l', h1, h2, h => by
    have hj : j ∈ l' := (h j).1 (.head _)
    refine List.Perm.trans (List.Perm.cons j (perm_of_same (l' := l'.erase j) (List.nodup_cons.1 h1).2 (h2.erase j) fun k => ?_)) (List.perm_cons_erase hj).symm
    rw [h2.mem_erase_iff, ← h k, List.mem_cons]
    have := (List.nodup_cons.1 h1).1
    constructor
    · intro hk
      exact ⟨fun e => this (e ▸ hk), .inr hk⟩
    · rintro ⟨h3, h4⟩
      exact h4.resolve_left h3
theorem exec_putAll {o : Oper} (hs : ∀ cs b, o.op ≠ .select cs b) {x : Nat → Value} {a : Act} : ∀ {js : List Nat}, (∀ j ∈ js, ∀ d, mdst ops j = some d → d ∉ o.looksAt ops) →
    execOp (putAll ops x a js).eval o = execOp a.eval o ∧ Region.wanted o (yielded ops (putAll ops x a js).tmps) = Region.wanted o (yielded ops a.tmps)
  | [], _ => ⟨rfl, rfl⟩
  | j :: js, h => by
    have ih := exec_putAll hs (x := x) (a := a) (js := js) fun k hk => h k (.tail _ hk)
    show execOp ((putAll ops x a js).put (mdst ops j) (x j)).eval o = _ ∧ Region.wanted o (yielded ops ((putAll ops x a js).put (mdst ops j) (x j)).tmps) = _
    rw [execOp_put o hs _ _ _ (h j (.head _)), wanted_put o _ _ _ (h j (.head _))]
    exact ih

/-- From the state with what is leaned on to the whole state. -/
theorem mstep_wpOp {i : Nat} {o : Oper} (ho : ops[i]? = some o) {aD a : Act} {w : World} {post : Value → World → Prop} (he : execOp a.eval o = execOp aD.eval o)
    (hw : Region.wanted o (yielded ops a.tmps) = Region.wanted o (yielded ops aD.tmps)) (hz : a.tmps.size = aD.tmps.size)
    (h : if Region.wanted o (yielded ops aD.tmps) = true then Oper.wp P o aD w (fun a' w' => ∃ u, a' = aD.put o.dst u ∧ post u w') (fun _ _ _ => False) else ∃ u, aD.put o.dst undef = aD.put o.dst u ∧ post u w)
    {K : Act → World → Prop} (hK : ∀ u w', post u w' → K (a.put o.dst u) w') : wpOp P ops Q i K a w := by
  have same : ∀ u u', aD.put o.dst u = aD.put o.dst u' → a.put o.dst u = a.put o.dst u' := by
    intro u u' e
    unfold Act.put at *
    split
    · rename_i d hd
      simp only [hd, Act.mk.injEq, and_true] at e
      rcases Nat.lt_or_ge d aD.tmps.size with h1 | h1
      · have := congrArg (fun l : Array Value => l[d]?) e
        simp [h1] at this
        rw [this]
      · have h2 : a.tmps.size ≤ d := by omega
        have q : ∀ v : Value, a.tmps.setIfInBounds d v = a.tmps := fun v => Array.setIfInBounds_eq_of_size_le h2
        rw [q, q]
    · rfl
  have k2 : ∀ u w', (∃ u', aD.put o.dst u = aD.put o.dst u' ∧ post u' w') → K (a.put o.dst u) w' := by
    rintro u w' ⟨u', e, hp⟩
    rw [same u u' e]
    exact hK u' w' hp
  unfold wpOp
  simp only [ho]
  rw [hw]
  split
  · rename_i hwd
    rw [if_pos hwd] at h
    refine .inl ?_
    unfold Oper.wp at *
    rw [he]
    generalize (execOp aD.eval o).run P w = r at *
    cases r with
    | ok n w' =>
      cases n <;> simp only [Oper.upon] at h ⊢
      case value u => exact k2 u w' h
      case skip => exact k2 undef w' h
      case defer d =>
        obtain ⟨u, e, _⟩ := h
        have hp : ∀ (b : Act) (t : Option Tmp) (v : Value), (b.put t v).defers = b.defers := fun b t v => by unfold Act.put; split <;> rfl
        have := congrArg Act.defers e
        rw [hp, hp] at this
        have := congrArg List.length this
        simp at this
      case enter f args =>
        refine Calls.mono h fun e w'' he2 => ?_
        cases e with
        | returned u => exact k2 u w'' he2
        | panicked c => exact he2.elim
        | outgrown => obtain ⟨_, _, h⟩ := he2; exact h.elim
      case row row args => exact Rows.mono h fun u w'' he2 => k2 u w'' he2
    | halt x w' =>
      cases x <;> simp only [Oper.upon] at h
  · rename_i hwd
    rw [if_neg hwd] at h
    exact k2 undef w h

structure MInv (ops : Array Oper) (a0 : Act) (w0 : World) (ms : List Mop) (listed : Array Bool) (js : List Nat) (x : Nat → Value) (lo hi : Nat → Nat) (a : Act) (w : World) : Prop where
  size : listed.size = ops.size
  nodup : js.Nodup
  mem : ∀ j, j ∈ js ↔ j < ops.size ∧ listed.getD j true = true
  down : ∀ j ∈ js, ∀ k ∈ (planOf ms).vals j, k ∈ js
  act : a = putAll ops x a0 js
  below : Below w0.heap.size w0 w
  room : ∀ j ∈ js, w0.heap.size ≤ lo j ∧ hi j ≤ w.heap.size
  apart : ∀ j ∈ js, ∀ k ∈ js, j ≠ k → (planOf ms).into j = none → (planOf ms).into k = none → hi j ≤ lo k ∨ hi k ≤ lo j
  same : ∀ i ∈ js, ∀ j, (planOf ms).into i = some j → lo i = lo j ∧ hi i = hi j
  facts : ∀ j ∈ js, (∀ s ∈ js, (planOf ms).into s ≠ some j) → MF ms x lo hi w j

theorem MF.of_same {B : Nat} {ms : List Mop} (hg : MGoods B ms) {j : Nat} {x y : Nat → Value} {lo hi lo' hi' : Nat → Nat} {w w' : World} (hxy : ∀ k ∈ (planOf ms).vals j, x k = y k) (hj : x j = y j) (hlo : lo j = lo' j) (hhi : hi j = hi' j) (hb : Like B (lo j) (hi j) w w') (h : MF ms x lo hi w j) : MF ms y lo' hi' w' j := by
  unfold MF at *
  cases hm : ms[j]? with
  | none => trivial
  | some m =>
    rw [hm] at h
    have hn : (planOf ms).vals j = m.vals := by simp [Plan.vals, planOf, hm]
    rw [hn] at hxy
    show m.tells y (lo' j) (hi' j) (y j) w'
    rw [← hj, ← hlo, ← hhi]
    exact (hg.at hm).stay _ _ _ _ _ _ ((hg.at hm).loc x y hxy _ _ _ _ h) hb

theorem listed_getD_set {l : Array Bool} {i j : Nat} (hj : j < l.size) : (l.setIfInBounds i true).getD j true = if i = j then true else l.getD j true := by
  by_cases h : i = j
  · subst h; simp [Array.getD, hj]
  · rw [if_neg h, getD_set_ne true h]

/-- **A region that draws its order, in which each operation makes memory, or writes what the region made: each is looked at once**, in a world of which only what it leans on is known. 'keep': those whose facts stand at the end (whose blocks are not written over). -/
theorem wp_region_mono {id : Nat} {a0 : Act} {w : World} (ms : List Mop) (p : Plan) (keep all : List Nat) (hall : List.range ops.size = all) (hm : P.follows .mixedOrders = true)
    (hp : planOf ms = p) (hok : monoB ops p keep = true)
    (hsteps : MSteps P ops a0 w ms 0 ms) (hgood : MGoods w.heap.size ms)
    (hfin : ∀ x lo hi w', Below w.heap.size w w' → MFs ms x lo hi w' keep → Q .normal (putAll ops x a0 all) w') :
    (Code.region id ops true).wp P Q a0 w := by
  subst hp
  subst hall
  replace hgood : MGoods w.drew.heap.size ms := hgood
  have hdr : ∀ {w1 : World}, Below w.drew.heap.size w.drew w1 → Below w.heap.size w w1 := fun h => ((Below.refl w.heap.size w).drew).trans h
  obtain ⟨hsel, hlen, keepm, hops⟩ := monoB_spec hok
  have hdst : ∀ j k, j ≠ k → ∀ d, mdst ops j = some d → mdst ops k ≠ some d := by
    intro j k hjk d hj hk
    obtain ⟨o, ho⟩ : ∃ o, ops[k]? = some o := by
      have := mdst_lt hk
      exact ⟨ops[k], by simp [this]⟩
    exact (hops k o ho).dst j d hj hjk hk
  have hget : ∀ i, i < ops.size → ∃ o, ops[i]? = some o := fun i hi => ⟨ops[i], by simp [hi]⟩
  have main : ∀ (fuel : Nat) (listed : Array Bool) (js : List Nat) (x : Nat → Value) (lo hi : Nat → Nat) (a : Act) (w1 : World),
      MInv ops a0 w.drew ms listed js x lo hi a w1 → fuel + js.length = ops.size → wpAny P .any ops Q fuel listed a w1 := by
    intro fuel
    -- all have come
    have allIn : ∀ (listed : Array Bool) (js : List Nat) (x : Nat → Value) (lo hi : Nat → Nat) (a : Act) (w1 : World),
        MInv ops a0 w.drew ms listed js x lo hi a w1 → (∀ j, j < ops.size → j ∈ js) → Q .normal a w1 := by
      intro listed js x lo hi a w1 hI hall
      have hp : js.Perm (List.range ops.size) := perm_of_same hI.nodup List.nodup_range fun j => ⟨fun hj => List.mem_range.2 ((hI.mem j).1 hj).1, fun hj => hall j (List.mem_range.1 hj)⟩
      rw [hI.act, putAll_perm hdst hp]
      refine hfin x lo hi w1 (hdr hI.below) (MFs.iff.2 fun j hj => ?_)
      obtain ⟨h1, h2⟩ := (keepm j).1 hj
      exact hI.facts j (hall j h1) fun s hs => h2 s ((hI.mem s).1 hs).1
    have noneReady : ∀ (listed : Array Bool) (js : List Nat) (x : Nat → Value) (lo hi : Nat → Nat) (a : Act) (w1 : World),
        MInv ops a0 w.drew ms listed js x lo hi a w1 → Region.ready .any ops listed = [] → ∀ j, j < ops.size → j ∈ js := by
      intro listed js x lo hi a w1 hI h0
      have least : ∀ n j, j < n → j < ops.size → j ∉ js → ∃ i, i < ops.size ∧ i ∉ js ∧ ∀ k, k < i → k ∈ js := by
        intro n
        induction n with
        | zero => intro j h; omega
        | succ n ih2 =>
          intro j hjn hjo hjs
          by_cases h : ∀ k, k < j → k ∈ js
          · exact ⟨j, hjo, hjs, h⟩
          · obtain ⟨k, hk⟩ := Classical.not_forall.1 h
            obtain ⟨hk1, hk2⟩ := Classical.not_imp.1 hk
            exact ih2 k (by omega) (by omega) hk2
      intro j hj
      refine Classical.byContradiction fun hjs => ?_
      obtain ⟨i, hio, hijs, hbelow⟩ := least (j + 1) j (by omega) hj hjs
      obtain ⟨o, ho⟩ := hget i hio
      have : i ∈ Region.ready .any ops listed := by
        refine mem_ready.2 ⟨?_, o, ho, fun e he hb => ?_⟩
        · cases hx : listed.getD i true with
          | false => rfl
          | true => exact absurd ((hI.mem i).2 ⟨hio, hx⟩) hijs
        · have hlt := (hops i o ho).back e he hb
          have := ((hI.mem e.on).1 (hbelow e.on hlt)).2
          have hl2 : e.on < listed.size := by rw [hI.size]; omega
          simpa [Array.getD, hl2] using this
      rw [h0] at this
      cases this
    induction fuel with
    | zero =>
      intro listed js x lo hi a w1 hI hf
      have hall : ∀ j, j < ops.size → j ∈ js := by
        have hsub : ∀ j ∈ js, j ∈ List.range ops.size := fun j hj => List.mem_range.2 ((hI.mem j).1 hj).1
        have : ∀ {l l' : List Nat}, l.Nodup → (∀ j ∈ l, j ∈ l') → l'.length ≤ l.length → ∀ j ∈ l', j ∈ l := by
          intro l
          induction l with
          | nil => intro l' _ _ h j hj; cases l' with
            | nil => cases hj
            | cons => simp at h
          | cons k l ih =>
            intro l' hn hs hle j hj
            by_cases hjk : j = k
            · exact hjk ▸ .head _
            · refine .tail _ (ih (l' := l'.erase k) (List.nodup_cons.1 hn).2 (fun m hm => ?_) ?_ j ((List.mem_erase_of_ne hjk).2 hj))
              · exact (List.mem_erase_of_ne (fun (e : m = k) => (List.nodup_cons.1 hn).1 (by rw [← e]; exact hm))).2 (hs m (.tail _ hm))
              · rw [List.length_erase_of_mem (hs k (.head _))]
                simp only [List.length_cons] at hle
                omega
        exact fun j hj => this hI.nodup hsub (by rw [List.length_range]; omega) j (List.mem_range.2 hj)
      refine ⟨?_, allIn listed js x lo hi a w1 hI hall⟩
      cases hr : Region.ready .any ops listed with
      | nil => rfl
      | cons i l =>
        have hi2 : i ∈ Region.ready .any ops listed := by rw [hr]; exact .head _
        obtain ⟨h0, o, ho, _⟩ := mem_ready.1 hi2
        have hio : i < ops.size := by
          rcases Nat.lt_or_ge i ops.size with h1 | h1
          · exact h1
          · simp [Array.getElem?_eq_none h1] at ho
        rw [((hI.mem i).1 (hall i hio)).2] at h0
        cases h0
    | succ fuel ih =>
      intro listed js x lo hi a w1 hI hf
      refine ⟨fun h0 => allIn listed js x lo hi a w1 hI (noneReady listed js x lo hi a w1 hI h0), fun i hi1 => ?_⟩
      obtain ⟨h0, o, ho, hre⟩ := mem_ready.1 hi1
      have hio : i < ops.size := by
        rcases Nat.lt_or_ge i ops.size with h1 | h1
        · exact h1
        · simp [Array.getElem?_eq_none h1] at ho
      have hop := hops i o ho
      have hn : ∀ k ∈ (planOf ms).vals i, k ∈ js := by
        intro k hk
        obtain ⟨e, he, hb, h⟩ := hop.vals k hk
        have h1 := hre e he hb
        have h2 : e.on ∈ js := by
          have hlt := hop.back e he hb
          refine (hI.mem e.on).2 ⟨by omega, ?_⟩
          have : e.on < listed.size := by rw [hI.size]; omega
          simpa [Array.getD, this] using h1
        rcases h with rfl | h
        · exact h2
        · exact hI.down _ h2 k h
      have hijs : i ∉ js := fun hj => by
        rw [((hI.mem i).1 hj).2] at h0; cases h0
      obtain ⟨m, hm2⟩ : ∃ m, ms[i]? = some m := by
        have : i < ms.length := by rw [planOf, List.length_map] at hlen; omega
        exact ⟨ms[i], by simp [this]⟩
      have hnm : (planOf ms).vals i = m.vals := by simp [Plan.vals, planOf, hm2]
      have hnn : (planOf ms).needs i = m.needs := by simp [Plan.needs, planOf, hm2]
      have hni : (planOf ms).into i = m.into := by simp [Plan.into, planOf, hm2]
      obtain ⟨o', ho', hst⟩ := MSteps.at hsteps hm2
      rw [Nat.zero_add, ho] at ho'
      obtain rfl : o = o' := by simpa using ho'
      clear ho'
      have hneeds : MFs ms x lo hi w1 m.needs := MFs.iff.2 fun k hk => by
        obtain ⟨h1, h2⟩ := hop.needs k (hnn ▸ hk)
        refine hI.facts k (hn k h1) fun s hs e => ?_
        have hsi : s ≠ i := fun e2 => hijs (e2 ▸ hs)
        exact hijs (hI.down s hs i (h2 s ((hI.mem s).1 hs).1 e hsi))
      rw [hnm] at hn
      have hnd : m.vals.Nodup := hnm ▸ hop.nodup
      -- the state, parted
      have hperm : js.Perm (js.filter (fun j => !m.vals.contains j) ++ m.vals) := by
        refine perm_of_same hI.nodup ?_ fun j => ?_
        · refine List.nodup_append.2 ⟨hI.nodup.sublist List.filter_sublist, hnd, fun p hp q hq e => ?_⟩
          subst e
          have := (List.mem_filter.1 hp).2
          simp [hq] at this
        · rw [List.mem_append, List.mem_filter]
          constructor
          · intro hj
            by_cases h : j ∈ m.vals
            · exact .inr h
            · exact .inl ⟨hj, by simpa using h⟩
          · rintro (h | h)
            · exact h.1
            · exact hn j h
      have ha : a = putAll ops x (putAll ops x a0 m.vals) (js.filter fun j => !m.vals.contains j) := by
        rw [hI.act, putAll_perm hdst hperm, putAll_append]
      have hex := exec_putAll (ops := ops) (Region.noSelect_spec hsel i o · · ho) (x := x) (a := putAll ops x a0 m.vals) (js := js.filter fun j => !m.vals.contains j) (by
        intro j hj d hd hdl
        have := hop.looks j d hd hdl
        rw [hnm] at this
        have h2 := (List.mem_filter.1 hj).2
        simp [this] at h2)
      rw [← ha] at hex
      refine mstep_wpOp (post := fun u w' => m.done x lo hi w1 u w') ho hex.1 hex.2 (by rw [hI.act, putAll_size, putAll_size])
        (hst x lo hi w1 (hdr hI.below) hneeds _ (fun u w' hu => ⟨u, rfl, hu⟩)) fun u w' hu => ?_
      have hxy : ∀ j, j ≠ i → x j = (fun j => if j = i then u else x j) j := fun j hj => by simp [hj]
      have hji : ∀ j ∈ js, j ≠ i := fun j hj e => hijs (e ▸ hj)
      have hmem : ∀ j, j ∈ i :: js ↔ j < ops.size ∧ (listed.setIfInBounds i true).getD j true = true := fun j => by
        rw [List.mem_cons, hI.mem j]
        by_cases hj : j < ops.size
        · rw [listed_getD_set (by rw [hI.size]; exact hj)]
          by_cases hji : j = i
          · subst hji; simp [hj]
          · rw [if_neg (Ne.symm hji)]; simp [hji]
        · constructor
          · rintro (rfl | h)
            · exact absurd hio hj
            · exact absurd h.1 hj
          · intro h; exact absurd h.1 hj
      have hdown : ∀ j ∈ i :: js, ∀ k ∈ (planOf ms).vals j, k ∈ i :: js := List.forall_mem_cons.2 ⟨fun k hk => .tail _ (hn k (hnm ▸ hk)), fun j hj k hk => .tail _ (hI.down j hj k hk)⟩
      have hact : a.put o.dst u = putAll ops (fun j => if j = i then u else x j) a0 (i :: js) := by
        have h1 : mdst ops i = o.dst := by simp [mdst, ho]
        show a.put o.dst u = (putAll ops _ a0 js).put (mdst ops i) (if i = i then u else x i)
        rw [if_pos rfl, h1, hI.act]
        congr 1
        exact putAll_congr fun j hj => hxy j (hji j hj)
      have hsize : (listed.setIfInBounds i true).size = ops.size := by rw [Array.size_setIfInBounds, hI.size]
      have hnod : (i :: js).Nodup := List.nodup_cons.2 ⟨hijs, hI.nodup⟩
      have hfuel : fuel + (i :: js).length = ops.size := by simp only [List.length_cons]; omega
      have xk : ∀ j ∈ js, ∀ k ∈ (planOf ms).vals j, x k = (fun j => if j = i then u else x j) k := fun j hj k hk => hxy k (hji k (hI.down j hj k hk))
      have hB := hI.below.size
      cases hin : m.into with
      | none =>
        obtain ⟨hb, ht⟩ : Below w1.heap.size w1 w' ∧ m.tells x w1.heap.size w'.heap.size u w' := by
          have := hu; unfold Mop.done at this; rw [hin] at this; exact this
        rw [hin] at hni
        have lk : ∀ j, j ∈ js → (if j = i then w1.heap.size else lo j) = lo j := fun j hj => if_neg (hji j hj)
        have hk : ∀ j, j ∈ js → (if j = i then w'.heap.size else hi j) = hi j := fun j hj => if_neg (hji j hj)
        refine ih _ (i :: js) (fun j => if j = i then u else x j) (fun j => if j = i then w1.heap.size else lo j) (fun j => if j = i then w'.heap.size else hi j) _ w' ⟨hsize, hnod, hmem, hdown, hact, hI.below.trans (hb.mono hB), ?_, ?_, ?_, ?_⟩ hfuel
        · refine List.forall_mem_cons.2 ⟨?_, fun j hj => ?_⟩
          · rw [if_pos rfl, if_pos rfl]; exact ⟨hB, Nat.le_refl _⟩
          · rw [lk j hj, hk j hj]
            exact ⟨(hI.room j hj).1, Nat.le_trans (hI.room j hj).2 hb.size⟩
        · intro j hj k hk2 hjk h1 h2
          try dsimp only
          rcases List.mem_cons.1 hj with e | hj
          · rcases List.mem_cons.1 hk2 with e2 | hk2
            · exact absurd (e.trans e2.symm) hjk
            · rw [lk k hk2, hk k hk2, if_pos e, if_pos e]
              exact .inr (hI.room k hk2).2
          · rcases List.mem_cons.1 hk2 with e2 | hk2
            · rw [lk j hj, hk j hj, if_pos e2, if_pos e2]
              exact .inl (hI.room j hj).2
            · rw [lk k hk2, hk k hk2, lk j hj, hk j hj]
              exact hI.apart j hj k hk2 hjk h1 h2
        · refine List.forall_mem_cons.2 ⟨fun j e => (by rw [hni] at e; cases e), fun s hs j e => ?_⟩
          have hjv : j ∈ js := by
            obtain ⟨os, hos⟩ := hget s ((hI.mem s).1 hs).1
            exact hI.down s hs j ((hops s os hos).into j e).1
          try dsimp only
          rw [lk s hs, hk s hs, lk j hjv, hk j hjv]
          exact hI.same s hs j e
        · refine List.forall_mem_cons.2 ⟨fun _ => ?_, fun j hj hns => ?_⟩
          · unfold MF
            rw [hm2]
            show m.tells _ (if i = i then w1.heap.size else lo i) (if i = i then w'.heap.size else hi i) (if i = i then u else x i) w'
            rw [if_pos rfl, if_pos rfl, if_pos rfl]
            exact (hgood.at hm2).loc x _ (fun j hj => hxy j (hji j (hn j hj))) _ _ _ _ ht
          · refine MF.of_same hgood (xk j hj) (hxy j (hji j hj)) (lk j hj).symm (hk j hj).symm ⟨hb.size, fun k hk => hb.block k (Nat.lt_of_lt_of_le hk hB), fun k _ h2 => hb.block k (Nat.lt_of_lt_of_le h2 (hI.room j hj).2)⟩ (hI.facts j hj fun s hs => hns s (.tail _ hs))
      | some b =>
        obtain ⟨hw, ht⟩ : Writes (lo b) (hi b) w1 w' ∧ m.tells x (lo b) (hi b) u w' := by
          have := hu; unfold Mop.done at this; rw [hin] at this; exact this
        rw [hin] at hni
        obtain ⟨hb1, hb2, hb3⟩ := hop.into b hni
        have hbj : b ∈ js := hn b (hnm ▸ hb1)
        have hBb := (hI.room b hbj).1
        have lk : ∀ j, j ∈ js → (if j = i then lo b else lo j) = lo j := fun j hj => if_neg (hji j hj)
        have hk : ∀ j, j ∈ js → (if j = i then hi b else hi j) = hi j := fun j hj => if_neg (hji j hj)
        have hBelow : Below w.drew.heap.size w1 w' := ⟨hw.os, hw.tape, hw.output, Nat.le_of_eq hw.size.symm, fun k hk => hw.block k (by omega)⟩
        refine ih _ (i :: js) (fun j => if j = i then u else x j) (fun j => if j = i then lo b else lo j) (fun j => if j = i then hi b else hi j) _ w' ⟨hsize, hnod, hmem, hdown, hact, hI.below.trans hBelow, ?_, ?_, ?_, ?_⟩ hfuel
        · refine List.forall_mem_cons.2 ⟨?_, fun j hj => ?_⟩
          · rw [if_pos rfl, if_pos rfl, hw.size]; exact hI.room b hbj
          · rw [lk j hj, hk j hj, hw.size]; exact hI.room j hj
        · intro j hj k hk2 hjk h1 h2
          try dsimp only
          rcases List.mem_cons.1 hj with e | hj
          · rw [e, hni] at h1; cases h1
          · rcases List.mem_cons.1 hk2 with e2 | hk2
            · rw [e2, hni] at h2; cases h2
            · rw [lk k hk2, hk k hk2, lk j hj, hk j hj]
              exact hI.apart j hj k hk2 hjk h1 h2
        · refine List.forall_mem_cons.2 ⟨fun j e => ?_, fun s hs j e => ?_⟩
          · rw [hni] at e
            obtain rfl : b = j := by simpa using e
            try dsimp only
            rw [if_pos rfl, if_pos rfl, lk b hbj, hk b hbj]
            exact ⟨rfl, rfl⟩
          · have hjv : j ∈ js := by
              obtain ⟨os, hos⟩ := hget s ((hI.mem s).1 hs).1
              exact hI.down s hs j ((hops s os hos).into j e).1
            try dsimp only
            rw [lk s hs, hk s hs, lk j hjv, hk j hjv]
            exact hI.same s hs j e
        · refine List.forall_mem_cons.2 ⟨fun _ => ?_, fun j hj hns => ?_⟩
          · unfold MF
            rw [hm2]
            show m.tells _ (if i = i then lo b else lo i) (if i = i then hi b else hi i) (if i = i then u else x i) w'
            rw [if_pos rfl, if_pos rfl, if_pos rfl]
            exact (hgood.at hm2).loc x _ (fun j hj => hxy j (hji j (hn j hj))) _ _ _ _ ht
          · have hjb : j ≠ b := fun e => hns i (.head _) (by rw [hni, e])
            have hap : hi b ≤ lo j ∨ hi j ≤ lo b := by
              cases hij : (planOf ms).into j with
              | none => exact hI.apart b hbj j hj (Ne.symm hjb) hb2 hij
              | some c =>
                obtain ⟨oj, hoj⟩ := hget j ((hI.mem j).1 hj).1
                obtain ⟨hc1, hc2, _⟩ := (hops j oj hoj).into c hij
                have hcj : c ∈ js := hI.down j hj c hc1
                have hcb : c ≠ b := fun e => hb3 j ((hI.mem j).1 hj).1 (hji j hj) (by rw [hij, e])
                obtain ⟨e1, e2⟩ := hI.same j hj c hij
                rw [e1, e2]
                exact hI.apart b hbj c hcj (Ne.symm hcb) hb2 hc2
            refine MF.of_same hgood (xk j hj) (hxy j (hji j hj)) (lk j hj).symm (hk j hj).symm ⟨Nat.le_of_eq hw.size.symm, fun k hk => hw.block k (by omega), fun k h1 h2 => hw.block k (by omega)⟩ (hI.facts j hj fun s hs => hns s (.tail _ hs))
  refine wp_region_any hm (main ops.size _ [] (fun _ => undef) (fun _ => 0) (fun _ => 0) a0 _ ⟨by simp, .nil, fun j => ?_, by simp, rfl, Below.refl _ _, by simp, by simp, by simp, by simp⟩ (by simp))
  constructor
  · intro h; cases h
  · rintro ⟨hj, h⟩
    simp [Array.getD, hj] at h
end
end Go.Proofs.YtpkjfdgjmcphmaaDoor

/- bonsailaw04: nots. -/
namespace Go.Proofs.YtpkjfdgjmcphmaaDoor
open Go.RowKit Bset Tm

abbrev hdK (k : Nat) : Hd := ⟨k, 0#256, ⟨#[]⟩, 0, 0⟩
/-- So many Nots, one within the other. -/
def noTr : Nat → RT Hd
  | 0 => .mk (hdK 0) []
  | n + 1 => .mk (hdK 8) [noTr n]
theorem noTr_size : ∀ n, size (noTr n) = n + 1
  | 0 => rfl
  | n + 1 => by simp [noTr, size, sizes, noTr_size n]
theorem noTr_deep : ∀ n, deep (noTr n) = n + 1
  | 0 => rfl
  | n + 1 => by simp [noTr, deep, deeps, noTr_deep n]
theorem noTr_fit : ∀ n, fitT (noTr n) = true
  | 0 => by simp [noTr, fitT, fitTs, fits, noSet, noText, isZ, ByteArray.size]
  | n + 1 => by simp [noTr, fitT, fitTs, fits, noSet, noText, isZ, ByteArray.size, noTr_fit n]
theorem noTr_ok : ∀ n, Tm.allT okP (noTr n)
  | 0 => by simp [noTr, Tm.allT, Tm.allTs, okP, ByteArray.size]
  | n + 1 => by simp [noTr, Tm.allT, Tm.allTs, okP, ByteArray.size, noTr_ok n]
theorem noTr_of (n : Nat) : ofB (hdK 8) [arOf (noTr n)] = true ∧ ofT (hdK 8) [arOf (noTr n)] = arOf (noTr (n + 1)) := by
  have h1 : rightB (arOf (noTr n)) = true := rightB_iff.2 (arOf_right (noTr_fit n))
  have h2 : ofB (hdK 8) [arOf (noTr n)] = true := by
    simp [ofB, h1, fits, noSet, noText, isZ, ByteArray.size]
  refine ⟨h2, ?_⟩
  rw [ofT, if_pos h2, List.map_singleton, tree_arOf]
  rfl

theorem own_ty {w w' : World} {lo g : Nat} {t t' : TypeId} {cs : Array Value} {size : Nat} {v : Value} {n : Nat} {xs : List Value} (h : w.ownsRow lo t size v n xs) (hc : Cl w g t' cs) (ht : t ≠ t') (hg : w.grownBy w' (some g)) : w'.ownsRow lo t size v n xs := by
  refine h.kept hg ?_
  rcases h.2 with ⟨rfl, _⟩ | ⟨g', cap, cur, rfl, hb, hgg, _⟩
  · exact .inl rfl
  · refine .inr fun e => ?_
    have : g' = g := by simpa [Value.ownBlock] using e
    subst this
    have h2 : w.heap[g']? = some (.cells cs t' (0, 0)) := hc
    rw [h2] at hgg
    cases hgg
    exact ht rfl
theorem Made.ty {lo g : Nat} {w w' : World} {v : Value} {B : List (Nd × Value)} {t' : TypeId} {cs : Array Value} (h : Made lo w v B) (hc : Cl w g t' cs) (h1 : 38 ≠ t') (h2 : 3 ≠ t') (hg : w.grownBy w' (some g)) : Made lo w' v B :=
  ⟨own_ty h.row hc h1 hg, fun x hx => own_ty (h.kids x hx) hc h2 hg⟩
theorem gb_put2 (w : World) (g : Nat) (u0 u1 : Value) : w.grownBy (put2 w g u0 u1) (some g) := gb_set (gb_set (gb_refl w (some g)) 0 u0) 1 u1

/-- One tree, in a list of its own. -/
theorem trees_one {lo : Nat} {w : World} {nv : Value} {T : Ar} (h : MadeT lo w (treeV nv T.root) T) : Trees (w.alloc (.cells #[nv, .int .i64 T.root] 26)) (.slice (some ⟨w.heap.size, 0, none⟩) 1 1) [T] := by
  have hc := Cl.new w 26 #[nv, .int .i64 T.root]
  obtain ⟨nv', e, hn⟩ := (h.below ((Below.refl _ _).alloc (Nat.le_refl _) (.cells #[nv, .int .i64 T.root] 26))).tree
  have e' : nv = nv' := by simpa using e
  subst e'
  refine ⟨_, 1, rfl, .inr ⟨w.heap.size, 0, rfl, fun j hj => ?_⟩⟩
  have : j = 0 := by simp at hj; omega
  subst this
  exact ⟨nv, hc.cell 0, hc.cell 1, hn⟩

set_option maxRecDepth 100000 in
set_option maxHeartbeats 4000000 in
theorem nots_any (n : Nat) (hn : n ≤ 1000) (w : World) (hE : Env w) :
    Calls Tryd.prog 13 #[.int .i64 n] w fun e w' => ∃ v, e = .returned v ∧ MadeT w.heap.size w' v (arOf (noTr n)) ∧ Below w.heap.size w w' := by
  have k0 := Cl.new w 26 #[.slice none 0 0, .int .i64 0]
  have b0 := (Below.refl w.heap.size w).alloc (Nat.le_refl _) (.cells #[.slice none 0 0, .int .i64 0] 26)
  go_enter Tryd.func13, Tryd.ntmps13
  go_wp2_with (go_at_call 17; refine (empty_any _).mono ?_; rintro e w1 ⟨v, rfl, ⟨nv, C, rfl, hm, hc⟩, hb⟩
               obtain ⟨p, c, rfl⟩ := own_slice hm.row
               have k1 := (k0.below hb k0.lt).alloc (.cells #[.slice p C.length c, .int .i64 0] 26)
               have hb1 := b0.trans (hb.mono b0.size)
               have b1 := hb1.alloc hb1.size (.cells #[.slice p C.length c, .int .i64 0] 26)
               have q1 := Cl.new w1 26 #[.slice p C.length c, .int .i64 0]
               have m1 := (hm.mono (lo' := w.heap.size + 1) (by simp)).below ((Below.refl _ _).alloc (Nat.le_refl _) (.cells #[.slice p C.length c, .int .i64 0] 26))
               have hz := Lib.hid (Nat.lt_of_lt_of_le k0.lt hb.size)
               clear hb k0 b0 hm)
  have hzz := hz.out
  generalize w1.heap.size = gT at *
  clear hz
  go_loopw [4] (fun v W => ∃ (i : Nat) (nv : Value), v = .int .i64 i ∧ i ≤ n ∧ Below w.heap.size w W ∧ Cl W w.heap.size 26 #[.slice none 0 0, .int .i64 0] ∧ Cl W gT 26 #[nv, .int .i64 i] ∧ MadeT (w.heap.size + 1) W (treeV nv i) (arOf (noTr i)))
    (fun v _ => n - (intOf v).toNat)
  case atStart => exact ⟨0, _, rfl, Nat.zero_le _, b1, k1, q1, ⟨_, C, rfl, m1, hc⟩⟩
  case round =>
    clear b1 k1 q1 m1 hc hb1
    obtain ⟨i, nv, rfl, hi, hB, hk, hq, hm⟩ := hrel
    have hroot : (arOf (noTr i)).root = (i : Int) := by
      simp only [arOf, noTr_size]
      omega
    rw [← hroot] at hm hq
    obtain ⟨nv', C, e, hM, hC⟩ := hm
    obtain rfl : nv = nv' := by simpa using e
    obtain ⟨p, c, rfl⟩ := own_slice hM.row
    clear e
    by_cases hlt : i < n
    · have hof := fun (w : World) (h1 : Trees w (.slice (some ⟨wr.heap.size, 0, none⟩) 1 1) [arOf (noTr i)]) (h2 : Env w) => of_any (hdK 8) (.slice none 0 0) _ [arOf (noTr i)] w h1 (by simp [okP, ByteArray.size]) (fun t ht => by
        rw [List.mem_singleton.1 ht]
        exact ok_arOf (noTr_ok i) (by rw [noTr_size]; omega)) (by simp [total, arOf, flat_length, noTr_size]; omega) (by simp) h2
      simp only [nodeV_zero, (noTr_of i).1, (noTr_of i).2] at hof
      have htr := trees_one ⟨_, C, rfl, hM, hC⟩
      have hq1 := hq.alloc (.cells #[.slice p C.length c, .int .i64 (arOf (noTr i)).root] 26)
      have hk1 := hk.alloc (.cells #[.slice p C.length c, .int .i64 (arOf (noTr i)).root] 26)
      have B1 := hB.alloc hB.size (.cells #[.slice p C.length c, .int .i64 (arOf (noTr i)).root] 26)
      obtain ⟨x0, x1⟩ := hq.two.1
      have hroot2 : (arOf (noTr (i + 1))).root = ((i + 1 : Nat) : Int) := by
        simp only [arOf, noTr_size]
        omega
      have HR2 := Lib.hid hroot2
      clear hroot hroot2 hq hk hM hC
      generalize (arOf (noTr i)).root = r0 at *
      go_wp2_with (go_at_call 16; refine (hof _ htr (hE.below B1)).mono ?_; rintro e w2 ⟨v, rfl, ⟨nv2, C2, rfl, hm2, hc2⟩, hb⟩
                   obtain ⟨p2, c2, rfl⟩ := own_slice hm2.row
                   have hq2 := hq1.below hb hq1.lt
                   have hk2 := hk1.below hb hk1.lt
                   have B2 := B1.trans (hb.mono B1.size)
                   obtain ⟨⟨z0, z1⟩, zf⟩ := hq2.two
                   have B1s := Lib.hid B1.size
                   clear hb hq1 hk1 B1 htr hof x0 x1)
      have hr2 := HR2.out
      have f1 := hq2.put2 (.slice p2 C2.length c2) (.int .i64 (arOf (noTr (i + 1))).root)
      have f2 := (hk2.other (p := ⟨gT, 0, none⟩) (by simp; omega) (.slice p2 C2.length c2)).other (p := ⟨gT, 1, none⟩) (by simp; omega) (.int .i64 (arOf (noTr (i + 1))).root)
      have f3 := below_put2 B2 (g := gT) (by omega) (.slice p2 C2.length c2) (.int .i64 (arOf (noTr (i + 1))).root)
      have f4 := (hm2.ty hq2 (by decide) (by decide) (gb_put2 w2 gT (.slice p2 C2.length c2) (.int .i64 (arOf (noTr (i + 1))).root))).mono (lo' := w.heap.size + 1) (by have := hB.size; simp; omega)
      rw [hr2] at f1 f2 f3 f4 ⊢
      exact ⟨⟨i + 1, .slice p2 C2.length c2, by go_num, by omega, f3, f2, f1, ⟨_, C2, by rw [hr2], f4, hc2⟩⟩, by simp [intOf]; omega⟩
    · obtain rfl : i = n := by omega
      obtain ⟨x0, x1⟩ := hq.two.1
      obtain ⟨⟨z0, z1⟩, zf⟩ := hk.two
      have HM := Lib.hid hM
      have HR := Lib.hid hroot
      clear hM hroot
      generalize hr0 : (arOf (noTr i)).root = r0 at *
      have HR0 := Lib.hid hr0
      clear hr0
      go_wp2
      refine end_tree (hk.put2 _ _) rfl rfl rfl ⟨_, rfl, ⟨_, C, by rw [HR0.out], (HM.out.put2 (by omega) _ _).mono (by omega), hC⟩, below_put2 hB (Nat.le_refl _) _ _⟩
end Go.Proofs.YtpkjfdgjmcphmaaDoor

/- Package expr: what is made normal, as trees. Of no program. -/
namespace Go.Proofs.YtpkjfdgjmcphmaaDoor.Tm
open Go.Proofs.YtpkjfdgjmcphmaaDoor (hdK)

/-- Are a part's own kids what stands in its stead, within a node of that kind? -/
def opens (p wi : Nat) : Bool := (decide (wi = 4) && (decide (p = 4) || decide (p = 0))) || (decide (wi = 5) && decide (p = 5))
def kd (t : RT Hd) : Nat := (top t).kind
def pt (wi : Nat) (p : RT Hd) : List (RT Hd) := if opens (kd p) wi = true then kidsR p else [p]
def gat (wi : Nat) (ps : List (RT Hd)) : List (RT Hd) := ps.flatMap (pt wi)
def some1 (l : List (RT Hd)) (none : RT Hd) (more : List (RT Hd) → RT Hd) : RT Hd :=
  match l with
  | [] => none
  | [x] => x
  | x :: y :: r => more (x :: y :: r)
/-- What a node comes to, of what its kids come to. -/
def cm (h : Hd) (ps : List (RT Hd)) : RT Hd :=
  if h.kind = 4 then some1 (gat 4 ps) (.mk noHd []) (.mk h) else .mk h (gat h.kind ps)
mutual
/-- A tree made normal. -/
def nrm : RT Hd → RT Hd
  | .mk h ks => cm h (nrms ks)
def nrms : List (RT Hd) → List (RT Hd)
  | [] => []
  | t :: ts => nrm t :: nrms ts
end
mutual
/-- Is a tree normal? -/
def nml : RT Hd → Bool
  | .mk h ks => ks.all (fun k => !opens (kd k) h.kind) && nmls ks
def nmls : List (RT Hd) → Bool
  | [] => true
  | t :: ts => nml t && nmls ts
end
theorem nrms_eq (ts : List (RT Hd)) : nrms ts = ts.map nrm := by
  induction ts with
  | nil => rfl
  | cons t ts ih => simp [nrms, ih]
theorem nmls_iff {ts : List (RT Hd)} : nmls ts = true ↔ ∀ t ∈ ts, nml t = true := by
  induction ts with
  | nil => simp [nmls]
  | cons t ts ih => simp [nmls, ih]
theorem gat_append (wi : Nat) (a b : List (RT Hd)) : gat wi (a ++ b) = gat wi a ++ gat wi b := by simp [gat]
theorem gat_nil (wi : Nat) : gat wi [] = [] := rfl
theorem gat_cons (wi : Nat) (p : RT Hd) (ps : List (RT Hd)) : gat wi (p :: ps) = pt wi p ++ gat wi ps := by simp [gat]
theorem opens_no {p wi : Nat} (h4 : wi ≠ 4) (h5 : wi ≠ 5) : opens p wi = false := by simp [opens, h4, h5]
theorem opens_four (p : Nat) : opens p 4 = true ↔ p = 4 ∨ p = 0 := by simp [opens]
theorem opens_five (p : Nat) : opens p 5 = true ↔ p = 5 := by simp [opens]
theorem pt_self {wi : Nat} {p : RT Hd} (h : opens (kd p) wi = false) : pt wi p = [p] := by simp [pt, h]
theorem gat_self {wi : Nat} {ps : List (RT Hd)} (h : ∀ p ∈ ps, opens (kd p) wi = false) : gat wi ps = ps := by
  induction ps with
  | nil => rfl
  | cons p ps ih => rw [gat_cons, pt_self (h p (by simp)), ih (fun q hq => h q (by simp [hq]))]; rfl

theorem fit_kids {t : RT Hd} (h : fitT t = true) : fits (top t) (kidsR t).length = true ∧ ∀ k ∈ kidsR t, fitT k = true := by
  cases t with
  | mk a ks =>
    rw [fitT, Bool.and_eq_true] at h
    exact ⟨h.1, fitTs_iff.1 h.2⟩
theorem nml_kids {t : RT Hd} (h : nml t = true) : (∀ k ∈ kidsR t, opens (kd k) (kd t) = false) ∧ ∀ k ∈ kidsR t, nml k = true := by
  cases t with
  | mk a ks =>
    rw [nml, Bool.and_eq_true, List.all_eq_true] at h
    refine ⟨fun k hk => ?_, nmls_iff.1 h.2⟩
    show opens (kd k) a.kind = false
    simpa using h.1 k hk
theorem fits_two {h : Hd} {m : Int} (hf : fits h m = true) (hk : h.kind = 4 ∨ h.kind = 5) : 2 ≤ m := by
  unfold fits at hf
  rcases hk with hk | hk <;> (rw [hk] at hf; simp at hf; exact hf.2)
theorem fits_none {h : Hd} {m : Int} (hf : fits h m = true) (hk : h.kind = 0) : m = 0 := by
  unfold fits at hf
  rw [hk] at hf
  simp at hf
  exact hf.2
theorem fits_more {h : Hd} {m m' : Int} (hf : fits h m = true) (hk : h.kind = 4 ∨ h.kind = 5) (hm : 2 ≤ m') : fits h m' = true := by
  unfold fits at hf ⊢
  rcases hk with hk | hk <;> (rw [hk] at hf ⊢; simp at hf ⊢; exact ⟨hf.1, hm⟩)
theorem fits_both {m : Int} (h : 2 ≤ m) : fits (hdK 4) m = true ∧ fits (hdK 5) m = true := by
  unfold fits
  simp [noSet, noText, isZ, h]
  rfl
theorem text_none {s : ByteArray} (h : s.size = 0) : s = ⟨#[]⟩ := by
  obtain ⟨a⟩ := s
  have : a.size = 0 := h
  have : a = #[] := Array.size_eq_zero_iff.1 this
  rw [this]
/-- A head that holds nothing beside its kind. -/
theorem fits_bare {h : Hd} {m : Int} (hf : fits h m = true) (hk : h.kind = 0 ∨ h.kind = 4 ∨ h.kind = 5) : h = hdK h.kind := by
  obtain ⟨k, s, t, lo, hi⟩ := h
  unfold fits at hf
  have key : noSet ⟨k, s, t, lo, hi⟩ = true ∧ noText ⟨k, s, t, lo, hi⟩ = true ∧ isZ ⟨k, s, t, lo, hi⟩ = true → (⟨k, s, t, lo, hi⟩ : Hd) = hdK k := by
    rintro ⟨h1, h2, h3⟩
    simp [noSet] at h1
    unfold noText at h2
    rw [decide_eq_true_eq] at h2
    simp [isZ] at h3
    obtain rfl : t = ⟨#[]⟩ := text_none h2
    rw [h1, h3.1, h3.2]
  apply key
  dsimp only at hk
  rcases hk with rfl | rfl | rfl <;> (simp at hf; exact ⟨hf.1.1.1, hf.1.1.2, hf.1.2⟩)

/-- What is gathered of normal parts. -/
theorem mem_gat {wi : Nat} {ps : List (RT Hd)} (hf : ∀ p ∈ ps, fitT p = true) (hn : ∀ p ∈ ps, nml p = true) : ∀ x ∈ gat wi ps, fitT x = true ∧ nml x = true ∧ opens (kd x) wi = false := by
  intro x hx
  obtain ⟨p, hp, hxp⟩ := List.mem_flatMap.1 hx
  clear hx
  have hx := hxp
  clear hxp
  unfold pt at hx
  split at hx
  · rename_i ho
    have h1 := (fit_kids (hf p hp)).2 x hx
    have h2 := nml_kids (hn p hp)
    refine ⟨h1, h2.2 x hx, ?_⟩
    have h3 := h2.1 x hx
    by_cases hw : wi = 4
    · subst hw
      rcases (opens_four _).1 ho with e | e
      · rw [e] at h3; exact h3
      · exfalso
        have h4 := fits_none (fit_kids (hf p hp)).1 e
        have : (kidsR p).length = 0 := by omega
        rw [List.eq_nil_of_length_eq_zero this] at hx
        cases hx
    · by_cases hw5 : wi = 5
      · subst hw5
        rw [(opens_five _).1 ho] at h3
        exact h3
      · rw [opens_no hw hw5] at ho
        cases ho
  · rename_i ho
    rw [List.mem_singleton.1 hx]
    exact ⟨hf p hp, hn p hp, by simpa using ho⟩
theorem gat_five {ps : List (RT Hd)} (hf : ∀ p ∈ ps, fitT p = true) : ps.length ≤ (gat 5 ps).length := by
  induction ps with
  | nil => simp
  | cons p ps ih =>
    rw [gat_cons, List.length_append, List.length_cons]
    have := ih (fun q hq => hf q (by simp [hq]))
    have : 1 ≤ (pt 5 p).length := by
      unfold pt
      split
      · rename_i ho
        have := fits_two (fit_kids (hf p (by simp))).1 (.inr ((opens_five _).1 ho))
        omega
      · simp
    omega
theorem fit_mk' {h : Hd} {ks : List (RT Hd)} (h1 : fits h ks.length = true) (h2 : ∀ k ∈ ks, fitT k = true) : fitT (.mk h ks) = true := by
  rw [fitT, Bool.and_eq_true]
  exact ⟨h1, fitTs_iff.2 h2⟩
theorem nml_mk' {h : Hd} {ks : List (RT Hd)} (h1 : ∀ k ∈ ks, opens (kd k) h.kind = false) (h2 : ∀ k ∈ ks, nml k = true) : nml (.mk h ks) = true := by
  rw [nml, Bool.and_eq_true, List.all_eq_true]
  exact ⟨fun k hk => by simp [h1 k hk], nmls_iff.2 h2⟩
theorem empty_fit : fitT (.mk noHd []) = true ∧ nml (.mk noHd []) = true := ⟨by decide, by decide⟩

theorem cm_good {h : Hd} {ps : List (RT Hd)} (hh : fits h ps.length = true) (hf : ∀ p ∈ ps, fitT p = true) (hn : ∀ p ∈ ps, nml p = true) : fitT (cm h ps) = true ∧ nml (cm h ps) = true := by
  have hg := fun wi => mem_gat (wi := wi) hf hn
  unfold cm
  split
  · rename_i h4
    have hg4 := hg 4
    generalize gat 4 ps = l at hg4
    match l, hg4 with
    | [], _ => exact empty_fit
    | [x], hg => exact ⟨(hg x (by simp)).1, (hg x (by simp)).2.1⟩
    | x :: y :: r, hg =>
      refine ⟨fit_mk' (fits_more hh (.inl h4) (by simp; omega)) (fun k hk => (hg k hk).1), nml_mk' (fun k hk => ?_) (fun k hk => (hg k hk).2.1)⟩
      rw [h4]
      exact (hg k hk).2.2
  · rename_i h4
    by_cases h5 : h.kind = 5
    · have h2 := fits_two hh (.inr h5)
      have h3 := gat_five hf
      rw [h5]
      refine ⟨fit_mk' (fits_more hh (.inr h5) (by omega)) (fun k hk => (hg 5 k hk).1), nml_mk' (fun k hk => ?_) (fun k hk => (hg 5 k hk).2.1)⟩
      rw [h5]
      exact (hg 5 k hk).2.2
    · rw [gat_self fun p _ => opens_no h4 h5]
      exact ⟨fit_mk' hh hf, nml_mk' (fun k _ => opens_no h4 h5) hn⟩
mutual
theorem nrm_good : ∀ t : RT Hd, fitT t = true → fitT (nrm t) = true ∧ nml (nrm t) = true
  | .mk h ks, hf => by
    rw [fitT, Bool.and_eq_true] at hf
    have h2 := nrms_good ks hf.2
    rw [nrm]
    refine cm_good ?_ (fun p hp => (h2 p hp).1) (fun p hp => (h2 p hp).2)
    rw [nrms_eq, List.length_map]
    exact hf.1
theorem nrms_good : ∀ ts : List (RT Hd), fitTs ts = true → ∀ t ∈ nrms ts, fitT t = true ∧ nml t = true
  | [], _, t, ht => by simp [nrms] at ht
  | t :: ts, hf, x, hx => by
    rw [fitTs, Bool.and_eq_true] at hf
    rw [nrms, List.mem_cons] at hx
    rcases hx with rfl | hx
    · exact nrm_good t hf.1
    · exact nrms_good ts hf.2 x hx
end
theorem some1_self {l : List (RT Hd)} {a : RT Hd} {f : List (RT Hd) → RT Hd} (h : 2 ≤ l.length) : some1 l a f = f l := by
  match l, h with
  | _ :: _ :: _, _ => rfl
mutual
theorem nrm_self : ∀ t : RT Hd, fitT t = true → nml t = true → nrm t = t
  | .mk h ks, hf, hn => by
    have hf' := hf
    have hn' := hn
    rw [fitT, Bool.and_eq_true] at hf
    rw [nml, Bool.and_eq_true] at hn
    rw [nrm, nrms_self ks hf.2 hn.2]
    have hk := (nml_kids hn').1
    have hk' : ∀ k ∈ ks, opens (kd k) h.kind = false := hk
    unfold cm
    split
    · rename_i h4
      rw [h4] at hk'
      rw [gat_self hk', some1_self]
      have := fits_two hf.1 (.inl h4)
      omega
    · rw [gat_self hk']
theorem nrms_self : ∀ ts : List (RT Hd), fitTs ts = true → nmls ts = true → nrms ts = ts
  | [], _, _ => rfl
  | t :: ts, hf, hn => by
    rw [fitTs, Bool.and_eq_true] at hf
    rw [nmls, Bool.and_eq_true] at hn
    rw [nrms, nrm_self t hf.1 hn.1, nrms_self ts hf.2 hn.2]
end
theorem nrm_nrm {t : RT Hd} (h : fitT t = true) : nrm (nrm t) = nrm t := nrm_self _ (nrm_good t h).1 (nrm_good t h).2

/- ## Put together of parts -/
def seqR (l : List (RT Hd)) : RT Hd := some1 (gat 4 (l.map nrm)) (.mk noHd []) (.mk (hdK 4))
def choR (l : List (RT Hd)) : RT Hd := some1 (gat 5 (l.map nrm)) (.mk (hdK 1) []) (.mk (hdK 5))
theorem nrms_good' {l : List (RT Hd)} (h : ∀ t ∈ l, fitT t = true) : (∀ p ∈ l.map nrm, fitT p = true) ∧ ∀ p ∈ l.map nrm, nml p = true :=
  ⟨fun p hp => by obtain ⟨t, ht, rfl⟩ := List.mem_map.1 hp; exact (nrm_good t (h t ht)).1, fun p hp => by obtain ⟨t, ht, rfl⟩ := List.mem_map.1 hp; exact (nrm_good t (h t ht)).2⟩
theorem seqR_nil : seqR [] = .mk noHd [] := rfl
theorem choR_nil : choR [] = .mk (hdK 1) [] := rfl
/-- What one part that is normal is opened to, put together again. -/
theorem seq_one {p : RT Hd} (hf : fitT p = true) : some1 (pt 4 p) (.mk noHd []) (.mk (hdK 4)) = p := by
  unfold pt
  split
  · rename_i ho
    have h1 := (fit_kids hf).1
    rcases (opens_four _).1 ho with e | e
    · rw [some1_self (by have := fits_two h1 (.inl e); omega)]
      have := fits_bare h1 (.inr (.inl e))
      have e' : (top p).kind = 4 := e
      rw [e'] at this
      cases p with
      | mk a ks => exact congrArg (fun x => RT.mk x ks) this.symm
    · have h2 := fits_none h1 e
      have := fits_bare h1 (.inl e)
      have e' : (top p).kind = 0 := e
      rw [e'] at this
      cases p with
      | mk a ks =>
        have h3 : ks = [] := List.eq_nil_of_length_eq_zero (by have : ((kidsR (RT.mk a ks)).length : Int) = 0 := h2; simp [kidsR] at this; simp [this])
        subst h3
        exact congrArg (fun x => RT.mk x []) this.symm
  · rfl
theorem cho_one {p : RT Hd} (hf : fitT p = true) : some1 (pt 5 p) (.mk (hdK 1) []) (.mk (hdK 5)) = p := by
  unfold pt
  split
  · rename_i ho
    have h1 := (fit_kids hf).1
    have e := (opens_five _).1 ho
    rw [some1_self (by have := fits_two h1 (.inr e); omega)]
    have := fits_bare h1 (.inr (.inr e))
    have e' : (top p).kind = 5 := e
    rw [e'] at this
    cases p with
    | mk a ks => exact congrArg (fun x => RT.mk x ks) this.symm
  · rfl
theorem seqR_one {t : RT Hd} (h : fitT t = true) : seqR [t] = nrm t := by
  unfold seqR
  rw [List.map_singleton, gat_cons, gat_nil, List.append_nil]
  exact seq_one (nrm_good t h).1
theorem choR_one {t : RT Hd} (h : fitT t = true) : choR [t] = nrm t := by
  unfold choR
  rw [List.map_singleton, gat_cons, gat_nil, List.append_nil]
  exact cho_one (nrm_good t h).1
theorem seqR_many (l : List (RT Hd)) : nrm (.mk (hdK 4) l) = seqR l := by
  rw [nrm, cm, if_pos rfl, nrms_eq]
  rfl
theorem choR_many {l : List (RT Hd)} (h : ∀ t ∈ l, fitT t = true) (hl : 2 ≤ l.length) : nrm (.mk (hdK 5) l) = choR l := by
  rw [nrm, cm, if_neg (by decide), nrms_eq]
  unfold choR
  have := gat_five (nrms_good' h).1
  rw [List.length_map] at this
  rw [some1_self (by omega)]
theorem seqR_good {l : List (RT Hd)} (h : ∀ t ∈ l, fitT t = true) : fitT (seqR l) = true ∧ nml (seqR l) = true := by
  have h1 := nrms_good' h
  have hg := mem_gat (wi := 4) h1.1 h1.2
  unfold seqR
  generalize gat 4 (l.map nrm) = g at hg
  match g, hg with
  | [], _ => exact empty_fit
  | [x], hg => exact ⟨(hg x (by simp)).1, (hg x (by simp)).2.1⟩
  | x :: y :: r, hg =>
    refine ⟨fit_mk' ?_ (fun k hk => (hg k hk).1), nml_mk' (fun k hk => (hg k hk).2.2) (fun k hk => (hg k hk).2.1)⟩
    exact (fits_both (by simp; omega)).1
theorem choR_good {l : List (RT Hd)} (h : ∀ t ∈ l, fitT t = true) : fitT (choR l) = true ∧ nml (choR l) = true := by
  have h1 := nrms_good' h
  have hg := mem_gat (wi := 5) h1.1 h1.2
  unfold choR
  generalize gat 5 (l.map nrm) = g at hg
  match g, hg with
  | [], _ => exact ⟨by decide, by decide⟩
  | [x], hg => exact ⟨(hg x (by simp)).1, (hg x (by simp)).2.1⟩
  | x :: y :: r, hg =>
    refine ⟨fit_mk' ?_ (fun k hk => (hg k hk).1), nml_mk' (fun k hk => (hg k hk).2.2) (fun k hk => (hg k hk).2.1)⟩
    exact (fits_both (by simp; omega)).2
/-- The parts of what was put together. -/
theorem seq_parts {g : List (RT Hd)} (hg : ∀ x ∈ g, opens (kd x) 4 = false) : pt 4 (some1 g (.mk noHd []) (.mk (hdK 4))) = g := by
  match g, hg with
  | [], _ => rfl
  | [x], hg => exact pt_self (hg x (by simp))
  | x :: y :: r, _ => rfl
theorem cho_ways {g : List (RT Hd)} (hg : ∀ x ∈ g, opens (kd x) 5 = false) (h0 : g ≠ []) : pt 5 (some1 g (.mk (hdK 1) []) (.mk (hdK 5))) = g := by
  match g, hg, h0 with
  | [], _, h0 => exact absurd rfl h0
  | [x], hg, _ => exact pt_self (hg x (by simp))
  | x :: y :: r, _, _ => rfl
theorem seqR_parts {l : List (RT Hd)} (h : ∀ t ∈ l, fitT t = true) : pt 4 (seqR l) = gat 4 (l.map nrm) :=
  seq_parts fun x hx => (mem_gat (nrms_good' h).1 (nrms_good' h).2 x hx).2.2
theorem gat_none {l : List (RT Hd)} (h : ∀ t ∈ l, fitT t = true) (hl : l ≠ []) : gat 5 (l.map nrm) ≠ [] := by
  have := gat_five (nrms_good' h).1
  rw [List.length_map] at this
  intro e
  rw [e] at this
  exact hl (List.eq_nil_of_length_eq_zero (by simpa using this))
theorem choR_ways {l : List (RT Hd)} (h : ∀ t ∈ l, fitT t = true) (hl : l ≠ []) : pt 5 (choR l) = gat 5 (l.map nrm) :=
  cho_ways (fun x hx => (mem_gat (nrms_good' h).1 (nrms_good' h).2 x hx).2.2) (gat_none h hl)
end Go.Proofs.YtpkjfdgjmcphmaaDoor.Tm

/- Package expr: what the maker's rows come to, as functions. Of no program. -/
namespace Go.Proofs.YtpkjfdgjmcphmaaDoor.Tm

structure Rw where
  first : Nat
  last : Nat
  many : Nat
abbrev rw0 : Rw := ⟨0, 0, 0⟩
/-- The maker's lists. -/
structure St where
  hd : Nat → Hd
  is : Nat → Nat
  rw : Nat → Rw
  nx : Nat → Nat
def upd {α : Type} (f : Nat → α) (i : Nat) (a : α) : Nat → α := fun j => if j = i then a else f j
theorem upd_at {α : Type} (f : Nat → α) (i : Nat) (a : α) : upd f i a i = a := by simp [upd]
theorem upd_ne {α : Type} (f : Nat → α) {i j : Nat} (a : α) (h : j ≠ i) : upd f i a j = f j := by simp [upd, h]
def putF (a : Rw × (Nat → Nat)) (r : Rw) : Rw × (Nat → Nat) :=
  if r.many = 0 then a else if a.1.many = 0 then (r, a.2) else (⟨a.1.first, r.last, a.1.many + r.many⟩, upd a.2 a.1.last r.first)
def partF (s : St) (wi k : Nat) : Rw := if opens (s.hd (s.is k)).kind wi = true then s.rw (s.is k) else ⟨s.is k, s.is k, 1⟩
def gatF (s : St) (wi : Nat) (ks : List Nat) : Rw × (Nat → Nat) := ks.foldl (fun a k => putF a (partF s wi k)) (rw0, s.nx)
def comeF (s : St) (i : Nat) (g : Rw × (Nat → Nat)) : St :=
  if (s.hd i).kind = 4 then
    if g.1.many = 0 then ⟨upd s.hd i noHd, upd s.is i i, s.rw, g.2⟩
    else if g.1.many = 1 then ⟨s.hd, upd s.is i g.1.first, s.rw, g.2⟩
    else ⟨s.hd, upd s.is i i, upd s.rw i g.1, g.2⟩
  else if 4 < (s.hd i).kind then ⟨s.hd, upd s.is i i, upd s.rw i g.1, g.2⟩
  else ⟨s.hd, upd s.is i i, s.rw, g.2⟩
def stepF (A : List Nd) (s : St) (i : Nat) : St := comeF s i (gatF s (s.hd i).kind (kidsN A i))
def stF (A : List Nd) : Nat → St
  | 0 => ⟨hdAt A, fun _ => 0, fun _ => rw0, fun _ => 0⟩
  | i + 1 => stepF A (stF A i) i

/- ## Rows that are read -/
def Chn (nx : Nat → Nat) : List Nat → Prop
  | [] => True
  | [_] => True
  | a :: b :: l => nx a = b ∧ Chn nx (b :: l)
structure Row (nx : Nat → Nat) (r : Rw) (l : List Nat) : Prop where
  many : r.many = l.length
  first : ∀ a, l.head? = some a → r.first = a
  last : ∀ a, l.getLast? = some a → r.last = a
  chn : Chn nx l
def tops (ts : List (RT Nat)) : List Nat := ts.map top
mutual
def Rd (s : St) : RT Nat → Prop
  | .mk p ts => Row s.nx (s.rw p) (tops ts) ∧ Rds s ts
def Rds (s : St) : List (RT Nat) → Prop
  | [] => True
  | t :: ts => Rd s t ∧ Rds s ts
end
theorem Rds_iff {s : St} {ts : List (RT Nat)} : Rds s ts ↔ ∀ t ∈ ts, Rd s t := by
  induction ts with
  | nil => simp [Rds]
  | cons t ts ih => simp [Rds, ih]
theorem tops_posts {ts : List (RT Nat)} : ∀ x ∈ tops ts, x ∈ posts ts := by
  intro x hx
  obtain ⟨t, ht, rfl⟩ := List.mem_map.1 hx
  rw [posts_eq]
  exact List.mem_flatMap.2 ⟨t, ht, top_post t⟩
theorem posts_post {t : RT Nat} : ∀ x ∈ posts (kidsR t), x ∈ post t := by
  intro x hx
  cases t with
  | mk a ks => rw [post]; simp [kidsR] at hx; simp [hx]
theorem Chn.keep {nx nx' : Nat → Nat} : ∀ {l : List Nat}, Chn nx l → (∀ x ∈ l, nx' x = nx x) → Chn nx' l
  | [], _, _ => trivial
  | [_], _, _ => trivial
  | a :: b :: l, h, hk => ⟨(hk a (by simp)).trans h.1, h.2.keep fun x hx => hk x (by simp [hx])⟩
theorem Row.keep {nx nx' : Nat → Nat} {r : Rw} {l : List Nat} (h : Row nx r l) (hk : ∀ x ∈ l, nx' x = nx x) : Row nx' r l := ⟨h.many, h.first, h.last, h.chn.keep hk⟩
mutual
theorem Rd.keep {s s' : St} : ∀ t : RT Nat, Rd s t → (∀ x ∈ post t, s'.rw x = s.rw x) → (∀ x ∈ posts (kidsR t), s'.nx x = s.nx x) → Rd s' t
  | .mk p ts, h, h1, h2 => by
    rw [Rd] at h ⊢
    rw [post] at h1
    refine ⟨?_, Rds.keep ts h.2 (fun x hx => h1 x (by simp [hx])) (fun x hx => h2 x (by simpa [kidsR] using hx))⟩
    rw [h1 p (by simp)]
    exact h.1.keep fun x hx => h2 x (tops_posts x hx)
theorem Rds.keep {s s' : St} : ∀ ts : List (RT Nat), Rds s ts → (∀ x ∈ posts ts, s'.rw x = s.rw x) → (∀ x ∈ posts ts, s'.nx x = s.nx x) → Rds s' ts
  | [], _, _, _ => trivial
  | t :: ts, h, h1, h2 => by
    rw [Rds] at h ⊢
    rw [posts] at h1 h2
    exact ⟨Rd.keep t h.1 (fun x hx => h1 x (by simp [hx])) (fun x hx => h2 x (by simp [posts_post x hx])), Rds.keep ts h.2 (fun x hx => h1 x (by simp [hx])) (fun x hx => h2 x (by simp [hx]))⟩
end
theorem map_keep {f g : Nat → Hd} : ∀ t : RT Nat, (∀ x ∈ post t, f x = g x) → map f t = map g t := by
  intro t
  have : ∀ n, (∀ t : RT Nat, size t ≤ n → (∀ x ∈ post t, f x = g x) → map f t = map g t) := by
    intro n
    induction n with
    | zero => intro t ht; have := size_pos t; omega
    | succ n ih =>
      intro t ht h
      cases t with
      | mk a ks =>
        rw [map, map, h a (by simp [post])]
        congr 1
        rw [maps_eq, maps_eq]
        refine List.map_congr_left fun k hk => ih k ?_ fun x hx => h x ?_
        · rw [size] at ht
          have : size k ≤ sizes ks := by
            have : ∀ {l : List (RT Nat)}, k ∈ l → size k ≤ sizes l := by
              intro l
              induction l with
              | nil => intro h; cases h
              | cons a l ih =>
                intro h
                rw [sizes]
                rcases List.mem_cons.1 h with rfl | h
                · omega
                · have := ih h
                  omega
            exact this hk
          omega
        · rw [post, posts_eq]
          exact List.mem_append_left _ (List.mem_flatMap.2 ⟨k, hk, hx⟩)
  exact this (size t) t (Nat.le_refl _)

theorem last_some {l : List Nat} (h : l ≠ []) : ∃ a, l.getLast? = some a := by
  cases h2 : l.getLast? with
  | none => exact absurd (List.getLast?_eq_none_iff.1 h2) h
  | some a => exact ⟨a, rfl⟩
abbrev Srt (l : List Nat) : Prop := l.Pairwise (· < ·)
theorem Srt.nodup {l : List Nat} (h : Srt l) : l.Nodup := h.imp fun h => Nat.ne_of_lt h
/-- The inner ones of a list of trees. -/
def inner (ts : List (RT Nat)) : List Nat := ts.flatMap fun t => posts (kidsR t)
theorem posts_perm (ts : List (RT Nat)) : (posts ts).Perm (tops ts ++ inner ts) := by
  induction ts with
  | nil => exact .refl _
  | cons t ts ih =>
    rw [posts]
    have h1 : (post t).Perm (top t :: posts (kidsR t)) := by
      cases t with
      | mk a ks => exact List.perm_append_singleton a (posts ks)
    have h2 : tops (t :: ts) ++ inner (t :: ts) = top t :: (tops ts ++ (posts (kidsR t) ++ inner ts)) := by simp [tops, inner]
    rw [h2]
    refine (h1.append ih).trans ?_
    refine .cons _ ?_
    show (posts (kidsR t) ++ (tops ts ++ inner ts)).Perm _
    rw [← List.append_assoc, ← List.append_assoc]
    exact (List.perm_append_comm).append_right _
theorem inner_no {ts : List (RT Nat)} (h : (posts ts).Nodup) {a : Nat} (ha : a ∈ tops ts) : ∀ t ∈ ts, ∀ x ∈ posts (kidsR t), x ≠ a := by
  have h2 := ((posts_perm ts).nodup_iff).1 h
  intro t ht x hx e
  subst e
  exact (List.nodup_append.1 h2).2.2 x ha x (List.mem_flatMap.2 ⟨t, ht, hx⟩) rfl
theorem posts_append (a b : List (RT Nat)) : posts (a ++ b) = posts a ++ posts b := by simp [posts_eq]
theorem tops_append (a b : List (RT Nat)) : tops (a ++ b) = tops a ++ tops b := by simp [tops]

theorem chn_append {nx : Nat → Nat} : ∀ {l m : List Nat}, Chn nx l → Chn nx m → (∀ a b, l.getLast? = some a → m.head? = some b → nx a = b) → Chn nx (l ++ m)
  | [], _, _, hm, _ => hm
  | [a], [], _, _, _ => trivial
  | [a], b :: m, _, hm, h => ⟨h a b rfl rfl, hm⟩
  | a :: b :: l, m, hl, hm, h => ⟨hl.1, chn_append (l := b :: l) hl.2 hm fun x y hx hy => h x y (by simpa using hx) hy⟩
theorem chn_last {nx : Nat → Nat} {v : Nat} : ∀ {l : List Nat} {a : Nat}, Chn nx l → l.Nodup → l.getLast? = some a → Chn (upd nx a v) l
  | [], _, _, _, _ => trivial
  | [_], _, _, _, _ => trivial
  | x :: y :: l, a, h, hn, ha => by
    have ha' : (y :: l).getLast? = some a := by simpa using ha
    rw [List.nodup_cons] at hn
    have hne : x ≠ a := fun e => hn.1 (e ▸ List.mem_of_getLast? ha')
    exact ⟨by rw [upd_ne _ _ hne]; exact h.1, chn_last h.2 hn.2 ha'⟩

/-- What is gathered, as trees of numbers. -/
def pti (s : St) (wi : Nat) (t : RT Nat) : List (RT Nat) := if opens (s.hd (top t)).kind wi = true then kidsR t else [t]
def gti (s : St) (wi : Nat) (ts : List (RT Nat)) : List (RT Nat) := ts.flatMap (pti s wi)
theorem pti_posts (s : St) (wi : Nat) (t : RT Nat) : (posts (pti s wi t)).Sublist (post t) := by
  unfold pti
  split
  · cases t with
    | mk a ks => rw [post]; exact List.sublist_append_left _ _
  · simp [posts]
theorem gti_posts (s : St) (wi : Nat) (ts : List (RT Nat)) : (posts (gti s wi ts)).Sublist (posts ts) := by
  induction ts with
  | nil => exact .refl _
  | cons t ts ih =>
    have : gti s wi (t :: ts) = pti s wi t ++ gti s wi ts := by simp [gti]
    rw [this, posts_append, posts]
    exact (pti_posts s wi t).append ih

structure Gat (s : St) (F : List (RT Nat)) (g : Rw × (Nat → Nat)) : Prop where
  row : Row g.2 g.1 (tops F)
  rds : Rds ⟨s.hd, s.is, s.rw, g.2⟩ F
  out : ∀ x, x ∉ tops F → g.2 x = s.nx x

theorem gat_go {s : St} {wi : Nat} : ∀ (ts : List (RT Nat)) (ks : List Nat) (F : List (RT Nat)) (g : Rw × (Nat → Nat)), ks.map s.is = tops ts → Rds s ts → Srt (posts F ++ posts ts) → Gat s F g →
    Gat s (F ++ gti s wi ts) (ks.foldl (fun a k => putF a (partF s wi k)) g)
  | [], ks, F, g, hk, _, _, hg => by
    have : ks = [] := by simpa [tops] using hk
    subst this
    simpa [gti] using hg
  | t :: ts, ks, F, g, hk, hr, hs, hg => by
    cases ks with
    | nil => simp [tops] at hk
    | cons k ks =>
    have hk0 : s.is k = top t := by simp [tops] at hk; exact hk.1
    have hk1 : ks.map s.is = tops ts := by simp [tops] at hk; exact hk.2
    rw [Rds] at hr
    rw [posts] at hs
    obtain ⟨s1, s2, s3⟩ := List.pairwise_append.1 hs
    obtain ⟨s4, s5, s6⟩ := List.pairwise_append.1 s2
    have hP := pti_posts s wi t
    have hsF : Srt (posts (F ++ pti s wi t)) := by
      rw [posts_append]
      exact List.pairwise_append.2 ⟨s1, List.Pairwise.sublist hP s4, fun a ha b hb => s3 a ha b (by simp [hP.subset hb])⟩
    have hdis : ∀ x ∈ post t, x ∉ tops F := fun x hx h => by
      have := s3 x (tops_posts x h) x (by simp [hx])
      omega
    have hnx : ∀ x ∈ post t, g.2 x = s.nx x := fun x hx => hg.out x (hdis x hx)
    -- the part's row
    have hrow : Row g.2 (partF s wi k) (tops (pti s wi t)) := by
      unfold partF pti
      rw [hk0]
      split
      · have hr1 := hr.1
        cases t with
        | mk a us =>
          rw [Rd] at hr1
          exact hr1.1.keep fun x hx => hnx x (by rw [post]; exact List.mem_append_left _ (tops_posts x hx))
      · exact ⟨rfl, fun a ha => by simpa [tops] using ha, fun a ha => by simpa [tops] using ha, trivial⟩
    have hrd : Rds ⟨s.hd, s.is, s.rw, g.2⟩ (pti s wi t) := by
      have h0 : Rds s (pti s wi t) := by
        unfold pti
        split
        · have hr1 := hr.1
          cases t with
          | mk a us => rw [Rd] at hr1; exact hr1.2
        · exact ⟨hr.1, trivial⟩
      exact Rds.keep _ h0 (fun _ _ => rfl) fun x hx => hnx x (hP.subset hx)
    have hgo : Gat s (F ++ pti s wi t) (putF g (partF s wi k)) := by
      generalize partF s wi k = r at hrow
      generalize pti s wi t = P at hP hsF hrow hrd
      unfold putF
      split
      · rename_i h0
        have : P = [] := by
          have := hrow.many
          rw [h0] at this
          have : (tops P).length = 0 := this.symm
          simpa [tops] using this
        subst this
        simpa using hg
      · split
        · rename_i h0
          have : F = [] := by
            have := hg.row.many
            rw [h0] at this
            have : (tops F).length = 0 := this.symm
            simpa [tops] using this
          subst this
          exact ⟨hrow, hrd, fun x hx => hg.out x (by simp [tops])⟩
        · rename_i hr0 ha0
          have hP0 : tops P ≠ [] := fun e => hr0 (by rw [hrow.many, e]; rfl)
          have hF0 : tops F ≠ [] := fun e => ha0 (by rw [hg.row.many, e]; rfl)
          obtain ⟨la, hla⟩ := last_some hF0
          obtain ⟨fb, hfb⟩ : ∃ b, (tops P).head? = some b := by
            cases h : tops P with
            | nil => exact absurd h hP0
            | cons b l => exact ⟨b, rfl⟩
          have e1 := hg.row.last la hla
          have e2 := hrow.first fb hfb
          have hlaF : la ∈ tops F := List.mem_of_getLast? hla
          have hndF : (posts F).Nodup := Srt.nodup s1
          have hlaP : ∀ x ∈ posts P, x ≠ la := fun x hx e => by
            rw [posts_append] at hsF
            have := (List.pairwise_append.1 hsF).2.2 la (tops_posts la hlaF) x hx
            omega
          have hndt : (tops F).Nodup := by
            have := ((posts_perm F).nodup_iff).1 hndF
            exact (List.nodup_append.1 this).1
          rw [e1, e2]
          refine ⟨⟨?_, ?_, ?_, ?_⟩, ?_, ?_⟩
          · show g.1.many + r.many = _
            rw [tops_append, List.length_append, ← hg.row.many, ← hrow.many]
          · intro a ha
            rw [tops_append] at ha
            show g.1.first = a
            refine hg.row.first a ?_
            cases h : tops F with
            | nil => exact absurd h hF0
            | cons x l => rw [h] at ha; simpa using ha
          · intro a ha
            obtain ⟨lb, hlb⟩ := last_some hP0
            rw [tops_append, List.getLast?_append, hlb] at ha
            have e : lb = a := by simpa using ha
            exact hrow.last a (e ▸ hlb)
          · rw [tops_append]
            refine chn_append (chn_last hg.row.chn hndt hla) (hrow.chn.keep fun x hx => upd_ne _ _ (hlaP x (tops_posts x hx))) fun a b ha hb => ?_
            rw [hla] at ha
            rw [hfb] at hb
            cases ha
            cases hb
            exact upd_at _ _ _
          · refine Rds_iff.2 fun u hu => ?_
            rcases List.mem_append.1 hu with hu | hu
            · refine Rd.keep u (Rds_iff.1 hg.rds u hu) (fun _ _ => rfl) fun x hx => upd_ne _ _ ?_
              exact inner_no hndF hlaF u hu x hx
            · refine Rd.keep u (Rds_iff.1 hrd u hu) (fun _ _ => rfl) fun x hx => upd_ne _ _ (hlaP x ?_)
              rw [posts_eq]
              exact List.mem_flatMap.2 ⟨u, hu, posts_post x hx⟩
          · intro x hx
            rw [tops_append, List.mem_append] at hx
            show upd g.2 la fb x = s.nx x
            rw [upd_ne _ _ fun e => hx (.inl (by rw [e]; exact hlaF))]
            exact hg.out x fun h => hx (.inl h)
    have hfold : (k :: ks).foldl (fun a k => putF a (partF s wi k)) g = ks.foldl (fun a k => putF a (partF s wi k)) (putF g (partF s wi k)) := rfl
    have happ : F ++ gti s wi (t :: ts) = (F ++ pti s wi t) ++ gti s wi ts := by simp [gti]
    rw [hfold, happ]
    refine gat_go ts ks _ _ hk1 hr.2 ?_ hgo
    rw [posts_append]
    refine List.pairwise_append.2 ⟨by rw [← posts_append]; exact hsF, s5, fun a ha b hb => ?_⟩
    rcases List.mem_append.1 ha with ha | ha
    · exact s3 a ha b (by simp [hb])
    · exact s6 a (hP.subset ha) b hb
theorem gat_all {s : St} {wi : Nat} {ts : List (RT Nat)} {ks : List Nat} (hk : ks.map s.is = tops ts) (hr : Rds s ts) (hs : Srt (posts ts)) : Gat s (gti s wi ts) (gatF s wi ks) := by
  have := gat_go (wi := wi) ts ks [] (rw0, s.nx) hk hr (by simpa [posts] using hs) ⟨⟨rfl, fun _ h => by simp [tops] at h, fun _ h => by simp [tops] at h, trivial⟩, trivial, fun _ _ => rfl⟩
  rw [List.nil_append] at this
  exact this
end Go.Proofs.YtpkjfdgjmcphmaaDoor.Tm

/- Package expr: the maker's steps come to the tree made normal. Of no program. -/
namespace Go.Proofs.YtpkjfdgjmcphmaaDoor.Tm

theorem map_top {α β : Type} (f : α → β) (t : RT α) : top (map f t) = f (top t) := by cases t; rfl
theorem map_kids {α β : Type} (f : α → β) (t : RT α) : kidsR (map f t) = (kidsR t).map (map f) := by
  cases t
  rw [map, kidsR, kidsR, maps_eq]
theorem pti_pt (s : St) (wi : Nat) (t : RT Nat) : (pti s wi t).map (map s.hd) = pt wi (map s.hd t) := by
  unfold pti pt kd
  rw [map_top]
  split
  · rw [map_kids]
  · rfl
theorem gti_gat (s : St) (wi : Nat) (ts : List (RT Nat)) : (gti s wi ts).map (map s.hd) = gat wi (ts.map (map s.hd)) := by
  unfold gti gat
  rw [List.map_flatMap, List.flatMap_map]
  exact congrArg (fun f => List.flatMap f ts) (funext fun t => pti_pt s wi t)

/-- What stands ready when a node is worked at. -/
structure Rdy (s : St) (ks : List Nat) (ts : List (RT Nat)) (i : Nat) : Prop where
  is : ks.map s.is = tops ts
  rds : Rds s ts
  srt : Srt (posts ts)
  low : ∀ x ∈ posts ts, x < i
structure SameAt (s s' : St) (x : Nat) : Prop where
  hd : s'.hd x = s.hd x
  is : s'.is x = s.is x
  rw : s'.rw x = s.rw x
  nx : s'.nx x = s.nx x
theorem SameAt.trans {s s' s'' : St} {x : Nat} (h : SameAt s s' x) (h' : SameAt s' s'' x) : SameAt s s'' x := ⟨h'.hd.trans h.hd, h'.is.trans h.is, h'.rw.trans h.rw, h'.nx.trans h.nx⟩
/-- What a node has come to. -/
structure Come (s : St) (k : Nat) (T : RT Nat) (N : RT Hd) : Prop where
  is : s.is k = top T
  rd : Rd s T
  map : Tm.map s.hd T = N
  srt : Srt (post T)

theorem step_good {s : St} {i : Nat} {h : Hd} {ks : List Nat} {ts : List (RT Nat)} (hr : Rdy s ks ts i) (hhd : s.hd i = h) (hrw : s.rw i = rw0) (hleaf : h.kind < 4 → ks = []) :
    (∃ T, Come (comeF s i (gatF s h.kind ks)) i T (cm h (ts.map (map s.hd))) ∧ ∀ x ∈ post T, x = i ∨ x ∈ posts ts) ∧ ∀ x, x ≠ i → x ∉ posts ts → SameAt s (comeF s i (gatF s h.kind ks)) x := by
  have G := gat_all (wi := h.kind) hr.is hr.rds hr.srt
  have hsub := gti_posts s h.kind ts
  have hgg := gti_gat s h.kind ts
  obtain ⟨F, hF⟩ : ∃ F, F = gti s h.kind ts := ⟨_, rfl⟩
  obtain ⟨g, hg⟩ : ∃ g, g = gatF s h.kind ks := ⟨_, rfl⟩
  rw [← hF, ← hg] at G
  rw [← hF] at hsub hgg
  rw [← hg]
  have hlow : ∀ x ∈ posts F, x < i := fun x hx => hr.low x (hsub.subset hx)
  have hsrt : Srt (posts F) := List.Pairwise.sublist hsub hr.srt
  have hout : ∀ x, x ∉ posts ts → g.2 x = s.nx x := fun x hx => G.out x fun h => hx (hsub.subset (tops_posts x h))
  have hmany : g.1.many = F.length := by rw [G.row.many]; simp [tops]
  have node : ∀ (hd' : Nat → Hd) (rw' : Nat → Rw) (is' : Nat → Nat), rw' i = g.1 → (∀ x, x ≠ i → rw' x = s.rw x) → (∀ x, hd' x = s.hd x) → is' i = i → Come ⟨hd', is', rw', g.2⟩ i (.mk i F) (.mk h (F.map (map s.hd))) ∧ ∀ x ∈ post (.mk i F), x = i ∨ x ∈ posts ts := by
    intro hd' rw' is' h1 h2 h3 h4
    refine ⟨⟨h4, ?_, ?_, ?_⟩, fun x hx => ?_⟩
    · rw [Rd]
      refine ⟨by show Row g.2 (rw' i) _; rw [h1]; exact G.row, Rds.keep F G.rds (fun x hx => ?_) fun _ _ => rfl⟩
      exact h2 x (by have := hlow x hx; omega)
    · have e : hd' = s.hd := funext h3
      show map hd' (.mk i F) = _
      rw [e, map, hhd, maps_eq]
    · rw [post]
      refine List.pairwise_append.2 ⟨hsrt, List.pairwise_singleton _ _, fun a ha b hb => ?_⟩
      rw [List.mem_singleton.1 hb]
      exact hlow a ha
    · rw [post, List.mem_append, List.mem_singleton] at hx
      rcases hx with hx | hx
      · exact .inr (hsub.subset hx)
      · exact .inl hx
  have leaf : ∀ (hd' : Nat → Hd) (is' : Nat → Nat) (h' : Hd), hd' i = h' → is' i = i → Come ⟨hd', is', s.rw, g.2⟩ i (.mk i []) (.mk h' []) ∧ ∀ x ∈ post (.mk i []), x = i ∨ x ∈ posts ts := by
    intro hd' is' h' h1 h2
    refine ⟨⟨h2, ?_, ?_, ?_⟩, fun x hx => ?_⟩
    · rw [Rd]
      refine ⟨?_, trivial⟩
      show Row g.2 (s.rw i) []
      rw [hrw]
      exact ⟨rfl, fun _ h => by simp at h, fun _ h => by simp at h, trivial⟩
    · show map hd' (.mk i []) = _
      rw [map, h1]
      rfl
    · simp [post, posts]
    · exact .inl (by simpa [post, posts] using hx)
  unfold comeF
  rw [hhd]
  by_cases h4 : h.kind = 4
  · rw [if_pos h4]
    have hc : cm h (ts.map (map s.hd)) = some1 (F.map (map s.hd)) (.mk noHd []) (.mk h) := by
      unfold cm
      rw [if_pos h4, hgg, h4]
    rw [hc]
    by_cases m0 : g.1.many = 0
    · rw [if_pos m0]
      have : F = [] := List.eq_nil_of_length_eq_zero (by omega)
      rw [this]
      exact ⟨⟨.mk i [], leaf _ _ noHd (upd_at _ _ _) (upd_at _ _ _)⟩, fun x hx hp => ⟨upd_ne _ _ hx, upd_ne _ _ hx, rfl, hout x hp⟩⟩
    · rw [if_neg m0]
      by_cases m1 : g.1.many = 1
      · rw [if_pos m1]
        obtain ⟨x, hx⟩ : ∃ x, F = [x] := by
          match F, hmany with
          | [x], _ => exact ⟨x, rfl⟩
          | [], hm => simp at hm; omega
          | _ :: _ :: _, hm => simp at hm; omega
        rw [hx] at hsrt hsub G
        rw [hx]
        rw [posts, posts, List.append_nil] at hsrt hsub
        refine ⟨⟨x, ⟨?_, ?_, rfl, hsrt⟩, fun y hy => .inr (hsub.subset hy)⟩, fun y hy hp => ⟨rfl, upd_ne _ _ hy, rfl, hout y hp⟩⟩
        · show upd s.is i g.1.first i = _
          rw [upd_at]
          exact G.row.first _ rfl
        · exact Rd.keep x G.rds.1 (fun _ _ => rfl) fun _ _ => rfl
      · rw [if_neg m1, some1_self (by rw [List.length_map]; omega)]
        exact ⟨⟨.mk i F, node _ _ _ (upd_at _ _ _) (fun x hx => upd_ne _ _ hx) (fun _ => rfl) (upd_at _ _ _)⟩, fun x hx hp => ⟨rfl, upd_ne _ _ hx, upd_ne _ _ hx, hout x hp⟩⟩
  · rw [if_neg h4]
    have hc : cm h (ts.map (map s.hd)) = .mk h (F.map (map s.hd)) := by
      unfold cm
      rw [if_neg h4, hgg]
    rw [hc]
    by_cases h5 : 4 < h.kind
    · rw [if_pos h5]
      exact ⟨⟨.mk i F, node _ _ _ (upd_at _ _ _) (fun x hx => upd_ne _ _ hx) (fun _ => rfl) (upd_at _ _ _)⟩, fun x hx hp => ⟨rfl, upd_ne _ _ hx, upd_ne _ _ hx, hout x hp⟩⟩
    · rw [if_neg h5]
      have hk := hleaf (by omega)
      have ht : ts = [] := by
        have := hr.is
        rw [hk] at this
        cases ts with
        | nil => rfl
        | cons t r => simp [tops] at this
      have : F = [] := by rw [hF, ht]; rfl
      rw [this]
      exact ⟨⟨.mk i [], leaf _ _ h hhd (upd_at _ _ _)⟩, fun x hx hp => ⟨rfl, upd_ne _ _ hx, rfl, hout x hp⟩⟩

theorem come_hd (s : St) (i x : Nat) (g : Rw × (Nat → Nat)) (h : x ≠ i) : (comeF s i g).hd x = s.hd x ∧ (comeF s i g).rw x = s.rw x := by
  unfold comeF
  split
  · split
    · exact ⟨upd_ne _ _ h, rfl⟩
    · split
      · exact ⟨rfl, rfl⟩
      · exact ⟨rfl, upd_ne _ _ h⟩
  · split
    · exact ⟨rfl, upd_ne _ _ h⟩
    · exact ⟨rfl, rfl⟩
theorem stF_new (A : List Nd) : ∀ i x, i ≤ x → (stF A i).hd x = hdAt A x ∧ (stF A i).rw x = rw0
  | 0, _, _ => ⟨rfl, rfl⟩
  | i + 1, x, h => by
    have h1 := stF_new A i x (by omega)
    have h2 := come_hd (stF A i) i x (gatF (stF A i) ((stF A i).hd i).kind (kidsN A i)) (by omega)
    exact ⟨h2.1.trans h1.1, h2.2.trans h1.2⟩
theorem Come.keep {s s' : St} {k : Nat} {T : RT Nat} {N : RT Hd} (h : Come s k T N) (hk : s'.is k = s.is k) (hT : ∀ x ∈ post T, SameAt s s' x) : Come s' k T N :=
  ⟨hk.trans h.is, Rd.keep T h.rd (fun x hx => (hT x hx).rw) (fun x hx => (hT x (posts_post x hx)).nx), (map_keep T fun x hx => (hT x hx).hd).trans h.map, h.srt⟩

structure Ran (A : List Nd) (b e : Nat) : Prop where
  out : ∀ x, x < b → SameAt (stF A b) (stF A e) x
  rdy : ∀ i, b ≤ i → i < e → ∃ ts, Rdy (stF A i) (kidsN A i) ts i
theorem fits_leaf {h : Hd} {m : Int} (hf : fits h m = true) (hk : h.kind < 4) : m = 0 := by
  unfold fits at hf
  match hkk : h.kind, hk with
  | 0, _ => rw [hkk] at hf; simp at hf; exact hf.2
  | 1, _ => rw [hkk] at hf; simp at hf; exact hf.2
  | 2, _ => rw [hkk] at hf; simp at hf; exact hf.1.2
  | 3, _ => rw [hkk] at hf; simp at hf; exact hf.1.2
mutual
theorem run_good (A : List Nd) : ∀ (t : RT Hd) (b : Nat), fitT t = true → (∀ a, a < size t → A[b + a]? = (flatAt b t)[a]?) →
    (∃ T, Come (stF A (b + size t)) (b + size t - 1) T (nrm t) ∧ ∀ x ∈ post T, b ≤ x ∧ x < b + size t) ∧ Ran A b (b + size t)
  | .mk h ks, b, hf, hA => by
    rw [fitT, Bool.and_eq_true] at hf
    rw [size] at hA ⊢
    have hfl : flatAt b (.mk h ks) = flatsAt b ks ++ [⟨h, roots b ks⟩] := rfl
    rw [hfl] at hA
    obtain ⟨⟨Ts, h1, h2, h3, h4, h5⟩, hR⟩ := runs_good A ks b hf.2 fun a ha => by
      rw [hA a (by omega), List.getElem?_append_left (by rw [flats_len]; exact ha)]
    obtain ⟨i, hi⟩ : ∃ i, i = b + sizes ks := ⟨_, rfl⟩
    have hAi : A[i]? = some ⟨h, roots b ks⟩ := by
      rw [hi, hA (sizes ks) (by omega), List.getElem?_append_right (by rw [flats_len]; exact Nat.le_refl _), flats_len]
      simp
    have hK : kidsN A i = (roots b ks).map Int.toNat := kidsN_some hAi
    have hH : hdAt A i = h := hdAt_some hAi
    rw [← hi] at h1 h2 h3 h5 hR
    have hn := stF_new A i i (Nat.le_refl _)
    rw [hH] at hn
    have hrdy : Rdy (stF A i) (kidsN A i) Ts i := ⟨by rw [hK]; exact h1, h2, h4, fun x hx => (h5 x hx).2⟩
    have hleaf : h.kind < 4 → kidsN A i = [] := fun hk => by
      have := fits_leaf hf.1 hk
      have : ks = [] := List.eq_nil_of_length_eq_zero (by omega)
      rw [hK, this]
      rfl
    obtain ⟨⟨T, hC, hT⟩, hS⟩ := step_good hrdy hn.1 hn.2 hleaf
    have hstep : stF A (i + 1) = comeF (stF A i) i (gatF (stF A i) h.kind (kidsN A i)) := by
      show stepF A (stF A i) i = _
      unfold stepF
      rw [hn.1]
    rw [← hstep] at hC hS
    have e1 : b + (sizes ks + 1) = i + 1 := by omega
    rw [e1, Nat.add_sub_cancel]
    refine ⟨⟨T, ?_, fun x hx => ?_⟩, ⟨fun x hx => ?_, fun j hj1 hj2 => ?_⟩⟩
    · rw [nrm, ← h3]
      exact hC
    · rcases hT x hx with rfl | hx
      · omega
      · have := h5 x hx
        omega
    · exact (hR.out x hx).trans (hS x (by omega) fun hp => by have := h5 x hp; omega)
    · by_cases e : j = i
      · subst e
        exact ⟨Ts, hrdy⟩
      · exact hR.rdy j hj1 (by omega)
theorem runs_good (A : List Nd) : ∀ (ts : List (RT Hd)) (b : Nat), fitTs ts = true → (∀ a, a < sizes ts → A[b + a]? = (flatsAt b ts)[a]?) →
    (∃ Ts, ((roots b ts).map Int.toNat).map (stF A (b + sizes ts)).is = tops Ts ∧ Rds (stF A (b + sizes ts)) Ts ∧ Ts.map (map (stF A (b + sizes ts)).hd) = nrms ts ∧ Srt (posts Ts) ∧ ∀ x ∈ posts Ts, b ≤ x ∧ x < b + sizes ts) ∧ Ran A b (b + sizes ts)
  | [], b, _, _ => ⟨⟨[], rfl, trivial, rfl, List.Pairwise.nil, fun x hx => by simp [posts] at hx⟩, ⟨fun x _ => ⟨rfl, rfl, rfl, rfl⟩, fun i h1 h2 => by simp [sizes] at h2; omega⟩⟩
  | t :: ts, b, hf, hA => by
    rw [fitTs, Bool.and_eq_true] at hf
    rw [sizes] at hA ⊢
    have hfl : flatsAt b (t :: ts) = flatAt b t ++ flatsAt (b + size t) ts := rfl
    rw [hfl] at hA
    obtain ⟨⟨T, hC, hT⟩, hR⟩ := run_good A t b hf.1 fun a ha => by
      rw [hA a (by omega), List.getElem?_append_left (by rw [flat_len]; exact ha)]
    obtain ⟨⟨Ts, h1, h2, h3, h4, h5⟩, hR2⟩ := runs_good A ts (b + size t) hf.2 fun a ha => by
      have := hA (size t + a) (by omega)
      rw [List.getElem?_append_right (by rw [flat_len]; omega), flat_len, Nat.add_sub_cancel_left, ← Nat.add_assoc] at this
      exact this
    rw [Nat.add_assoc] at h1 h2 h3 h5 hR2
    have hsp := size_pos t
    have hC2 : Come (stF A (b + (size t + sizes ts))) (b + size t - 1) T (nrm t) := hC.keep (hR2.out _ (by omega)).is fun x hx => hR2.out x (hT x hx).2
    refine ⟨⟨T :: Ts, ?_, ⟨hC2.rd, h2⟩, ?_, ?_, fun x hx => ?_⟩, ⟨fun x hx => ?_, fun j hj1 hj2 => ?_⟩⟩
    · have hr : roots b (t :: ts) = ((b + size t - 1 : Nat) : Int) :: roots (b + size t) ts := rfl
      have ht : tops (T :: Ts) = top T :: tops Ts := rfl
      rw [hr, ht, List.map_cons, List.map_cons, h1, Int.toNat_natCast, hC2.is]
    · rw [List.map_cons, nrms, hC2.map, h3]
    · rw [posts]
      exact List.pairwise_append.2 ⟨hC2.srt, h4, fun a ha c hc => by have := hT a ha; have := h5 c hc; omega⟩
    · rw [posts, List.mem_append] at hx
      rcases hx with hx | hx
      · have := hT x hx
        omega
      · have := h5 x hx
        omega
    · exact (hR.out x hx).trans (hR2.out x (by omega))
    · by_cases e : j < b + size t
      · exact hR.rdy j hj1 e
      · exact hR2.rdy j (by omega) (by omega)
end
theorem made_good {t : RT Hd} (h : fitT t = true) : (∃ T, Come (stF (flat t) (size t)) (size t - 1) T (nrm t) ∧ ∀ x ∈ post T, x < size t) ∧ ∀ i, i < size t → ∃ ts, Rdy (stF (flat t) i) (kidsN (flat t) i) ts i := by
  obtain ⟨⟨T, h1, h2⟩, h3⟩ := run_good (flat t) t 0 h fun a _ => by rw [Nat.zero_add]; rfl
  rw [Nat.zero_add] at h1 h2 h3
  exact ⟨⟨T, h1, fun x hx => (h2 x hx).2⟩, fun i hi => h3.rdy i (Nat.zero_le _) hi⟩

/- ## Rows that are followed -/
def follow (nx : Nat → Nat) : Nat → Nat → List Nat
  | 0, _ => []
  | m + 1, a => a :: follow nx m (nx a)
def KF (s : St) (p : Nat) : List Nat := follow s.nx (s.rw p).many (s.rw p).first
theorem follow_chn {nx : Nat → Nat} : ∀ (l : List Nat) (a : Nat), Chn nx (a :: l) → follow nx (l.length + 1) a = a :: l
  | [], _, _ => rfl
  | b :: l, a, h => by
    rw [List.length_cons, follow, h.1, follow_chn l b h.2]
theorem row_follow {nx : Nat → Nat} {r : Rw} {l : List Nat} (h : Row nx r l) : follow nx r.many r.first = l := by
  cases l with
  | nil => rw [h.many]; rfl
  | cons a l => rw [h.many, h.first a rfl]; exact follow_chn l a h.chn
mutual
theorem rd_par : ∀ T : RT Nat, ∀ s : St, Rd s T → Srt (post T) → (∀ x ∈ post T, ∀ k ∈ KF s x, k ∈ post T ∧ k < x) ∧ ∀ x ∈ post T, x ≠ top T → ∃ y ∈ post T, x ∈ KF s y
  | .mk p ts, s, h, hs => by
    rw [Rd] at h
    have hk : KF s p = tops ts := row_follow h.1
    rw [post] at hs ⊢
    obtain ⟨s1, _, s2⟩ := List.pairwise_append.1 hs
    obtain ⟨h1, h2⟩ := rds_par ts s h.2 s1
    refine ⟨fun x hx k hk' => ?_, fun x hx hne => ?_⟩
    · rw [List.mem_append, List.mem_singleton] at hx
      rcases hx with hx | rfl
      · have := h1 x hx k hk'
        exact ⟨List.mem_append_left _ this.1, this.2⟩
      · rw [hk] at hk'
        have := tops_posts k hk'
        exact ⟨List.mem_append_left _ this, s2 k this x (by simp)⟩
    · rw [List.mem_append, List.mem_singleton] at hx
      rcases hx with hx | hx
      · rcases h2 x hx with h3 | ⟨y, hy, h3⟩
        · exact ⟨p, by simp, by rw [hk]; exact h3⟩
        · exact ⟨y, List.mem_append_left _ hy, h3⟩
      · exact absurd hx hne
theorem rds_par : ∀ ts : List (RT Nat), ∀ s : St, Rds s ts → Srt (posts ts) → (∀ x ∈ posts ts, ∀ k ∈ KF s x, k ∈ posts ts ∧ k < x) ∧ ∀ x ∈ posts ts, x ∈ tops ts ∨ ∃ y ∈ posts ts, x ∈ KF s y
  | [], _, _, _ => ⟨fun x hx => by simp [posts] at hx, fun x hx => by simp [posts] at hx⟩
  | t :: ts, s, h, hs => by
    rw [Rds] at h
    rw [posts] at hs ⊢
    obtain ⟨s1, s2, _⟩ := List.pairwise_append.1 hs
    obtain ⟨h1, h2⟩ := rd_par t s h.1 s1
    obtain ⟨h3, h4⟩ := rds_par ts s h.2 s2
    refine ⟨fun x hx k hk => ?_, fun x hx => ?_⟩
    · rcases List.mem_append.1 hx with hx | hx
      · have := h1 x hx k hk
        exact ⟨List.mem_append_left _ this.1, this.2⟩
      · have := h3 x hx k hk
        exact ⟨List.mem_append_right _ this.1, this.2⟩
    · rcases List.mem_append.1 hx with hx | hx
      · by_cases e : x = top t
        · exact .inl (by simp [tops, e])
        · obtain ⟨y, hy, h5⟩ := h2 x hx e
          exact .inr ⟨y, List.mem_append_left _ hy, h5⟩
      · rcases h4 x hx with h5 | ⟨y, hy, h5⟩
        · exact .inl (by simp only [tops, List.map_cons] at h5 ⊢; exact List.mem_cons_of_mem _ h5)
        · exact .inr ⟨y, List.mem_append_right _ hy, h5⟩
end
mutual
theorem out_flat (s : St) (p : Nat → Nat) : ∀ (T : RT Nat) (b : Nat), Rd s T → (post T).map p = List.range' b (size T) →
    (post T).map (fun j => (⟨s.hd j, (KF s j).map fun k => (p k : Int)⟩ : Nd)) = flatAt b (map s.hd T) ∧ p (top T) = b + size T - 1
  | .mk a ts, b, h, hp => by
    rw [Rd] at h
    have hk : KF s a = tops ts := row_follow h.1
    rw [post, List.map_append, size, ← range'_cat] at hp
    obtain ⟨h1, h2⟩ := List.append_inj' hp (by simp)
    have h3 := outs_flat s p ts b h.2 h1
    refine ⟨?_, ?_⟩
    · rw [post, List.map_append, h3.1, List.map_singleton, hk, map, flatAt, maps_eq, ← h3.2]
    · have : p a = b + sizes ts := by simpa using h2
      show p a = _
      rw [this, size]
      omega
theorem outs_flat (s : St) (p : Nat → Nat) : ∀ (ts : List (RT Nat)) (b : Nat), Rds s ts → (posts ts).map p = List.range' b (sizes ts) →
    (posts ts).map (fun j => (⟨s.hd j, (KF s j).map fun k => (p k : Int)⟩ : Nd)) = flatsAt b (ts.map (map s.hd)) ∧ (tops ts).map (fun k => (p k : Int)) = roots b (ts.map (map s.hd))
  | [], _, _, _ => ⟨rfl, rfl⟩
  | t :: ts, b, h, hp => by
    rw [Rds] at h
    rw [posts, List.map_append, sizes, ← range'_cat] at hp
    obtain ⟨h1, h2⟩ := List.append_inj hp (by simp [post_len])
    have h3 := out_flat s p t b h.1 h1
    have h4 := outs_flat s p ts (b + size t) h.2 h2
    have ht : tops (t :: ts) = top t :: tops ts := rfl
    rw [posts, List.map_append, List.map_cons, flatsAt, roots, h3.1, size_map, h4.1, ht, List.map_cons, h4.2, h3.2]
    exact ⟨rfl, rfl⟩
end
end Go.Proofs.YtpkjfdgjmcphmaaDoor.Tm

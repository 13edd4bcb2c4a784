/- What each row of this seat wants: the table out of what the row lists; an argument that is a tree; the start that fits. -/
import Derived.Test.YtpkjfdgjmcphmaaDoorRows
import Derived.Test.YtpkjfdgjmcphmaaDoorTq
import Derived.Test.YtpkjfdgjmcphmaaDoorTz5
import Derived.ProofKit
import Derived.LaidMore
import Derived.OpenShut
import Derived.SizedLaws
import Derived.ChangeMaps5
import Derived.Deep.Slices
import Derived.Stop.Joined
import Derived.Laws.IdiomArrays
import Derived.Lib.SmallJoins
namespace Go.Proofs.YtpkjfdgjmcphmaaDoor
open Go.Deep Go.ChangeShapes Go.WideShapes Go.ChangeAt Go.WideMaps Go.WideElems Go.RowKit Bset Tm

theorem own : ownKnob Tryd.prog.godebug = none := by kernel_rfl
theorem laidOut : laidOutB Tryd.prog = true := by kernel_rfl
theorem cInt : Tryd.prog.cellsOf 3 = 1 := by kernel_rfl
theorem cU8 : Tryd.prog.cellsOf 5 = 1 := by kernel_rfl
theorem cU64 : Tryd.prog.cellsOf 33 = 1 := by kernel_rfl
theorem cStr : Tryd.prog.cellsOf 9 = 1 := by kernel_rfl
theorem cBytes : Tryd.prog.cellsOf 35 = 4 := by kernel_rfl
theorem cInts : Tryd.prog.cellsOf 36 = 1 := by kernel_rfl
theorem cNodes : Tryd.prog.cellsOf 24 = 1 := by kernel_rfl
theorem cNode : Tryd.prog.cellsOf 38 = 9 := by kernel_rfl
theorem cTree : Tryd.prog.cellsOf 26 = 2 := by kernel_rfl

theorem setN_of (S : Nat → Bool) : ∃ x : BitVec 256, ∀ n, n < 256 → setN x n = S n := by
  refine ⟨(BitVec.ofBoolListLE ((List.range 256).map S)).cast (by simp), fun n hn => ?_⟩
  show BitVec.getLsbD _ n = _
  rw [BitVec.getLsbD_cast, BitVec.getLsbD_ofBoolListLE]
  simp [List.getD, hn]

theorem weightsAll_mem {H : Type} {P : Program} {e : TypeId} : ∀ {l : List (DataW H)} {d : DataW H}, d ∈ l → ∀ n ∈ d.weights P e, n ∈ DataW.weightsAll P e l
  | d' :: r, d, hd, n, hn => by
    simp only [DataW.weightsAll, List.mem_append]
    rcases List.mem_cons.1 hd with rfl | h
    · exact .inl hn
    · exact .inr (weightsAll_mem h n hn)

section
variable {H : Type} {enc : TypeId × Value → H} {W : World}

theorem at_add (b off i : Nat) : (⟨b, off, none⟩ : Addr).add i = ⟨b, off + i, none⟩ := by
  unfold Addr.add
  split
  · simp_all
  · rfl

set_option maxRecDepth 100000 in
theorem open_ints {n : Nat} {cs : List Value} {x : DataW H × List MemPlace} (h : DataW.trod enc Tryd.prog W 0 (fun _ => true) true n 36 cs = some x) : ∃ v l, cs = [v] ∧ Ints W v l := by
  rcases open_slice1 Tryd.underlying36 cInt h with ⟨rfl, _⟩ | ⟨a, len, cap, m, n, V, D, Pl, rfl, _, hl, _, hm, _, hx⟩
  · exact ⟨_, [], rfl, none, 0, rfl, .inl rfl⟩
  · simp only [if_true] at hm
    subst hm
    have key : ∀ i, i < len → ∃ k : Int, V i = .int .i64 k := fun i hi => by
      obtain ⟨k, e, _⟩ := DataW.trod_int Tryd.underlying3 (hx i (by omega)).2
      exact ⟨k, by simpa using e⟩
    obtain ⟨K, hK⟩ := choose_lt (α := Int) key
    refine ⟨_, (List.range len).map K, rfl, some a, m, by simp, ?_⟩
    by_cases hl0 : len = 0
    · subst hl0
      exact .inl rfl
    · obtain ⟨b, off, spot⟩ := a
      have hspot : spot = none := by simpa [Addr.add] using World.cell?_spot (hx 0 (by omega)).1
      subst hspot
      refine .inr ⟨b, off, rfl, fun j hj => ?_⟩
      have hj' : j < len := by simpa using hj
      have h1 := (hx j (by omega)).1
      rw [hK j hj', at_add] at h1
      simpa using h1

set_option maxRecDepth 100000 in
/-- A node that is read. -/
theorem open_node {n : Nat} {cs : List Value} {x : DataW H × List MemPlace} (h : DataW.trod enc Tryd.prog W 0 (fun _ => true) true n 38 cs = some x) (hw : ∀ k ∈ x.1.weights Tryd.prog 38, k ≤ reachBytes) :
    ∃ (nd : Nd) (kv : Value), cs = (nodeC nd.hd kv).toList ∧ Ints W kv nd.kids ∧ nd.hd.kind < 256 ∧ nd.hd.text.size ≤ 140737488355328 := by
  obtain ⟨xs, m, _, rfl, hl, hlen, hf⟩ := DataW.trod_struct Tryd.underlying38 h
  rw [cNode] at hl
  match xs, hlen, cs, hl with
  | [y0, y1, y2, y3, y4, y5], _, [a0, a1, a2, a3, a4, a5, a6, a7, a8], _ =>
    have h0 : DataW.trod enc Tryd.prog W 0 (fun _ => true) true m 5 [a0] = some y0 := hf 0 _ rfl
    have h1 : DataW.trod enc Tryd.prog W 0 (fun _ => true) true m 35 [a1, a2, a3, a4] = some y1 := hf 1 _ rfl
    have h2 : DataW.trod enc Tryd.prog W 0 (fun _ => true) true m 9 [a5] = some y2 := hf 2 _ rfl
    have h3 : DataW.trod enc Tryd.prog W 0 (fun _ => true) true m 3 [a6] = some y3 := hf 3 _ rfl
    have h4 : DataW.trod enc Tryd.prog W 0 (fun _ => true) true m 3 [a7] = some y4 := hf 4 _ rfl
    have h5 : DataW.trod enc Tryd.prog W 0 (fun _ => true) true m 36 [a8] = some y5 := hf 5 _ rfl
    obtain ⟨k, e0, _, w0⟩ := DataW.trod_int Tryd.underlying5 h0
    have b0 := bounds_u8 w0
    obtain ⟨z0, z1, z2, z3, m1, _, g0, g1, g2, g3⟩ := trod_array4 Tryd.underlying35 cU64 h1
    obtain ⟨k0, f0, _, v0⟩ := DataW.trod_int Tryd.underlying33 g0
    obtain ⟨k1, f1, _, v1⟩ := DataW.trod_int Tryd.underlying33 g1
    obtain ⟨k2, f2, _, v2⟩ := DataW.trod_int Tryd.underlying33 g2
    obtain ⟨k3, f3, _, v3⟩ := DataW.trod_int Tryd.underlying33 g3
    obtain ⟨s, e2, r2, hs⟩ := DataW.trod_string Tryd.underlying9 h2
    obtain ⟨lo, e3, _, _⟩ := DataW.trod_int Tryd.underlying3 h3
    obtain ⟨hi, e4, _, _⟩ := DataW.trod_int Tryd.underlying3 h4
    obtain ⟨kv, l, e5, hI⟩ := open_ints h5
    simp only [List.cons.injEq, and_true] at e0 f0 f1 f2 f3 e2 e3 e4 e5
    subst e0 f0 f1 f2 f3 e2 e3 e4 e5
    have b1 := bounds_u64 v0
    have b2 := bounds_u64 v1
    have b3 := bounds_u64 v2
    have b4 := bounds_u64 v3
    obtain ⟨S, r0, r1, r2', r3⟩ := ofWs b1.1 b1.2 b2.1 b2.2 b3.1 b3.2 b4.1 b4.2
    obtain ⟨set, hset⟩ := setN_of S
    obtain ⟨kn, rfl⟩ : ∃ kn : Nat, k = kn := ⟨k.toNat, by omega⟩
    refine ⟨⟨⟨kn, set, s, lo, hi⟩, l⟩, a8, ?_, hI, by show kn < 256; omega, ?_⟩
    · show _ = [_, _, _, _, _, _, _, _, _]
      rw [word_congr hset (by omega : 0 < 4), word_congr hset (by omega : 1 < 4), word_congr hset (by omega : 2 < 4), word_congr hset (by omega : 3 < 4), r0, r1, r2', r3]
    · have : s.data.toList.length ≤ reachBytes := hw _ (by
        rw [r2]
        simp [DataW.weights, Tryd.underlying38, DataW.weightsEach])
      have h47 := reachBytes_lt
      have hsz : s.data.toList.length = s.size := Array.length_toList
      show s.size ≤ _
      omega

abbrev okW (n : Nd) : Prop := n.hd.kind < 256 ∧ n.hd.text.size ≤ 140737488355328

set_option maxRecDepth 100000 in
theorem open_nodes {n : Nat} {cs : List Value} {x : DataW H × List MemPlace} (h : DataW.trod enc Tryd.prog W 0 (fun _ => true) true n 24 cs = some x) (hw : ∀ k ∈ x.1.weights Tryd.prog 24, k ≤ reachBytes) :
    ∃ v A, cs = [v] ∧ Nodes W v A ∧ ∀ n ∈ A, okW n := by
  rcases open_slice Tryd.underlying24 h with ⟨rfl, _⟩ | ⟨a, len, cap, m, n', D, Pl, rfl, _, hl, _, hm, rfl, hx⟩
  · exact ⟨_, [], rfl, ⟨none, 0, rfl, .inl rfl⟩, fun n hn => by cases hn⟩
  · simp only [if_true] at hm
    subst hm
    rw [cNode] at hx
    by_cases hl0 : len = 0
    · subst hl0
      exact ⟨_, [], rfl, ⟨some a, m, rfl, .inl rfl⟩, fun n hn => by cases hn⟩
    have hspot : a.spot = none := by
      obtain ⟨cs', h1, _⟩ := hx 0 (by omega)
      obtain ⟨_, _, hc⟩ := World.cells?_some h1
      have c0 := hc 0 (by omega)
      have hl9 : ∃ v, cs'[0]? = some v := ⟨_, List.getElem?_eq_getElem (by have := (World.cells?_some h1).2.1; omega)⟩
      obtain ⟨v, hv⟩ := hl9
      rw [hv] at c0
      simpa [Addr.add] using World.cell?_spot c0
    obtain ⟨b, off, spot⟩ := a
    dsimp only at hspot
    subst hspot
    have key : ∀ i, i < len → ∃ u : Nd × Value, NodeAt W b (off + i * 9) u.1.hd u.2 ∧ Ints W u.2 u.1.kids ∧ okW u.1 := fun i hi => by
      obtain ⟨cs', h1, h2⟩ := hx i (by omega)
      obtain ⟨nd, kv, rfl, hI, ho⟩ := open_node h2 (fun k hk => hw k (by
        have : D i ∈ (List.range len).map D := List.mem_map.2 ⟨i, List.mem_range.2 hi, rfl⟩
        simp only [DataW.weights, Tryd.underlying24]
        exact List.mem_cons_of_mem _ (List.mem_append_left _ (weightsAll_mem this k hk))))
      obtain ⟨_, _, hc⟩ := World.cells?_some h1
      rw [at_add] at hc
      simp only [at_add] at hc
      exact ⟨(nd, kv), ⟨hc 0 (by omega), hc 1 (by omega), hc 2 (by omega), hc 3 (by omega), hc 4 (by omega), hc 5 (by omega), hc 6 (by omega), hc 7 (by omega), hc 8 (by omega)⟩, hI, ho⟩
    haveI : Inhabited (Nd × Value) := ⟨(noNd, .bool false)⟩
    obtain ⟨U, hU⟩ := choose_lt (α := Nd × Value) key
    refine ⟨_, (List.range len).map fun i => (U i).1, rfl, ⟨some ⟨b, off, none⟩, m, by simp, .inr ⟨b, off, rfl, fun j hj => ?_⟩⟩, fun n hn => ?_⟩
    · have hj' : j < len := by simpa using hj
      obtain ⟨h1, h2, _⟩ := hU j hj'
      exact ⟨(U j).2, by simpa using h1, by simpa using h2⟩
    · obtain ⟨i, hi, rfl⟩ := List.mem_map.1 hn
      exact (hU i (List.mem_range.1 hi)).2.2

set_option maxRecDepth 100000 in
theorem open_tree_at {n : Nat} {cs : List Value} {x : DataW H × List MemPlace} (h : DataW.trod enc Tryd.prog W 0 (fun _ => true) true n 26 cs = some x) (hw : ∀ k ∈ x.1.weights Tryd.prog 26, k ≤ reachBytes) :
    ∃ v r A, cs = [v, .int .i64 r] ∧ Nodes W v A ∧ ∀ n ∈ A, okW n := by
  obtain ⟨y0, y1, m, rfl, hl, h0, h1⟩ := trod_struct2 Tryd.underlying26 h
  rw [cTree] at hl
  match cs, hl with
  | [a0, a1], _ =>
    have h0' : DataW.trod enc Tryd.prog W 0 (fun _ => true) true m 24 [a0] = some y0 := h0
    have h1' : DataW.trod enc Tryd.prog W 0 (fun _ => true) true m 3 [a1] = some y1 := h1
    obtain ⟨r, e1, _, _⟩ := DataW.trod_int Tryd.underlying3 h1'
    obtain ⟨v, A, e0, hN, hA⟩ := open_nodes h0' (fun k hk => hw k (by
      simp only [DataW.weights, Tryd.underlying26]
      simp [DataW.weightsEach, hk]))
    simp only [List.cons.injEq, and_true] at e0 e1
    subst e0 e1
    exact ⟨_, r, A, rfl, hN, hA⟩

set_option maxRecDepth 100000 in
/-- An argument that is a tree. -/
theorem open_tree {base : Nat} {v : Value} {d : DataW H} {p : List MemPlace} (hv : Value.okWide Tryd.prog W .any base 26 v) (h : DataW.Trod enc Tryd.prog W 0 (fun _ => true) true 26 v d p) (hw : ∀ k ∈ d.weights Tryd.prog 26, k ≤ reachBytes) :
    ∃ nv r A, v = treeV nv r ∧ Nodes W nv A ∧ ∀ n ∈ A, okW n := by
  obtain ⟨cs, rfl, hsz⟩ := okWide_struct Tryd.underlying26 hv
  obtain ⟨fuel, hf⟩ := h
  obtain ⟨nv, r, A, e, hN, hA⟩ := open_tree_at hf hw
  refine ⟨nv, r, A, ?_, hN, hA⟩
  have : cs.toList = [nv, .int .i64 r] := e
  obtain ⟨l⟩ := cs
  dsimp only at this
  rw [this]
end
end Go.Proofs.YtpkjfdgjmcphmaaDoor

/- Nodes and trees as values, and in memory. -/
import Derived.Test.YtpkjfdgjmcphmaaDoorTm2
import Derived.Test.YtpkjfdgjmcphmaaDoorCl
import Derived.Test.YtpkjfdgjmcphmaaDoorTsh
import Derived.Deep.OwnRows
import Derived.OwnWalk
namespace Go.Proofs.YtpkjfdgjmcphmaaDoor
open Go.RowKit Bset Tm

abbrev setN (x : BitVec 256) : Nat → Bool := fun n => x.getLsbD n

/-- A node's cells; kv: the value that its Kids are. -/
abbrev nodeC (h : Hd) (kv : Value) : Array Value :=
  #[.int .u8 h.kind, .int .u64 (word (setN h.set) 0 : Nat), .int .u64 (word (setN h.set) 1 : Nat), .int .u64 (word (setN h.set) 2 : Nat), .int .u64 (word (setN h.set) 3 : Nat), .string h.text, .int .i64 h.lo, .int .i64 h.hi, kv]
abbrev nodeV (h : Hd) (kv : Value) : Value := .agg (nodeC h kv)
abbrev treeV (v : Value) (r : Int) : Value := .agg #[v, .int .i64 r]

/-- A list of ints, to be read. -/
def Ints (w : World) (v : Value) (l : List Int) : Prop :=
  ∃ p cap, v = .slice p l.length cap ∧ (l = [] ∨ ∃ b off, p = some ⟨b, off, none⟩ ∧ ∀ j (h : j < l.length), w.cell? ⟨b, off + j, none⟩ = some (.int .i64 l[j]))

/-- A node at a place. -/
structure NodeAt (w : World) (b o : Nat) (h : Hd) (kv : Value) : Prop where
  c0 : w.cell? ⟨b, o, none⟩ = some (.int .u8 h.kind)
  c1 : w.cell? ⟨b, o + 1, none⟩ = some (.int .u64 (word (setN h.set) 0 : Nat))
  c2 : w.cell? ⟨b, o + 2, none⟩ = some (.int .u64 (word (setN h.set) 1 : Nat))
  c3 : w.cell? ⟨b, o + 3, none⟩ = some (.int .u64 (word (setN h.set) 2 : Nat))
  c4 : w.cell? ⟨b, o + 4, none⟩ = some (.int .u64 (word (setN h.set) 3 : Nat))
  c5 : w.cell? ⟨b, o + 5, none⟩ = some (.string h.text)
  c6 : w.cell? ⟨b, o + 6, none⟩ = some (.int .i64 h.lo)
  c7 : w.cell? ⟨b, o + 7, none⟩ = some (.int .i64 h.hi)
  c8 : w.cell? ⟨b, o + 8, none⟩ = some kv

/-- A list of nodes, to be read. -/
def Nodes (w : World) (v : Value) (A : List Nd) : Prop :=
  ∃ p cap, v = .slice p A.length cap ∧ (A = [] ∨ ∃ b off, p = some ⟨b, off, none⟩ ∧ ∀ j (h : j < A.length), ∃ kv, NodeAt w b (off + j * 9) A[j].hd kv ∧ Ints w kv A[j].kids)

def Tree (w : World) (v : Value) (T : Ar) : Prop := ∃ nv, v = treeV nv T.root ∧ Nodes w nv T.nodes

section
variable {w w' : World}
theorem cell_lt {b o : Nat} {u : Value} (h : w.cell? ⟨b, o, none⟩ = some u) : b < w.heap.size := by
  by_cases hb : b < w.heap.size
  · exact hb
  · have : w.heap[b]? = none := by simp; omega
    simp [World.cell?, this] at h
theorem Ints.keep {v : Value} {l : List Int} (h : Ints w v l) (hk : ∀ b, b < w.heap.size → w'.heap[b]? = w.heap[b]?) : Ints w' v l := by
  obtain ⟨p, cap, e, h⟩ := h
  refine ⟨p, cap, e, h.imp id ?_⟩
  rintro ⟨b, off, e, h⟩
  exact ⟨b, off, e, fun j hj => by rw [World.cell?_of_block (w := w) (hk b (cell_lt (h j hj)))]; exact h j hj⟩
theorem NodeAt.keep {b o : Nat} {n : Hd} {kv : Value} (h : NodeAt w b o n kv) (hk : ∀ b, b < w.heap.size → w'.heap[b]? = w.heap[b]?) : NodeAt w' b o n kv := by
  have hb := hk b (cell_lt h.c0)
  have e : ∀ i, w'.cell? ⟨b, i, none⟩ = w.cell? ⟨b, i, none⟩ := fun i => World.cell?_of_block (w := w) hb
  exact ⟨(e _).trans h.c0, (e _).trans h.c1, (e _).trans h.c2, (e _).trans h.c3, (e _).trans h.c4, (e _).trans h.c5, (e _).trans h.c6, (e _).trans h.c7, (e _).trans h.c8⟩
theorem Nodes.keep {v : Value} {A : List Nd} (h : Nodes w v A) (hk : ∀ b, b < w.heap.size → w'.heap[b]? = w.heap[b]?) : Nodes w' v A := by
  obtain ⟨p, cap, e, h⟩ := h
  refine ⟨p, cap, e, h.imp id ?_⟩
  rintro ⟨b, off, e, h⟩
  exact ⟨b, off, e, fun j hj => by obtain ⟨kv, h1, h2⟩ := h j hj; exact ⟨kv, h1.keep hk, h2.keep hk⟩⟩
theorem Tree.keep {v : Value} {T : Ar} (h : Tree w v T) (hk : ∀ b, b < w.heap.size → w'.heap[b]? = w.heap[b]?) : Tree w' v T := by
  obtain ⟨nv, e, h⟩ := h
  exact ⟨nv, e, h.keep hk⟩
theorem Ints.below {v : Value} {l : List Int} (h : Ints w v l) (hb : Below w.heap.size w w') : Ints w' v l := h.keep hb.block
theorem Nodes.below {v : Value} {A : List Nd} (h : Nodes w v A) (hb : Below w.heap.size w w') : Nodes w' v A := h.keep hb.block
theorem Tree.below {v : Value} {T : Ar} (h : Tree w v T) (hb : Below w.heap.size w w') : Tree w' v T := h.keep hb.block
end

section
variable {w : World} {g : Nat} {t : TypeId} {a0 a1 a2 a3 a4 a5 a6 a7 a8 : Value}
theorem Cl.nine (h : Cl w g t #[a0, a1, a2, a3, a4, a5, a6, a7, a8]) : (w.cell? ⟨g, 0, none⟩ = some a0 ∧ w.cell? ⟨g, 1, none⟩ = some a1 ∧ w.cell? ⟨g, 2, none⟩ = some a2 ∧ w.cell? ⟨g, 3, none⟩ = some a3 ∧
    w.cell? ⟨g, 4, none⟩ = some a4 ∧ w.cell? ⟨g, 5, none⟩ = some a5 ∧ w.cell? ⟨g, 6, none⟩ = some a6 ∧ w.cell? ⟨g, 7, none⟩ = some a7 ∧ w.cell? ⟨g, 8, none⟩ = some a8) ∧ ∀ i, w.frozen? ⟨g, i, none⟩ = false :=
  ⟨⟨h.cell 0, h.cell 1, h.cell 2, h.cell 3, h.cell 4, h.cell 5, h.cell 6, h.cell 7, h.cell 8⟩, h.free⟩
theorem Cl.two (h : Cl w g t #[a0, a1]) : (w.cell? ⟨g, 0, none⟩ = some a0 ∧ w.cell? ⟨g, 1, none⟩ = some a1) ∧ ∀ i, w.frozen? ⟨g, i, none⟩ = false :=
  ⟨⟨h.cell 0, h.cell 1⟩, h.free⟩
theorem Cl.one (h : Cl w g t #[a0]) : w.cell? ⟨g, 0, none⟩ = some a0 ∧ ∀ i, w.frozen? ⟨g, i, none⟩ = false :=
  ⟨h.cell 0, h.free⟩
end

/-- A whole node stored. -/
abbrev node9 (w : World) (g : Nat) (v0 v1 v2 v3 v4 v5 v6 v7 v8 : Value) : World :=
  ((((((((w.setCell ⟨g, 0, none⟩ v0).setCell ⟨g, 1, none⟩ v1).setCell ⟨g, 2, none⟩ v2).setCell ⟨g, 3, none⟩ v3).setCell ⟨g, 4, none⟩ v4).setCell ⟨g, 5, none⟩ v5).setCell ⟨g, 6, none⟩ v6).setCell ⟨g, 7, none⟩ v7).setCell ⟨g, 8, none⟩ v8
section
variable {w : World} {g : Nat} {t : TypeId} {a0 a1 a2 a3 a4 a5 a6 a7 a8 v0 v1 v2 v3 v4 v5 v6 v7 v8 : Value}
theorem Cl.put9_0 (h : Cl w g t #[a0, a1, a2, a3, a4, a5, a6, a7, a8]) (v : Value) : Cl (w.setCell ⟨g, 0, none⟩ v) g t #[v, a1, a2, a3, a4, a5, a6, a7, a8] := h.put 0 v
theorem Cl.put9_1 (h : Cl w g t #[a0, a1, a2, a3, a4, a5, a6, a7, a8]) (v : Value) : Cl (w.setCell ⟨g, 1, none⟩ v) g t #[a0, v, a2, a3, a4, a5, a6, a7, a8] := h.put 1 v
theorem Cl.put9_2 (h : Cl w g t #[a0, a1, a2, a3, a4, a5, a6, a7, a8]) (v : Value) : Cl (w.setCell ⟨g, 2, none⟩ v) g t #[a0, a1, v, a3, a4, a5, a6, a7, a8] := h.put 2 v
theorem Cl.put9_3 (h : Cl w g t #[a0, a1, a2, a3, a4, a5, a6, a7, a8]) (v : Value) : Cl (w.setCell ⟨g, 3, none⟩ v) g t #[a0, a1, a2, v, a4, a5, a6, a7, a8] := h.put 3 v
theorem Cl.put9_4 (h : Cl w g t #[a0, a1, a2, a3, a4, a5, a6, a7, a8]) (v : Value) : Cl (w.setCell ⟨g, 4, none⟩ v) g t #[a0, a1, a2, a3, v, a5, a6, a7, a8] := h.put 4 v
theorem Cl.put9_5 (h : Cl w g t #[a0, a1, a2, a3, a4, a5, a6, a7, a8]) (v : Value) : Cl (w.setCell ⟨g, 5, none⟩ v) g t #[a0, a1, a2, a3, a4, v, a6, a7, a8] := h.put 5 v
theorem Cl.put9_6 (h : Cl w g t #[a0, a1, a2, a3, a4, a5, a6, a7, a8]) (v : Value) : Cl (w.setCell ⟨g, 6, none⟩ v) g t #[a0, a1, a2, a3, a4, a5, v, a7, a8] := h.put 6 v
theorem Cl.put9_7 (h : Cl w g t #[a0, a1, a2, a3, a4, a5, a6, a7, a8]) (v : Value) : Cl (w.setCell ⟨g, 7, none⟩ v) g t #[a0, a1, a2, a3, a4, a5, a6, v, a8] := h.put 7 v
theorem Cl.put9_8 (h : Cl w g t #[a0, a1, a2, a3, a4, a5, a6, a7, a8]) (v : Value) : Cl (w.setCell ⟨g, 8, none⟩ v) g t #[a0, a1, a2, a3, a4, a5, a6, a7, v] := h.put 8 v
theorem Cl.set9 (h : Cl w g t #[a0, a1, a2, a3, a4, a5, a6, a7, a8]) (v0 v1 v2 v3 v4 v5 v6 v7 v8 : Value) : Cl (node9 w g v0 v1 v2 v3 v4 v5 v6 v7 v8) g t #[v0, v1, v2, v3, v4, v5, v6, v7, v8] :=
  ((((((((h.put9_0 v0).put9_1 v1).put9_2 v2).put9_3 v3).put9_4 v4).put9_5 v5).put9_6 v6).put9_7 v7).put9_8 v8
theorem Cl.other9 {b : Nat} {t' : TypeId} {cs : Array Value} (h : Cl w b t' cs) (hb : b ≠ g) (v0 v1 v2 v3 v4 v5 v6 v7 v8 : Value) : Cl (node9 w g v0 v1 v2 v3 v4 v5 v6 v7 v8) b t' cs :=
  ((((((((h.other (p := ⟨g, 0, none⟩) hb v0).other (p := ⟨g, 1, none⟩) hb v1).other (p := ⟨g, 2, none⟩) hb v2).other (p := ⟨g, 3, none⟩) hb v3).other (p := ⟨g, 4, none⟩) hb v4).other (p := ⟨g, 5, none⟩) hb v5).other (p := ⟨g, 6, none⟩) hb v6).other (p := ⟨g, 7, none⟩) hb v7).other (p := ⟨g, 8, none⟩) hb v8
theorem below_set9 {B : Nat} {w0 : World} (h : Below B w0 w) (hg : B ≤ g) (v0 v1 v2 v3 v4 v5 v6 v7 v8 : Value) : Below B w0 (node9 w g v0 v1 v2 v3 v4 v5 v6 v7 v8) :=
  ((((((((h.setCell (p := ⟨g, 0, none⟩) hg v0).setCell (p := ⟨g, 1, none⟩) hg v1).setCell (p := ⟨g, 2, none⟩) hg v2).setCell (p := ⟨g, 3, none⟩) hg v3).setCell (p := ⟨g, 4, none⟩) hg v4).setCell (p := ⟨g, 5, none⟩) hg v5).setCell (p := ⟨g, 6, none⟩) hg v6).setCell (p := ⟨g, 7, none⟩) hg v7).setCell (p := ⟨g, 8, none⟩) hg v8
end

/-- A node of nothing, as a block is laid. -/
abbrev nodeZ : Array Value := #[.int .u8 0, .int .u64 0, .int .u64 0, .int .u64 0, .int .u64 0, .string ⟨#[]⟩, .int .i64 0, .int .i64 0, .slice none 0 0]

set_option maxHeartbeats 1000000 in
/-- The end of a function whose result is a node, or a tree, in a block of its own. -/
theorem end_node {fn : Func} {R : Ending → World → Prop} {a : Act} {w : World} {tm : Tmp} {g : Nat} {T : TypeId} {v0 v1 v2 v3 v4 v5 v6 v7 v8 : Value} (hc : Cl w g T #[v0, v1, v2, v3, v4, v5, v6, v7, v8])
    (hr : fn.results = #[.cell tm 38]) (ht : a.tmps[tm]?.getD undef = .pointer (some ⟨g, 0, none⟩)) (hd : a.defers = []) (hR : R (.returned (.agg #[v0, v1, v2, v3, v4, v5, v6, v7, v8])) w) : bodyPost Tryd.prog fn R .ret a w := by
  obtain ⟨⟨y0, y1, y2, y3, y4, y5, y6, y7, y8⟩, yf⟩ := hc.nine
  exact bodyPost_ret (v := .agg #[v0, v1, v2, v3, v4, v5, v6, v7, v8]) (by simp [results, hr, ht, go_sem, y0, y1, y2, y3, y4, y5, y6, y7, y8]) hd hR
theorem end_tree {fn : Func} {R : Ending → World → Prop} {a : Act} {w : World} {tm : Tmp} {g : Nat} {T : TypeId} {v0 v1 : Value} (hc : Cl w g T #[v0, v1])
    (hr : fn.results = #[.cell tm 26]) (ht : a.tmps[tm]?.getD undef = .pointer (some ⟨g, 0, none⟩)) (hd : a.defers = []) (hR : R (.returned (.agg #[v0, v1])) w) : bodyPost Tryd.prog fn R .ret a w := by
  obtain ⟨⟨y0, y1⟩, yf⟩ := hc.two
  exact bodyPost_ret (v := .agg #[v0, v1]) (by simp [results, hr, ht, go_sem, y0, y1]) hd hR

set_option maxRecDepth 100000 in
set_option maxHeartbeats 1000000 in
theorem bare_any (h : Hd) (kv : Value) (hlim : h.text.size ≤ 281474976710656) (w : World) :
    Calls Tryd.prog 71 #[nodeV h kv] w fun e w' => e = .returned (nodeV h (.slice none 0 0)) ∧ Below w.heap.size w w' := by
  have k1 := (Cl.new w 38 (nodeC h (.slice none 0 0))).alloc (.cells nodeZ 38)
  have k2 : Cl ((w.alloc (.cells (nodeC h (.slice none 0 0)) 38)).alloc (.cells nodeZ 38)) (w.heap.size + 1) 38 nodeZ := Cl.new' (by simp) _ _
  have b0 := ((Below.refl w.heap.size w).alloc (Nat.le_refl _) (.cells (nodeC h (.slice none 0 0)) 38)).alloc (by simp) (.cells nodeZ 38)
  go_enter Tryd.func71, Tryd.ntmps71
  go_wp2_with (go_at_call 98; refine (clone_any _ _ hlim).mono ?_; rintro e w' ⟨rfl, hb⟩; obtain ⟨⟨x0, x1, x2, x3, x4, x5, x6, x7, x8⟩, xf⟩ := (k1.below hb k1.lt).nine; obtain ⟨⟨y0, y1, y2, y3, y4, y5, y6, y7, y8⟩, yf⟩ := (k2.below hb k2.lt).nine; have hz : w.heap.size + 2 ≤ w'.heap.size := by (have := hb.size; simp at this; omega))
  have h1 : Cl w' (w.heap.size + 1) 38 nodeZ := k2.below hb k2.lt
  have h2 : Cl (w'.setCell ⟨w.heap.size, 5, none⟩ (.string h.text)) (w.heap.size + 1) 38 nodeZ := Cl.other h1 (by simp) _
  have f1 := Cl.set9 h2 (.int .u8 h.kind) (.int .u64 (word (setN h.set) 0 : Nat)) (.int .u64 (word (setN h.set) 1 : Nat)) (.int .u64 (word (setN h.set) 2 : Nat)) (.int .u64 (word (setN h.set) 3 : Nat)) (.string h.text) (.int .i64 h.lo) (.int .i64 h.hi) (.slice none 0 0)
  have f2 : Below w.heap.size w w' := b0.trans (hb.mono (by simp; omega))
  have f3 := below_set9 (f2.setCell (p := ⟨w.heap.size, 5, none⟩) (Nat.le_refl _) (.string h.text)) (g := w.heap.size + 1) (by omega) (.int .u8 h.kind) (.int .u64 (word (setN h.set) 0 : Nat)) (.int .u64 (word (setN h.set) 1 : Nat)) (.int .u64 (word (setN h.set) 2 : Nat)) (.int .u64 (word (setN h.set) 3 : Nat)) (.string h.text) (.int .i64 h.lo) (.int .i64 h.hi) (.slice none 0 0)
  clear x0 x1 x2 x3 x4 x5 x6 x7 x8 y0 y1 y2 y3 y4 y5 y6 y7 y8 xf yf
  exact end_node f1 rfl rfl rfl ⟨rfl, f3⟩
end Go.Proofs.YtpkjfdgjmcphmaaDoor

/- strings.Clone's contract, laid at this program. -/
import Derived.Shelf.LaysM
import Derived.Shelf.Strconv.Clone
import Derived.Test.YtpkjfdgjmcphmaaDoorProg
import Derived.WalkKit
import Derived.Test.YtpkjfdgjmcphmaaDoorVTm1
import Derived.Deep.OwnRows
import Derived.OwnWalk
import Derived.ChangeKeysEq
import Derived.Test.YtpkjfdgjmcphmaaDoorVNm
import Derived.BigQuiet
import Derived.Lib.Hide
namespace Go.Proofs.YtpkjfdgjmcphmaaDoor
open Go.Shelf
def sh_laysM316_ren : Go.Shelf.Ren := ⟨fun | 316 => 110 | n => n, fun | 9 => 9 | 3 => 3 | 4 => 4 | 37 => 119 | 0 => 0 | 127 => 120 | 5 => 5 | n => n, fun | n => n⟩
theorem sh_laysM316 : Go.Proofs.LaysM.n316 Tryd.prog sh_laysM316_ren := {
  mixed := by kernel_rfl
  f316 := Tryd.func110.trans (congrArg some (by kernel_rfl))
  t0 := Tryd.underlying0
  a0 := Tryd.isAgg0
  z0 := Tryd.sizeOf0
  v0 := Tryd.zeroValue0
  t3 := Tryd.underlying3
  a3 := Tryd.isAgg3
  z3 := Tryd.sizeOf3
  v3 := Tryd.zeroValue3
  t4 := Tryd.underlying4
  a4 := Tryd.isAgg4
  z4 := Tryd.sizeOf4
  v4 := Tryd.zeroValue4
  t9 := Tryd.underlying9
  a9 := Tryd.isAgg9
  z9 := Tryd.sizeOf9
  v9 := Tryd.zeroValue9
  t37 := Tryd.underlying119
  a37 := Tryd.isAgg119
  z37 := Tryd.sizeOf119
  v37 := Tryd.zeroValue119
  t127 := Tryd.underlying120
  a127 := Tryd.isAgg120
  z127 := Tryd.sizeOf120
  v127 := Tryd.zeroValue120
  t5 := Tryd.underlying5
  a5 := Tryd.isAgg5
  z5 := Tryd.sizeOf5
  v5 := Tryd.zeroValue5
  i0 := by kernel_rfl
  i3 := by kernel_rfl
  i4 := by kernel_rfl
  i5 := by kernel_rfl
  i9 := by kernel_rfl
  i37 := by kernel_rfl
  i127 := by kernel_rfl }
open Go.RowKit in
/-- internal/stringslite.Clone (what strings.Clone calls): "Clone returns a fresh copy of s.": THE SAME BYTES. Of what was there nothing has turned (a new row is laid, and frozen, where s is not empty). (LAID: no walk: one application.) -/
theorem sh_stringslite_Clone (s : ByteArray) (w : World) (hlim : s.size ≤ 281474976710656) :
    Calls Tryd.prog 110 #[.string s] w fun e w' => e = .returned (.string s) ∧ Below w.heap.size w w' := Any.stringslite_Clone sh_laysM316 s w hlim
open Go.RowKit in
set_option maxRecDepth 100000 in
set_option maxHeartbeats 1000000 in
theorem clone_any (s : ByteArray) (w : World) (hlim : s.size ≤ 281474976710656) :
    Calls Tryd.prog 98 #[.string s] w fun e w' => e = .returned (.string s) ∧ Below w.heap.size w w' := by
  go_enter Tryd.func98, Tryd.ntmps98
  go_wp2_with (go_at_call 110; refine (sh_stringslite_Clone s _ hlim).mono ?_; rintro e w' ⟨rfl, hb⟩)
  go_ret
  exact ⟨rfl, hb⟩
end Go.Proofs.YtpkjfdgjmcphmaaDoor

/- Nodes and trees as values, and in memory. -/
namespace Go.Proofs.YtpkjfdgjmcphmaaDoor
open Go.RowKit Bset Tm

abbrev setN (x : BitVec 256) : Nat → Bool := fun n => x.getLsbD n

/-- A node's cells; kv: the value that its Kids are. -/
abbrev nodeC (h : Hd) (kv : Value) : Array Value :=
  #[.int .u8 h.kind, .int .u64 (word (setN h.set) 0 : Nat), .int .u64 (word (setN h.set) 1 : Nat), .int .u64 (word (setN h.set) 2 : Nat), .int .u64 (word (setN h.set) 3 : Nat), .string h.text, .int .i64 h.lo, .int .i64 h.hi, kv]
abbrev nodeV (h : Hd) (kv : Value) : Value := .agg (nodeC h kv)
abbrev treeV (v : Value) (r : Int) : Value := .agg #[v, .int .i64 r]

/-- A list of ints, to be read. -/
def Ints (w : World) (v : Value) (l : List Int) : Prop :=
  ∃ p cap, v = .slice p l.length cap ∧ (l = [] ∨ ∃ b off, p = some ⟨b, off, none⟩ ∧ ∀ j (h : j < l.length), w.cell? ⟨b, off + j, none⟩ = some (.int .i64 l[j]))

/-- A node at a place. -/
structure NodeAt (w : World) (b o : Nat) (h : Hd) (kv : Value) : Prop where
  c0 : w.cell? ⟨b, o, none⟩ = some (.int .u8 h.kind)
  c1 : w.cell? ⟨b, o + 1, none⟩ = some (.int .u64 (word (setN h.set) 0 : Nat))
  c2 : w.cell? ⟨b, o + 2, none⟩ = some (.int .u64 (word (setN h.set) 1 : Nat))
  c3 : w.cell? ⟨b, o + 3, none⟩ = some (.int .u64 (word (setN h.set) 2 : Nat))
  c4 : w.cell? ⟨b, o + 4, none⟩ = some (.int .u64 (word (setN h.set) 3 : Nat))
  c5 : w.cell? ⟨b, o + 5, none⟩ = some (.string h.text)
  c6 : w.cell? ⟨b, o + 6, none⟩ = some (.int .i64 h.lo)
  c7 : w.cell? ⟨b, o + 7, none⟩ = some (.int .i64 h.hi)
  c8 : w.cell? ⟨b, o + 8, none⟩ = some kv

/-- A list of nodes, to be read. -/
def Nodes (w : World) (v : Value) (A : List Nd) : Prop :=
  ∃ p cap, v = .slice p A.length cap ∧ (A = [] ∨ ∃ b off, p = some ⟨b, off, none⟩ ∧ ∀ j (h : j < A.length), ∃ kv, NodeAt w b (off + j * 9) A[j].hd kv ∧ Ints w kv A[j].kids)

def Tree (w : World) (v : Value) (T : Ar) : Prop := ∃ nv, v = treeV nv T.root ∧ Nodes w nv T.nodes

section
variable {w w' : World}
theorem cell_lt {b o : Nat} {u : Value} (h : w.cell? ⟨b, o, none⟩ = some u) : b < w.heap.size := by
  by_cases hb : b < w.heap.size
  · exact hb
  · have : w.heap[b]? = none := by simp; omega
    simp [World.cell?, this] at h
theorem Ints.keep {v : Value} {l : List Int} (h : Ints w v l) (hk : ∀ b, b < w.heap.size → w'.heap[b]? = w.heap[b]?) : Ints w' v l := by
  obtain ⟨p, cap, e, h⟩ := h
  refine ⟨p, cap, e, h.imp id ?_⟩
  rintro ⟨b, off, e, h⟩
  exact ⟨b, off, e, fun j hj => by rw [World.cell?_of_block (w := w) (hk b (cell_lt (h j hj)))]; exact h j hj⟩
theorem NodeAt.keep {b o : Nat} {n : Hd} {kv : Value} (h : NodeAt w b o n kv) (hk : ∀ b, b < w.heap.size → w'.heap[b]? = w.heap[b]?) : NodeAt w' b o n kv := by
  have hb := hk b (cell_lt h.c0)
  have e : ∀ i, w'.cell? ⟨b, i, none⟩ = w.cell? ⟨b, i, none⟩ := fun i => World.cell?_of_block (w := w) hb
  exact ⟨(e _).trans h.c0, (e _).trans h.c1, (e _).trans h.c2, (e _).trans h.c3, (e _).trans h.c4, (e _).trans h.c5, (e _).trans h.c6, (e _).trans h.c7, (e _).trans h.c8⟩
theorem Nodes.keep {v : Value} {A : List Nd} (h : Nodes w v A) (hk : ∀ b, b < w.heap.size → w'.heap[b]? = w.heap[b]?) : Nodes w' v A := by
  obtain ⟨p, cap, e, h⟩ := h
  refine ⟨p, cap, e, h.imp id ?_⟩
  rintro ⟨b, off, e, h⟩
  exact ⟨b, off, e, fun j hj => by obtain ⟨kv, h1, h2⟩ := h j hj; exact ⟨kv, h1.keep hk, h2.keep hk⟩⟩
theorem Tree.keep {v : Value} {T : Ar} (h : Tree w v T) (hk : ∀ b, b < w.heap.size → w'.heap[b]? = w.heap[b]?) : Tree w' v T := by
  obtain ⟨nv, e, h⟩ := h
  exact ⟨nv, e, h.keep hk⟩
theorem Ints.below {v : Value} {l : List Int} (h : Ints w v l) (hb : Below w.heap.size w w') : Ints w' v l := h.keep hb.block
theorem Nodes.below {v : Value} {A : List Nd} (h : Nodes w v A) (hb : Below w.heap.size w w') : Nodes w' v A := h.keep hb.block
theorem Tree.below {v : Value} {T : Ar} (h : Tree w v T) (hb : Below w.heap.size w w') : Tree w' v T := h.keep hb.block
end

section
variable {w : World} {g : Nat} {t : TypeId} {a0 a1 a2 a3 a4 a5 a6 a7 a8 : Value}
theorem Cl.nine (h : Cl w g t #[a0, a1, a2, a3, a4, a5, a6, a7, a8]) : (w.cell? ⟨g, 0, none⟩ = some a0 ∧ w.cell? ⟨g, 1, none⟩ = some a1 ∧ w.cell? ⟨g, 2, none⟩ = some a2 ∧ w.cell? ⟨g, 3, none⟩ = some a3 ∧
    w.cell? ⟨g, 4, none⟩ = some a4 ∧ w.cell? ⟨g, 5, none⟩ = some a5 ∧ w.cell? ⟨g, 6, none⟩ = some a6 ∧ w.cell? ⟨g, 7, none⟩ = some a7 ∧ w.cell? ⟨g, 8, none⟩ = some a8) ∧ ∀ i, w.frozen? ⟨g, i, none⟩ = false :=
  ⟨⟨h.cell 0, h.cell 1, h.cell 2, h.cell 3, h.cell 4, h.cell 5, h.cell 6, h.cell 7, h.cell 8⟩, h.free⟩
theorem Cl.two (h : Cl w g t #[a0, a1]) : (w.cell? ⟨g, 0, none⟩ = some a0 ∧ w.cell? ⟨g, 1, none⟩ = some a1) ∧ ∀ i, w.frozen? ⟨g, i, none⟩ = false :=
  ⟨⟨h.cell 0, h.cell 1⟩, h.free⟩
theorem Cl.one (h : Cl w g t #[a0]) : w.cell? ⟨g, 0, none⟩ = some a0 ∧ ∀ i, w.frozen? ⟨g, i, none⟩ = false :=
  ⟨h.cell 0, h.free⟩
end

/-- A whole node stored. -/
abbrev node9 (w : World) (g : Nat) (v0 v1 v2 v3 v4 v5 v6 v7 v8 : Value) : World :=
  ((((((((w.setCell ⟨g, 0, none⟩ v0).setCell ⟨g, 1, none⟩ v1).setCell ⟨g, 2, none⟩ v2).setCell ⟨g, 3, none⟩ v3).setCell ⟨g, 4, none⟩ v4).setCell ⟨g, 5, none⟩ v5).setCell ⟨g, 6, none⟩ v6).setCell ⟨g, 7, none⟩ v7).setCell ⟨g, 8, none⟩ v8
section
variable {w : World} {g : Nat} {t : TypeId} {a0 a1 a2 a3 a4 a5 a6 a7 a8 v0 v1 v2 v3 v4 v5 v6 v7 v8 : Value}
theorem Cl.put9_0 (h : Cl w g t #[a0, a1, a2, a3, a4, a5, a6, a7, a8]) (v : Value) : Cl (w.setCell ⟨g, 0, none⟩ v) g t #[v, a1, a2, a3, a4, a5, a6, a7, a8] := h.put 0 v
theorem Cl.put9_1 (h : Cl w g t #[a0, a1, a2, a3, a4, a5, a6, a7, a8]) (v : Value) : Cl (w.setCell ⟨g, 1, none⟩ v) g t #[a0, v, a2, a3, a4, a5, a6, a7, a8] := h.put 1 v
theorem Cl.put9_2 (h : Cl w g t #[a0, a1, a2, a3, a4, a5, a6, a7, a8]) (v : Value) : Cl (w.setCell ⟨g, 2, none⟩ v) g t #[a0, a1, v, a3, a4, a5, a6, a7, a8] := h.put 2 v
theorem Cl.put9_3 (h : Cl w g t #[a0, a1, a2, a3, a4, a5, a6, a7, a8]) (v : Value) : Cl (w.setCell ⟨g, 3, none⟩ v) g t #[a0, a1, a2, v, a4, a5, a6, a7, a8] := h.put 3 v
theorem Cl.put9_4 (h : Cl w g t #[a0, a1, a2, a3, a4, a5, a6, a7, a8]) (v : Value) : Cl (w.setCell ⟨g, 4, none⟩ v) g t #[a0, a1, a2, a3, v, a5, a6, a7, a8] := h.put 4 v
theorem Cl.put9_5 (h : Cl w g t #[a0, a1, a2, a3, a4, a5, a6, a7, a8]) (v : Value) : Cl (w.setCell ⟨g, 5, none⟩ v) g t #[a0, a1, a2, a3, a4, v, a6, a7, a8] := h.put 5 v
theorem Cl.put9_6 (h : Cl w g t #[a0, a1, a2, a3, a4, a5, a6, a7, a8]) (v : Value) : Cl (w.setCell ⟨g, 6, none⟩ v) g t #[a0, a1, a2, a3, a4, a5, v, a7, a8] := h.put 6 v
theorem Cl.put9_7 (h : Cl w g t #[a0, a1, a2, a3, a4, a5, a6, a7, a8]) (v : Value) : Cl (w.setCell ⟨g, 7, none⟩ v) g t #[a0, a1, a2, a3, a4, a5, a6, v, a8] := h.put 7 v
theorem Cl.put9_8 (h : Cl w g t #[a0, a1, a2, a3, a4, a5, a6, a7, a8]) (v : Value) : Cl (w.setCell ⟨g, 8, none⟩ v) g t #[a0, a1, a2, a3, a4, a5, a6, a7, v] := h.put 8 v
theorem Cl.set9 (h : Cl w g t #[a0, a1, a2, a3, a4, a5, a6, a7, a8]) (v0 v1 v2 v3 v4 v5 v6 v7 v8 : Value) : Cl (node9 w g v0 v1 v2 v3 v4 v5 v6 v7 v8) g t #[v0, v1, v2, v3, v4, v5, v6, v7, v8] :=
  ((((((((h.put9_0 v0).put9_1 v1).put9_2 v2).put9_3 v3).put9_4 v4).put9_5 v5).put9_6 v6).put9_7 v7).put9_8 v8
theorem Cl.other9 {b : Nat} {t' : TypeId} {cs : Array Value} (h : Cl w b t' cs) (hb : b ≠ g) (v0 v1 v2 v3 v4 v5 v6 v7 v8 : Value) : Cl (node9 w g v0 v1 v2 v3 v4 v5 v6 v7 v8) b t' cs :=
  ((((((((h.other (p := ⟨g, 0, none⟩) hb v0).other (p := ⟨g, 1, none⟩) hb v1).other (p := ⟨g, 2, none⟩) hb v2).other (p := ⟨g, 3, none⟩) hb v3).other (p := ⟨g, 4, none⟩) hb v4).other (p := ⟨g, 5, none⟩) hb v5).other (p := ⟨g, 6, none⟩) hb v6).other (p := ⟨g, 7, none⟩) hb v7).other (p := ⟨g, 8, none⟩) hb v8
theorem below_set9 {B : Nat} {w0 : World} (h : Below B w0 w) (hg : B ≤ g) (v0 v1 v2 v3 v4 v5 v6 v7 v8 : Value) : Below B w0 (node9 w g v0 v1 v2 v3 v4 v5 v6 v7 v8) :=
  ((((((((h.setCell (p := ⟨g, 0, none⟩) hg v0).setCell (p := ⟨g, 1, none⟩) hg v1).setCell (p := ⟨g, 2, none⟩) hg v2).setCell (p := ⟨g, 3, none⟩) hg v3).setCell (p := ⟨g, 4, none⟩) hg v4).setCell (p := ⟨g, 5, none⟩) hg v5).setCell (p := ⟨g, 6, none⟩) hg v6).setCell (p := ⟨g, 7, none⟩) hg v7).setCell (p := ⟨g, 8, none⟩) hg v8
end

/-- A node of nothing, as a block is laid. -/
abbrev nodeZ : Array Value := #[.int .u8 0, .int .u64 0, .int .u64 0, .int .u64 0, .int .u64 0, .string ⟨#[]⟩, .int .i64 0, .int .i64 0, .slice none 0 0]

set_option maxHeartbeats 1000000 in
/-- The end of a function whose result is a node, or a tree, in a block of its own. -/
theorem end_node {fn : Func} {R : Ending → World → Prop} {a : Act} {w : World} {tm : Tmp} {g : Nat} {T : TypeId} {v0 v1 v2 v3 v4 v5 v6 v7 v8 : Value} (hc : Cl w g T #[v0, v1, v2, v3, v4, v5, v6, v7, v8])
    (hr : fn.results = #[.cell tm 38]) (ht : a.tmps[tm]?.getD undef = .pointer (some ⟨g, 0, none⟩)) (hd : a.defers = []) (hR : R (.returned (.agg #[v0, v1, v2, v3, v4, v5, v6, v7, v8])) w) : bodyPost Tryd.prog fn R .ret a w := by
  obtain ⟨⟨y0, y1, y2, y3, y4, y5, y6, y7, y8⟩, yf⟩ := hc.nine
  exact bodyPost_ret (v := .agg #[v0, v1, v2, v3, v4, v5, v6, v7, v8]) (by simp [results, hr, ht, go_sem, y0, y1, y2, y3, y4, y5, y6, y7, y8]) hd hR
theorem end_tree {fn : Func} {R : Ending → World → Prop} {a : Act} {w : World} {tm : Tmp} {g : Nat} {T : TypeId} {v0 v1 : Value} (hc : Cl w g T #[v0, v1])
    (hr : fn.results = #[.cell tm 26]) (ht : a.tmps[tm]?.getD undef = .pointer (some ⟨g, 0, none⟩)) (hd : a.defers = []) (hR : R (.returned (.agg #[v0, v1])) w) : bodyPost Tryd.prog fn R .ret a w := by
  obtain ⟨⟨y0, y1⟩, yf⟩ := hc.two
  exact bodyPost_ret (v := .agg #[v0, v1]) (by simp [results, hr, ht, go_sem, y0, y1]) hd hR

set_option maxRecDepth 100000 in
set_option maxHeartbeats 1000000 in
theorem bare_any (h : Hd) (kv : Value) (hlim : h.text.size ≤ 281474976710656) (w : World) :
    Calls Tryd.prog 71 #[nodeV h kv] w fun e w' => e = .returned (nodeV h (.slice none 0 0)) ∧ Below w.heap.size w w' := by
  have k1 := (Cl.new w 38 (nodeC h (.slice none 0 0))).alloc (.cells nodeZ 38)
  have k2 : Cl ((w.alloc (.cells (nodeC h (.slice none 0 0)) 38)).alloc (.cells nodeZ 38)) (w.heap.size + 1) 38 nodeZ := Cl.new' (by simp) _ _
  have b0 := ((Below.refl w.heap.size w).alloc (Nat.le_refl _) (.cells (nodeC h (.slice none 0 0)) 38)).alloc (by simp) (.cells nodeZ 38)
  go_enter Tryd.func71, Tryd.ntmps71
  go_wp2_with (go_at_call 98; refine (clone_any _ _ hlim).mono ?_; rintro e w' ⟨rfl, hb⟩; obtain ⟨⟨x0, x1, x2, x3, x4, x5, x6, x7, x8⟩, xf⟩ := (k1.below hb k1.lt).nine; obtain ⟨⟨y0, y1, y2, y3, y4, y5, y6, y7, y8⟩, yf⟩ := (k2.below hb k2.lt).nine; have hz : w.heap.size + 2 ≤ w'.heap.size := by (have := hb.size; simp at this; omega))
  have h1 : Cl w' (w.heap.size + 1) 38 nodeZ := k2.below hb k2.lt
  have h2 : Cl (w'.setCell ⟨w.heap.size, 5, none⟩ (.string h.text)) (w.heap.size + 1) 38 nodeZ := Cl.other h1 (by simp) _
  have f1 := Cl.set9 h2 (.int .u8 h.kind) (.int .u64 (word (setN h.set) 0 : Nat)) (.int .u64 (word (setN h.set) 1 : Nat)) (.int .u64 (word (setN h.set) 2 : Nat)) (.int .u64 (word (setN h.set) 3 : Nat)) (.string h.text) (.int .i64 h.lo) (.int .i64 h.hi) (.slice none 0 0)
  have f2 : Below w.heap.size w w' := b0.trans (hb.mono (by simp; omega))
  have f3 := below_set9 (f2.setCell (p := ⟨w.heap.size, 5, none⟩) (Nat.le_refl _) (.string h.text)) (g := w.heap.size + 1) (by omega) (.int .u8 h.kind) (.int .u64 (word (setN h.set) 0 : Nat)) (.int .u64 (word (setN h.set) 1 : Nat)) (.int .u64 (word (setN h.set) 2 : Nat)) (.int .u64 (word (setN h.set) 3 : Nat)) (.string h.text) (.int .i64 h.lo) (.int .i64 h.hi) (.slice none 0 0)
  clear x0 x1 x2 x3 x4 x5 x6 x7 x8 y0 y1 y2 y3 y4 y5 y6 y7 y8 xf yf
  exact end_node f1 rfl rfl rfl ⟨rfl, f3⟩
end Go.Proofs.YtpkjfdgjmcphmaaDoor

/- '==' on two sets: their four words. -/
namespace Go.Proofs.YtpkjfdgjmcphmaaDoor
open Go.RowKit Bset

theorem part0 (a b c d : Value) (w : World) : (part 33 #[a, b, c, d] 0).run Tryd.prog w = .ok a w := by kernel_rfl
theorem part1 (a b c d : Value) (w : World) : (part 33 #[a, b, c, d] 1).run Tryd.prog w = .ok b w := by kernel_rfl
theorem part2 (a b c d : Value) (w : World) : (part 33 #[a, b, c, d] 2).run Tryd.prog w = .ok c w := by kernel_rfl
theorem part3 (a b c d : Value) (w : World) : (part 33 #[a, b, c, d] 3).run Tryd.prog w = .ok d w := by kernel_rfl

theorem infoU64 : (Tryd.prog.info? 33).map (fun i => (i.zero, i.size, i.bytes)) = some (some (.int .u64 0), 1, 8) := by kernel_rfl
theorem cellsU64 : Tryd.prog.cellsOf 33 = 1 := by kernel_rfl

theorem equal_arr (d : Nat) (w : World) (a0 a1 a2 a3 b0 b1 b2 b3 : Int) :
    (Op.equalIn (d + 2) 35 (.agg #[.int .u64 a0, .int .u64 a1, .int .u64 a2, .int .u64 a3]) (.agg #[.int .u64 b0, .int .u64 b1, .int .u64 b2, .int .u64 b3])).run Tryd.prog w =
      .ok (a0 == b0 && (a1 == b1 && (a2 == b2 && a3 == b3))) w := by
  obtain ⟨i0, hi, _⟩ := info_parts infoU64
  have e : ∀ (x y : Int), (Op.equalIn (d + 1) 33 (.int .u64 x) (.int .u64 y)).run Tryd.prog w = .ok (x == y) w := fun x y => run_equalIn_int w d _ _ _ x y Tryd.underlying33
  have r4 : List.range 4 = [0, 1, 2, 3] := rfl
  rw [run_equalIn_array w (d + 1) _ _ Tryd.underlying35 hi, cellsU64, r4]
  simp only [Op.eqItems, Nat.mul_one, Sem.run_bind, part0, e, Result.andThen_ok]
  cases h0 : (a0 == b0) <;> cases h1 : (a1 == b1) <;> cases h2 : (a2 == b2) <;> cases h3 : (a3 == b3) <;>
    simp only [Bool.not_true, Bool.not_false, Bool.false_eq_true, if_true, if_false, Sem.run_pure, Sem.run_bind, Result.andThen_ok, part1, part2, part3, e, h1, h2, h3, Bool.and_true, Bool.and_false]

/-- Two sets are the same, byte for byte. -/
def sameS (S T : Nat → Bool) : Bool := (List.range 256).all fun n => S n == T n

theorem sameS_iff {S T : Nat → Bool} : sameS S T = true ↔ ∀ n, n < 256 → S n = T n := by
  simp [sameS]

theorem sameS_words (S T : Nat → Bool) : (((word S 0 : Nat) : Int) == ((word T 0 : Nat) : Int) && (((word S 1 : Nat) : Int) == ((word T 1 : Nat) : Int) && (((word S 2 : Nat) : Int) == ((word T 2 : Nat) : Int) && ((word S 3 : Nat) : Int) == ((word T 3 : Nat) : Int)))) = sameS S T := by
  rw [Bool.eq_iff_iff, sameS_iff]
  simp only [Bool.and_eq_true, beq_iff_eq]
  constructor
  · rintro ⟨h0, h1, h2, h3⟩
    exact word_ext (by omega) (by omega) (by omega) (by omega)
  · intro h
    rw [word_congr h (by omega : 0 < 4), word_congr h (by omega : 1 < 4), word_congr h (by omega : 2 < 4), word_congr h (by omega : 3 < 4)]
    exact ⟨rfl, rfl, rfl, rfl⟩

theorem run_eql_set (w : World) (S T : Nat → Bool) : (binOp .eql 35 (setV S) (setV T)).run Tryd.prog w = .ok (.bool (sameS S T)) w := by
  have h := equal_arr 9998 w (word S 0 : Nat) (word S 1 : Nat) (word S 2 : Nat) (word S 3 : Nat) (word T 0 : Nat) (word T 1 : Nat) (word T 2 : Nat) (word T 3 : Nat)
  rw [sameS_words] at h
  simp only [binOp]
  simp [Op.equal, Op.maxDepth, h]

theorem run_neq_set (w : World) (S T : Nat → Bool) : (binOp .neq 35 (setV S) (setV T)).run Tryd.prog w = .ok (.bool (!sameS S T)) w := by
  have h := equal_arr 9998 w (word S 0 : Nat) (word S 1 : Nat) (word S 2 : Nat) (word S 3 : Nat) (word T 0 : Nat) (word T 1 : Nat) (word T 2 : Nat) (word T 3 : Nat)
  rw [sameS_words] at h
  simp only [binOp]
  simp [Op.equal, Op.maxDepth, h]

end Go.Proofs.YtpkjfdgjmcphmaaDoor

/- Package name: Letter, digit, taken, May. -/
namespace Go.Proofs.YtpkjfdgjmcphmaaDoor
open Go.RowKit Nm

set_option maxRecDepth 100000 in
set_option maxHeartbeats 2000000 in
theorem letter_any (b : Nat) (hb : b < 256) (w : World) :
    Calls Tryd.prog 111 #[.int .u8 b] w fun e w' => e = .returned (.bool (isLet b)) ∧ w' = w := by
  go_enter Tryd.func111, Tryd.ntmps111
  go_wp2
  all_goals go_ret
  all_goals refine ⟨congrArg (fun x => Ending.returned (.bool x)) ?_, rfl⟩
  all_goals (unfold isLet; rw [Bool.eq_iff_iff]; simp; try omega)
set_option maxRecDepth 100000 in
set_option maxHeartbeats 2000000 in
theorem digit_any (b : Nat) (hb : b < 256) (w : World) :
    Calls Tryd.prog 112 #[.int .u8 b] w fun e w' => e = .returned (.bool (isDig b)) ∧ w' = w := by
  go_enter Tryd.func112, Tryd.ntmps112
  go_wp2
  all_goals go_ret
  all_goals refine ⟨congrArg (fun x => Ending.returned (.bool x)) ?_, rfl⟩
  all_goals (unfold isDig; rw [Bool.eq_iff_iff]; simp; try omega)

theorem letter_s (s : ByteArray) (n : Nat) (h : n < s.size) (w : World) :
    Calls Tryd.prog 111 #[.int .u8 s[n].toNat] w fun e w' => e = .returned (.bool (isLet s[n].toNat)) ∧ w' = w := letter_any _ (UInt8.toNat_lt _) w
theorem digit_s (s : ByteArray) (n : Nat) (h : n < s.size) (w : World) :
    Calls Tryd.prog 112 #[.int .u8 s[n].toNat] w fun e w' => e = .returned (.bool (isDig s[n].toNat)) ∧ w' = w := digit_any _ (UInt8.toNat_lt _) w

set_option maxRecDepth 100000 in
set_option maxHeartbeats 2000000 in
theorem taken_any (s : ByteArray) (hs : s.size < 9223372036854775807) (w : World) :
    Calls Tryd.prog 100 #[.string s] w fun e w' => e = .returned (.int .i64 (taken s.data.toList : Nat)) ∧ w' = w := by
  obtain ⟨c, hc⟩ : ∃ c, c = taken s.data.toList := ⟨_, rfl⟩
  rw [← hc]
  rw [← go_zero] at hc
  have HC0 := Lib.hid hc
  clear hc
  go_enter Tryd.func100, Tryd.ntmps100
  go_wp2
  go_loopw [3] (fun i wr => ∃ n : Nat, i = .int .i64 n ∧ n ≤ s.size ∧ Hid (c = go s n) ∧ wr = w) (fun i _ => s.size - (intOf i).toNat)
  case atStart => exact ⟨0, rfl, by omega, HC0, rfl⟩
  case round =>
    obtain ⟨n, rfl, h1, HC, rfl⟩ := hrel
    clear HC0
    by_cases hl : n < s.size
    · have hc := HC.out
      rw [go_step s n hl] at hc
      have hn1 : wrap64 ((n : Int) + 1) = (n : Int) + 1 := by unfold wrap64; omega
      by_cases c1 : isLet s[n].toNat = true
      · rw [if_pos (Or.inl c1)] at hc
        have HC2 := Lib.hid hc
        clear hc
        go_wp2_with (first | (go_at_call 111; refine (letter_s s n hl _).mono ?_; rintro e w' ⟨rfl, rfl⟩; rw [c1]))
        go_roundw
        case rel => exact ⟨n + 1, by go_num, by omega, HC2, trivial⟩
        case measure => simp [intOf]; omega
      · have c1' : isLet s[n].toNat = false := by simpa using c1
        by_cases h0 : n = 0
        · subst h0
          rw [if_neg (by simp [c1'])] at hc
          have HC2 := Lib.hid hc
          clear hc
          go_wp2_with (first | (go_at_call 111; refine (letter_s s 0 hl _).mono ?_; rintro e w' ⟨rfl, rfl⟩; rw [c1']))
          go_ret
          exact ⟨by rw [HC2.out]; rfl, rfl⟩
        · have hn0 : 0 < n := by omega
          by_cases c2 : isDig s[n].toNat = true
          · rw [if_pos (Or.inr ⟨by omega, c2⟩)] at hc
            have HC2 := Lib.hid hc
            clear hc
            go_wp2_with (first | (go_at_call 111; refine (letter_s s n hl _).mono ?_; rintro e w' ⟨rfl, rfl⟩; rw [c1']) | (go_at_call 112; refine (digit_s s n hl _).mono ?_; rintro e w' ⟨rfl, rfl⟩; rw [c2]))
            go_roundw
            case rel => exact ⟨n + 1, by go_num, by omega, HC2, trivial⟩
            case measure => simp [intOf]; omega
          · have c2' : isDig s[n].toNat = false := by simpa using c2
            rw [if_neg (by simp [c1', c2'])] at hc
            have HC2 := Lib.hid hc
            clear hc
            go_wp2_with (first | (go_at_call 111; refine (letter_s s n hl _).mono ?_; rintro e w' ⟨rfl, rfl⟩; rw [c1']) | (go_at_call 112; refine (digit_s s n hl _).mono ?_; rintro e w' ⟨rfl, rfl⟩; rw [c2']))
            go_ret
            exact ⟨by rw [HC2.out]; rfl, rfl⟩
    · have hc := HC.out
      rw [go_end s n (by omega)] at hc
      have HC2 := Lib.hid hc
      clear hc
      go_wp2
      go_ret
      exact ⟨by rw [HC2.out]; rfl, rfl⟩

theorem size_ne (s : ByteArray) (h : s.size ≠ 0) : ¬s.toList = [] := by
  rw [ByteArray.toList_eq]
  intro e
  apply h
  have := congrArg List.length e
  simpa using this
theorem size_eq (s : ByteArray) (h : s.size = 0) : s = ⟨#[]⟩ := ByteArray.ext (Array.eq_empty_of_size_eq_zero h)

set_option maxRecDepth 100000 in
set_option maxHeartbeats 2000000 in
theorem may_any (s : ByteArray) (hs : s.size < 9223372036854775807) (w : World) :
    Calls Tryd.prog 76 #[.string s] w fun e w' => e = .returned (.bool (mayB s)) ∧ w' = w := by
  by_cases h0 : s.size = 0
  · obtain rfl := size_eq s h0
    go_enter Tryd.func76, Tryd.ntmps76
    go_wp2
    go_ret
    exact ⟨rfl, rfl⟩
  · have h1 := size_ne s h0
    have h1' : s.toList.isEmpty = false := by simpa using h1
    by_cases h2 : s.size ≤ 32
    · have hm : mayB s = decide (taken s.data.toList = s.size) := by simp [mayB, h0, h2]
      rw [hm]
      go_enter Tryd.func76, Tryd.ntmps76
      go_wp2_with (first | (go_at_call 100; refine (taken_any s hs _).mono ?_; rintro e w' ⟨rfl, rfl⟩))
      go_ret
      exact ⟨congrArg (fun x => Ending.returned (.bool x)) (by rw [Bool.eq_iff_iff]; simp; try omega), rfl⟩
    · have hm : mayB s = false := by simp [mayB, h2]
      rw [hm]
      go_enter Tryd.func76, Tryd.ntmps76
      go_wp2
      go_ret
      exact ⟨rfl, rfl⟩
end Go.Proofs.YtpkjfdgjmcphmaaDoor

/- Package tree: within, repeats. -/
namespace Go.Proofs.YtpkjfdgjmcphmaaDoor
open Go.RowKit Bset Tm

theorem sameS_set (a b : BitVec 256) : sameS (setN a) (setN b) = decide (a = b) := by
  rw [Bool.eq_iff_iff, sameS_iff]
  simp only [decide_eq_true_eq]
  constructor
  · intro h
    exact BitVec.eq_of_getLsbD_eq fun i hi => h i hi
  · intro h n _
    rw [h]
theorem setN_zero : setN 0#256 = fun _ => false := by
  funext n
  simp
theorem set_eql (a b : BitVec 256) (w : World) : (binOp .eql 35 (setV (setN a)) (setV (setN b))).run Tryd.prog w = .ok (.bool (decide (a = b))) w := by
  rw [run_eql_set, sameS_set]
theorem set_neq (a b : BitVec 256) (w : World) : (binOp .neq 35 (setV (setN a)) (setV (setN b))).run Tryd.prog w = .ok (.bool (!decide (a = b))) w := by
  rw [run_neq_set, sameS_set]
theorem set_eql_none (a : BitVec 256) (w : World) : (binOp .eql 35 (setV (setN a)) (.agg #[.int .u64 0, .int .u64 0, .int .u64 0, .int .u64 0])).run Tryd.prog w = .ok (.bool (decide (a = 0#256))) w := by
  have := set_eql a 0#256 w
  rwa [setN_zero, setV_none] at this

/-- The table of how many kids a kind has. -/
def kidsTab : List Int := [0, 0, 0, 0, 0, 0, 0, 0, 2, -1, 2, -1, 1, 1, 1, 1, 1, 1, 1, 1]
def TabK (w : World) : Prop := ∀ j (h : j < kidsTab.length), w.cell? ⟨0, j, none⟩ = some (.int .i64 kidsTab[j])
theorem TabK.below {n : Nat} {w w' : World} (h : TabK w) (hb : Below n w w') (hg : 0 < n) : TabK w' :=
  fun j hj => (hb.cell (p := ⟨0, j, none⟩) hg).trans (h j hj)

set_option maxRecDepth 100000 in
set_option maxHeartbeats 1000000 in
theorem within_any (a b m : Int) (w : World) :
    Calls Tryd.prog 75 #[.agg #[.int .i64 a, .int .i64 b], .int .i64 m] w fun e w' => e = .returned (.bool (decide (a ≤ m) && (decide (b = -1) || decide (m ≤ b)))) ∧ Below w.heap.size w w' := by
  go_enter Tryd.func75, Tryd.ntmps75
  go_wp2
  all_goals go_ret
  all_goals exact ⟨congrArg (fun x => Ending.returned (.bool x)) (by rw [Bool.eq_iff_iff]; simp; try omega), (Below.refl _ _).alloc (Nat.le_refl _) _⟩

set_option maxRecDepth 100000 in
set_option maxHeartbeats 1000000 in
theorem repeats_any (a b : Int) (w : World) :
    Calls Tryd.prog 77 #[.int .i64 a, .int .i64 b] w fun e w' => e = .returned (.bool (reps a b)) ∧ w' = w := by
  go_enter Tryd.func77, Tryd.ntmps77
  go_wp2
  all_goals go_ret
  all_goals exact ⟨congrArg (fun x => Ending.returned (.bool x)) (by unfold reps; rw [Bool.eq_iff_iff]; simp; try omega), rfl⟩
end Go.Proofs.YtpkjfdgjmcphmaaDoor

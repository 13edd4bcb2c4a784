/- bonsailaw04: TreeBack: what lies where. -/
import Derived.Test.YtpkjfdgjmcphmaaDoorTbm
import Derived.Test.YtpkjfdgjmcphmaaDoorTrs0
namespace Go.Proofs.YtpkjfdgjmcphmaaDoor
open Go.RowKit Bset Tm

theorem node_fresh {w : World} {h : Hd} {kv : Value} {ks : List Int} (hk : Ints w kv ks) : Nodes (w.alloc (.cells (nodeC h kv) 38)) (.slice (some ⟨w.heap.size, 0, none⟩) 1 1) [⟨h, ks⟩] := by
  have hc := Cl.new w 38 (nodeC h kv)
  have hk' := hk.below ((Below.refl _ _).alloc (Nat.le_refl _) (.cells (nodeC h kv) 38))
  refine ⟨_, 1, rfl, .inr ⟨w.heap.size, 0, rfl, fun j hj => ?_⟩⟩
  have : j = 0 := by simp at hj; omega
  subst this
  exact ⟨kv, ⟨hc.cell 0, hc.cell 1, hc.cell 2, hc.cell 3, hc.cell 4, hc.cell 5, hc.cell 6, hc.cell 7, hc.cell 8⟩, hk'⟩
theorem node_tree {w : World} {h : Hd} {kv : Value} {ks : List Int} (hk : Ints w kv ks) : Tree (w.alloc (.cells (nodeC h kv) 38)) (treeV (.slice (some ⟨w.heap.size, 0, none⟩) 1 1) 0) ⟨[⟨h, ks⟩], 0⟩ := ⟨_, rfl, node_fresh hk⟩
theorem ints_none (w : World) (p : Option Addr) (c : Nat) : Ints w (.slice p 0 c) [] := ⟨p, c, rfl, .inl rfl⟩

/-- The boxes that were handed in: a node, a tree. -/
structure Tq (w : World) (cN cT : Array Value) (W : World) : Prop where
  b : Below w.heap.size w W
  kn : Cl W w.heap.size 38 cN
  kt : Cl W (w.heap.size + 1) 26 cT
section
variable {w W W' : World} {cN cT : Array Value}
theorem Tq.below (h : Tq w cN cT W) (hb : Below W.heap.size W W') : Tq w cN cT W' := ⟨h.b.trans (hb.mono h.b.size), h.kn.below hb h.kn.lt, h.kt.below hb h.kt.lt⟩
theorem Tq.alloc (h : Tq w cN cT W) (o : Obj) : Tq w cN cT (W.alloc o) := h.below ((Below.refl _ _).alloc (Nat.le_refl _) o)
theorem Tq.drew (h : Tq w cN cT W) : Tq w cN cT W.drew := ⟨h.b.drew, h.kn, h.kt⟩
theorem Tq.big (h : Tq w cN cT W) : w.heap.size + 2 ≤ W.heap.size := by
  have := h.kt.lt
  omega
theorem Tq.put (h : Tq w cN cT W) {g : Nat} (hg : w.heap.size + 2 ≤ g) (u0 u1 : Value) : Tq w cN cT ((W.setCell ⟨g, 0, none⟩ u0).setCell ⟨g, 1, none⟩ u1) :=
  ⟨below_put2 h.b (by omega) u0 u1, (h.kn.other (p := ⟨g, 0, none⟩) (by simp; omega) u0).other (p := ⟨g, 1, none⟩) (by simp; omega) u1, (h.kt.other (p := ⟨g, 0, none⟩) (by simp; omega) u0).other (p := ⟨g, 1, none⟩) (by simp; omega) u1⟩
theorem Tq.start (w : World) (cN cT : Array Value) : Tq w cN cT ((w.alloc (.cells cN 38)).alloc (.cells cT 26)) :=
  ⟨((Below.refl _ w).alloc (Nat.le_refl _) _).alloc (by simp) _, (Cl.new w _ _).alloc _, Cl.new' (by simp) _ _⟩
end
theorem Tq.nil {w W : World} {h : Hd} {kv : Value} {cT : Array Value} (q : Tq w (nodeC h kv) cT W) : Tq w (nodeC h (.slice none 0 0)) cT (W.setCell ⟨w.heap.size, 8, none⟩ (.slice none 0 0)) :=
  ⟨q.b.setCell (p := ⟨w.heap.size, 8, none⟩) (Nat.le_refl _) _, q.kn.put 8 _, q.kt.other (p := ⟨w.heap.size, 8, none⟩) (by simp) _⟩
/-- .. and the tree that the statement has made. -/
structure T3 (w : World) (cN cT : Array Value) (gX : Nat) (vX : Value) (rX : Int) (C : List (Nd × Value)) (W : World) : Prop where
  q : Tq w cN cT W
  kx : Cl W gX 26 #[vX, .int .i64 rX]
  mx : Made (w.heap.size + 2) W vX C
  ne : w.heap.size + 2 ≤ gX
theorem T3.tree {w W : World} {cN cT : Array Value} {gX : Nat} {vX : Value} {X : Ar} {C : List (Nd × Value)} (h : T3 w cN cT gX vX X.root C W) (hC : C.map Prod.fst = X.nodes) : Tree W (treeV vX X.root) X :=
  ⟨_, rfl, hC ▸ h.mx.nodes⟩
theorem T3.below {w W W' : World} {cN cT : Array Value} {gX : Nat} {vX : Value} {rX : Int} {C : List (Nd × Value)} (h : T3 w cN cT gX vX rX C W) (hb : Below W.heap.size W W') : T3 w cN cT gX vX rX C W' :=
  ⟨h.q.below hb, h.kx.below hb h.kx.lt, h.mx.below hb, h.ne⟩
theorem T3.alloc {w W : World} {cN cT : Array Value} {gX : Nat} {vX : Value} {rX : Int} {C : List (Nd × Value)} (h : T3 w cN cT gX vX rX C W) (o : Obj) : T3 w cN cT gX vX rX C (W.alloc o) := h.below ((Below.refl _ _).alloc (Nat.le_refl _) o)
theorem T3.drew {w W : World} {cN cT : Array Value} {gX : Nat} {vX : Value} {rX : Int} {C : List (Nd × Value)} (h : T3 w cN cT gX vX rX C W) : T3 w cN cT gX vX rX C W.drew :=
  ⟨h.q.drew, h.kx, h.mx.keep fun _ _ _ => rfl, h.ne⟩
theorem T3.nil {w W : World} {h : Hd} {kv : Value} {cT : Array Value} {gX : Nat} {vX : Value} {rX : Int} {C : List (Nd × Value)} (t : T3 w (nodeC h kv) cT gX vX rX C W) : T3 w (nodeC h (.slice none 0 0)) cT gX vX rX C (W.setCell ⟨w.heap.size, 8, none⟩ (.slice none 0 0)) :=
  ⟨t.q.nil, t.kx.other (p := ⟨w.heap.size, 8, none⟩) (by have := t.ne; simp; omega) _, t.mx.store (p := ⟨w.heap.size, 8, none⟩) (by simp) _, t.ne⟩
theorem T3.S {w W : World} {h : Hd} {kv : Value} {cT : Array Value} {gX : Nat} {vX : Value} {rX : Int} {C : List (Nd × Value)} (t : T3 w (nodeC h kv) cT gX vX rX C W) :
    W.cell? ⟨w.heap.size, 0, none⟩ = some (.int .u8 h.kind) ∧ W.cell? ⟨w.heap.size, 1, none⟩ = some (.int .u64 (word (setN h.set) 0 : Nat)) ∧ W.cell? ⟨w.heap.size, 2, none⟩ = some (.int .u64 (word (setN h.set) 1 : Nat)) ∧ W.cell? ⟨w.heap.size, 3, none⟩ = some (.int .u64 (word (setN h.set) 2 : Nat)) ∧ W.cell? ⟨w.heap.size, 4, none⟩ = some (.int .u64 (word (setN h.set) 3 : Nat)) ∧
      W.cell? ⟨w.heap.size, 5, none⟩ = some (.string h.text) ∧ W.cell? ⟨w.heap.size, 6, none⟩ = some (.int .i64 h.lo) ∧ W.cell? ⟨w.heap.size, 7, none⟩ = some (.int .i64 h.hi) ∧ W.cell? ⟨w.heap.size, 8, none⟩ = some kv ∧ W.cell? ⟨gX, 0, none⟩ = some vX ∧ W.cell? ⟨gX, 1, none⟩ = some (.int .i64 rX) :=
  ⟨t.q.kn.cell 0, t.q.kn.cell 1, t.q.kn.cell 2, t.q.kn.cell 3, t.q.kn.cell 4, t.q.kn.cell 5, t.q.kn.cell 6, t.q.kn.cell 7, t.q.kn.cell 8, t.kx.cell 0, t.kx.cell 1⟩
theorem Tq.S {w W : World} {cN : Array Value} {v0 v1 : Value} (t : Tq w cN #[v0, v1] W) : W.cell? ⟨w.heap.size + 1, 0, none⟩ = some v0 ∧ W.cell? ⟨w.heap.size + 1, 1, none⟩ = some v1 :=
  ⟨t.kt.cell 0, t.kt.cell 1⟩
/-- Of, as its value stands. -/
theorem of_at (h : Hd) (kv lv : Value) (l : List Ar) (w : World) (hl : Trees w lv l) (hh : okP h 0) (hok : ∀ t ∈ l, OkA t.nodes) (htot : total l ≤ 1073741824) (hll : l.length ≤ 1073741824) (hE : Env w) :
    Calls Tryd.prog 16 #[nodeV h kv, lv] w fun e w' => ∃ p c C, e = .returned (.tuple #[treeV (.slice p (ofT h l).nodes.length c) (ofT h l).root, .bool (ofB h l)]) ∧ Made w.heap.size w' (.slice p (ofT h l).nodes.length c) C ∧ C.map Prod.fst = (ofT h l).nodes ∧ Below w.heap.size w w' := by
  refine (of_any h kv lv l w hl hh hok htot hll hE).mono ?_
  rintro e w' ⟨v', rfl, ⟨nv, C, rfl, hm, hc⟩, hb⟩
  obtain ⟨p, c, rfl⟩ := own_slice hm.row
  have hl : C.length = (ofT h l).nodes.length := by rw [← hc, List.length_map]
  rw [hl] at hm
  exact ⟨p, c, C, by rw [hl], hm, hc, hb⟩
/-- A list of trees in memory, one of them looked at. -/
theorem Trees.at {w : World} {p : Option Addr} {c : Nat} {l : List Ar} (h : Trees w (.slice p l.length c) l) {i : Nat} (hi : i < l.length) : ∃ b off nv, p = some ⟨b, off, none⟩ ∧ w.cell? ⟨b, off + i * 2, none⟩ = some nv ∧ w.cell? ⟨b, off + i * 2 + 1, none⟩ = some (.int .i64 l[i].root) ∧ Nodes w nv l[i].nodes := by
  obtain ⟨p', c', e, hh⟩ := h
  obtain ⟨rfl, _⟩ : p = p' ∧ c = c' := by simpa using e
  rcases hh with rfl | ⟨b, off, rfl, hc⟩
  · simp at hi
  · obtain ⟨nv, h0, h1, h2⟩ := hc i hi
    exact ⟨b, off, nv, rfl, h0, h1, h2⟩
end Go.Proofs.YtpkjfdgjmcphmaaDoor

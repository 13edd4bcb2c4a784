/- Package expr: the maker in memory. -/
import Derived.Test.YtpkjfdgjmcphmaaDoorVTrow
import Derived.Test.YtpkjfdgjmcphmaaDoorVTki
namespace Go.Proofs.YtpkjfdgjmcphmaaDoor
open Go.RowKit Bset Tm

/-- A world in which these blocks alone, and new ones, were written. -/
structure Fr (G : List Nat) (w w' : World) : Prop where
  os : w'.os = w.os
  tape : w'.tape = w.tape
  output : w'.output = w.output
  size : w.heap.size ≤ w'.heap.size
  block : ∀ b, b < w.heap.size → b ∉ G → w'.heap[b]? = w.heap[b]?
namespace Fr
variable {G G' : List Nat} {w w' w'' : World}
theorem refl (G : List Nat) (w : World) : Fr G w w := ⟨rfl, rfl, rfl, Nat.le_refl _, fun _ _ _ => rfl⟩
theorem trans (h : Fr G w w') (h' : Fr G w' w'') : Fr G w w'' :=
  ⟨h'.os.trans h.os, h'.tape.trans h.tape, h'.output.trans h.output, Nat.le_trans h.size h'.size, fun b hb hg => (h'.block b (Nat.lt_of_lt_of_le hb h.size) hg).trans (h.block b hb hg)⟩
theorem below (hb : Below w.heap.size w w') : Fr G w w' := ⟨hb.os, hb.tape, hb.output, hb.size, fun b h _ => hb.block b h⟩
theorem store (h : Fr G w w') {p : Addr} (hp : p.block ∈ G ∨ w.heap.size ≤ p.block) (u : Value) : Fr G w (w'.setCell p u) :=
  ⟨h.os, h.tape, h.output, by simpa using h.size, fun b hb hg => (Below.heap_setCell _ _ _ _ (by
    intro e
    rcases hp with hp | hp
    · exact hg (e ▸ hp)
    · omega)).trans (h.block b hb hg)⟩
theorem add (h : Fr G w w') (hb : Below w'.heap.size w' w'') : Fr G w w'' := h.trans (below hb)
theorem alloc (h : Fr G w w') (o : Obj) : Fr G w (w'.alloc o) := h.add ((Below.refl _ _).alloc (Nat.le_refl _) o)
theorem drew (h : Fr G w w') : Fr G w w'.drew := ⟨h.os, h.tape, h.output, h.size, h.block⟩
theorem drewN (h : Fr G w w') (n : Nat) : Fr G w (w'.drewN n) := ⟨h.os, h.tape, h.output, h.size, h.block⟩
/-- Fewer blocks, where the others are new. -/
theorem less (h : Fr G' w w') (hg : ∀ b, b < w.heap.size → b ∈ G' → b ∈ G) : Fr G w w' := ⟨h.os, h.tape, h.output, h.size, fun b hb hn => h.block b hb fun hm => hn (hg b hb hm)⟩
theorem toBelow {lo : Nat} {w0 : World} (h0 : Below lo w0 w) (h : Fr G w w') (hg : ∀ b ∈ G, lo ≤ b) (hl : lo ≤ w.heap.size) : Below lo w0 w' :=
  ⟨h.os.trans h0.os, h.tape.trans h0.tape, h.output.trans h0.output, Nat.le_trans h0.size h.size, fun b hb => (h.block b (by omega) fun hm => by have := hg b hm; omega).trans (h0.block b hb)⟩
theorem cl (h : Fr G w w') {g : Nat} {t : TypeId} {cs : Array Value} (hc : Cl w g t cs) (hg : g ∉ G) : Cl w' g t cs := (h.block g hc.lt hg).trans hc
theorem row (h : Fr G w w') {g n : Nat} {t : TypeId} {f : Nat → Value} (hc : w.rowIs g t n f) (hg : g ∉ G) : w'.rowIs g t n f := hc.of_block (h.block g hc.lt hg)
end Fr

/-- Numbers that lie in none of these blocks. -/
def IntsOff (G : List Nat) (w : World) (v : Value) (l : List Int) : Prop :=
  ∃ p cap, v = .slice p l.length cap ∧ (l = [] ∨ ∃ b off, p = some ⟨b, off, none⟩ ∧ b ∉ G ∧ ∀ j (h : j < l.length), w.cell? ⟨b, off + j, none⟩ = some (.int .i64 l[j]))
theorem IntsOff.fr {G G' : List Nat} {w w' : World} {v : Value} {l : List Int} (h : IntsOff G w v l) (hf : Fr G' w w') (hg : ∀ b, b < w.heap.size → b ∈ G' → b ∈ G) : IntsOff G w' v l := by
  obtain ⟨p, cap, e, h⟩ := h
  refine ⟨p, cap, e, h.imp id ?_⟩
  rintro ⟨b, off, e, hb, h⟩
  refine ⟨b, off, e, hb, fun j hj => ?_⟩
  have hlt := cell_lt (h j hj)
  exact (World.cell?_of_block (w := w) (hf.block b hlt fun hm => hb (hg b hlt hm))).trans (h j hj)

/-- Where a maker's lists lie. -/
structure Gm where
  m : Nat
  N : Nat
  I : Nat
  R : Nat
  X : Nat
  n : Nat
  c : Nat
abbrev Gm.all (g : Gm) : List Nat := [g.m, g.N, g.I, g.R, g.X]
abbrev rowC (r : Rw) : Array Value := #[.int .i64 (r.first : Nat), .int .i64 (r.last : Nat), .int .i64 (r.many : Nat)]
abbrev rowV (r : Rw) : Value := .agg (rowC r)
def rwAt (rw : Nat → Rw) (j : Nat) : Value := if j % 3 = 0 then .int .i64 ((rw (j / 3)).first : Nat) else if j % 3 = 1 then .int .i64 ((rw (j / 3)).last : Nat) else .int .i64 ((rw (j / 3)).many : Nat)

/-- Nodes in a row. -/
def Nd9 (w : World) (g n : Nat) (hd : Nat → Hd) (kv : Nat → Value) : Prop := ∃ m f, n * 9 ≤ m ∧ w.rowIs g 38 m f ∧ ∀ j, j < n → ∀ i, i < 9 → (nodeC (hd j) (kv j))[i]? = some (f (j * 9 + i))
theorem Nd9.at {w : World} {g n : Nat} {hd : Nat → Hd} {kv : Nat → Value} (h : Nd9 w g n hd kv) {j : Nat} (hj : j < n) : NodeAt w g (j * 9) (hd j) (kv j) ∧ ∀ i, w.frozen? ⟨g, i, none⟩ = false := by
  obtain ⟨m, f, hm, hr, hf⟩ := h
  have hc : ∀ i, i < 9 → w.cell? ⟨g, j * 9 + i, none⟩ = (nodeC (hd j) (kv j))[i]? := fun i hi => by rw [hr.cell (by omega), hf j hj i hi]
  exact ⟨⟨hc 0 (by omega), hc 1 (by omega), hc 2 (by omega), hc 3 (by omega), hc 4 (by omega), hc 5 (by omega), hc 6 (by omega), hc 7 (by omega), hc 8 (by omega)⟩, hr.frozen⟩
theorem Nd9.lt {w : World} {g n : Nat} {hd : Nat → Hd} {kv : Nat → Value} (h : Nd9 w g n hd kv) : g < w.heap.size := by
  obtain ⟨m, f, hm, hr, hf⟩ := h
  exact hr.lt
theorem Nd9.of_block {w w' : World} {g n : Nat} {hd : Nat → Hd} {kv : Nat → Value} (h : Nd9 w g n hd kv) (e : w'.heap[g]? = w.heap[g]?) : Nd9 w' g n hd kv := by
  obtain ⟨m, f, hm, hr, hf⟩ := h
  exact ⟨m, f, hm, hr.of_block e, hf⟩
theorem Nd9.put {w : World} {g n : Nat} {hd : Nat → Hd} {kv : Nat → Value} (h : Nd9 w g n hd kv) {i : Nat} (hi : i < n) (h' : Hd) (k' : Value) :
    Nd9 (nodeO w g (i * 9) (.int .u8 h'.kind) (.int .u64 (word (setN h'.set) 0 : Nat)) (.int .u64 (word (setN h'.set) 1 : Nat)) (.int .u64 (word (setN h'.set) 2 : Nat)) (.int .u64 (word (setN h'.set) 3 : Nat)) (.string h'.text) (.int .i64 h'.lo) (.int .i64 h'.hi) k') g n (upd hd i h') (upd kv i k') := by
  obtain ⟨m, f, hm, hr, hf⟩ := h
  refine ⟨m, _, hm, (((((((((hr.set (i * 9) _).set (i * 9 + 1) _).set (i * 9 + 2) _).set (i * 9 + 3) _).set (i * 9 + 4) _).set (i * 9 + 5) _).set (i * 9 + 6) _).set (i * 9 + 7) _).set (i * 9 + 8) _), fun j hj q hq => ?_⟩
  by_cases e : j = i
  · subst e
    rw [upd_at, upd_at]
    match q, hq with
    | 0, _ => simp
    | 1, _ => simp
    | 2, _ => simp
    | 3, _ => simp
    | 4, _ => simp
    | 5, _ => simp
    | 6, _ => simp
    | 7, _ => simp
    | 8, _ => simp
  · rw [upd_ne _ _ e, upd_ne _ _ e, hf j hj q hq]
    have hne : ∀ p, p < 9 → j * 9 + q ≠ i * 9 + p := fun p hp => by omega
    simp only [hne 1 (by omega), hne 2 (by omega), hne 3 (by omega), hne 4 (by omega), hne 5 (by omega), hne 6 (by omega), hne 7 (by omega), hne 8 (by omega), if_false]
    rw [if_neg (by have := hne 0 (by omega); omega)]

/-- **The maker's lists in memory**, so many nodes worked at. -/
structure Mk (g : Gm) (kv : Nat → Value) (i : Nat) (s : St) (w : World) : Prop where
  m : Cl w g.m 96 #[.slice (some ⟨g.N, 0, none⟩) g.n g.c, .slice (some ⟨g.I, 0, none⟩) g.n g.n, .slice (some ⟨g.R, 0, none⟩) g.n g.n, .slice (some ⟨g.X, 0, none⟩) g.n g.n]
  nd : ∃ kv', ((∀ j, i ≤ j → kv' j = kv j) ∧ ∀ j, ∃ p n c, kv' j = .slice p n c) ∧ Nd9 w g.N g.n s.hd kv'
  is : w.rowIs g.I 3 g.n (fun j => .int .i64 (s.is j : Nat))
  rw : w.rowIs g.R 108 (g.n * 3) (rwAt s.rw)
  nx : w.rowIs g.X 3 g.n (fun j => .int .i64 (s.nx j : Nat))
  dis : g.all.Nodup
namespace Mk
variable {g : Gm} {kv : Nat → Value} {i : Nat} {s : St} {w w' : World}
theorem fr (h : Mk g kv i s w) {G : List Nat} (hf : Fr G w w') (hg : ∀ b ∈ g.all, b ∉ G) : Mk g kv i s w' := by
  obtain ⟨kv', h1, h2⟩ := h.nd
  exact ⟨hf.cl h.m (hg _ (by simp)), ⟨kv', h1, h2.of_block (hf.block _ h2.lt (hg _ (by simp)))⟩, hf.row h.is (hg _ (by simp)), hf.row h.rw (hg _ (by simp)), hf.row h.nx (hg _ (by simp)), h.dis⟩
theorem below (h : Mk g kv i s w) (hb : Below w.heap.size w w') : Mk g kv i s w' := h.fr (G := []) (Fr.below hb) fun _ _ h => by cases h
theorem alloc (h : Mk g kv i s w) (o : Obj) : Mk g kv i s (w.alloc o) := h.below ((Below.refl _ _).alloc (Nat.le_refl _) o)
theorem drew (h : Mk g kv i s w) : Mk g kv i s w.drew := ⟨h.m, h.nd, h.is, h.rw, h.nx, h.dis⟩
theorem drewN (h : Mk g kv i s w) (n : Nat) : Mk g kv i s (w.drewN n) := ⟨h.m, h.nd, h.is, h.rw, h.nx, h.dis⟩
theorem off (h : Mk g kv i s w) {p : Addr} (hp : p.block ∉ g.all) (u : Value) : Mk g kv i s (w.setCell p u) :=
  h.fr (G := [p.block]) ((Fr.refl _ w).store (.inl (by simp)) u) fun b hb he => hp (by rw [← List.mem_singleton.1 he]; exact hb)
theorem next (h : Mk g kv i s w) {j : Nat} (hij : i ≤ j) : Mk g kv j s w := by
  obtain ⟨kv', h1, h2⟩ := h.nd
  exact ⟨h.m, ⟨kv', ⟨fun k hk => h1.1 k (by omega), h1.2⟩, h2⟩, h.is, h.rw, h.nx, h.dis⟩
theorem ne (h : Mk g kv i s w) : (g.m ≠ g.N ∧ g.m ≠ g.I ∧ g.m ≠ g.R ∧ g.m ≠ g.X) ∧ (g.N ≠ g.I ∧ g.N ≠ g.R ∧ g.N ≠ g.X) ∧ (g.I ≠ g.R ∧ g.I ≠ g.X) ∧ g.R ≠ g.X := by
  have := h.dis
  simp only [Gm.all, List.nodup_cons, List.mem_cons, List.not_mem_nil, not_or, or_false] at this
  obtain ⟨⟨a, b, c, d⟩, ⟨e, f, k⟩, ⟨l, m⟩, n, _⟩ := this
  exact ⟨⟨a, b, c, d⟩, ⟨e, f, k⟩, ⟨l, m⟩, n⟩
theorem setNx (h : Mk g kv i s w) (x v : Nat) : Mk g kv i ⟨s.hd, s.is, s.rw, upd s.nx x v⟩ (w.setCell ⟨g.X, x, none⟩ (.int .i64 (v : Nat))) := by
  obtain ⟨⟨_, _, _, a⟩, ⟨_, _, b⟩, ⟨_, c⟩, d⟩ := h.ne
  obtain ⟨kv', h1, h2⟩ := h.nd
  refine ⟨h.m.other (p := ⟨g.X, x, none⟩) a _, ⟨kv', h1, h2.of_block (Below.heap_setCell _ _ _ _ b)⟩, h.is.setOther c _, h.rw.setOther d _, (h.nx.set x _).congr fun j _ => ?_, h.dis⟩
  unfold upd
  split <;> simp [*]
theorem setIs (h : Mk g kv i s w) (x v : Nat) : Mk g kv i ⟨s.hd, upd s.is x v, s.rw, s.nx⟩ (w.setCell ⟨g.I, x, none⟩ (.int .i64 (v : Nat))) := by
  obtain ⟨⟨_, a, _, _⟩, ⟨b, _, _⟩, ⟨c, d⟩, _⟩ := h.ne
  obtain ⟨kv', h1, h2⟩ := h.nd
  refine ⟨h.m.other (p := ⟨g.I, x, none⟩) a _, ⟨kv', h1, h2.of_block (Below.heap_setCell _ _ _ _ b)⟩, (h.is.set x _).congr fun j _ => ?_, h.rw.setOther (Ne.symm c) _, h.nx.setOther (Ne.symm d) _, h.dis⟩
  unfold upd
  split <;> simp [*]
theorem setRw (h : Mk g kv i s w) (x : Nat) (r : Rw) : Mk g kv i ⟨s.hd, s.is, upd s.rw x r, s.nx⟩ (((w.setCell ⟨g.R, x * 3, none⟩ (.int .i64 (r.first : Nat))).setCell ⟨g.R, x * 3 + 1, none⟩ (.int .i64 (r.last : Nat))).setCell ⟨g.R, x * 3 + 2, none⟩ (.int .i64 (r.many : Nat))) := by
  obtain ⟨⟨_, _, a, _⟩, ⟨_, b, _⟩, ⟨c, _⟩, d⟩ := h.ne
  obtain ⟨kv', h1, h2⟩ := h.nd
  have o : ∀ {k}, k ≠ g.R → (((w.setCell ⟨g.R, x * 3, none⟩ (.int .i64 (r.first : Nat))).setCell ⟨g.R, x * 3 + 1, none⟩ (.int .i64 (r.last : Nat))).setCell ⟨g.R, x * 3 + 2, none⟩ (.int .i64 (r.many : Nat))).heap[k]? = w.heap[k]? := fun hk =>
    ((Below.heap_setCell _ _ _ _ hk).trans (Below.heap_setCell _ _ _ _ hk)).trans (Below.heap_setCell _ _ _ _ hk)
  refine ⟨(o a).trans h.m, ⟨kv', h1, h2.of_block (o b)⟩, h.is.of_block (o c), (((h.rw.set (x * 3) _).set (x * 3 + 1) _).set (x * 3 + 2) _).congr fun j _ => ?_, h.nx.of_block (o (Ne.symm d)), h.dis⟩
  unfold rwAt
  dsimp only
  by_cases e : j / 3 = x
  · rw [e, upd_at]
    have h3 : j % 3 = 0 ∨ j % 3 = 1 ∨ j % 3 = 2 := by omega
    rcases h3 with h3 | h3 | h3
    · rw [if_neg (by omega), if_neg (by omega), if_pos (by omega), if_pos h3]
    · rw [if_neg (by omega), if_pos (by omega), if_neg (by omega), if_pos h3]
    · rw [if_pos (by omega), if_neg (by omega), if_neg (by omega)]
  · rw [upd_ne _ _ e, if_neg (by omega), if_neg (by omega), if_neg (by omega)]
theorem setNd (h : Mk g kv i s w) (hi : i < g.n) (h' : Hd) (p : Option Addr) (n c : Nat) : Mk g kv (i + 1) ⟨upd s.hd i h', s.is, s.rw, s.nx⟩ (nodeO w g.N (i * 9) (.int .u8 h'.kind) (.int .u64 (word (setN h'.set) 0 : Nat)) (.int .u64 (word (setN h'.set) 1 : Nat)) (.int .u64 (word (setN h'.set) 2 : Nat)) (.int .u64 (word (setN h'.set) 3 : Nat)) (.string h'.text) (.int .i64 h'.lo) (.int .i64 h'.hi) (.slice p n c)) := by
  obtain ⟨⟨ea, _, _, _⟩, ⟨eb, ec, ed⟩, _, _⟩ := h.ne
  obtain ⟨kv', h1, h2⟩ := h.nd
  refine ⟨Cl.otherO _ _ _ _ _ _ _ _ _ h.m ea, ⟨upd kv' i (.slice p n c), ⟨fun j hj => by rw [upd_ne _ _ (by omega)]; exact h1.1 j (by omega), fun j => by
    by_cases e : j = i
    · rw [e, upd_at]; exact ⟨p, n, c, rfl⟩
    · rw [upd_ne _ _ e]; exact h1.2 j⟩, h2.put hi h' (.slice p n c)⟩, row_nodeO _ _ _ _ _ _ _ _ _ h.is (Ne.symm eb), row_nodeO _ _ _ _ _ _ _ _ _ h.rw (Ne.symm ec), row_nodeO _ _ _ _ _ _ _ _ _ h.nx (Ne.symm ed), h.dis⟩
theorem lt (h : Mk g kv i s w) : ∀ b ∈ g.all, b < w.heap.size := fun b hb => by
  obtain ⟨kv', _, h2⟩ := h.nd
  simp only [Gm.all, List.mem_cons, List.not_mem_nil, or_false] at hb
  rcases hb with rfl | rfl | rfl | rfl | rfl
  · exact h.m.lt
  · exact h2.lt
  · exact h.is.lt
  · exact h.rw.lt
  · exact h.nx.lt
theorem off4 (h : Mk g kv i s w) {b : Nat} (hb : w.heap.size ≤ b) : b ≠ g.X ∧ b ≠ g.N ∧ b ≠ g.R ∧ b ≠ g.I := by
  have h1 := h.lt g.X (by simp)
  have h2 := h.lt g.N (by simp)
  have h3 := h.lt g.R (by simp)
  have h4 := h.lt g.I (by simp)
  omega
theorem four (h : Mk g kv i s w) : (w.cell? ⟨g.m, 0, none⟩ = some (.slice (some ⟨g.N, 0, none⟩) g.n g.c) ∧ w.cell? ⟨g.m, 1, none⟩ = some (.slice (some ⟨g.I, 0, none⟩) g.n g.n) ∧ w.cell? ⟨g.m, 2, none⟩ = some (.slice (some ⟨g.R, 0, none⟩) g.n g.n) ∧ w.cell? ⟨g.m, 3, none⟩ = some (.slice (some ⟨g.X, 0, none⟩) g.n g.n)) :=
  ⟨h.m.cell 0, h.m.cell 1, h.m.cell 2, h.m.cell 3⟩
theorem rowAt (h : Mk g kv i s w) {j : Nat} (hj : j < g.n) : w.cell? ⟨g.R, j * 3, none⟩ = some (.int .i64 ((s.rw j).first : Nat)) ∧ w.cell? ⟨g.R, j * 3 + 1, none⟩ = some (.int .i64 ((s.rw j).last : Nat)) ∧ w.cell? ⟨g.R, j * 3 + 2, none⟩ = some (.int .i64 ((s.rw j).many : Nat)) := by
  refine ⟨?_, ?_, ?_⟩
  · rw [h.rw.cell (by omega)]
    unfold rwAt
    rw [if_pos (by omega), show j * 3 / 3 = j by omega]
  · rw [h.rw.cell (by omega)]
    unfold rwAt
    rw [if_neg (by omega), if_pos (by omega), show (j * 3 + 1) / 3 = j by omega]
  · rw [h.rw.cell (by omega)]
    unfold rwAt
    rw [if_neg (by omega), if_neg (by omega), show (j * 3 + 2) / 3 = j by omega]
end Mk
theorem Cl.three {w : World} {g : Nat} {t : TypeId} {a b c : Value} (h : Cl w g t #[a, b, c]) : (w.cell? ⟨g, 0, none⟩ = some a ∧ w.cell? ⟨g, 1, none⟩ = some b ∧ w.cell? ⟨g, 2, none⟩ = some c) ∧ ∀ i, w.frozen? ⟨g, i, none⟩ = false :=
  ⟨⟨h.cell 0, h.cell 1, h.cell 2⟩, h.free⟩
theorem Cl.oneC {w : World} {g : Nat} {t : TypeId} {a : Value} (h : Cl w g t #[a]) : w.cell? ⟨g, 0, none⟩ = some a ∧ ∀ i, w.frozen? ⟨g, i, none⟩ = false :=
  ⟨h.cell 0, h.free⟩
end Go.Proofs.YtpkjfdgjmcphmaaDoor

/- Package expr: opened, leaf, holder, seq. -/
namespace Go.Proofs.YtpkjfdgjmcphmaaDoor
open Go.RowKit Bset Tm

set_option maxRecDepth 100000 in
set_option maxHeartbeats 1000000 in
theorem opened_any (p wi : Nat) (w : World) :
    Calls Tryd.prog 94 #[.int .u8 p, .int .u8 wi] w fun e w' => e = .returned (.bool (opens p wi)) ∧ w' = w := by
  by_cases h4 : wi = 4
  · subst h4
    by_cases hp : p = 4
    · subst hp
      go_enter Tryd.func94, Tryd.ntmps94
      go_wp2
      go_ret
      exact ⟨rfl, rfl⟩
    · have hp' : ¬ (p : Int) = 4 := by omega
      by_cases hp0 : p = 0
      · subst hp0
        go_enter Tryd.func94, Tryd.ntmps94
        go_wp2
        go_ret
        exact ⟨rfl, rfl⟩
      · have hp0' : ¬ (p : Int) = 0 := by omega
        have ho : opens p 4 = false := by
          cases h : opens p 4 with
          | false => rfl
          | true => rcases (opens_four p).1 h with h | h <;> omega
        rw [ho]
        clear ho
        go_enter Tryd.func94, Tryd.ntmps94
        go_wp2
        go_ret
        exact ⟨by simp [hp0, hp'], rfl⟩
  · have h4' : ¬ (wi : Int) = 4 := by omega
    by_cases h5 : wi = 5
    · subst h5
      have ho : opens p 5 = decide ((p : Int) = 5) := by
        rw [Bool.eq_iff_iff, opens_five, decide_eq_true_eq]
        omega
      rw [ho]
      clear ho
      go_enter Tryd.func94, Tryd.ntmps94
      go_wp2
      go_ret
      exact ⟨rfl, rfl⟩
    · have h5' : ¬ (wi : Int) = 5 := by omega
      rw [opens_no h4 h5]
      clear h4 h5
      go_enter Tryd.func94, Tryd.ntmps94
      go_wp2
      go_ret
      exact ⟨rfl, rfl⟩

set_option maxRecDepth 100000 in
set_option maxHeartbeats 1000000 in
theorem mleaf_any (v : Value) (i : Nat) (r : Rw) (w : World) :
    Calls Tryd.prog 117 #[v, .int .i64 i, rowV r] w fun e w' => e = .returned (.int .i64 i) ∧ Below w.heap.size w w' := by
  have b0 := (Below.refl w.heap.size w).alloc (Nat.le_refl _) (.cells (rowC r) 108)
  go_enter Tryd.func117, Tryd.ntmps117
  go_wp2
  go_ret
  exact ⟨rfl, b0⟩

set_option maxRecDepth 100000 in
set_option maxHeartbeats 4000000 in
theorem holder_any (g : Gm) (kv : Nat → Value) (st : Nat) (s : St) (i : Nat) (r : Rw) (w : World) (h : Mk g kv st s w) (hi : i < g.n) (_hn : g.n ≤ 4294967296) :
    Calls Tryd.prog 119 #[.pointer (some ⟨g.m, 0, none⟩), .int .i64 i, rowV r] w fun e w' => e = .returned (.int .i64 i) ∧ Mk g kv st ⟨s.hd, s.is, upd s.rw i r, s.nx⟩ w' ∧ Fr [g.R] w w' := by
  have h1 := h.alloc (.cells (rowC r) 108)
  have f1 := (Fr.refl [g.R] w).alloc (.cells (rowC r) 108)
  obtain ⟨⟨x0, x1, x2⟩, xf⟩ := (Cl.new w 108 (rowC r)).three
  obtain ⟨m0, m1, m2, m3⟩ := h1.four
  obtain ⟨r0, r1, r2⟩ := h1.rowAt hi
  have rf := h1.rw.frozen
  have hi0 : (0 : Int) ≤ (i : Int) := by omega
  have hi1 : (i : Int) < (g.n : Int) := by omega
  have hne : ¬ w.heap.size = g.R := by have := h.rw.lt; omega
  have hne' : ¬ g.R = w.heap.size := by have := h.rw.lt; omega
  go_enter Tryd.func119, Tryd.ntmps119
  go_wp2
  go_region
  go_wp2
  go_ret
  exact ⟨rfl, (h1.setRw i r).drew, (((f1.store (p := ⟨g.R, i * 3, none⟩) (.inl (by simp)) _).store (p := ⟨g.R, i * 3 + 1, none⟩) (.inl (by simp)) _).store (p := ⟨g.R, i * 3 + 2, none⟩) (.inl (by simp)) _).drew⟩

theorem zero_node : (nodeC noHd (.slice none 0 0)) = nodeZ := by
  have := nodeV_zero 0 ⟨#[]⟩ 0 0 (.slice none 0 0)
  unfold nodeV at this
  exact Value.agg.inj this

set_option maxRecDepth 100000 in
set_option maxHeartbeats 4000000 in
theorem mseq_any (g : Gm) (kv : Nat → Value) (s : St) (i : Nat) (r : Rw) (w : World) (h : Mk g kv i s w) (hi : i < g.n) (hn : g.n ≤ 4294967296) :
    Calls Tryd.prog 118 #[.pointer (some ⟨g.m, 0, none⟩), .int .i64 i, rowV r] w fun e w' => ∃ k s', e = .returned (.int .i64 (k : Nat)) ∧ Mk g kv (i + 1) s' w' ∧ Fr [g.N, g.R] w w' ∧
      (k, s') = (if r.many = 0 then (i, ⟨upd s.hd i noHd, s.is, s.rw, s.nx⟩) else if r.many = 1 then (r.first, s) else (i, ⟨s.hd, s.is, upd s.rw i r, s.nx⟩)) := by
  have h1 := h.alloc (.cells (rowC r) 108)
  have f1 := (Fr.refl [g.N, g.R] w).alloc (.cells (rowC r) 108)
  obtain ⟨⟨x0, x1, x2⟩, xf⟩ := (Cl.new w 108 (rowC r)).three
  obtain ⟨m0, m1, m2, m3⟩ := h1.four
  obtain ⟨kv', hk1, hk2⟩ := h1.nd
  obtain ⟨⟨c0, c1, c2, c3, c4, c5, c6, c7, c8⟩, cf⟩ := hk2.at hi
  have hi0 : (0 : Int) ≤ (i : Int) := by omega
  have hi1 : (i : Int) < (g.n : Int) := by omega
  by_cases hm0 : r.many = 0
  · rw [if_pos hm0]
    have hm : (r.many : Int) = 0 := by omega
    clear hm0
    go_enter Tryd.func118, Tryd.ntmps118
    go_wp2
    go_ret
    have h2 := h1.setNd hi noHd none 0 0
    exact ⟨_, _, rfl, h2, (((((((((f1.store (p := ⟨g.N, i * 9, none⟩) (.inl (by simp)) _).store (p := ⟨g.N, i * 9 + 1, none⟩) (.inl (by simp)) _).store (p := ⟨g.N, i * 9 + 2, none⟩) (.inl (by simp)) _).store (p := ⟨g.N, i * 9 + 3, none⟩) (.inl (by simp)) _).store (p := ⟨g.N, i * 9 + 4, none⟩) (.inl (by simp)) _).store (p := ⟨g.N, i * 9 + 5, none⟩) (.inl (by simp)) _).store (p := ⟨g.N, i * 9 + 6, none⟩) (.inl (by simp)) _).store (p := ⟨g.N, i * 9 + 7, none⟩) (.inl (by simp)) _).store (p := ⟨g.N, i * 9 + 8, none⟩) (.inl (by simp)) _), rfl⟩
  · rw [if_neg hm0]
    have hm : ¬ (r.many : Int) = 0 := by omega
    by_cases hm1 : r.many = 1
    · rw [if_pos hm1]
      have hm' : (r.many : Int) = 1 := by omega
      clear hm0 hm1
      go_enter Tryd.func118, Tryd.ntmps118
      go_wp2
      go_ret
      exact ⟨_, _, rfl, h1.next (Nat.le_succ _), f1, rfl⟩
    · rw [if_neg hm1]
      have hm' : ¬ (r.many : Int) = 1 := by omega
      have hho := fun W (hW : Mk g kv i s W) => holder_any g kv i s i r W hW hi hn
      clear hm0 hm1
      go_enter Tryd.func118, Tryd.ntmps118
      go_wp2_with (go_at_call 119; refine (hho _ h1).mono ?_; rintro e w2 ⟨rfl, h2, f2⟩)
      go_ret
      exact ⟨_, _, rfl, h2.next (Nat.le_succ _), f1.trans (f2.less fun b _ hb => by simp at hb; simp [hb]), rfl⟩

/- ## What gathers -/
theorem cf_mput (args : Array Value) (W : World) : (callFunc 120 args).run Tryd.prog W = .ok (.enter 120 args) W := by
  kernel_rfl

/-- What the closure holds: the row so far, and the maker. -/
structure Ga (g : Gm) (gA gB : Nat) (a : Rw) (w : World) : Prop where
  a : Cl w gA 108 (rowC a)
  b : Cl w gB 92 #[.pointer (some ⟨g.m, 0, none⟩)]
  ne : gA ∉ g.all ∧ gB ∉ g.all ∧ gA ≠ gB

set_option maxRecDepth 100000 in
set_option maxHeartbeats 4000000 in
theorem mput_any (g : Gm) (kv : Nat → Value) (st : Nat) (s : St) (a r : Rw) (gA gB : Nat) (w : World) (h : Mk g kv st s w) (hG : Ga g gA gB a w) (_hn : g.n ≤ 4294967296) (ha : a.many = 0 ∨ a.last < g.n) (hs : a.many + r.many ≤ 4294967296) :
    Calls Tryd.prog 120 #[rowV r, .pointer (some ⟨gA, 0, none⟩), .pointer (some ⟨gB, 0, none⟩)] w fun e w' => e = .returned (.tuple #[]) ∧ Mk g kv st ⟨s.hd, s.is, s.rw, (putF (a, s.nx) r).2⟩ w' ∧ Ga g gA gB (putF (a, s.nx) r).1 w' ∧ Fr [g.X, gA] w w' := by
  have h1 := h.alloc (.cells (rowC r) 108)
  have f1 := (Fr.refl [g.X, gA] w).alloc (.cells (rowC r) 108)
  have ka := hG.a.alloc (.cells (rowC r) 108)
  have kb := hG.b.alloc (.cells (rowC r) 108)
  obtain ⟨⟨x0, x1, x2⟩, xf⟩ := (Cl.new w 108 (rowC r)).three
  obtain ⟨⟨a0, a1, a2⟩, af⟩ := ka.three
  obtain ⟨b0, bf⟩ := kb.oneC
  obtain ⟨m0, m1, m2, m3⟩ := h1.four
  obtain ⟨n1, n2, n3⟩ := hG.ne
  have e1 : ¬ w.heap.size = g.X := by have := h.nx.lt; omega
  have e2 : ¬ g.X = w.heap.size := by have := h.nx.lt; omega
  have e3 : ¬ gA = g.X := fun e => n1 (by rw [e]; simp)
  have e4 : ¬ g.X = gA := fun e => n1 (by rw [← e]; simp)
  have e5 : ¬ w.heap.size = gA := by have := hG.a.lt; omega
  have e6 : ¬ gA = w.heap.size := by have := hG.a.lt; omega
  have e7 : gB ≠ g.X := fun e => n2 (by rw [e]; simp)
  unfold putF
  by_cases hm0 : r.many = 0
  · rw [if_pos hm0]
    have hm : (r.many : Int) = 0 := by omega
    clear hm0
    go_enter Tryd.func120, Tryd.ntmps120
    go_wp2
    (try simp only [Exit.inBlock, Exit.then]); refine bodyPost_ret (results_none rfl _ _ _) rfl ?_
    exact ⟨rfl, h1, ⟨ka, kb, hG.ne⟩, f1⟩
  · rw [if_neg hm0]
    have hm : ¬ (r.many : Int) = 0 := by omega
    by_cases ha0 : a.many = 0
    · rw [if_pos ha0]
      have hm' : (a.many : Int) = 0 := by omega
      clear hm0 ha0
      go_enter Tryd.func120, Tryd.ntmps120
      go_wp2
      (try simp only [Exit.inBlock, Exit.then]); refine bodyPost_ret (results_none rfl _ _ _) rfl ?_
      have h2 := h1.off (p := ⟨gA, 0, none⟩) n1 (.int .i64 r.first)
      have h3 := h2.off (p := ⟨gA, 1, none⟩) n1 (.int .i64 r.last)
      have h4 := h3.off (p := ⟨gA, 2, none⟩) n1 (.int .i64 r.many)
      exact ⟨rfl, h4, ⟨((ka.put 0 _).put 1 _).put 2 _, ((kb.other (p := ⟨gA, 0, none⟩) (Ne.symm n3) _).other (p := ⟨gA, 1, none⟩) (Ne.symm n3) _).other (p := ⟨gA, 2, none⟩) (Ne.symm n3) _, hG.ne⟩, ((f1.store (p := ⟨gA, 0, none⟩) (.inl (by simp)) _).store (p := ⟨gA, 1, none⟩) (.inl (by simp)) _).store (p := ⟨gA, 2, none⟩) (.inl (by simp)) _⟩
    · rw [if_neg ha0]
      have hm' : ¬ (a.many : Int) = 0 := by omega
      have hlt : a.last < g.n := by omega
      have y0 := h1.nx.cell hlt
      have yf := h1.nx.frozen
      have hi0 : (0 : Int) ≤ (a.last : Int) := by omega
      have hi1 : (a.last : Int) < (g.n : Int) := by omega
      have hw : IntKind.i64.wrap ((a.many : Int) + (r.many : Int)) = ((a.many + r.many : Nat) : Int) := by rw [IntWalk.i64_in _ (by omega)]; omega
      clear hm0 ha0
      go_enter Tryd.func120, Tryd.ntmps120
      go_wp2
      go_region
      go_wp2
      go_region
      go_wp2
      go_end0
      have h2 := h1.setNx a.last r.first
      have h3 := h2.off (p := ⟨gA, 1, none⟩) n1 (.int .i64 r.last)
      have h4 := h3.off (p := ⟨gA, 2, none⟩) n1 (.int .i64 (a.many + r.many : Nat))
      have ka2 := ((ka.other (p := ⟨g.X, a.last, none⟩) e3 (.int .i64 r.first)).put 1 (.int .i64 r.last)).put 2 (.int .i64 (a.many + r.many : Nat))
      have kb2 := ((kb.other (p := ⟨g.X, a.last, none⟩) e7 (.int .i64 r.first)).other (p := ⟨gA, 1, none⟩) (Ne.symm n3) (.int .i64 r.last)).other (p := ⟨gA, 2, none⟩) (Ne.symm n3) (.int .i64 (a.many + r.many : Nat))
      exact ⟨rfl, h4.drew.drew, ⟨ka2.drew.drew, kb2.drew.drew, hG.ne⟩, (((f1.store (p := ⟨g.X, a.last, none⟩) (.inl (by simp)) _).store (p := ⟨gA, 1, none⟩) (.inl (by simp)) _).store (p := ⟨gA, 2, none⟩) (.inl (by simp)) _).drew.drew⟩
end Go.Proofs.YtpkjfdgjmcphmaaDoor

/- Package expr: gathered. -/
namespace Go.Proofs.YtpkjfdgjmcphmaaDoor
open Go.RowKit Bset Tm

theorem gatF_next (s : St) (wi : Nat) {ks : List Nat} {q : Nat} (h : q < ks.length) : gatF s wi (ks.take (q + 1)) = putF (gatF s wi (ks.take q)) (partF s wi ks[q]) := by
  unfold gatF
  rw [List.take_succ_eq_append_getElem h, List.foldl_append]
  rfl
theorem putF_nx (a : Rw) (nx : Nat → Nat) (r : Rw) : putF (a, nx) r = ((putF (a, nx) r).1, (putF (a, nx) r).2) := rfl
/-- The bounds of what is gathered. -/
structure Gok (g : Gm) (s : St) (wi : Nat) (ks : List Nat) : Prop where
  sum : ∀ q, q ≤ ks.length → (gatF s wi (ks.take q)).1.many ≤ 2147483647
  last : ∀ q, q ≤ ks.length → (gatF s wi (ks.take q)).1.many = 0 ∨ (gatF s wi (ks.take q)).1.last < g.n
  part : ∀ k ∈ ks, s.is k < g.n ∧ (partF s wi k).many ≤ 2147483647
  kid : ∀ k ∈ ks, k < g.n

theorem end_row {fn : Func} {R : Ending → World → Prop} {a : Act} {w : World} {tm : Tmp} {g : Nat} {T : TypeId} {v0 v1 v2 : Value} (hc : Cl w g T #[v0, v1, v2])
    (hr : fn.results = #[.cell tm 108]) (ht : a.tmps[tm]?.getD undef = .pointer (some ⟨g, 0, none⟩)) (hd : a.defers = []) (hR : R (.returned (.agg #[v0, v1, v2])) w) : bodyPost Tryd.prog fn R .ret a w := by
  obtain ⟨⟨y0, y1, y2⟩, yf⟩ := hc.three
  exact bodyPost_ret (v := .agg #[v0, v1, v2]) (by simp [results, hr, ht, go_sem, y0, y1, y2]) hd hR

set_option maxRecDepth 100000 in
set_option maxHeartbeats 8000000 in
theorem gathered_any (g : Gm) (kv : Nat → Value) (i : Nat) (s : St) (ks : List Int) (w : World) (h : Mk g kv i s w) (hi : i < g.n) (hn : g.n ≤ 2147483647) (hks : IntsOff g.all w (kv i) ks) (hk0 : ∀ k ∈ ks, 0 ≤ k)
    (hlen : ks.length ≤ 4294967296) (hok : Gok g s (s.hd i).kind (ks.map Int.toNat)) :
    Calls Tryd.prog 107 #[.pointer (some ⟨g.m, 0, none⟩), .int .i64 i] w fun e w' => e = .returned (rowV (gatF s (s.hd i).kind (ks.map Int.toNat)).1) ∧ Mk g kv i ⟨s.hd, s.is, s.rw, (gatF s (s.hd i).kind (ks.map Int.toNat)).2⟩ w' ∧ Fr [g.X] w w' := by
  obtain ⟨wi, hwi⟩ : ∃ wi, wi = (s.hd i).kind := ⟨_, rfl⟩
  rw [← hwi] at hok ⊢
  have b1 := ((Below.refl w.heap.size w).alloc (Nat.le_refl _) (.cells #[.pointer (some ⟨g.m, 0, none⟩)] 92)).alloc (by simp) (.cells #[.int .i64 0, .int .i64 0, .int .i64 0] 108)
  have b0 := b1.alloc (by simp; omega) (.cells #[.int .i64 0, .int .i64 0, .int .i64 0] 108)
  have h0 := h.below b0
  have kB : Cl _ w.heap.size 92 #[.pointer (some ⟨g.m, 0, none⟩)] := ((Cl.new w 92 #[.pointer (some ⟨g.m, 0, none⟩)]).alloc (.cells #[.int .i64 0, .int .i64 0, .int .i64 0] 108)).alloc (.cells #[.int .i64 0, .int .i64 0, .int .i64 0] 108)
  have kR : Cl _ (w.heap.size + 1) 108 #[.int .i64 0, .int .i64 0, .int .i64 0] := (Cl.new' (w := w.alloc (.cells #[.pointer (some ⟨g.m, 0, none⟩)] 92)) (by simp) 108 #[.int .i64 0, .int .i64 0, .int .i64 0]).alloc (.cells #[.int .i64 0, .int .i64 0, .int .i64 0] 108)
  have kA : Cl _ (w.heap.size + 1 + 1) 108 #[.int .i64 0, .int .i64 0, .int .i64 0] := Cl.new' (w := (w.alloc (.cells #[.pointer (some ⟨g.m, 0, none⟩)] 92)).alloc (.cells #[.int .i64 0, .int .i64 0, .int .i64 0] 108)) (by simp) 108 #[.int .i64 0, .int .i64 0, .int .i64 0]
  have hall : ∀ b ∈ g.all, b < w.heap.size := fun b hb => by
    obtain ⟨kv', _, h2⟩ := h.nd
    simp only [Gm.all, List.mem_cons, List.not_mem_nil, or_false] at hb
    rcases hb with rfl | rfl | rfl | rfl | rfl
    · exact h.m.lt
    · exact h2.lt
    · exact h.is.lt
    · exact h.rw.lt
    · exact h.nx.lt
  have hG : Ga g (w.heap.size + 1 + 1) w.heap.size rw0 (((w.alloc (.cells #[.pointer (some ⟨g.m, 0, none⟩)] 92)).alloc (.cells #[.int .i64 0, .int .i64 0, .int .i64 0] 108)).alloc (.cells #[.int .i64 0, .int .i64 0, .int .i64 0] 108)) :=
    ⟨kA, kB, fun hb => by have := hall _ hb; omega, fun hb => by have := hall _ hb; omega, by omega⟩
  obtain ⟨pk, ck, hkv, hkk⟩ := hks
  obtain ⟨bB, fB⟩ := kB.oneC
  obtain ⟨m0, m1, m2, m3⟩ := h0.four
  obtain ⟨kv', hk1, hk2⟩ := h0.nd
  obtain ⟨c0, c1, c2, c3, c4, c5, c6, c7, c8⟩ := (hk2.at hi).1
  rw [hk1.1 i (Nat.le_refl _), hkv] at c8
  have hi0 : (0 : Int) ≤ (i : Int) := by omega
  have hi1 : (i : Int) < (g.n : Int) := by omega
  have hOK := Lib.hid hok
  have HWI := Lib.hid hwi
  have HALL := Lib.hid hall
  clear hok hall hwi hk1 hk2 kA kB c0 c1 c2 c3 c4 c5 c6 c7 hkv
  go_enter Tryd.func107, Tryd.ntmps107
  go_wp2
  have hF0 : Fr [g.X, w.heap.size + 1 + 1] w _ := Fr.below b0
  have kR' := kR
  generalize (((w.alloc (.cells #[.pointer (some ⟨g.m, 0, none⟩)] 92)).alloc (.cells #[.int .i64 0, .int .i64 0, .int .i64 0] 108)).alloc (.cells #[.int .i64 0, .int .i64 0, .int .i64 0] 108)) = W0 at *
  have hgX : g.X < w.heap.size := by have := HALL.out g.X (by simp); exact this
  have HR := Lib.hid kR
  have HF0 := Lib.hid hF0
  have HSZ := Lib.hid b0.size
  have HB0 := Lib.hid b0
  clear b0 b1 kR kR' bB fB m0 m1 m2 m3 c8 hF0
  go_loopw [8, 9, 20] (fun v8 v9 v20 W => ∃ q : Nat, v20 = .int .i64 q ∧ q ≤ ks.length ∧ Mk g kv i ⟨s.hd, s.is, s.rw, (gatF s wi ((ks.map Int.toNat).take q)).2⟩ W ∧ Ga g (w.heap.size + 1 + 1) w.heap.size (gatF s wi ((ks.map Int.toNat).take q)).1 W ∧ Fr [g.X, w.heap.size + 1 + 1] W0 W) (fun _ _ v _ => ks.length - (intOf v).toNat)
  case atStart => exact ⟨0, rfl, Nat.zero_le _, h0, hG, Fr.refl _ _⟩
  case round =>
    clear h0 hG
    obtain ⟨q, rfl, hq, hM, hG, hF⟩ := hrel
    by_cases hlt : q < ks.length
    · have hgx := HALL.out g.X (by simp)
      rcases hkk with hkk | ⟨bk, off, rfl, hbk, hc⟩
      · rw [hkk] at hlt
        simp at hlt
      have hcw := hc q hlt
      have hbw := cell_lt hcw
      have hmem : ks[q] ∈ ks := List.getElem_mem hlt
      obtain ⟨k, hk⟩ : ∃ k : Nat, ks[q] = (k : Int) := ⟨ks[q].toNat, by have := hk0 _ hmem; omega⟩
      rw [hk] at hcw
      have x0 : wr.cell? ⟨bk, off + q, none⟩ = some (.int .i64 (k : Int)) := by
        rw [World.cell?_of_block (w := W0) (hF.block bk (by have := HSZ.out; omega) (by
          simp only [List.mem_cons, List.not_mem_nil, or_false, not_or]
          exact ⟨fun e => hbk (by rw [e]; simp), by omega⟩))]
        rw [HB0.out.cell (p := ⟨bk, off + q, none⟩) hbw]
        exact hcw
      have hlt' : q < (ks.map Int.toNat).length := by simpa using hlt
      have hkq : (ks.map Int.toNat)[q] = k := by simp [hk]
      have hnx := gatF_next s wi hlt'
      rw [hkq] at hnx
      have hkm : k ∈ ks.map Int.toNat := by rw [← hkq]; exact List.getElem_mem hlt'
      obtain ⟨hp1, hp2⟩ := hOK.out.part k hkm
      have hkn := hOK.out.kid k hkm
      have hs1 := hOK.out.sum q (by simpa using hq)
      have hl1 := hOK.out.last q (by simpa using hq)
      obtain ⟨P, hP⟩ : ∃ P, P = s.is k := ⟨_, rfl⟩
      obtain ⟨b0, bf⟩ := hG.b.oneC
      obtain ⟨m0, m1, m2, m3⟩ := hM.four
      have i0 := hM.is.cell hkn
      dsimp only at i0
      rw [← hP] at i0 hp1
      obtain ⟨kv2, hv1, hv2⟩ := hM.nd
      have c0 := (hv2.at hp1).1.c0
      have d0 := (hv2.at hi).1.c0
      dsimp only at c0 d0
      rw [← HWI.out] at d0
      have hr3 := hM.rowAt hp1
      obtain ⟨r0, r1, r2⟩ := hr3
      dsimp only at r0 r1 r2
      have hq0 : (0 : Int) ≤ (q : Int) := by omega
      have hq1 : (q : Int) < (ks.length : Int) := by omega
      have hk0' : (0 : Int) ≤ (k : Int) := by omega
      have hk1' : (k : Int) < (g.n : Int) := by omega
      have hP0 : (0 : Int) ≤ (P : Int) := by omega
      have hP1 : (P : Int) < (g.n : Int) := by omega
      have hwq : IntKind.i64.wrap ((q : Int) + 1) = ((q + 1 : Nat) : Int) := by rw [IntWalk.i64_in _ (by omega)]; omega
      have HP := Lib.hid hP
      have HNX := Lib.hid hnx
      obtain ⟨GQ, hGQ⟩ : ∃ GQ, GQ = gatF s wi ((ks.map Int.toNat).take q) := ⟨_, rfl⟩
      rw [← hGQ] at hM hG hs1 hl1 hnx
      have HGQ := Lib.hid hGQ
      have hput := fun (r : Rw) (W : World) (h1 : Mk g kv i ⟨s.hd, s.is, s.rw, GQ.2⟩ W) (h2 : Ga g (w.heap.size + 1 + 1) w.heap.size GQ.1 W) (h3 : r.many ≤ 2147483647) => mput_any g kv i ⟨s.hd, s.is, s.rw, GQ.2⟩ GQ.1 r (w.heap.size + 1 + 1) w.heap.size W h1 h2 (by omega) hl1 (by omega)
      have hpf : partF s wi k = if opens (s.hd P).kind wi = true then s.rw P else ⟨P, P, 1⟩ := by rw [hP]; rfl
      rw [hpf] at hp2
      have HPF := Lib.hid hpf
      obtain ⟨kd, hkd⟩ : ∃ kd, kd = (s.hd P).kind := ⟨_, rfl⟩
      rw [← hkd] at c0 hp2
      have HKD := Lib.hid hkd
      obtain ⟨O, hO⟩ : ∃ O, opens kd wi = O := ⟨_, rfl⟩
      have hop := fun W => opened_any kd wi W
      simp only [hO] at hop
      rw [hO] at hp2
      have HO := Lib.hid hO
      clear hP hnx hGQ hpf hkd hO hc hkq hlt' hkm hcw hk hbk hmem hv1 hv2 hlt
      go_wp2
      go_quiet ((go_at_call 94; refine Calls.quiet_of_same (hop _)))
      have hM' := fun n => hM.drewN n
      have hG' : ∀ n, Ga g (w.heap.size + 1 + 1) w.heap.size GQ.1 (wr.drewN n) := fun n => ⟨hG.a, hG.b, hG.ne⟩
      have hF' := fun n => hF.drewN n
      have fin : ∀ (r : Rw) (w2 : World), partF s wi k = r → Mk g kv i ⟨s.hd, s.is, s.rw, (putF (GQ.1, GQ.2) r).2⟩ w2 → Ga g (w.heap.size + 1 + 1) w.heap.size (putF (GQ.1, GQ.2) r).1 w2 → Mk g kv i ⟨s.hd, s.is, s.rw, (gatF s wi ((ks.map Int.toNat).take (q + 1))).2⟩ w2 ∧ Ga g (w.heap.size + 1 + 1) w.heap.size (gatF s wi ((ks.map Int.toNat).take (q + 1))).1 w2 := by
        intro r w2 e1 e2 e3
        rw [HNX.out, e1, ← HGQ.out]
        exact ⟨e2, e3⟩
      have hqn : q + 1 ≤ ks.length := by omega
      cases O with
      | true =>
        rw [if_pos rfl] at hp2
        go_wp2_with (go_at_call 120; refine (hput (s.rw P) _ (hM' _) (hG' _) hp2).mono ?_; rintro e w2 ⟨rfl, hM2, hG2, hF2⟩)
        obtain ⟨hM3, hG3⟩ := fin (s.rw P) w2 (by rw [HPF.out, ← HKD.out, HO.out, if_pos rfl]) hM2 hG2
        exact ⟨⟨q + 1, by go_num, hqn, hM3, hG3, (hF' _).trans hF2⟩, by first | exact meas_next hqn | exact meas_next' hqn⟩
      | false =>
        rw [if_neg (by decide)] at hp2
        go_wp2_with (go_at_call 120; refine (hput ⟨P, P, 1⟩ _ (hM' _) (hG' _) hp2).mono ?_; rintro e w2 ⟨rfl, hM2, hG2, hF2⟩)
        obtain ⟨hM3, hG3⟩ := fin ⟨P, P, 1⟩ w2 (by rw [HPF.out, ← HKD.out, HO.out, if_neg (by decide)]) hM2 hG2
        exact ⟨⟨q + 1, by go_num, hqn, hM3, hG3, (hF' _).trans hF2⟩, by first | exact meas_next hqn | exact meas_next' hqn⟩
    · obtain rfl : q = ks.length := by omega
      rw [List.take_of_length_le (by simp)] at hM hG
      clear hlt hq
      obtain ⟨⟨a0, a1, a2⟩, af⟩ := hG.a.three
      have kR := hF.cl HR.out (by simp; omega)
      obtain ⟨⟨r0, r1, r2⟩, rf⟩ := kR.three
      go_wp2
      have kR2 : Cl _ (w.heap.size + 1) 108 (rowC (gatF s wi (ks.map Int.toNat)).1) := ((kR.put 0 _).put 1 _).put 2 _
      have hM2 := ((hM.off (p := ⟨w.heap.size + 1, 0, none⟩) (fun hb => by have := HALL.out _ hb; dsimp only at this; omega) (.int .i64 (gatF s wi (ks.map Int.toNat)).1.first)).off (p := ⟨w.heap.size + 1, 1, none⟩) (fun hb => by have := HALL.out _ hb; dsimp only at this; omega) (.int .i64 (gatF s wi (ks.map Int.toNat)).1.last)).off (p := ⟨w.heap.size + 1, 2, none⟩) (fun hb => by have := HALL.out _ hb; dsimp only at this; omega) (.int .i64 (gatF s wi (ks.map Int.toNat)).1.many)
      have f0 : Fr [g.X] w wr := (((Fr.below HB0.out).trans hF).less fun b hb hm => by
        simp only [List.mem_cons, List.not_mem_nil, or_false] at hm ⊢
        omega)
      have f1 := ((f0.store (p := ⟨w.heap.size + 1, 0, none⟩) (.inr (by simp)) (.int .i64 (gatF s wi (ks.map Int.toNat)).1.first)).store (p := ⟨w.heap.size + 1, 1, none⟩) (.inr (by simp)) (.int .i64 (gatF s wi (ks.map Int.toNat)).1.last)).store (p := ⟨w.heap.size + 1, 2, none⟩) (.inr (by simp)) (.int .i64 (gatF s wi (ks.map Int.toNat)).1.many)
      exact end_row kR2 rfl rfl rfl ⟨rfl, hM2, f1⟩
end Go.Proofs.YtpkjfdgjmcphmaaDoor

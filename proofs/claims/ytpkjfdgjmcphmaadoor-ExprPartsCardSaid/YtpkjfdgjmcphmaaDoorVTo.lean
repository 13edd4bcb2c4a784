/- Arenas that a call has made. -/
import Derived.Test.YtpkjfdgjmcphmaaDoorVTn
import Derived.Maps.AppendAt
import Derived.Deep.Onto
namespace Go.Proofs.YtpkjfdgjmcphmaaDoor
open Go.RowKit Bset Tm

def cellsN : List (Nd × Value) → List Value
  | [] => []
  | x :: r => (nodeC x.1.hd x.2).toList ++ cellsN r
theorem cellsN_append (a b : List (Nd × Value)) : cellsN (a ++ b) = cellsN a ++ cellsN b := by
  induction a with
  | nil => rfl
  | cons x r ih => rw [List.cons_append, cellsN, cellsN, ih, List.append_assoc]
theorem cellsN_length (a : List (Nd × Value)) : (cellsN a).length = a.length * 9 := by
  induction a with
  | nil => rfl
  | cons x r ih =>
    rw [cellsN, List.length_append, ih]
    show 9 + r.length * 9 = (r.length + 1) * 9
    omega
theorem cellsN_at (a : List (Nd × Value)) (j i : Nat) (hj : j < a.length) (hi : i < 9) : (cellsN a)[j * 9 + i]? = (nodeC a[j].1.hd a[j].2)[i]? := by
  induction a generalizing j with
  | nil => simp at hj
  | cons x r ih =>
    cases j with
    | zero =>
      rw [cellsN, List.getElem?_append_left (by show 0 * 9 + i < 9; omega)]
      simp
    | succ j =>
      rw [cellsN, List.getElem?_append_right (by show 9 ≤ _; omega)]
      have : (j + 1) * 9 + i - (nodeC x.1.hd x.2).toList.length = j * 9 + i := by
        show (j + 1) * 9 + i - 9 = _
        omega
      rw [this, ih j (by simpa using hj)]
      rfl

structure Made (lo : Nat) (w : World) (v : Value) (B : List (Nd × Value)) : Prop where
  row : w.ownsRow lo 38 9 v B.length (cellsN B)
  kids : ∀ x ∈ B, w.ownsRow lo 3 1 x.2 x.1.kids.length (x.1.kids.map (Value.int .i64))

theorem own_slice {w : World} {lo : Nat} {t : TypeId} {size : Nat} {v : Value} {n : Nat} {xs : List Value} (h : w.ownsRow lo t size v n xs) : ∃ p c, v = .slice p n c := by
  rcases h.2 with ⟨rfl, rfl⟩ | ⟨g, cap, cur, rfl, _⟩
  · exact ⟨_, _, rfl⟩
  · exact ⟨_, _, rfl⟩
theorem own_keep {w w' : World} {lo : Nat} {t : TypeId} {size : Nat} {v : Value} {n : Nat} {xs : List Value} (h : w.ownsRow lo t size v n xs) (hk : ∀ b, lo ≤ b → b < w.heap.size → w'.heap[b]? = w.heap[b]?) : w'.ownsRow lo t size v n xs := by
  refine ⟨h.1, ?_⟩
  rcases h.2 with hn | ⟨g, cap, cur, rfl, hb, hgg, rest⟩
  · exact .inl hn
  · exact .inr ⟨g, cap, cur, rfl, hb, (hk g hb (lt_of_block hgg)).trans hgg, rest⟩
theorem own_below {w w' : World} {lo : Nat} {t : TypeId} {size : Nat} {v : Value} {n : Nat} {xs : List Value} (h : w.ownsRow lo t size v n xs) (hb : Below w.heap.size w w') : w'.ownsRow lo t size v n xs := own_keep h fun b _ => hb.block b
/-- A row stays while a row of another type grows. -/
theorem own_type {w w' : World} {lo lo' : Nat} {t t' : TypeId} {size size' : Nat} {v v' : Value} {n n' : Nat} {xs xs' : List Value} (h : w.ownsRow lo t size v n xs) (h' : w.ownsRow lo' t' size' v' n' xs') (ht : t ≠ t') (hg : w.grownBy w' v'.ownBlock) : w'.ownsRow lo t size v n xs := by
  refine h.kept hg ?_
  rcases h.2 with ⟨rfl, _⟩ | ⟨g, cap, cur, rfl, hb, hgg, _⟩
  · exact .inl rfl
  · refine .inr fun e => ?_
    rcases h'.2 with ⟨rfl, _⟩ | ⟨g', cap', cur', rfl, hb', hgg', _⟩
    · simp [Value.ownBlock] at e
    · have : g = g' := by simpa [Value.ownBlock] using e
      subst this
      rw [hgg] at hgg'
      cases hgg'
      exact ht rfl
theorem cl_type {w w' : World} {g lo' : Nat} {t t' : TypeId} {cs : Array Value} {size' : Nat} {v' : Value} {n' : Nat} {xs' : List Value} (h : Cl w g t cs) (h' : w.ownsRow lo' t' size' v' n' xs') (ht : t ≠ t') (hg : w.grownBy w' v'.ownBlock) : Cl w' g t cs := by
  refine (hg.block g h.lt fun e => ?_).trans h
  rcases h'.2 with ⟨rfl, _⟩ | ⟨g', cap', cur', rfl, hb', hgg', _⟩
  · simp [Value.ownBlock] at e
  · have : g = g' := by simpa [Value.ownBlock] using e
    subst this
    have h2 : w.heap[g]? = some (.cells cs t (0, 0)) := h
    rw [h2] at hgg'
    cases hgg'
    exact ht rfl
theorem ints_of_own {w : World} {lo : Nat} {v : Value} {l : List Int} (h : w.ownsRow lo 3 1 v l.length (l.map (Value.int .i64))) : Ints w v l := by
  rcases h.2 with ⟨rfl, h0⟩ | ⟨g, cap, cur, rfl, hb, hgg, _⟩
  · have := List.eq_nil_of_length_eq_zero h0
    subst this
    exact ⟨none, 0, rfl, .inl rfl⟩
  · refine ⟨some ⟨g, 0, none⟩, cap, rfl, .inr ⟨g, 0, rfl, fun j hj => ?_⟩⟩
    rw [Nat.zero_add, h.cellAt j (by omega)]
    simp [hj]

theorem Made.keep {lo : Nat} {w w' : World} {v : Value} {B : List (Nd × Value)} (h : Made lo w v B) (hk : ∀ b, lo ≤ b → b < w.heap.size → w'.heap[b]? = w.heap[b]?) : Made lo w' v B :=
  ⟨own_keep h.row hk, fun x hx => own_keep (h.kids x hx) hk⟩
theorem Made.below {lo : Nat} {w w' : World} {v : Value} {B : List (Nd × Value)} (h : Made lo w v B) (hb : Below w.heap.size w w') : Made lo w' v B := h.keep fun b _ => hb.block b
theorem Made.mono {lo lo' : Nat} {w : World} {v : Value} {B : List (Nd × Value)} (h : Made lo w v B) (hl : lo' ≤ lo) : Made lo' w v B := ⟨h.row.mono hl, fun x hx => (h.kids x hx).mono hl⟩
theorem Made.nil (lo : Nat) (w : World) : Made lo w (.slice none 0 0) [] := ⟨World.ownsRow_nil w lo _ _, fun _ h => by simp at h⟩

theorem Made.nodes {lo : Nat} {w : World} {v : Value} {B : List (Nd × Value)} (h : Made lo w v B) : Nodes w v (B.map Prod.fst) := by
  rcases h.row.2 with ⟨rfl, h0⟩ | ⟨g, cap, cur, rfl, hb, hgg, _⟩
  · have := List.eq_nil_of_length_eq_zero h0
    subst this
    exact ⟨none, 0, rfl, .inl rfl⟩
  · refine ⟨some ⟨g, 0, none⟩, cap, by simp, .inr ⟨g, 0, rfl, fun j hj => ?_⟩⟩
    have hj' : j < B.length := by simpa using hj
    have hc : ∀ i, i < 9 → w.cell? ⟨g, 0 + j * 9 + i, none⟩ = (nodeC B[j].1.hd B[j].2)[i]? := fun i hi => by
      rw [Nat.zero_add, h.row.cellAt (j * 9 + i) (by omega), cellsN_at B j i hj' hi]
    have hh : (B.map Prod.fst)[j] = B[j].1 := by simp
    rw [hh]
    exact ⟨B[j].2, ⟨hc 0 (by omega), hc 1 (by omega), hc 2 (by omega), hc 3 (by omega), hc 4 (by omega), hc 5 (by omega), hc 6 (by omega), hc 7 (by omega), hc 8 (by omega)⟩, ints_of_own (h.kids _ (List.getElem_mem hj'))⟩

theorem infoNode : (Tryd.prog.info? 38).map (fun i => (i.zero, i.size, i.bytes)) = some (some (.agg nodeZ), 9, 96) := by kernel_rfl

theorem gb_trans {w W W' : World} {r r' : Option Nat} (h : w.grownBy W r) (h' : W.grownBy W' r') (hr : ∀ g, r' = some g → r = some g ∨ w.heap.size ≤ g) : w.grownBy W' r :=
  ⟨h'.os.trans h.os, h'.tape.trans h.tape, h'.output.trans h.output, Nat.le_trans h.size h'.size, fun j hj hne => (h'.block j (Nat.lt_of_lt_of_le hj h.size) (fun e => by
    rcases hr j e.symm with h1 | h1
    · exact hne h1.symm
    · omega)).trans (h.block j hj hne)⟩
theorem gb_of_below {w W : World} {r : Option Nat} (h : Below w.heap.size w W) : w.grownBy W r := ⟨h.os, h.tape, h.output, h.size, fun j hj _ => h.block j hj⟩
theorem own_one {w : World} {lo : Nat} {kv : Value} {n : Nat} {xs : List Value} (h : w.ownsRow lo 3 1 kv n xs) : kv.oneCell' = true := by
  obtain ⟨p, c, rfl⟩ := own_slice h
  rfl
end Go.Proofs.YtpkjfdgjmcphmaaDoor

/- Package tree: put. -/
namespace Go.Proofs.YtpkjfdgjmcphmaaDoor
open Go.RowKit Bset Tm

theorem mv_take (A : List Nd) (c : Int) (q : Nat) (h : q < A.length) : (A.take (q + 1)).map (mv c) = (A.take q).map (mv c) ++ [mv c A[q]] := by
  rw [List.take_succ_eq_append_getElem h, List.map_append, List.map_singleton]

theorem node_new (w : World) (h : Hd) (kv : Value) (t : TypeId) : ∀ j u, (nodeC h kv).toList[j]? = some u → (w.alloc (.cells (nodeC h kv) t)).cell? ((⟨w.heap.size, 0, none⟩ : Addr).add j) = some u := by
  intro j u hj
  rw [show (⟨w.heap.size, 0, none⟩ : Addr).add j = ⟨w.heap.size, j, none⟩ by by_cases h0 : j = 0 <;> simp [Addr.add, h0], (Cl.new w t (nodeC h kv)).cell]
  simpa using hj
theorem node_one (h : Hd) {kv : Value} (hk : kv.oneCell' = true) : ∀ u ∈ (nodeC h kv).toList, u.oneCell' = true := by
  intro u hu
  simp only [List.mem_cons, List.not_mem_nil, or_false] at hu
  rcases hu with rfl | rfl | rfl | rfl | rfl | rfl | rfl | rfl | rfl <;> first | rfl | exact hk
theorem gb_cond {w W : World} {v v0 v1 : Value} (h : v0.ownBlock = v.ownBlock ∨ ∃ g, v0.ownBlock = some g ∧ w.heap.size ≤ g) (hw : w.heap.size ≤ W.heap.size) (h1 : v1.ownBlock = v0.ownBlock ∨ v1.ownBlock = some W.heap.size) : v1.ownBlock = v.ownBlock ∨ ∃ g, v1.ownBlock = some g ∧ w.heap.size ≤ g := by
  rcases h1 with h1 | h1
  · rw [h1]
    exact h
  · exact .inr ⟨_, h1, hw⟩

set_option maxRecDepth 100000 in
set_option maxHeartbeats 4000000 in
theorem put_any (lo : Nat) (v nv : Value) (B : List (Nd × Value)) (A : List Nd) (first : Int) (w : World) (hv : Made lo w v B) (hlo : lo ≤ w.heap.size) (hn : ∀ W, w.grownBy W v.ownBlock → Nodes W nv A) (hsz : B.length + A.length ≤ 4294967296)
    (htext : ∀ n ∈ A, n.hd.text.size ≤ 281474976710656) (hkl : ∀ n ∈ A, n.kids.length ≤ 4294967296) (hkb : ∀ n ∈ A, ∀ k ∈ n.kids, -4611686018427387904 ≤ k ∧ k ≤ 4611686018427387904) (hf : 0 ≤ first ∧ first ≤ 4294967296) :
    Calls Tryd.prog 70 #[v, nv, .int .i64 first] w fun e w' => ∃ v' C, e = .returned v' ∧ Made lo w' v' (B ++ C) ∧ C.map Prod.fst = A.map (mv (B.length - first)) ∧ w.grownBy w' v.ownBlock ∧ (v'.ownBlock = v.ownBlock ∨ ∃ g, v'.ownBlock = some g ∧ w.heap.size ≤ g) ∧ ∀ x ∈ C, w'.ownsRow w.heap.size 3 1 x.2 x.1.kids.length (x.1.kids.map (Value.int .i64)) := by
  obtain ⟨p0, c0, e0⟩ := own_slice hv.row
  obtain ⟨p, cap, e, _⟩ := hn w (gb_refl _ _)
  subst e
  obtain ⟨d, hd⟩ : ∃ d, d = (B.length : Int) - first := ⟨_, rfl⟩
  have hdb : -4611686018427387904 ≤ d ∧ d < 4611686018427387904 := by omega
  have hw : IntKind.i64.wrap ((B.length : Int) - first) = d := by rw [hd]; exact IntWalk.i64_in _ (by omega)
  rw [← hd]
  clear hd
  subst e0
  go_enter Tryd.func70, Tryd.ntmps70
  go_wp2
  obtain ⟨v, hv0⟩ : ∃ v, v = Value.slice p0 B.length c0 := ⟨_, rfl⟩
  rw [← hv0] at hv hn ⊢
  have HV0 := Lib.hid hv0
  clear hv0
  obtain ⟨i0, hi, hz0, hz1, hz2⟩ := info_parts infoNode
  go_loopw [0, 16] (fun v0 v16 W => ∃ (q : Nat) (C : List (Nd × Value)), v16 = .int .i64 q ∧ q ≤ A.length ∧ Made lo W v0 (B ++ C) ∧ C.map Prod.fst = (A.take q).map (mv d) ∧ w.grownBy W v.ownBlock ∧ (v0.ownBlock = v.ownBlock ∨ ∃ g, v0.ownBlock = some g ∧ w.heap.size ≤ g) ∧ Cl W w.heap.size 3 #[.int .i64 d] ∧ ∀ x ∈ C, W.ownsRow w.heap.size 3 1 x.2 x.1.kids.length (x.1.kids.map (Value.int .i64)))
    (fun _ v _ => A.length - (intOf v).toNat)
  case atStart =>
    refine ⟨0, [], rfl, Nat.zero_le _, ?_, by simp, gb_of_below ((Below.refl _ _).alloc (Nat.le_refl _) _), .inl rfl, Cl.new w _ _, fun _ h => by simp at h⟩
    rw [List.append_nil]
    exact hv.below ((Below.refl _ _).alloc (Nat.le_refl _) _)
  case round =>
    clear hv
    obtain ⟨q, C, rfl, hq, hM, hC, hgb, hob, hcl, hks⟩ := hrel
    by_cases hlt : q < A.length
    · obtain ⟨p', cap', e, hh⟩ := hn wr hgb
      obtain ⟨rfl, _, rfl⟩ : p = p' ∧ A.length = A.length ∧ cap = cap' := by simpa using e
      rcases hh with rfl | ⟨b, off, rfl, hcell⟩
      · simp at hlt
      · obtain ⟨kv, hN, hI⟩ := hcell q hlt
        obtain ⟨p2, cap2, rfl⟩ := hI.len
        obtain ⟨c0, c1, c2, c3, c4, c5, c6, c7, c8⟩ := hN
        have B1 := (Below.refl wr.heap.size wr).alloc (Nat.le_refl _) (.cells (nodeC A[q].hd (.slice p2 A[q].kids.length cap2)) 38)
        have hI1 := hI.below B1
        have hM1 := hM.below B1
        have hcl1 := hcl.below B1 hcl.lt
        have hgb1 := gb_trans hgb (gb_of_below (r := none) B1) (fun g e => by cases e)
        have hmem : A[q] ∈ A := List.getElem_mem hlt
        have hCl : C.length = q := by
          have := congrArg List.length hC
          simp at this
          omega
        have hnext := mv_take A d q hlt
        have hmv := moved_any A[q].hd (.slice p2 A[q].kids.length cap2) A[q].kids 97 #[.pointer (some ⟨w.heap.size, 0, none⟩)] (· + d) (wr.alloc (.cells (nodeC A[q].hd (.slice p2 A[q].kids.length cap2)) 38)) hI1 (hkl _ hmem) (htext _ hmem) cf_put (fun k hk W hW => putc_any k d w.heap.size W (hcl1.below hW hcl1.lt).one.1 (hkb _ hmem k hk) hdb)
        have HN := Lib.hid hnext
        have HC := Lib.hid hC
        clear hnext hC hcell e
        go_wp2_with (first
          | (go_at_call 81; refine hmv.mono ?_; rintro e w2 ⟨kv2, rfl, hkv, hb⟩
             have hB2 := hb
             have hM2 := (hM1.below hb).below ((Below.refl _ _).alloc (Nat.le_refl _) (.cells (nodeC A[q].hd kv2) 38))
             clear hmv)
          | (at_builtin; refine wpList_append_own_at _ rfl _ _ 24 rfl lo 38 i0 (.agg nodeZ) 9 96 Tryd.underlying24 hi hz0 hz1 hz2 rfl (by decide) _ _ _ rfl hM2.row ⟨w2.heap.size, 0, none⟩ 1 1 (nodeC A[q].hd kv2).toList rfl rfl (node_new _ _ _ _) (node_one _ (own_one hkv)) (by unfold maxLen; simp; omega) (by simp; omega) (by simp; have := hB2.size; have := hgb1.size; omega) ?_
             intro v' w3 hown hgrow hiff hblk))
        have hB3 := hB2.alloc hB2.size (.cells (nodeC A[q].hd kv2) 38)
        refine ⟨⟨q + 1, C ++ [(mv d A[q], kv2)], by go_num, by omega, ⟨?_, fun x hx => ?_⟩, ?_, ?_, ?_, ?_, fun x hx => ?_⟩, by simp [intOf]; omega⟩
        · rw [← List.append_assoc, cellsN_append, List.length_append]
          simpa [cellsN, mv] using hown
        · rw [← List.append_assoc, List.mem_append, List.mem_singleton] at hx
          rcases hx with hx | rfl
          · exact own_type (hM2.kids x hx) hM2.row (by decide) hgrow
          · have h1 := hkv.alloc (.cells (nodeC A[q].hd kv2) 38)
            have h2 := own_type h1 hM2.row (by decide) hgrow
            have h3 : (mv d A[q]).kids.length = A[q].kids.length := by simp [mv]
            rw [h3]
            exact h2.mono (by have := hgb1.size; omega)
        · rw [List.map_append, HC.out, HN.out]
          rfl
        · exact gb_trans (gb_trans hgb1 (gb_of_below (r := none) (by exact hB3.mono (Nat.le_refl _))) (fun g e => by cases e)) hgrow (fun g e => by
            rcases hob with h1 | ⟨g', h1, h2⟩
            · exact .inl (h1.symm.trans e)
            · have h3 := h1.symm.trans e
              cases h3
              exact .inr h2)
        · exact gb_cond hob (Nat.le_trans hgb1.size hB3.size) hblk
        · exact cl_type ((hcl1.below hB2 hcl1.lt).alloc _) hM2.row (by decide) hgrow
        · rw [List.mem_append, List.mem_singleton] at hx
          rcases hx with hx | rfl
          · exact own_type ((own_below (own_below (hks x hx) B1) hB2).alloc _) hM2.row (by decide) hgrow
          · have h1 := hkv.alloc (.cells (nodeC A[q].hd kv2) 38)
            have h2 := own_type h1 hM2.row (by decide) hgrow
            have h3 : (mv d A[q]).kids.length = A[q].kids.length := by simp [mv]
            rw [h3]
            exact h2.mono hgb1.size
    · obtain rfl : q = A.length := by omega
      rw [List.take_of_length_le (Nat.le_refl _)] at hC
      have HC := Lib.hid hC
      clear hC
      go_wp2
      go_ret
      rw [HV0.out] at hgb hob
      exact ⟨_, C, rfl, hM, HC.out, hgb, hob, hks⟩
end Go.Proofs.YtpkjfdgjmcphmaaDoor

/- Package tree: rooted, leaf, the leaves; May, Size, Depth, Root. -/
namespace Go.Proofs.YtpkjfdgjmcphmaaDoor
open Go.RowKit Bset Tm

/-- What a world keeps for package tree. -/
structure Env (w : World) : Prop where
  tab : TabK w
  pos : 0 < w.heap.size
theorem Env.below {w w' : World} (h : Env w) (hb : Below w.heap.size w w') : Env w' := ⟨h.tab.below hb h.pos, Nat.lt_of_lt_of_le h.pos hb.size⟩
theorem Env.alloc {w : World} (h : Env w) (o : Obj) : Env (w.alloc o) := h.below ((Below.refl _ _).alloc (Nat.le_refl _) o)
theorem Env.drew {w : World} (h : Env w) : Env w.drew := ⟨h.tab, h.pos⟩

/-- A tree that a call has made. -/
def MadeT (lo : Nat) (w : World) (v : Value) (T : Ar) : Prop := ∃ nv C, v = treeV nv T.root ∧ Made lo w nv C ∧ C.map Prod.fst = T.nodes
theorem MadeT.tree {lo : Nat} {w : World} {v : Value} {T : Ar} (h : MadeT lo w v T) : Tree w v T := by
  obtain ⟨nv, C, e, hm, hc⟩ := h
  exact ⟨nv, e, hc ▸ hm.nodes⟩
theorem MadeT.below {lo : Nat} {w w' : World} {v : Value} {T : Ar} (h : MadeT lo w v T) (hb : Below w.heap.size w w') : MadeT lo w' v T := by
  obtain ⟨nv, C, e, hm, hc⟩ := h
  exact ⟨nv, C, e, hm.below hb, hc⟩
theorem MadeT.mono {lo lo' : Nat} {w : World} {v : Value} {T : Ar} (h : MadeT lo w v T) (hl : lo' ≤ lo) : MadeT lo' w v T := by
  obtain ⟨nv, C, e, hm, hc⟩ := h
  exact ⟨nv, C, e, hm.mono hl, hc⟩
theorem MadeT.none (lo : Nat) (w : World) : MadeT lo w (treeV (.slice none 0 0) 0) noAr := ⟨_, [], rfl, Made.nil lo w, rfl⟩

theorem Made.store {lo : Nat} {w : World} {v : Value} {B : List (Nd × Value)} (h : Made lo w v B) {p : Addr} (hp : p.block < lo) (u : Value) : Made lo (w.setCell p u) v B :=
  h.keep fun b hb _ => Below.heap_setCell w p u b (by omega)
/-- A tree stored. -/
abbrev put2 (w : World) (g : Nat) (u0 u1 : Value) : World := (w.setCell ⟨g, 0, none⟩ u0).setCell ⟨g, 1, none⟩ u1
theorem Made.put2 {lo : Nat} {w : World} {v : Value} {B : List (Nd × Value)} {g : Nat} (h : Made lo w v B) (hg : g < lo) (u0 u1 : Value) : Made lo (Go.Proofs.YtpkjfdgjmcphmaaDoor.put2 w g u0 u1) v B :=
  (h.store (p := ⟨g, 0, none⟩) hg u0).store (p := ⟨g, 1, none⟩) hg u1
theorem below_put2 {B : Nat} {w0 w : World} {g : Nat} (h : Below B w0 w) (hg : B ≤ g) (u0 u1 : Value) : Below B w0 (put2 w g u0 u1) :=
  (h.setCell (p := ⟨g, 0, none⟩) hg u0).setCell (p := ⟨g, 1, none⟩) hg u1
theorem Cl.put2 {w : World} {g : Nat} {t : TypeId} {a0 a1 : Value} (h : Cl w g t #[a0, a1]) (u0 u1 : Value) : Cl (Go.Proofs.YtpkjfdgjmcphmaaDoor.put2 w g u0 u1) g t #[u0, u1] := (h.put 0 u0).put 1 u1
theorem nodeV_zero (k : Nat) (s : ByteArray) (a b : Int) (kv : Value) : nodeV ⟨k, 0#256, s, a, b⟩ kv = .agg #[.int .u8 k, .int .u64 0, .int .u64 0, .int .u64 0, .int .u64 0, .string s, .int .i64 a, .int .i64 b, kv] := by
  unfold nodeV nodeC
  simp only [setN_zero, word_none]
  rfl

theorem right_at' (v : Value) (T : Ar) (w : World) (hv : Tree w v T) (hok : OkA T.nodes) (hE : Env w) :
    Calls Tryd.prog 18 #[v] w fun e w' => e = .returned (.bool (rightB T)) ∧ Below w.heap.size w w' := right_any v T w hv hok hE.tab hE.pos

set_option maxRecDepth 100000 in
set_option maxHeartbeats 1000000 in
theorem rooted_any (p : Option Addr) (n c : Nat) (hn : n ≤ 4294967297) (w : World) :
    Calls Tryd.prog 72 #[.slice p n c] w fun e w' => e = .returned (treeV (.slice p n c) ((n : Int) - 1)) ∧ Below w.heap.size w w' := by
  have hw : IntKind.i64.wrap ((n : Int) - 1) = (n : Int) - 1 := IntWalk.i64_in _ (by omega)
  go_enter Tryd.func72, Tryd.ntmps72
  go_wp2
  exact end_tree (Cl.new w _ _) rfl rfl rfl ⟨rfl, (Below.refl _ _).alloc (Nat.le_refl _) _⟩

theorem made_one {w : World} {lo : Nat} (h : Hd) (hlo : lo ≤ w.heap.size) : Made lo (w.alloc (.cells (nodeC h (.slice none 0 0)) 38)) (.slice (some ⟨w.heap.size, 0, none⟩) 1 1) [(⟨h, []⟩, .slice none 0 0)] :=
  ⟨World.ownsRow_lit w (nodeC h (.slice none 0 0)) 1 hlo (by decide) rfl, fun x hx => by
    have : x = (⟨h, []⟩, .slice none 0 0) := by simpa using hx
    subst this
    exact World.ownsRow_nil _ lo _ _⟩

/-- A tree of one node. -/
def leafT (h : Hd) : Ar := ⟨[⟨h, []⟩], 0⟩
theorem leafT_arOf (h : Hd) : leafT h = arOf (.mk h []) := rfl

set_option maxRecDepth 100000 in
set_option maxHeartbeats 1000000 in
theorem leaf_any (h : Hd) (kv : Value) (ht : h.text.size ≤ 281474976710656) (w : World) :
    Calls Tryd.prog 69 #[nodeV h kv] w fun e w' => ∃ v, e = .returned v ∧ MadeT w.heap.size w' v (leafT h) ∧ Below w.heap.size w w' := by
  have k0 : Cl ((w.alloc (.cells (nodeC h kv) 38)).alloc (.cells #[.slice none 0 0, .int .i64 0] 26)) (w.heap.size + 1) 26 #[.slice none 0 0, .int .i64 0] := Cl.new' (by simp) _ _
  have b0 := ((Below.refl w.heap.size w).alloc (Nat.le_refl _) (.cells (nodeC h kv) 38)).alloc (by simp) (.cells #[.slice none 0 0, .int .i64 0] 26)
  go_enter Tryd.func69, Tryd.ntmps69
  go_wp2_with (first
    | (go_at_call 71; refine (bare_any h kv ht _).mono ?_; rintro e w1 ⟨rfl, hb1⟩)
    | (go_at_call 72; refine (rooted_any _ 1 1 (by decide) _).mono ?_; rintro e w2 ⟨rfl, hb2⟩
       have b1 := b0.trans (hb1.mono b0.size)
       have m := made_one (lo := w1.heap.size) h (Nat.le_refl _)
       have b2 := b1.alloc b1.size (.cells (nodeC h (.slice none 0 0)) 38)
       have b3 := b2.trans (hb2.mono b2.size)
       have k3 := ((k0.below hb1 k0.lt).alloc (.cells (nodeC h (.slice none 0 0)) 38))
       have k4 := k3.below hb2 k3.lt
       have m4 := m.below hb2
       have hz := Lib.hid (Nat.lt_of_lt_of_le k0.lt hb1.size)
       clear k3 hb2 hb1 k0 b0 m b2
       obtain ⟨⟨y0, y1⟩, yf⟩ := k4.two))
  have hlt := hz.out
  exact end_tree (k4.put2 _ _) rfl rfl rfl ⟨_, rfl, ⟨_, _, rfl, (m4.put2 hlt _ _).mono (by omega), rfl⟩, below_put2 b3 (by omega) _ _⟩

set_option maxRecDepth 100000 in
set_option maxHeartbeats 1000000 in
theorem text_any (s : ByteArray) (ht : s.size ≤ 281474976710656) (w : World) :
    Calls Tryd.prog 15 #[.string s] w fun e w' => ∃ v, e = .returned v ∧ MadeT w.heap.size w' v (leafT ⟨2, 0#256, s, 0, 0⟩) ∧ Below w.heap.size w w' := by
  have k0 := Cl.new w 26 #[.slice none 0 0, .int .i64 0]
  have b0 := (Below.refl w.heap.size w).alloc (Nat.le_refl _) (.cells #[.slice none 0 0, .int .i64 0] 26)
  have hl := fun w => leaf_any ⟨2, 0#256, s, 0, 0⟩ (.slice none 0 0) ht w
  simp only [nodeV_zero] at hl
  go_enter Tryd.func15, Tryd.ntmps15
  go_wp2_with (go_at_call 69; refine (hl _).mono ?_; rintro e w1 ⟨v, rfl, ⟨nv, C, rfl, hm, hc⟩, hb⟩; obtain ⟨p, c, rfl⟩ := own_slice hm.row; have k1 := k0.below hb k0.lt; have b1 := b0.trans (hb.mono b0.size); have hz := Lib.hid k0.lt; clear hb k0 b0; obtain ⟨⟨y0, y1⟩, yf⟩ := k1.two)
  exact end_tree (k1.put2 _ _) rfl rfl rfl ⟨_, rfl, ⟨_, _, rfl, (hm.put2 hz.out _ _).mono (by simp), hc⟩, below_put2 b1 (Nat.le_refl _) _ _⟩

set_option maxRecDepth 100000 in
set_option maxHeartbeats 1000000 in
theorem rule_any (s : ByteArray) (ht : s.size ≤ 281474976710656) (w : World) :
    Calls Tryd.prog 67 #[.string s] w fun e w' => ∃ v, e = .returned v ∧ MadeT w.heap.size w' v (leafT ⟨3, 0#256, s, 0, 0⟩) ∧ Below w.heap.size w w' := by
  have k0 := Cl.new w 26 #[.slice none 0 0, .int .i64 0]
  have b0 := (Below.refl w.heap.size w).alloc (Nat.le_refl _) (.cells #[.slice none 0 0, .int .i64 0] 26)
  have hl := fun w => leaf_any ⟨3, 0#256, s, 0, 0⟩ (.slice none 0 0) ht w
  simp only [nodeV_zero] at hl
  go_enter Tryd.func67, Tryd.ntmps67
  go_wp2_with (go_at_call 69; refine (hl _).mono ?_; rintro e w1 ⟨v, rfl, ⟨nv, C, rfl, hm, hc⟩, hb⟩; obtain ⟨p, c, rfl⟩ := own_slice hm.row; have k1 := k0.below hb k0.lt; have b1 := b0.trans (hb.mono b0.size); have hz := Lib.hid k0.lt; clear hb k0 b0; obtain ⟨⟨y0, y1⟩, yf⟩ := k1.two)
  exact end_tree (k1.put2 _ _) rfl rfl rfl ⟨_, rfl, ⟨_, _, rfl, (hm.put2 hz.out _ _).mono (by simp), hc⟩, below_put2 b1 (Nat.le_refl _) _ _⟩

set_option maxRecDepth 100000 in
set_option maxHeartbeats 1000000 in
theorem empty_any (w : World) :
    Calls Tryd.prog 17 #[] w fun e w' => ∃ v, e = .returned v ∧ MadeT w.heap.size w' v (leafT ⟨0, 0#256, ⟨#[]⟩, 0, 0⟩) ∧ Below w.heap.size w w' := by
  have k0 := Cl.new w 26 #[.slice none 0 0, .int .i64 0]
  have b0 := (Below.refl w.heap.size w).alloc (Nat.le_refl _) (.cells #[.slice none 0 0, .int .i64 0] 26)
  have hl := fun w => leaf_any ⟨0, 0#256, ⟨#[]⟩, 0, 0⟩ (.slice none 0 0) (by decide) w
  simp only [nodeV_zero] at hl
  go_enter Tryd.func17, Tryd.ntmps17
  go_wp2_with (go_at_call 69; refine (hl _).mono ?_; rintro e w1 ⟨v, rfl, ⟨nv, C, rfl, hm, hc⟩, hb⟩; obtain ⟨p, c, rfl⟩ := own_slice hm.row; have k1 := k0.below hb k0.lt; have b1 := b0.trans (hb.mono b0.size); have hz := Lib.hid k0.lt; clear hb k0 b0; obtain ⟨⟨y0, y1⟩, yf⟩ := k1.two)
  exact end_tree (k1.put2 _ _) rfl rfl rfl ⟨_, rfl, ⟨_, _, rfl, (hm.put2 hz.out _ _).mono (by simp), hc⟩, below_put2 b1 (Nat.le_refl _) _ _⟩

theorem tree_size_of {T : Ar} : T.nodes.length = T.nodes.length := rfl
noncomputable def sizeT (T : Ar) : Nat := if rightB T = true then T.nodes.length else 0
noncomputable def deepT (T : Ar) : Nat := if rightB T = true then deep (tree T) else 0
noncomputable def mayT (T : Ar) : Bool := decide (T.nodes.length ≤ 1024) && rightB T && decide (deep (tree T) ≤ 32)
noncomputable def rootT (T : Ar) : Hd := if rightB T = true then top (tree T) else noHd

set_option maxRecDepth 100000 in
set_option maxHeartbeats 1000000 in
theorem size_any (v : Value) (T : Ar) (w : World) (hv : Tree w v T) (hok : OkA T.nodes) (hE : Env w) :
    Calls Tryd.prog 19 #[v] w fun e w' => e = .returned (.int .i64 (sizeT T : Nat)) ∧ Below w.heap.size w w' := by
  obtain ⟨nv, rfl, hn⟩ := hv
  obtain ⟨p, c, rfl⟩ := hn.len
  have hr := fun w h1 h2 => right_at' (treeV (.slice p T.nodes.length c) T.root) T w h1 hok h2
  have b0 := (Below.refl w.heap.size w).alloc (Nat.le_refl _) (.cells #[.slice p T.nodes.length c, .int .i64 T.root] 26)
  have k0 := Cl.new w 26 #[.slice p T.nodes.length c, .int .i64 T.root]
  have hv0 : Tree (w.alloc (.cells #[.slice p T.nodes.length c, .int .i64 T.root] 26)) (treeV (.slice p T.nodes.length c) T.root) T := ⟨_, rfl, hn.below b0⟩
  have hE0 := hE.below b0
  unfold sizeT
  cases hR : rightB T
  all_goals
    simp only [hR] at hr
    go_enter Tryd.func19, Tryd.ntmps19
    go_wp2_with (go_at_call 18; refine (hr _ hv0 hE0).mono ?_; rintro e w1 ⟨rfl, hb⟩; obtain ⟨⟨y0, y1⟩, yf⟩ := (k0.below hb k0.lt).two)
    go_ret
    exact ⟨rfl, b0.trans (hb.mono b0.size)⟩
end Go.Proofs.YtpkjfdgjmcphmaaDoor

/- Package tree: Depth, May, Root. -/
namespace Go.Proofs.YtpkjfdgjmcphmaaDoor
open Go.RowKit Bset Tm

theorem Tm.RightT.deep {T : Ar} (h : RightT T) : Tm.deep (tree T) = Tm.deep (X (kidsN T.nodes) (T.nodes.length - 1)) := by
  unfold tree tau
  rw [deep_map, h.at.1]
theorem noHd_eq : noHd = ⟨0, 0#256, ⟨#[]⟩, 0, 0⟩ := rfl
theorem Tm.RightT.top {T : Ar} (h : RightT T) : Tm.top (tree T) = hdAt T.nodes (T.nodes.length - 1) := by
  unfold tree
  rw [h.at.1, tau_eq h.2.k.dec]
  rfl
theorem deep_le_n {T : Ar} (h : RightT T) : Tm.deep (tree T) ≤ T.nodes.length := by
  rw [← h.size]
  exact deep_size _

set_option maxRecDepth 100000 in
set_option maxHeartbeats 1000000 in
theorem deepf_any (v : Value) (T : Ar) (w : World) (hv : Tree w v T) (hok : OkA T.nodes) (hE : Env w) :
    Calls Tryd.prog 14 #[v] w fun e w' => e = .returned (.int .i64 (deepT T : Nat)) ∧ Below w.heap.size w w' := by
  obtain ⟨nv, rfl, hn⟩ := hv
  obtain ⟨p, c, rfl⟩ := hn.len
  have hr := fun w h1 h2 => right_at' (treeV (.slice p T.nodes.length c) T.root) T w h1 hok h2
  have b0 := (Below.refl w.heap.size w).alloc (Nat.le_refl _) (.cells #[.slice p T.nodes.length c, .int .i64 T.root] 26)
  have k0 := Cl.new w 26 #[.slice p T.nodes.length c, .int .i64 T.root]
  have hv0 : Tree (w.alloc (.cells #[.slice p T.nodes.length c, .int .i64 T.root] 26)) (treeV (.slice p T.nodes.length c) T.root) T := ⟨_, rfl, hn.below b0⟩
  have hE0 := hE.below b0
  unfold deepT
  cases hR : rightB T with
  | false =>
    simp only [hR] at hr
    go_enter Tryd.func14, Tryd.ntmps14
    go_wp2_with (go_at_call 18; refine (hr _ hv0 hE0).mono ?_; rintro e w1 ⟨rfl, hb⟩; obtain ⟨⟨y0, y1⟩, yf⟩ := (k0.below hb k0.lt).two)
    go_ret
    exact ⟨rfl, b0.trans (hb.mono b0.size)⟩
  | true =>
    have hRT := rightB_iff.1 hR
    simp only [hR] at hr
    have hd := fun w h => depth_any (.slice p T.nodes.length c) T.nodes w h hRT.2 hok
    rw [← hRT.deep] at hd
    clear hR hRT
    go_enter Tryd.func14, Tryd.ntmps14
    go_wp2_with (first
      | (go_at_call 18; refine (hr _ hv0 hE0).mono ?_; rintro e w1 ⟨rfl, hb⟩; obtain ⟨⟨y0, y1⟩, yf⟩ := (k0.below hb k0.lt).two; have b1 := b0.trans (hb.mono b0.size); have hn1 := hn.below b1; clear hb)
      | (go_at_call 68; refine (hd _ hn1).mono ?_; rintro e w2 ⟨rfl, hb⟩))
    go_ret
    exact ⟨rfl, b1.trans (hb.mono b1.size)⟩

set_option maxRecDepth 100000 in
set_option maxHeartbeats 1000000 in
theorem may_t (v : Value) (T : Ar) (w : World) (hv : Tree w v T) (hok : OkA T.nodes) (hE : Env w) :
    Calls Tryd.prog 12 #[v] w fun e w' => e = .returned (.bool (mayT T)) ∧ Below w.heap.size w w' := by
  obtain ⟨nv, rfl, hn⟩ := hv
  obtain ⟨p, c, rfl⟩ := hn.len
  have hr := fun w h1 h2 => right_at' (treeV (.slice p T.nodes.length c) T.root) T w h1 hok h2
  have b0 := (Below.refl w.heap.size w).alloc (Nat.le_refl _) (.cells #[.slice p T.nodes.length c, .int .i64 T.root] 26)
  have k0 := Cl.new w 26 #[.slice p T.nodes.length c, .int .i64 T.root]
  have hv0 : Tree (w.alloc (.cells #[.slice p T.nodes.length c, .int .i64 T.root] 26)) (treeV (.slice p T.nodes.length c) T.root) T := ⟨_, rfl, hn.below b0⟩
  have hE0 := hE.below b0
  unfold mayT
  by_cases hl : T.nodes.length ≤ 1024
  · have hl1 : decide (T.nodes.length ≤ 1024) = true := by simpa using hl
    have hli : (T.nodes.length : Int) ≤ 1024 := by omega
    rw [hl1]
    cases hR : rightB T with
    | false =>
      simp only [hR] at hr
      clear hl hl1
      go_enter Tryd.func12, Tryd.ntmps12
      go_wp2_with (go_at_call 18; refine (hr _ hv0 hE0).mono ?_; rintro e w1 ⟨rfl, hb⟩; obtain ⟨⟨y0, y1⟩, yf⟩ := (k0.below hb k0.lt).two)
      go_ret
      exact ⟨rfl, b0.trans (hb.mono b0.size)⟩
    | true =>
      have hRT := rightB_iff.1 hR
      simp only [hR] at hr
      have hd := fun w h => depth_any (.slice p T.nodes.length c) T.nodes w h hRT.2 hok
      rw [← hRT.deep] at hd
      clear hR hRT hl hl1
      go_enter Tryd.func12, Tryd.ntmps12
      go_wp2_with (first
        | (go_at_call 18; refine (hr _ hv0 hE0).mono ?_; rintro e w1 ⟨rfl, hb⟩; obtain ⟨⟨y0, y1⟩, yf⟩ := (k0.below hb k0.lt).two; have b1 := b0.trans (hb.mono b0.size); have hn1 := hn.below b1; clear hb)
        | (go_at_call 68; refine (hd _ hn1).mono ?_; rintro e w2 ⟨rfl, hb⟩))
      go_ret
      exact ⟨congrArg (fun x => Ending.returned (.bool x)) (by rw [Bool.eq_iff_iff]; simp; try omega), b1.trans (hb.mono b1.size)⟩
  · have hl1 : decide (T.nodes.length ≤ 1024) = false := by simpa using hl
    have hli : ¬ (T.nodes.length : Int) ≤ 1024 := by omega
    rw [hl1]
    clear hl hl1
    go_enter Tryd.func12, Tryd.ntmps12
    go_wp2
    go_ret
    exact ⟨rfl, b0⟩

set_option maxRecDepth 100000 in
set_option maxHeartbeats 1000000 in
theorem root_any (v : Value) (T : Ar) (w : World) (hv : Tree w v T) (hok : OkA T.nodes) (hE : Env w) :
    Calls Tryd.prog 27 #[v] w fun e w' => e = .returned (nodeV (rootT T) (.slice none 0 0)) ∧ Below w.heap.size w w' := by
  obtain ⟨nv, rfl, hn⟩ := hv
  obtain ⟨p, c, rfl⟩ := hn.len
  have hr := fun w h1 h2 => right_at' (treeV (.slice p T.nodes.length c) T.root) T w h1 hok h2
  have b0 := ((Below.refl w.heap.size w).alloc (Nat.le_refl _) (.cells #[.slice p T.nodes.length c, .int .i64 T.root] 26)).alloc (by simp) (.cells nodeZ 38)
  have k0 := (Cl.new w 26 #[.slice p T.nodes.length c, .int .i64 T.root]).alloc (.cells nodeZ 38)
  have n0 : Cl ((w.alloc (.cells #[.slice p T.nodes.length c, .int .i64 T.root] 26)).alloc (.cells nodeZ 38)) (w.heap.size + 1) 38 nodeZ := Cl.new' (by simp) _ _
  have hv0 : Tree ((w.alloc (.cells #[.slice p T.nodes.length c, .int .i64 T.root] 26)).alloc (.cells nodeZ 38)) (treeV (.slice p T.nodes.length c) T.root) T := ⟨_, rfl, hn.below b0⟩
  have hE0 := hE.below b0
  unfold rootT
  cases hR : rightB T with
  | false =>
    rw [if_neg (by simp), noHd_eq, nodeV_zero]
    simp only [hR] at hr
    go_enter Tryd.func27, Tryd.ntmps27
    go_wp2_with (go_at_call 18; refine (hr _ hv0 hE0).mono ?_; rintro e w1 ⟨rfl, hb⟩; obtain ⟨⟨y0, y1⟩, yf⟩ := (k0.below hb k0.lt).two; have n1 := n0.below hb n0.lt; have b1 := b0.trans (hb.mono b0.size); clear hb k0 n0 b0; obtain ⟨⟨z0, z1, z2, z3, z4, z5, z6, z7, z8⟩, zf⟩ := n1.nine)
    exact end_node (n1.set9 _ _ _ _ _ _ _ _ _) rfl rfl rfl ⟨rfl, below_set9 b1 (by omega) _ _ _ _ _ _ _ _ _⟩
  | true =>
    have hRT := rightB_iff.1 hR
    rw [if_pos rfl, hRT.top]
    simp only [hR] at hr
    obtain ⟨m, hm⟩ : ∃ m, T.nodes.length = m + 1 := ⟨T.nodes.length - 1, by have := hRT.2.k.pos; omega⟩
    have hlt : m < T.nodes.length := by omega
    have hroot : T.root = (m : Int) := by have := hRT.1; omega
    have hh : hdAt T.nodes (T.nodes.length - 1) = T.nodes[m].hd := by rw [show T.nodes.length - 1 = m by omega]; exact hdAt_some (by simp [hlt])
    rw [hh]
    have htx := hok.text _ (List.getElem_mem hlt)
    rcases hn with ⟨p', c', e, hn⟩
    obtain ⟨rfl, _, rfl⟩ : p = p' ∧ T.nodes.length = T.nodes.length ∧ c = c' := by simpa using e
    rcases hn with hn | ⟨b, off, rfl, hcell⟩
    · exact absurd hn hRT.2.pos
    · obtain ⟨kv, hN, hI⟩ := hcell m hlt
      obtain ⟨p2, cap2, rfl⟩ := hI.len
      have hm0 : (0 : Int) ≤ (m : Int) := by omega
      have hm1 : (m : Int) < (T.nodes.length : Int) := by omega
      rw [hroot] at hr k0 n0 hv0 hE0 b0 ⊢
      have hbare := fun w => bare_any T.nodes[m].hd (.slice p2 T.nodes[m].kids.length cap2) (by omega) w
      clear hR hRT hm hroot hh e hcell hI
      go_enter Tryd.func27, Tryd.ntmps27
      go_wp2_with (first
        | (go_at_call 18; refine (hr _ hv0 hE0).mono ?_; rintro e w1 ⟨rfl, hb⟩; obtain ⟨⟨y0, y1⟩, yf⟩ := (k0.below hb k0.lt).two; have n1 := n0.below hb n0.lt; have b1 := b0.trans (hb.mono b0.size); obtain ⟨c0, c1, c2, c3, c4, c5, c6, c7, c8⟩ := hN.keep b1.block; clear hb k0 n0 b0 hr hv0 hE0)
        | (go_at_call 71; refine (hbare _).mono ?_; rintro e w2 ⟨rfl, hb⟩; have n2 := n1.below hb n1.lt; have b2 := b1.trans (hb.mono b1.size); clear hb; obtain ⟨⟨z0, z1, z2, z3, z4, z5, z6, z7, z8⟩, zf⟩ := n2.nine))
      exact end_node (n2.set9 _ _ _ _ _ _ _ _ _) rfl rfl rfl ⟨rfl, below_set9 b2 (by omega) _ _ _ _ _ _ _ _ _⟩
end Go.Proofs.YtpkjfdgjmcphmaaDoor

/- Package tree: alike; slices.Equal, slices.EqualFunc. -/
namespace Go.Proofs.YtpkjfdgjmcphmaaDoor
open Go.RowKit Bset Tm

def sameHd (a b : Hd) : Bool := decide (a.kind = b.kind) && (decide (a.set = b.set) && (decide (a.text = b.text) && (decide (a.lo = b.lo) && decide (a.hi = b.hi))))
theorem sameHd_iff {a b : Hd} : sameHd a b = true ↔ a = b := by
  obtain ⟨k, s, t, l, h⟩ := a
  obtain ⟨k', s', t', l', h'⟩ := b
  simp [sameHd]
theorem text_list (a b : ByteArray) : a.toList = b.toList ↔ a = b := by
  rw [ByteArray.toList_eq, ByteArray.toList_eq]
  exact ⟨fun e => ByteArray.ext (Array.toList_inj.1 e), fun e => by rw [e]⟩
noncomputable def eqB (A B : List Nd) : Bool := @decide (A = B) (Classical.propDecidable _)
theorem eqB_iff {A B : List Nd} : eqB A B = true ↔ A = B := by unfold eqB; simp
theorem eqB_no {A B : List Nd} : eqB A B = false ↔ A ≠ B := by unfold eqB; simp

set_option maxRecDepth 100000 in
set_option maxHeartbeats 2000000 in
theorem equal_any (v1 v2 : Value) (l m : List Int) (w : World) (h1 : Ints w v1 l) (h2 : Ints w v2 m) (hl : l.length ≤ 4294967296) :
    Calls Tryd.prog 101 #[v1, v2] w fun e w' => e = .returned (.bool (decide (l = m))) ∧ Below w.heap.size w w' := by
  obtain ⟨p, c, e1, hh1⟩ := h1
  obtain ⟨p', c', e2, hh2⟩ := h2
  subst e1 e2
  by_cases hlen : l.length = m.length
  · have hle : ((l.length : Int) != (m.length : Int)) = false := by simp [hlen]
    go_enter Tryd.func101, Tryd.ntmps101
    have HL := Lib.hid hlen
    clear hlen
    go_wp2
    go_loopw [13] (fun v W => ∃ q : Nat, v = .int .i64 q ∧ q ≤ l.length ∧ l.take q = m.take q ∧ Below w.heap.size w W) (fun v _ => l.length - (intOf v).toNat)
    case atStart => exact ⟨0, rfl, Nat.zero_le _, rfl, Below.refl _ _⟩
    case round =>
      obtain ⟨q, rfl, hq, ht, hB⟩ := hrel
      by_cases hlt : q < l.length
      · have hlt2 : q < m.length := by have := HL.out; omega
        rcases hh1 with rfl | ⟨b, off, rfl, hc⟩
        · simp at hlt
        · rcases hh2 with rfl | ⟨b', off', rfl, hc'⟩
          · simp at hlt2
          · have x1 := hc q hlt
            replace x1 := (hB.cell (p := ⟨b, off + q, none⟩) (cell_lt x1)).trans x1
            have x2 := hc' q hlt2
            replace x2 := (hB.cell (p := ⟨b', off' + q, none⟩) (cell_lt x2)).trans x2
            have hq0 : (0 : Int) ≤ (q : Int) := by omega
            have hq1 : (q : Int) < (l.length : Int) := by omega
            have hq2 : (q : Int) < (m.length : Int) := by omega
            have hstep : l[q] = m[q] → l.take (q + 1) = m.take (q + 1) := fun e => by
              rw [List.take_succ_eq_append_getElem hlt, List.take_succ_eq_append_getElem hlt2, ht, e]
            have hbad : l[q] ≠ m[q] → decide (l = m) = false := fun e => by
              simp only [decide_eq_false_iff_not]
              intro e2
              subst e2
              exact e rfl
            obtain ⟨x, hx⟩ : ∃ x, x = l[q] := ⟨_, rfl⟩
            obtain ⟨y, hy⟩ : ∃ y, y = m[q] := ⟨_, rfl⟩
            rw [← hx] at x1 hstep hbad
            rw [← hy] at x2 hstep hbad
            by_cases e : x = y
            · have HS := Lib.hid (hstep e)
              have hne : (x != y) = false := by simp [e]
              clear hstep hbad hx hy hc hc' ht e
              go_wp2_with fail
              go_quiet (fail)
              go_wp2
              go_roundw
              case rel => exact ⟨q + 1, by go_num, by omega, HS.out, bdrewN hB⟩
              case measure => simp [intOf]; omega
            · have HS := Lib.hid (hbad e)
              have hne : (x != y) = true := by simp [e]
              clear hstep hbad hx hy hc hc' ht e
              go_wp2_with fail
              go_quiet (fail)
              go_wp2
              go_ret
              exact ⟨congrArg (fun x => Ending.returned (.bool x)) HS.out.symm, bdrewN hB⟩
      · obtain rfl : q = l.length := by omega
        have hfin : decide (l = m) = true := by
          simp only [decide_eq_true_eq]
          rw [List.take_of_length_le (Nat.le_refl _), List.take_of_length_le (by have := HL.out; omega)] at ht
          exact ht
        have HF := Lib.hid hfin
        clear hfin ht
        go_wp2
        go_ret
        exact ⟨congrArg (fun x => Ending.returned (.bool x)) HF.out.symm, hB⟩
  · have hne : ((l.length : Int) != (m.length : Int)) = true := by simp; omega
    have hf : decide (l = m) = false := by
      simp only [decide_eq_false_iff_not]
      intro e
      exact hlen (by rw [e])
    rw [hf]
    clear hf hlen
    go_enter Tryd.func101, Tryd.ntmps101
    go_wp2
    go_ret
    exact ⟨rfl, Below.refl _ _⟩

set_option maxRecDepth 100000 in
set_option maxHeartbeats 2000000 in
theorem alike_any (a b : Hd) (v1 v2 : Value) (l m : List Int) (w : World) (h1 : Ints w v1 l) (h2 : Ints w v2 m) (hl : l.length ≤ 4294967296) :
    Calls Tryd.prog 83 #[nodeV a v1, nodeV b v2] w fun e w' => e = .returned (.bool (sameHd a b && decide (l = m))) ∧ Below w.heap.size w w' := by
  have b0 := ((Below.refl w.heap.size w).alloc (Nat.le_refl _) (.cells (nodeC a v1) 38)).alloc (by simp) (.cells (nodeC b v2) 38)
  have h1' := h1.below b0
  have h2' := h2.below b0
  have he := fun w => set_eql a.set b.set w
  have hq := fun w h1 h2 => equal_any v1 v2 l m w h1 h2 hl
  go_enter Tryd.func83, Tryd.ntmps83
  go_wp2_with (go_at_call 101; refine (hq _ h1' h2').mono ?_; rintro e w' ⟨rfl, hb⟩)
  all_goals go_ret
  all_goals clear he hq h1 h2 h1' h2'
  all_goals have hkk : ((a.kind : Int) = (b.kind : Int)) ↔ a.kind = b.kind := by omega
  all_goals first
    | (refine ⟨congrArg (fun x => Ending.returned (.bool x)) ?_, b0.trans (hb.mono b0.size)⟩
       clear hb b0
       unfold sameHd
       rw [Bool.eq_iff_iff]
       simp only [hkk, text_list] at *
       simp_all
       done)
    | (refine ⟨congrArg (fun x => Ending.returned (.bool x)) ?_, b0⟩
       clear b0
       unfold sameHd
       rw [Bool.eq_iff_iff]
       simp only [hkk, text_list] at *
       simp_all
       done)
end Go.Proofs.YtpkjfdgjmcphmaaDoor

/- Package tree: slices.EqualFunc of nodes. -/
namespace Go.Proofs.YtpkjfdgjmcphmaaDoor
open Go.RowKit Bset Tm

theorem nd_eq (a b : Nd) : (sameHd a.hd b.hd && decide (a.kids = b.kids)) = true ↔ a = b := by
  obtain ⟨h, l⟩ := a
  obtain ⟨h', l'⟩ := b
  rw [Bool.and_eq_true, sameHd_iff, decide_eq_true_eq]
  simp

set_option maxRecDepth 100000 in
set_option maxHeartbeats 2000000 in
theorem eqf_any (v1 v2 : Value) (A B : List Nd) (w : World) (h1 : Nodes w v1 A) (h2 : Nodes w v2 B) (hl : A.length ≤ 4294967296) (hk : ∀ n ∈ A, n.kids.length ≤ 4294967296) :
    Calls Tryd.prog 82 #[v1, v2, .func (.func 83) #[] #[]] w fun e w' => e = .returned (.bool (eqB A B)) ∧ Below w.heap.size w w' := by
  obtain ⟨p, c, e1, hh1⟩ := h1
  obtain ⟨p', c', e2, hh2⟩ := h2
  subst e1 e2
  by_cases hlen : A.length = B.length
  · have hle : ((A.length : Int) != (B.length : Int)) = false := by simp [hlen]
    go_enter Tryd.func82, Tryd.ntmps82
    have HL := Lib.hid hlen
    clear hlen
    go_wp2
    go_loopw [17] (fun v W => ∃ q : Nat, v = .int .i64 q ∧ q ≤ A.length ∧ A.take q = B.take q ∧ Below w.heap.size w W) (fun v _ => A.length - (intOf v).toNat)
    case atStart => exact ⟨0, rfl, Nat.zero_le _, rfl, Below.refl _ _⟩
    case round =>
      obtain ⟨q, rfl, hq, ht, hB⟩ := hrel
      by_cases hlt : q < A.length
      · have hlt2 : q < B.length := by have := HL.out; omega
        rcases hh1 with rfl | ⟨b, off, rfl, hc⟩
        · simp at hlt
        · rcases hh2 with rfl | ⟨b', off', rfl, hc'⟩
          · simp at hlt2
          · obtain ⟨kv1, hN1, hI1⟩ := hc q hlt
            obtain ⟨kv2, hN2, hI2⟩ := hc' q hlt2
            obtain ⟨p1, cap1, rfl⟩ := hI1.len
            obtain ⟨p2, cap2, rfl⟩ := hI2.len
            obtain ⟨c0, c1, c2, c3, c4, c5, c6, c7, c8⟩ := hN1.keep hB.block
            have B1 := (Below.refl wr.heap.size wr).alloc (Nat.le_refl _) (.cells (nodeC A[q].hd (.slice p1 A[q].kids.length cap1)) 38)
            have hB1 := hB.trans (B1.mono hB.size)
            obtain ⟨d0, d1, d2, d3, d4, d5, d6, d7, d8⟩ := hN2.keep hB1.block
            have hB2 := hB1.alloc hB1.size (.cells (nodeC B[q].hd (.slice p2 B[q].kids.length cap2)) 38)
            have hI1' := hI1.below hB2
            have hI2' := hI2.below hB2
            have hq0 : (0 : Int) ≤ (q : Int) := by omega
            have hq1 : (q : Int) < (A.length : Int) := by omega
            have hq2 : (q : Int) < (B.length : Int) := by omega
            have hal := fun (w : World) (h1 : Ints w (.slice p1 A[q].kids.length cap1) A[q].kids) (h2 : Ints w (.slice p2 B[q].kids.length cap2) B[q].kids) => alike_any A[q].hd B[q].hd (.slice p1 A[q].kids.length cap1) (.slice p2 B[q].kids.length cap2) A[q].kids B[q].kids w h1 h2 (hk _ (List.getElem_mem hlt))
            have hnd := nd_eq A[q] B[q]
            have hstep : A[q] = B[q] → A.take (q + 1) = B.take (q + 1) := fun e => by
              rw [List.take_succ_eq_append_getElem hlt, List.take_succ_eq_append_getElem hlt2, ht, e]
            have hbad : A[q] ≠ B[q] → eqB A B = false := fun e => eqB_no.2 fun e2 => by
              subst e2
              exact e rfl
            cases hs : (sameHd A[q].hd B[q].hd && decide (A[q].kids = B[q].kids)) with
            | true =>
              have HS := Lib.hid (hstep (hnd.1 hs))
              simp only [hs] at hal
              clear hstep hbad hnd hs hc hc' ht
              go_wp2_with (go_at_call 83; refine (hal _ hI1' hI2').mono ?_; rintro e w' ⟨rfl, hb⟩)
              go_roundw
              case rel => exact ⟨q + 1, by go_num, by omega, HS.out, hB2.trans (hb.mono hB2.size)⟩
              case measure => simp [intOf]; omega
            | false =>
              have HS := Lib.hid (hbad (fun e => by rw [hnd.2 e] at hs; cases hs))
              simp only [hs] at hal
              clear hstep hbad hnd hs hc hc' ht
              go_wp2_with (go_at_call 83; refine (hal _ hI1' hI2').mono ?_; rintro e w' ⟨rfl, hb⟩)
              go_ret
              exact ⟨congrArg (fun x => Ending.returned (.bool x)) HS.out.symm, hB2.trans (hb.mono hB2.size)⟩
      · obtain rfl : q = A.length := by omega
        have hfin : eqB A B = true := by
          rw [List.take_of_length_le (Nat.le_refl _), List.take_of_length_le (by have := HL.out; omega)] at ht
          exact eqB_iff.2 ht
        have HF := Lib.hid hfin
        clear hfin ht
        go_wp2
        go_ret
        exact ⟨congrArg (fun x => Ending.returned (.bool x)) HF.out.symm, hB⟩
  · have hne : ((A.length : Int) != (B.length : Int)) = true := by simp; omega
    have hf : eqB A B = false := eqB_no.2 fun e => hlen (by rw [e])
    rw [hf]
    clear hf hlen
    go_enter Tryd.func82, Tryd.ntmps82
    go_wp2
    go_ret
    exact ⟨rfl, Below.refl _ _⟩
end Go.Proofs.YtpkjfdgjmcphmaaDoor

/- Package tree: an arena of so many nodes made, and filled. -/
namespace Go.Proofs.YtpkjfdgjmcphmaaDoor
open Go.RowKit Bset Tm

/-- A whole node stored at an offset. -/
abbrev nodeO (w : World) (g o : Nat) (v0 v1 v2 v3 v4 v5 v6 v7 v8 : Value) : World :=
  ((((((((w.setCell ⟨g, o, none⟩ v0).setCell ⟨g, o + 1, none⟩ v1).setCell ⟨g, o + 2, none⟩ v2).setCell ⟨g, o + 3, none⟩ v3).setCell ⟨g, o + 4, none⟩ v4).setCell ⟨g, o + 5, none⟩ v5).setCell ⟨g, o + 6, none⟩ v6).setCell ⟨g, o + 7, none⟩ v7).setCell ⟨g, o + 8, none⟩ v8
def set9L (l : List Value) (o : Nat) (v0 v1 v2 v3 v4 v5 v6 v7 v8 : Value) : List Value := ((((((((l.set (o) v0).set (o + 1) v1).set (o + 2) v2).set (o + 3) v3).set (o + 4) v4).set (o + 5) v5).set (o + 6) v6).set (o + 7) v7).set (o + 8) v8
section
variable {w : World} {g o : Nat} (v0 v1 v2 v3 v4 v5 v6 v7 v8 : Value)
theorem Cl.otherO {b : Nat} {t : TypeId} {cs : Array Value} (h : Cl w b t cs) (hb : b ≠ g) : Cl (nodeO w g o v0 v1 v2 v3 v4 v5 v6 v7 v8) b t cs :=
  ((((((((h.other (p := ⟨g, o, none⟩) hb v0).other (p := ⟨g, o + 1, none⟩) hb v1).other (p := ⟨g, o + 2, none⟩) hb v2).other (p := ⟨g, o + 3, none⟩) hb v3).other (p := ⟨g, o + 4, none⟩) hb v4).other (p := ⟨g, o + 5, none⟩) hb v5).other (p := ⟨g, o + 6, none⟩) hb v6).other (p := ⟨g, o + 7, none⟩) hb v7).other (p := ⟨g, o + 8, none⟩) hb v8
theorem below_nodeO {B : Nat} {w0 : World} (h : Below B w0 w) (hb : B ≤ g) : Below B w0 (nodeO w g o v0 v1 v2 v3 v4 v5 v6 v7 v8) :=
  ((((((((h.setCell (p := ⟨g, o, none⟩) hb v0).setCell (p := ⟨g, o + 1, none⟩) hb v1).setCell (p := ⟨g, o + 2, none⟩) hb v2).setCell (p := ⟨g, o + 3, none⟩) hb v3).setCell (p := ⟨g, o + 4, none⟩) hb v4).setCell (p := ⟨g, o + 5, none⟩) hb v5).setCell (p := ⟨g, o + 6, none⟩) hb v6).setCell (p := ⟨g, o + 7, none⟩) hb v7).setCell (p := ⟨g, o + 8, none⟩) hb v8
theorem gb_nodeO : w.grownBy (nodeO w g o v0 v1 v2 v3 v4 v5 v6 v7 v8) (some g) :=
  gb_set (gb_set (gb_set (gb_set (gb_set (gb_set (gb_set (gb_set (gb_set (gb_refl w (some g)) o v0) (o + 1) v1) (o + 2) v2) (o + 3) v3) (o + 4) v4) (o + 5) v5) (o + 6) v6) (o + 7) v7) (o + 8) v8
theorem own_nodeO {lo : Nat} {e : TypeId} {size n cap : Nat} {xs : List Value} (h : w.ownsRow lo e size (.slice (some ⟨g, 0, none⟩) n cap) n xs) : (nodeO w g o v0 v1 v2 v3 v4 v5 v6 v7 v8).ownsRow lo e size (.slice (some ⟨g, 0, none⟩) n cap) n (set9L xs o v0 v1 v2 v3 v4 v5 v6 v7 v8) :=
  (((((((((h.stored o v0).1.stored (o + 1) v1).1.stored (o + 2) v2).1.stored (o + 3) v3).1.stored (o + 4) v4).1.stored (o + 5) v5).1.stored (o + 6) v6).1.stored (o + 7) v7).1.stored (o + 8) v8).1
end

theorem set9_zero (x : Nd × Value) (h : Hd) (kv : Value) (r : List Value) : set9L ((nodeC x.1.hd x.2).toList ++ r) 0 (.int .u8 h.kind) (.int .u64 (word (setN h.set) 0 : Nat)) (.int .u64 (word (setN h.set) 1 : Nat)) (.int .u64 (word (setN h.set) 2 : Nat)) (.int .u64 (word (setN h.set) 3 : Nat)) (.string h.text) (.int .i64 h.lo) (.int .i64 h.hi) kv = (nodeC h kv).toList ++ r := rfl
theorem set9_succ (a r : List Value) (o : Nat) (ha : a.length = 9) (v0 v1 v2 v3 v4 v5 v6 v7 v8 : Value) : set9L (a ++ r) (o + 9) v0 v1 v2 v3 v4 v5 v6 v7 v8 = a ++ set9L r o v0 v1 v2 v3 v4 v5 v6 v7 v8 := by
  have e : ∀ (l : List Value) (i : Nat) (v : Value), (a ++ l).set (i + 9) v = a ++ l.set i v := fun l i v => by
    rw [List.set_append_right _ _ (by omega), ha]
    simp
  unfold set9L
  rw [e r o]
  rw [show o + 9 + 1 = o + 1 + 9 by omega, e _ (o + 1)]
  rw [show o + 9 + 2 = o + 2 + 9 by omega, e _ (o + 2)]
  rw [show o + 9 + 3 = o + 3 + 9 by omega, e _ (o + 3)]
  rw [show o + 9 + 4 = o + 4 + 9 by omega, e _ (o + 4)]
  rw [show o + 9 + 5 = o + 5 + 9 by omega, e _ (o + 5)]
  rw [show o + 9 + 6 = o + 6 + 9 by omega, e _ (o + 6)]
  rw [show o + 9 + 7 = o + 7 + 9 by omega, e _ (o + 7)]
  rw [show o + 9 + 8 = o + 8 + 9 by omega, e _ (o + 8)]
theorem cellsN_set : ∀ (L : List (Nd × Value)) (p : Nat) (n : Nd) (kv : Value), p < L.length →
    set9L (cellsN L) (p * 9) (.int .u8 n.hd.kind) (.int .u64 (word (setN n.hd.set) 0 : Nat)) (.int .u64 (word (setN n.hd.set) 1 : Nat)) (.int .u64 (word (setN n.hd.set) 2 : Nat)) (.int .u64 (word (setN n.hd.set) 3 : Nat)) (.string n.hd.text) (.int .i64 n.hd.lo) (.int .i64 n.hd.hi) kv = cellsN (L.set p (n, kv))
  | [], _, _, _, h => by simp at h
  | x :: r, 0, n, kv, _ => by
    rw [Nat.zero_mul, cellsN, set9_zero]
    rfl
  | x :: r, p + 1, n, kv, h => by
    rw [show (p + 1) * 9 = p * 9 + 9 by omega, cellsN, set9_succ _ _ _ rfl, cellsN_set r p n kv (by simpa using h)]
    rfl

/-- A node put into an arena that the call has made. -/
theorem Made.set {lo : Nat} {w : World} {g n cap p : Nat} {L : List (Nd × Value)} (h : Made lo w (.slice (some ⟨g, 0, none⟩) n cap) L) (hn : n = L.length) (hp : p < n) (nd : Nd) (kv : Value) (hk : w.ownsRow lo 3 1 kv nd.kids.length (nd.kids.map (Value.int .i64))) :
    Made lo (nodeO w g (p * 9) (.int .u8 nd.hd.kind) (.int .u64 (word (setN nd.hd.set) 0 : Nat)) (.int .u64 (word (setN nd.hd.set) 1 : Nat)) (.int .u64 (word (setN nd.hd.set) 2 : Nat)) (.int .u64 (word (setN nd.hd.set) 3 : Nat)) (.string nd.hd.text) (.int .i64 nd.hd.lo) (.int .i64 nd.hd.hi) kv) (.slice (some ⟨g, 0, none⟩) n cap) (L.set p (nd, kv)) := by
  subst hn
  refine ⟨?_, fun x hx => ?_⟩
  · rw [List.length_set, ← cellsN_set L p nd kv hp]
    exact own_nodeO _ _ _ _ _ _ _ _ _ h.row
  · rcases List.mem_or_eq_of_mem_set hx with hx | rfl
    · exact own_type (h.kids x hx) h.row (by decide) (gb_nodeO _ _ _ _ _ _ _ _ _)
    · exact own_type hk h.row (by decide) (gb_nodeO _ _ _ _ _ _ _ _ _)

/-- What is at a place of such an arena. -/
theorem Made.at {lo : Nat} {w : World} {g n cap p : Nat} {L : List (Nd × Value)} (h : Made lo w (.slice (some ⟨g, 0, none⟩) n cap) L) (hn : n = L.length) (hp : p < n) : (∃ hd kv, NodeAt w g (p * 9) hd kv) ∧ ∀ i, w.frozen? ⟨g, i, none⟩ = false := by
  subst hn
  have hc : ∀ i, i < 9 → w.cell? ⟨g, p * 9 + i, none⟩ = (nodeC L[p].1.hd L[p].2)[i]? := fun i hi => by
    rw [h.row.cellAt (p * 9 + i) (by omega), cellsN_at L p i hp hi]
  exact ⟨⟨L[p].1.hd, L[p].2, hc 0 (by omega), hc 1 (by omega), hc 2 (by omega), hc 3 (by omega), hc 4 (by omega), hc 5 (by omega), hc 6 (by omega), hc 7 (by omega), hc 8 (by omega)⟩, fun i => h.row.frozenAt i⟩

theorem nodeC_no : nodeC noHd (.slice none 0 0) = nodeZ := by
  have := nodeV_zero 0 ⟨#[]⟩ 0 0 (.slice none 0 0)
  exact Value.agg.inj this
theorem zeroCells (n : Nat) : (madeCells nodeZ (n * 9)).toList = cellsN (List.replicate n (noNd, .slice none 0 0)) := by
  apply List.ext_getElem?
  intro j
  by_cases hj : j < n * 9
  · have h1 : j = (j / 9) * 9 + j % 9 := by omega
    have h2 : j / 9 < n := by omega
    have h3 : j % 9 < 9 := by omega
    have e1 : (cellsN (List.replicate n (noNd, .slice none 0 0)))[j]? = nodeZ[j % 9]? := by
      rw [h1, cellsN_at _ _ _ (by simpa using h2) h3, ← nodeC_no]
      simp only [List.getElem_replicate]
      rw [show ((j / 9) * 9 + j % 9) % 9 = j % 9 by omega]
      rfl
    rw [e1, Array.getElem?_toList]
    unfold madeCells
    rw [Array.getElem?_map, Array.getElem?_range, if_pos hj, Option.map_some, show nodeZ.size = 9 from rfl, getElem!_pos nodeZ (j % 9) (by exact h3)]
    exact (Array.getElem?_eq_getElem (xs := nodeZ) (by exact h3)).symm
  · rw [List.getElem?_eq_none (by rw [Array.length_toList, size_madeCells]; omega), List.getElem?_eq_none (by rw [cellsN_length]; simp; omega)]
theorem make_nodes (n : Nat) (h : n ≤ 4294967296) (w : World) : (Instr.makeSlice 24 (.int .i64 (n : Int)) (.int .i64 (n : Int))).run Tryd.prog w = .ok (.slice (some ⟨w.heap.size, 0, none⟩) n n) (w.alloc (.cells (madeCells nodeZ (n * 9)) 38)) := by
  obtain ⟨i0, hi, hz0, hz1, hz2⟩ := info_parts infoNode
  have hr := run_make (P := Tryd.prog) w 24 38 i0 (.agg nodeZ) Tryd.underlying24 hi hz0 .i64 .i64 n n (by omega) (Int.le_refl _) (by rw [hz2]; omega) (by omega)
  simp only [Int.toNat_natCast, hz1] at hr
  exact hr
theorem made_zero (lo n : Nat) (h : n ≤ 4294967296) (w : World) (hlo : lo ≤ w.heap.size) : Made lo (w.alloc (.cells (madeCells nodeZ (n * 9)) 38)) (.slice (some ⟨w.heap.size, 0, none⟩) n n) (List.replicate n (noNd, .slice none 0 0)) := by
  refine ⟨?_, fun x hx => ?_⟩
  · have := World.ownsRow_lit w (base := lo) (e := 38) (size := 9) (madeCells nodeZ (n * 9)) n hlo (by unfold maxLen; omega) (by rw [size_madeCells])
    rw [zeroCells] at this
    simpa using this
  · have : x = (noNd, .slice none 0 0) := (List.mem_replicate.1 hx).2
    subst this
    exact World.ownsRow_nil _ lo _ _
end Go.Proofs.YtpkjfdgjmcphmaaDoor

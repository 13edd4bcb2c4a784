/- bonsailaw04: works: its two trees. -/
import Derived.Test.YtpkjfdgjmcphmaaDoorVTrow
namespace Go.Proofs.YtpkjfdgjmcphmaaDoor
open Go.RowKit Bset Tm

abbrev hA : Hd := ⟨2, 0#256, ⟨#[97]⟩, 0, 0⟩
abbrev hB : Hd := ⟨3, 0#256, ⟨#[98]⟩, 0, 0⟩
theorem ab_of : ofB (hdK 4) [leafT hA, leafT hB] = true ∧ ofT (hdK 4) [leafT hA, leafT hB] = ⟨[⟨hA, []⟩, ⟨hB, []⟩, ⟨hdK 4, [0, 1]⟩], 2⟩ := by
  have f1 : fitT (.mk hA []) = true := by simp [fitT, fitTs, fits, noSet, isZ, ByteArray.size]
  have f2 : fitT (.mk hB []) = true := by
    have : Nm.mayB ⟨#[98]⟩ = true := by decide
    simp [fitT, fitTs, fits, noSet, isZ, this]
  have h1 : rightB (leafT hA) = true := rightB_iff.2 (leafT_arOf hA ▸ arOf_right f1)
  have h2 : rightB (leafT hB) = true := rightB_iff.2 (leafT_arOf hB ▸ arOf_right f2)
  have h3 : ofB (hdK 4) [leafT hA, leafT hB] = true := by
    simp [ofB, h1, h2, fits, noSet, noText, isZ, ByteArray.size]
  refine ⟨h3, ?_⟩
  rw [ofT, if_pos h3]
  simp only [List.map_cons, List.map_nil, leafT_arOf, tree_arOf]
  rfl

theorem ab_ok : ((leafT hA).nodes.length ≤ 4294967296 ∧ ∀ n ∈ (leafT hA).nodes, okP n.hd n.kids.length) ∧ ((leafT hB).nodes.length ≤ 4294967296 ∧ ∀ n ∈ (leafT hB).nodes, okP n.hd n.kids.length) := by
  refine ⟨⟨by simp [leafT], fun n hn => ?_⟩, ⟨by simp [leafT], fun n hn => ?_⟩⟩
  · rw [List.mem_singleton.1 hn]
    exact ⟨by decide, by decide, by decide⟩
  · rw [List.mem_singleton.1 hn]
    exact ⟨by decide, by decide, by decide⟩
theorem own_form {w : World} {lo : Nat} {t : TypeId} {size : Nat} {v : Value} {n : Nat} {xs : List Value} (h : w.ownsRow lo t size v n xs) (hn : 0 < n) : ∃ g cap, v = .slice (some ⟨g, 0, none⟩) n cap := by
  rcases h.2 with ⟨_, h0⟩ | ⟨g, cap, cur, rfl, _⟩
  · omega
  · exact ⟨g, cap, rfl⟩
theorem own_none {w : World} {lo : Nat} {t : TypeId} {size : Nat} {v : Value} {xs : List Value} (h : w.ownsRow lo t size v 0 xs) : ∃ p c, v = .slice p 0 c := own_slice h
theorem three_of {C : List (Nd × Value)} {a b c : Nd} (h : C.map Prod.fst = [a, b, c]) : ∃ x y z, C = [(a, x), (b, y), (c, z)] := by
  match C, h with
  | [(a', x), (b', y), (c', z)], h =>
    simp at h
    obtain ⟨rfl, rfl, rfl⟩ := h
    exact ⟨x, y, z, rfl⟩

def cells27 (k0 k1 k2 : Value) : Array Value := #[.int .u8 2, .int .u64 0, .int .u64 0, .int .u64 0, .int .u64 0, .string ⟨#[97]⟩, .int .i64 0, .int .i64 0, k0, .int .u8 3, .int .u64 0, .int .u64 0, .int .u64 0, .int .u64 0, .string ⟨#[98]⟩, .int .i64 0, .int .i64 0, k1, .int .u8 4, .int .u64 0, .int .u64 0, .int .u64 0, .int .u64 0, .string ⟨#[]⟩, .int .i64 0, .int .i64 0, k2]
theorem three_made {lo : Nat} {w : World} {v : Value} (h : MadeT lo w v ⟨[⟨hA, []⟩, ⟨hB, []⟩, ⟨hdK 4, [0, 1]⟩], 2⟩) :
    ∃ g cap gk ck p0 c0 p1 c1, v = treeV (.slice (some ⟨g, 0, none⟩) 3 cap) 2 ∧ (∀ j, j < 27 → w.cell? ⟨g, j, none⟩ = (cells27 (.slice p0 0 c0) (.slice p1 0 c1) (.slice (some ⟨gk, 0, none⟩) 2 ck))[j]?) ∧ w.cell? ⟨gk, 0, none⟩ = some (.int .i64 0) ∧ w.cell? ⟨gk, 1, none⟩ = some (.int .i64 1) ∧ g < w.heap.size ∧ gk < w.heap.size := by
  obtain ⟨nv, C, rfl, hm, hc⟩ := h
  obtain ⟨k0, k1, k2, rfl⟩ := three_of hc
  obtain ⟨g, cap, rfl⟩ := own_form hm.row (by show 0 < 3; decide)
  have hK2 : w.ownsRow lo 3 1 k2 2 [.int .i64 0, .int .i64 1] := hm.kids (⟨hdK 4, [0, 1]⟩, k2) (by simp)
  have hK1 : w.ownsRow lo 3 1 k1 0 [] := hm.kids (⟨hB, []⟩, k1) (by simp)
  have hK0 : w.ownsRow lo 3 1 k0 0 [] := hm.kids (⟨hA, []⟩, k0) (by simp)
  obtain ⟨gk, ck, rfl⟩ := own_form hK2 (by show 0 < 2; decide)
  obtain ⟨q1, e1, rfl⟩ := own_none hK1
  obtain ⟨q0, e0, rfl⟩ := own_none hK0
  refine ⟨g, cap, gk, ck, q0, e0, q1, e1, rfl, fun j hj => ?_, hK2.cellAt 0 (by show 0 < 2; decide), hK2.cellAt 1 (by show 1 < 2; decide), (hm.row.lt g rfl).2, (hK2.lt gk rfl).2⟩
  rw [hm.row.cellAt j hj]
  show (cellsN _)[j]? = _
  have : cellsN [((⟨hA, []⟩ : Nd), Value.slice q0 0 e0), (⟨hB, []⟩, .slice q1 0 e1), (⟨hdK 4, [0, 1]⟩, .slice (some ⟨gk, 0, none⟩) 2 ck)] = (cells27 (.slice q0 0 e0) (.slice q1 0 e1) (.slice (some ⟨gk, 0, none⟩) 2 ck)).toList := by
    simp only [cellsN, setN_zero, word_none]
    rfl
  rw [this, Array.getElem?_toList]

theorem cell_alloc {w : World} {p : Addr} {v : Value} {o : Obj} (h : w.cell? p = some v) : (w.alloc o).cell? p = some v := by
  obtain ⟨b, i, f⟩ := p
  have hlt : b < w.heap.size := by
    by_cases hb : b < w.heap.size
    · exact hb
    · have : w.heap[b]? = none := by simp; omega
      simp [World.cell?, this] at h
  exact (World.cell?_of_block (w := w) (Below.heap_alloc w o b hlt)).trans h

/-- Two trees, in a list of their own. -/
theorem trees_two {w : World} {v1 v2 : Value} {T U : Ar} (h1 : Tree w (treeV v1 T.root) T) (h2 : Tree w (treeV v2 U.root) U) : Trees (w.alloc (.cells #[v1, .int .i64 T.root, v2, .int .i64 U.root] 26)) (.slice (some ⟨w.heap.size, 0, none⟩) 2 2) [T, U] := by
  have hc := Cl.new w 26 #[v1, .int .i64 T.root, v2, .int .i64 U.root]
  have hb := (Below.refl w.heap.size w).alloc (Nat.le_refl _) (.cells #[v1, .int .i64 T.root, v2, .int .i64 U.root] 26)
  obtain ⟨nv1, e1, n1⟩ := h1.below hb
  obtain ⟨nv2, e2, n2⟩ := h2.below hb
  have e1' : v1 = nv1 := by simpa using e1
  have e2' : v2 = nv2 := by simpa using e2
  subst e1' e2'
  refine ⟨_, 2, rfl, .inr ⟨w.heap.size, 0, rfl, fun j hj => ?_⟩⟩
  match j, hj with
  | 0, _ => exact ⟨v1, hc.cell 0, hc.cell 1, n1⟩
  | 1, _ => exact ⟨v2, hc.cell 2, hc.cell 3, n2⟩


abbrev abT : Ar := ⟨[⟨hA, []⟩, ⟨hB, []⟩, ⟨hdK 4, [0, 1]⟩], 2⟩
abbrev turnT : Ar := ⟨[⟨hB, []⟩, ⟨hA, []⟩, ⟨hdK 4, [1, 0]⟩], 2⟩
abbrev abR : RT Hd := .mk (hdK 4) [.mk hA [], .mk hB []]
theorem fitA : fits hA 0 = true := by simp [fits, noSet, isZ, ByteArray.size]
theorem fitB : fits hB 0 = true := by
  have : Nm.mayB ⟨#[98]⟩ = true := by decide
  simp [fits, noSet, isZ, this]
theorem fitK4 : fits (hdK 4) 2 = true := by simp [fits, noSet, noText, isZ, ByteArray.size]
theorem ab_right : rightB abT = true := by
  have : fitT abR = true := by simp [fitT, fitTs, fitA, fitB, fitK4]
  exact rightB_iff.2 (arOf_right this)
theorem ab_tree : tree abT = abR := tree_arOf abR
theorem turn_right : rightB turnT = true := rightB_iff.2 ⟨rfl, by simp, by
    intro i n h
    match i, h with
    | 0, h => simp at h; subst h; exact fitB
    | 1, h => simp at h; subst h; exact fitA
    | 2, h => simp at h; subst h; exact fitK4, by
    intro i n h
    match i, h with
    | 0, h => simp at h; subst h; simp
    | 1, h => simp at h; subst h; simp
    | 2, h => simp at h; subst h; simp, by decide, by
    intro j hj
    have : j < 2 := by
      have : j + 1 < 3 := by simpa using hj
      omega
    match j, this with
    | 0, _ => decide
    | 1, _ => decide⟩
theorem turn_tree : tree turnT = abR := by
  have hK : Dec (kidsN turnT.nodes) := (rightB_iff.1 turn_right).2.k.dec
  show tau turnT.nodes 2 = _
  rw [tau_eq hK]
  show Tm.RT.mk (hdK 4) [tau turnT.nodes 1, tau turnT.nodes 0] = _
  rw [tau_eq hK, tau_eq hK]
  rfl
theorem turn_same : sameT abT turnT = true := same_iff.2 ⟨ab_right, turn_right, ab_tree.trans turn_tree.symm⟩
theorem turn_row : rowT turnT = [2, 1, 0] := by
  have hK : Dec (kidsN turnT.nodes) := (rightB_iff.1 turn_right).2.k.dec
  rw [rowT, if_pos turn_right, rowN]
  show (pre (X (kidsN turnT.nodes) 2)).map Int.ofNat = _
  rw [pre_X hK]
  show (2 :: (pre (X (kidsN turnT.nodes) 1) ++ (pre (X (kidsN turnT.nodes) 0) ++ []))).map Int.ofNat = _
  rw [pre_X hK, pre_X hK]
  rfl
theorem turn_okA : OkA turnT.nodes := okA_iff.2 ⟨by simp, fun n hn => by
  simp only [List.mem_cons, List.not_mem_nil, or_false] at hn
  rcases hn with rfl | rfl | rfl <;> exact ⟨by decide, by decide, by decide⟩⟩
theorem ab_okA : OkA abT.nodes := okA_iff.2 ⟨by simp, fun n hn => by
  simp only [List.mem_cons, List.not_mem_nil, or_false] at hn
  rcases hn with rfl | rfl | rfl <;> exact ⟨by decide, by decide, by decide⟩⟩
theorem no100_okA : OkA (arOf (noTr 100)).nodes := ok_arOf (noTr_ok 100) (by rw [noTr_size]; omega)
theorem no_deep : ∀ n, deep (noTr n) = n + 1
  | 0 => rfl
  | n + 1 => by simp [noTr, deep, deeps, no_deep n]
theorem no_fit : ∀ n, fitT (noTr n) = true
  | 0 => by simp [noTr, fitT, fitTs, fits, noSet, noText, isZ, ByteArray.size]
  | n + 1 => by simp [noTr, fitT, fitTs, no_fit n, fits, noSet, noText, isZ, ByteArray.size]
theorem no100_right : rightB (arOf (noTr 100)) = true := rightB_iff.2 (arOf_right (no_fit 100))
theorem no100_may : mayT (arOf (noTr 100)) = false := by
  rw [mayT, tree_arOf, no_deep]
  simp

/-- The tree that is turned about, as it lies. -/
theorem turn_at {w : World} {N K : Nat} {tN tK : TypeId} {q0 q1 : Option Addr} {e0 e1 : Nat}
    (hN : Cl w N tN #[.int .u8 3, .int .u64 0, .int .u64 0, .int .u64 0, .int .u64 0, .string ⟨#[98]⟩, .int .i64 0, .int .i64 0, .slice q1 0 e1, .int .u8 2, .int .u64 0, .int .u64 0, .int .u64 0, .int .u64 0, .string ⟨#[97]⟩, .int .i64 0, .int .i64 0, .slice q0 0 e0, .int .u8 4, .int .u64 0, .int .u64 0, .int .u64 0, .int .u64 0, .string ⟨#[]⟩, .int .i64 0, .int .i64 0, .slice (some ⟨K, 0, none⟩) 2 2])
    (hK : Cl w K tK #[.int .i64 1, .int .i64 0]) : Tree w (treeV (.slice (some ⟨N, 0, none⟩) 3 3) 2) turnT := by
  refine ⟨_, rfl, ⟨_, 3, rfl, .inr ⟨N, 0, rfl, fun j hj => ?_⟩⟩⟩
  have z : ∀ k, Value.int .u64 (word (setN 0#256) k : Nat) = .int .u64 0 := fun k => by rw [setN_zero, word_none]; rfl
  have hj' : j < 3 := hj
  match j, hj' with
  | 0, _ => exact ⟨.slice q1 0 e1, ⟨hN.cell 0, (hN.cell 1).trans (congrArg some (z 0).symm), (hN.cell 2).trans (congrArg some (z 1).symm), (hN.cell 3).trans (congrArg some (z 2).symm), (hN.cell 4).trans (congrArg some (z 3).symm), hN.cell 5, hN.cell 6, hN.cell 7, hN.cell 8⟩, ⟨q1, e1, rfl, .inl rfl⟩⟩
  | 1, _ => exact ⟨.slice q0 0 e0, ⟨hN.cell 9, (hN.cell 10).trans (congrArg some (z 0).symm), (hN.cell 11).trans (congrArg some (z 1).symm), (hN.cell 12).trans (congrArg some (z 2).symm), (hN.cell 13).trans (congrArg some (z 3).symm), hN.cell 14, hN.cell 15, hN.cell 16, hN.cell 17⟩, ⟨q0, e0, rfl, .inl rfl⟩⟩
  | 2, _ =>
    refine ⟨.slice (some ⟨K, 0, none⟩) 2 2, ⟨hN.cell 18, (hN.cell 19).trans (congrArg some (z 0).symm), (hN.cell 20).trans (congrArg some (z 1).symm), (hN.cell 21).trans (congrArg some (z 2).symm), (hN.cell 22).trans (congrArg some (z 3).symm), hN.cell 23, hN.cell 24, hN.cell 25, hN.cell 26⟩, ⟨_, 2, rfl, .inr ⟨K, 0, rfl, fun j hj => ?_⟩⟩⟩
    have hj' : j < 2 := hj
    match j, hj' with
    | 0, _ => exact hK.cell 0
    | 1, _ => exact hK.cell 1

abbrev oK : Obj := .cells #[.int .i64 1, .int .i64 0] 3
abbrev oN (K : Nat) (q0 : Option Addr) (e0 : Nat) (q1 : Option Addr) (e1 : Nat) : Obj := .cells #[.int .u8 3, .int .u64 0, .int .u64 0, .int .u64 0, .int .u64 0, .string ⟨#[98]⟩, .int .i64 0, .int .i64 0, .slice q1 0 e1, .int .u8 2, .int .u64 0, .int .u64 0, .int .u64 0, .int .u64 0, .string ⟨#[97]⟩, .int .i64 0, .int .i64 0, .slice q0 0 e0, .int .u8 4, .int .u64 0, .int .u64 0, .int .u64 0, .int .u64 0, .string ⟨#[]⟩, .int .i64 0, .int .i64 0, .slice (some ⟨K, 0, none⟩) 2 2] 38
abbrev oT (N : Nat) : Obj := .cells #[.slice (some ⟨N, 0, none⟩) 3 3, .int .i64 2] 26
structure Fin (w : World) (gS g cap N T : Nat) (W : World) : Prop where
  b : Below w.heap.size w W
  s : Cl W gS 26 #[.slice (some ⟨g, 0, none⟩) 3 cap, .int .i64 2]
  ab : Tree W (treeV (.slice (some ⟨g, 0, none⟩) 3 cap) 2) abT
  turn : Tree W (treeV (.slice (some ⟨N, 0, none⟩) 3 3) 2) turnT
  t : Cl W T 26 #[.slice (some ⟨N, 0, none⟩) 3 3, .int .i64 2]
section
variable {w W5 W : World} {gS g cap : Nat} {q0 q1 : Option Addr} {e0 e1 : Nat}
theorem below3 (w : World) (o1 o2 o3 : Obj) : Below w.heap.size w (((w.alloc o1).alloc o2).alloc o3).drew :=
  ((((Below.refl w.heap.size w).alloc (Nat.le_refl _) o1).alloc (by simp) o2).alloc (by simp; omega) o3).drew
theorem fin1 (B5 : Below w.heap.size w W5) (K5 : Cl W5 gS 26 #[.slice (some ⟨g, 0, none⟩) 3 cap, .int .i64 2]) (T5 : Tree W5 (treeV (.slice (some ⟨g, 0, none⟩) 3 cap) 2) abT)
    (hW : (((W5.alloc oK).alloc (oN W5.heap.size q0 e0 q1 e1)).alloc (oT (W5.heap.size + 1))).drew = W) : Fin w gS g cap (W5.heap.size + 1) (W5.heap.size + 1 + 1) W := by
  subst hW
  have hb := below3 W5 oK (oN W5.heap.size q0 e0 q1 e1) (oT (W5.heap.size + 1))
  refine ⟨B5.trans (hb.mono B5.size), ((K5.alloc _).alloc _).alloc _, T5.below hb, turn_at (q0 := q0) (e0 := e0) (q1 := q1) (e1 := e1) (K := W5.heap.size) (Cl.alloc (Cl.new' (by simp) _ _) _) (((Cl.new W5 _ _).alloc _).alloc _), Cl.new' (by simp) _ _⟩
theorem fin2 (B5 : Below w.heap.size w W5) (K5 : Cl W5 gS 26 #[.slice (some ⟨g, 0, none⟩) 3 cap, .int .i64 2]) (T5 : Tree W5 (treeV (.slice (some ⟨g, 0, none⟩) 3 cap) 2) abT)
    (hW : (((W5.alloc oK).alloc (oT (W5.heap.size + 1 + 1))).alloc (oN W5.heap.size q0 e0 q1 e1)).drew = W) : Fin w gS g cap (W5.heap.size + 1 + 1) (W5.heap.size + 1) W := by
  subst hW
  have hb := below3 W5 oK (oT (W5.heap.size + 1 + 1)) (oN W5.heap.size q0 e0 q1 e1)
  refine ⟨B5.trans (hb.mono B5.size), ((K5.alloc _).alloc _).alloc _, T5.below hb, turn_at (q0 := q0) (e0 := e0) (q1 := q1) (e1 := e1) (K := W5.heap.size) (Cl.new' (by simp) _ _) (((Cl.new W5 _ _).alloc _).alloc _), Cl.alloc (Cl.new' (by simp) _ _) _⟩
theorem fin3 (B5 : Below w.heap.size w W5) (K5 : Cl W5 gS 26 #[.slice (some ⟨g, 0, none⟩) 3 cap, .int .i64 2]) (T5 : Tree W5 (treeV (.slice (some ⟨g, 0, none⟩) 3 cap) 2) abT)
    (hW : (((W5.alloc (oT (W5.heap.size + 1 + 1))).alloc oK).alloc (oN (W5.heap.size + 1) q0 e0 q1 e1)).drew = W) : Fin w gS g cap (W5.heap.size + 1 + 1) W5.heap.size W := by
  subst hW
  have hb := below3 W5 (oT (W5.heap.size + 1 + 1)) oK (oN (W5.heap.size + 1) q0 e0 q1 e1)
  refine ⟨B5.trans (hb.mono B5.size), ((K5.alloc _).alloc _).alloc _, T5.below hb, turn_at (q0 := q0) (e0 := e0) (q1 := q1) (e1 := e1) (K := W5.heap.size + 1) (Cl.new' (by simp) _ _) (Cl.alloc (Cl.new' (by simp) _ _) _), ((Cl.new W5 _ _).alloc _).alloc _⟩
end
theorem nots100 (w : World) (hE : Env w) : Calls Tryd.prog 13 #[.int .i64 100] w fun e w' => ∃ p n c r, e = .returned (treeV (.slice p n c) r) ∧ Tree w' (treeV (.slice p n c) r) (arOf (noTr 100)) ∧ Below w.heap.size w w' := by
  refine (nots_any 100 (by decide) w hE).mono ?_
  rintro e w' ⟨v, rfl, hm, hb⟩
  have ht := hm.tree
  obtain ⟨nv, C, rfl, hM, hC⟩ := hm
  obtain ⟨p, c, rfl⟩ := own_slice hM.row
  exact ⟨p, _, c, _, rfl, ht, hb⟩
theorem walk_turn (v : Value) (w : World) (hv : Tree w v turnT) (hE : Env w) :
    Calls Tryd.prog 23 #[v] w fun e w' => ∃ g c, e = .returned (.slice (some ⟨g, 0, none⟩) 3 c) ∧ (w'.cell? ⟨g, 0, none⟩ = some (.int .i64 2) ∧ w'.cell? ⟨g, 1, none⟩ = some (.int .i64 1) ∧ w'.cell? ⟨g, 2, none⟩ = some (.int .i64 0)) ∧ Below w.heap.size w w' := by
  refine (walk_any v turnT w hv turn_okA hE).mono ?_
  rintro e w' ⟨v', rfl, ho, hb⟩
  rw [turn_row] at ho
  obtain ⟨g, c, rfl⟩ := own_form ho (by show 0 < 3; decide)
  exact ⟨g, c, rfl, ⟨ho.cellAt 0 (by show 0 < 3; decide), ho.cellAt 1 (by show 1 < 3; decide), ho.cellAt 2 (by show 2 < 3; decide)⟩, hb⟩
end Go.Proofs.YtpkjfdgjmcphmaaDoor

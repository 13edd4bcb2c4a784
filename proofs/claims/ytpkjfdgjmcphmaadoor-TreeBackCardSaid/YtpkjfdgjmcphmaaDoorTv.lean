/- Package tree: an arena of so many nodes made, and filled. -/
import Derived.Test.YtpkjfdgjmcphmaaDoorTu
namespace Go.Proofs.YtpkjfdgjmcphmaaDoor
open Go.RowKit Bset Tm

/-- A whole node stored at an offset. -/
abbrev nodeO (w : World) (g o : Nat) (v0 v1 v2 v3 v4 v5 v6 v7 v8 : Value) : World :=
  ((((((((w.setCell ⟨g, o, none⟩ v0).setCell ⟨g, o + 1, none⟩ v1).setCell ⟨g, o + 2, none⟩ v2).setCell ⟨g, o + 3, none⟩ v3).setCell ⟨g, o + 4, none⟩ v4).setCell ⟨g, o + 5, none⟩ v5).setCell ⟨g, o + 6, none⟩ v6).setCell ⟨g, o + 7, none⟩ v7).setCell ⟨g, o + 8, none⟩ v8
def set9L (l : List Value) (o : Nat) (v0 v1 v2 v3 v4 v5 v6 v7 v8 : Value) : List Value := ((((((((l.set (o) v0).set (o + 1) v1).set (o + 2) v2).set (o + 3) v3).set (o + 4) v4).set (o + 5) v5).set (o + 6) v6).set (o + 7) v7).set (o + 8) v8
section
variable {w : World} {g o : Nat} (v0 v1 v2 v3 v4 v5 v6 v7 v8 : Value)
theorem Cl.otherO {b : Nat} {t : TypeId} {cs : Array Value} (h : Cl w b t cs) (hb : b ≠ g) : Cl (nodeO w g o v0 v1 v2 v3 v4 v5 v6 v7 v8) b t cs :=
  ((((((((h.other (p := ⟨g, o, none⟩) hb v0).other (p := ⟨g, o + 1, none⟩) hb v1).other (p := ⟨g, o + 2, none⟩) hb v2).other (p := ⟨g, o + 3, none⟩) hb v3).other (p := ⟨g, o + 4, none⟩) hb v4).other (p := ⟨g, o + 5, none⟩) hb v5).other (p := ⟨g, o + 6, none⟩) hb v6).other (p := ⟨g, o + 7, none⟩) hb v7).other (p := ⟨g, o + 8, none⟩) hb v8
theorem below_nodeO {B : Nat} {w0 : World} (h : Below B w0 w) (hb : B ≤ g) : Below B w0 (nodeO w g o v0 v1 v2 v3 v4 v5 v6 v7 v8) :=
  ((((((((h.setCell (p := ⟨g, o, none⟩) hb v0).setCell (p := ⟨g, o + 1, none⟩) hb v1).setCell (p := ⟨g, o + 2, none⟩) hb v2).setCell (p := ⟨g, o + 3, none⟩) hb v3).setCell (p := ⟨g, o + 4, none⟩) hb v4).setCell (p := ⟨g, o + 5, none⟩) hb v5).setCell (p := ⟨g, o + 6, none⟩) hb v6).setCell (p := ⟨g, o + 7, none⟩) hb v7).setCell (p := ⟨g, o + 8, none⟩) hb v8
theorem gb_nodeO : w.grownBy (nodeO w g o v0 v1 v2 v3 v4 v5 v6 v7 v8) (some g) :=
  gb_set (gb_set (gb_set (gb_set (gb_set (gb_set (gb_set (gb_set (gb_set (gb_refl w (some g)) o v0) (o + 1) v1) (o + 2) v2) (o + 3) v3) (o + 4) v4) (o + 5) v5) (o + 6) v6) (o + 7) v7) (o + 8) v8
theorem own_nodeO {lo : Nat} {e : TypeId} {size n cap : Nat} {xs : List Value} (h : w.ownsRow lo e size (.slice (some ⟨g, 0, none⟩) n cap) n xs) : (nodeO w g o v0 v1 v2 v3 v4 v5 v6 v7 v8).ownsRow lo e size (.slice (some ⟨g, 0, none⟩) n cap) n (set9L xs o v0 v1 v2 v3 v4 v5 v6 v7 v8) :=
  (((((((((h.stored o v0).1.stored (o + 1) v1).1.stored (o + 2) v2).1.stored (o + 3) v3).1.stored (o + 4) v4).1.stored (o + 5) v5).1.stored (o + 6) v6).1.stored (o + 7) v7).1.stored (o + 8) v8).1
end

theorem set9_zero (x : Nd × Value) (h : Hd) (kv : Value) (r : List Value) : set9L ((nodeC x.1.hd x.2).toList ++ r) 0 (.int .u8 h.kind) (.int .u64 (word (setN h.set) 0 : Nat)) (.int .u64 (word (setN h.set) 1 : Nat)) (.int .u64 (word (setN h.set) 2 : Nat)) (.int .u64 (word (setN h.set) 3 : Nat)) (.string h.text) (.int .i64 h.lo) (.int .i64 h.hi) kv = (nodeC h kv).toList ++ r := rfl
theorem set9_succ (a r : List Value) (o : Nat) (ha : a.length = 9) (v0 v1 v2 v3 v4 v5 v6 v7 v8 : Value) : set9L (a ++ r) (o + 9) v0 v1 v2 v3 v4 v5 v6 v7 v8 = a ++ set9L r o v0 v1 v2 v3 v4 v5 v6 v7 v8 := by
  have e : ∀ (l : List Value) (i : Nat) (v : Value), (a ++ l).set (i + 9) v = a ++ l.set i v := fun l i v => by
    rw [List.set_append_right _ _ (by omega), ha]
    simp
  unfold set9L
  rw [e r o]
  rw [show o + 9 + 1 = o + 1 + 9 by omega, e _ (o + 1)]
  rw [show o + 9 + 2 = o + 2 + 9 by omega, e _ (o + 2)]
  rw [show o + 9 + 3 = o + 3 + 9 by omega, e _ (o + 3)]
  rw [show o + 9 + 4 = o + 4 + 9 by omega, e _ (o + 4)]
  rw [show o + 9 + 5 = o + 5 + 9 by omega, e _ (o + 5)]
  rw [show o + 9 + 6 = o + 6 + 9 by omega, e _ (o + 6)]
  rw [show o + 9 + 7 = o + 7 + 9 by omega, e _ (o + 7)]
  rw [show o + 9 + 8 = o + 8 + 9 by omega, e _ (o + 8)]
theorem cellsN_set : ∀ (L : List (Nd × Value)) (p : Nat) (n : Nd) (kv : Value), p < L.length →
    set9L (cellsN L) (p * 9) (.int .u8 n.hd.kind) (.int .u64 (word (setN n.hd.set) 0 : Nat)) (.int .u64 (word (setN n.hd.set) 1 : Nat)) (.int .u64 (word (setN n.hd.set) 2 : Nat)) (.int .u64 (word (setN n.hd.set) 3 : Nat)) (.string n.hd.text) (.int .i64 n.hd.lo) (.int .i64 n.hd.hi) kv = cellsN (L.set p (n, kv))
  | [], _, _, _, h => by simp at h
  | x :: r, 0, n, kv, _ => by
    rw [Nat.zero_mul, cellsN, set9_zero]
    rfl
  | x :: r, p + 1, n, kv, h => by
    rw [show (p + 1) * 9 = p * 9 + 9 by omega, cellsN, set9_succ _ _ _ rfl, cellsN_set r p n kv (by simpa using h)]
    rfl

/-- A node put into an arena that the call has made. -/
theorem Made.set {lo : Nat} {w : World} {g n cap p : Nat} {L : List (Nd × Value)} (h : Made lo w (.slice (some ⟨g, 0, none⟩) n cap) L) (hn : n = L.length) (hp : p < n) (nd : Nd) (kv : Value) (hk : w.ownsRow lo 3 1 kv nd.kids.length (nd.kids.map (Value.int .i64))) :
    Made lo (nodeO w g (p * 9) (.int .u8 nd.hd.kind) (.int .u64 (word (setN nd.hd.set) 0 : Nat)) (.int .u64 (word (setN nd.hd.set) 1 : Nat)) (.int .u64 (word (setN nd.hd.set) 2 : Nat)) (.int .u64 (word (setN nd.hd.set) 3 : Nat)) (.string nd.hd.text) (.int .i64 nd.hd.lo) (.int .i64 nd.hd.hi) kv) (.slice (some ⟨g, 0, none⟩) n cap) (L.set p (nd, kv)) := by
  subst hn
  refine ⟨?_, fun x hx => ?_⟩
  · rw [List.length_set, ← cellsN_set L p nd kv hp]
    exact own_nodeO _ _ _ _ _ _ _ _ _ h.row
  · rcases List.mem_or_eq_of_mem_set hx with hx | rfl
    · exact own_type (h.kids x hx) h.row (by decide) (gb_nodeO _ _ _ _ _ _ _ _ _)
    · exact own_type hk h.row (by decide) (gb_nodeO _ _ _ _ _ _ _ _ _)

/-- What is at a place of such an arena. -/
theorem Made.at {lo : Nat} {w : World} {g n cap p : Nat} {L : List (Nd × Value)} (h : Made lo w (.slice (some ⟨g, 0, none⟩) n cap) L) (hn : n = L.length) (hp : p < n) : (∃ hd kv, NodeAt w g (p * 9) hd kv) ∧ ∀ i, w.frozen? ⟨g, i, none⟩ = false := by
  subst hn
  have hc : ∀ i, i < 9 → w.cell? ⟨g, p * 9 + i, none⟩ = (nodeC L[p].1.hd L[p].2)[i]? := fun i hi => by
    rw [h.row.cellAt (p * 9 + i) (by omega), cellsN_at L p i hp hi]
  exact ⟨⟨L[p].1.hd, L[p].2, hc 0 (by omega), hc 1 (by omega), hc 2 (by omega), hc 3 (by omega), hc 4 (by omega), hc 5 (by omega), hc 6 (by omega), hc 7 (by omega), hc 8 (by omega)⟩, fun i => h.row.frozenAt i⟩

theorem nodeC_no : nodeC noHd (.slice none 0 0) = nodeZ := by
  have := nodeV_zero 0 ⟨#[]⟩ 0 0 (.slice none 0 0)
  exact Value.agg.inj this
theorem zeroCells (n : Nat) : (madeCells nodeZ (n * 9)).toList = cellsN (List.replicate n (noNd, .slice none 0 0)) := by
  apply List.ext_getElem?
  intro j
  by_cases hj : j < n * 9
  · have h1 : j = (j / 9) * 9 + j % 9 := by omega
    have h2 : j / 9 < n := by omega
    have h3 : j % 9 < 9 := by omega
    have e1 : (cellsN (List.replicate n (noNd, .slice none 0 0)))[j]? = nodeZ[j % 9]? := by
      rw [h1, cellsN_at _ _ _ (by simpa using h2) h3, ← nodeC_no]
      simp only [List.getElem_replicate]
      rw [show ((j / 9) * 9 + j % 9) % 9 = j % 9 by omega]
      rfl
    rw [e1, Array.getElem?_toList]
    unfold madeCells
    rw [Array.getElem?_map, Array.getElem?_range, if_pos hj, Option.map_some, show nodeZ.size = 9 from rfl, getElem!_pos nodeZ (j % 9) (by exact h3)]
    exact (Array.getElem?_eq_getElem (xs := nodeZ) (by exact h3)).symm
  · rw [List.getElem?_eq_none (by rw [Array.length_toList, size_madeCells]; omega), List.getElem?_eq_none (by rw [cellsN_length]; simp; omega)]
theorem make_nodes (n : Nat) (h : n ≤ 4294967296) (w : World) : (Instr.makeSlice 24 (.int .i64 (n : Int)) (.int .i64 (n : Int))).run Tryd.prog w = .ok (.slice (some ⟨w.heap.size, 0, none⟩) n n) (w.alloc (.cells (madeCells nodeZ (n * 9)) 38)) := by
  obtain ⟨i0, hi, hz0, hz1, hz2⟩ := info_parts infoNode
  have hr := run_make (P := Tryd.prog) w 24 38 i0 (.agg nodeZ) Tryd.underlying24 hi hz0 .i64 .i64 n n (by omega) (Int.le_refl _) (by rw [hz2]; omega) (by omega)
  simp only [Int.toNat_natCast, hz1] at hr
  exact hr
theorem made_zero (lo n : Nat) (h : n ≤ 4294967296) (w : World) (hlo : lo ≤ w.heap.size) : Made lo (w.alloc (.cells (madeCells nodeZ (n * 9)) 38)) (.slice (some ⟨w.heap.size, 0, none⟩) n n) (List.replicate n (noNd, .slice none 0 0)) := by
  refine ⟨?_, fun x hx => ?_⟩
  · have := World.ownsRow_lit w (base := lo) (e := 38) (size := 9) (madeCells nodeZ (n * 9)) n hlo (by unfold maxLen; omega) (by rw [size_madeCells])
    rw [zeroCells] at this
    simpa using this
  · have : x = (noNd, .slice none 0 0) := (List.mem_replicate.1 hx).2
    subst this
    exact World.ownsRow_nil _ lo _ _
end Go.Proofs.YtpkjfdgjmcphmaaDoor

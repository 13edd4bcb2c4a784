/- Arenas that a call has made. -/
import Derived.Test.YtpkjfdgjmcphmaaDoorTn
import Derived.Maps.AppendAt
import Derived.Deep.Onto
namespace Go.Proofs.YtpkjfdgjmcphmaaDoor
open Go.RowKit Bset Tm

def cellsN : List (Nd × Value) → List Value
  | [] => []
  | x :: r => (nodeC x.1.hd x.2).toList ++ cellsN r
theorem cellsN_append (a b : List (Nd × Value)) : cellsN (a ++ b) = cellsN a ++ cellsN b := by
  induction a with
  | nil => rfl
  | cons x r ih => rw [List.cons_append, cellsN, cellsN, ih, List.append_assoc]
theorem cellsN_length (a : List (Nd × Value)) : (cellsN a).length = a.length * 9 := by
  induction a with
  | nil => rfl
  | cons x r ih =>
    rw [cellsN, List.length_append, ih]
    show 9 + r.length * 9 = (r.length + 1) * 9
    omega
theorem cellsN_at (a : List (Nd × Value)) (j i : Nat) (hj : j < a.length) (hi : i < 9) : (cellsN a)[j * 9 + i]? = (nodeC a[j].1.hd a[j].2)[i]? := by
  induction a generalizing j with
  | nil => simp at hj
  | cons x r ih =>
    cases j with
    | zero =>
      rw [cellsN, List.getElem?_append_left (by show 0 * 9 + i < 9; omega)]
      simp
    | succ j =>
      rw [cellsN, List.getElem?_append_right (by show 9 ≤ _; omega)]
      have : (j + 1) * 9 + i - (nodeC x.1.hd x.2).toList.length = j * 9 + i := by
        show (j + 1) * 9 + i - 9 = _
        omega
      rw [this, ih j (by simpa using hj)]
      rfl

structure Made (lo : Nat) (w : World) (v : Value) (B : List (Nd × Value)) : Prop where
  row : w.ownsRow lo 38 9 v B.length (cellsN B)
  kids : ∀ x ∈ B, w.ownsRow lo 3 1 x.2 x.1.kids.length (x.1.kids.map (Value.int .i64))

theorem own_slice {w : World} {lo : Nat} {t : TypeId} {size : Nat} {v : Value} {n : Nat} {xs : List Value} (h : w.ownsRow lo t size v n xs) : ∃ p c, v = .slice p n c := by
  rcases h.2 with ⟨rfl, rfl⟩ | ⟨g, cap, cur, rfl, _⟩
  · exact ⟨_, _, rfl⟩
  · exact ⟨_, _, rfl⟩
theorem own_keep {w w' : World} {lo : Nat} {t : TypeId} {size : Nat} {v : Value} {n : Nat} {xs : List Value} (h : w.ownsRow lo t size v n xs) (hk : ∀ b, lo ≤ b → b < w.heap.size → w'.heap[b]? = w.heap[b]?) : w'.ownsRow lo t size v n xs := by
  refine ⟨h.1, ?_⟩
  rcases h.2 with hn | ⟨g, cap, cur, rfl, hb, hgg, rest⟩
  · exact .inl hn
  · exact .inr ⟨g, cap, cur, rfl, hb, (hk g hb (lt_of_block hgg)).trans hgg, rest⟩
theorem own_below {w w' : World} {lo : Nat} {t : TypeId} {size : Nat} {v : Value} {n : Nat} {xs : List Value} (h : w.ownsRow lo t size v n xs) (hb : Below w.heap.size w w') : w'.ownsRow lo t size v n xs := own_keep h fun b _ => hb.block b
/-- A row stays while a row of another type grows. -/
theorem own_type {w w' : World} {lo lo' : Nat} {t t' : TypeId} {size size' : Nat} {v v' : Value} {n n' : Nat} {xs xs' : List Value} (h : w.ownsRow lo t size v n xs) (h' : w.ownsRow lo' t' size' v' n' xs') (ht : t ≠ t') (hg : w.grownBy w' v'.ownBlock) : w'.ownsRow lo t size v n xs := by
  refine h.kept hg ?_
  rcases h.2 with ⟨rfl, _⟩ | ⟨g, cap, cur, rfl, hb, hgg, _⟩
  · exact .inl rfl
  · refine .inr fun e => ?_
    rcases h'.2 with ⟨rfl, _⟩ | ⟨g', cap', cur', rfl, hb', hgg', _⟩
    · simp [Value.ownBlock] at e
    · have : g = g' := by simpa [Value.ownBlock] using e
      subst this
      rw [hgg] at hgg'
      cases hgg'
      exact ht rfl
theorem cl_type {w w' : World} {g lo' : Nat} {t t' : TypeId} {cs : Array Value} {size' : Nat} {v' : Value} {n' : Nat} {xs' : List Value} (h : Cl w g t cs) (h' : w.ownsRow lo' t' size' v' n' xs') (ht : t ≠ t') (hg : w.grownBy w' v'.ownBlock) : Cl w' g t cs := by
  refine (hg.block g h.lt fun e => ?_).trans h
  rcases h'.2 with ⟨rfl, _⟩ | ⟨g', cap', cur', rfl, hb', hgg', _⟩
  · simp [Value.ownBlock] at e
  · have : g = g' := by simpa [Value.ownBlock] using e
    subst this
    have h2 : w.heap[g]? = some (.cells cs t (0, 0)) := h
    rw [h2] at hgg'
    cases hgg'
    exact ht rfl
theorem ints_of_own {w : World} {lo : Nat} {v : Value} {l : List Int} (h : w.ownsRow lo 3 1 v l.length (l.map (Value.int .i64))) : Ints w v l := by
  rcases h.2 with ⟨rfl, h0⟩ | ⟨g, cap, cur, rfl, hb, hgg, _⟩
  · have := List.eq_nil_of_length_eq_zero h0
    subst this
    exact ⟨none, 0, rfl, .inl rfl⟩
  · refine ⟨some ⟨g, 0, none⟩, cap, rfl, .inr ⟨g, 0, rfl, fun j hj => ?_⟩⟩
    rw [Nat.zero_add, h.cellAt j (by omega)]
    simp [hj]

theorem Made.keep {lo : Nat} {w w' : World} {v : Value} {B : List (Nd × Value)} (h : Made lo w v B) (hk : ∀ b, lo ≤ b → b < w.heap.size → w'.heap[b]? = w.heap[b]?) : Made lo w' v B :=
  ⟨own_keep h.row hk, fun x hx => own_keep (h.kids x hx) hk⟩
theorem Made.below {lo : Nat} {w w' : World} {v : Value} {B : List (Nd × Value)} (h : Made lo w v B) (hb : Below w.heap.size w w') : Made lo w' v B := h.keep fun b _ => hb.block b
theorem Made.mono {lo lo' : Nat} {w : World} {v : Value} {B : List (Nd × Value)} (h : Made lo w v B) (hl : lo' ≤ lo) : Made lo' w v B := ⟨h.row.mono hl, fun x hx => (h.kids x hx).mono hl⟩
theorem Made.nil (lo : Nat) (w : World) : Made lo w (.slice none 0 0) [] := ⟨World.ownsRow_nil w lo _ _, fun _ h => by simp at h⟩

theorem Made.nodes {lo : Nat} {w : World} {v : Value} {B : List (Nd × Value)} (h : Made lo w v B) : Nodes w v (B.map Prod.fst) := by
  rcases h.row.2 with ⟨rfl, h0⟩ | ⟨g, cap, cur, rfl, hb, hgg, _⟩
  · have := List.eq_nil_of_length_eq_zero h0
    subst this
    exact ⟨none, 0, rfl, .inl rfl⟩
  · refine ⟨some ⟨g, 0, none⟩, cap, by simp, .inr ⟨g, 0, rfl, fun j hj => ?_⟩⟩
    have hj' : j < B.length := by simpa using hj
    have hc : ∀ i, i < 9 → w.cell? ⟨g, 0 + j * 9 + i, none⟩ = (nodeC B[j].1.hd B[j].2)[i]? := fun i hi => by
      rw [Nat.zero_add, h.row.cellAt (j * 9 + i) (by omega), cellsN_at B j i hj' hi]
    have hh : (B.map Prod.fst)[j] = B[j].1 := by simp
    rw [hh]
    exact ⟨B[j].2, ⟨hc 0 (by omega), hc 1 (by omega), hc 2 (by omega), hc 3 (by omega), hc 4 (by omega), hc 5 (by omega), hc 6 (by omega), hc 7 (by omega), hc 8 (by omega)⟩, ints_of_own (h.kids _ (List.getElem_mem hj'))⟩

theorem infoNode : (Tryd.prog.info? 38).map (fun i => (i.zero, i.size, i.bytes)) = some (some (.agg nodeZ), 9, 96) := by kernel_rfl

theorem gb_trans {w W W' : World} {r r' : Option Nat} (h : w.grownBy W r) (h' : W.grownBy W' r') (hr : ∀ g, r' = some g → r = some g ∨ w.heap.size ≤ g) : w.grownBy W' r :=
  ⟨h'.os.trans h.os, h'.tape.trans h.tape, h'.output.trans h.output, Nat.le_trans h.size h'.size, fun j hj hne => (h'.block j (Nat.lt_of_lt_of_le hj h.size) (fun e => by
    rcases hr j e.symm with h1 | h1
    · exact hne h1.symm
    · omega)).trans (h.block j hj hne)⟩
theorem gb_of_below {w W : World} {r : Option Nat} (h : Below w.heap.size w W) : w.grownBy W r := ⟨h.os, h.tape, h.output, h.size, fun j hj _ => h.block j hj⟩
theorem own_one {w : World} {lo : Nat} {kv : Value} {n : Nat} {xs : List Value} (h : w.ownsRow lo 3 1 kv n xs) : kv.oneCell' = true := by
  obtain ⟨p, c, rfl⟩ := own_slice h
  rfl
end Go.Proofs.YtpkjfdgjmcphmaaDoor

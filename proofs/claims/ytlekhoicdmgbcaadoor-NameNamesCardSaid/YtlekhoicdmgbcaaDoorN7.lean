/- Slices of texts: one that is copied, one more that is put behind. -/
import Derived.OwnWalk
import Derived.Laws.IdiomStrings
import Derived.Test.YtlekhoicdmgbcaaDoorN6
namespace Go.Proofs.YtlekhoicdmgbcaaDoor
open Go.RowKit Nm

theorem infoStr : (Tryd.prog.info? 9).map (fun i => (i.zero, i.size, i.bytes)) = some (some (.string ⟨#[]⟩), 1, 16) := by kernel_rfl

theorem run_append_none (ty : TypeId) (W : World) (g c : Nat) : (Builtin.append_ #[36, 36] ty #[.slice (some ⟨g, 0, none⟩) 0 c, .slice none 0 0]).run Tryd.prog W = .ok (.slice (some ⟨g, 0, none⟩) 0 c) W := by
  simp [Builtin.append_, run_underlying Tryd.underlying36, Result.andThen, go_sem]

abbrev strV (us : List ByteArray) : List Value := us.map .string

theorem strs_of_row {w : World} {base : Nat} {v : Value} {us : List ByteArray} (h : w.ownsRow base 9 1 v us.length (strV us)) : Strs w v us := by
  rcases h.2 with ⟨e, h0⟩ | ⟨g, cap, cur, e, hb, hh, _⟩
  · exact .inl ⟨e, List.eq_nil_of_length_eq_zero h0⟩
  · refine .inr (.inr ⟨g, 0, cap, e, lt_of_block hh, fun j hj => ?_⟩)
    subst e
    have := h.cellAt j (by simpa using hj)
    rw [Nat.zero_add, this]
    simp [strV, hj]

theorem ownsRow_fresh {w : World} {g : Nat} (h : w.heap[g]? = some (.cells #[] 9 (0, 0))) : w.ownsRow g 9 1 (.slice (some ⟨g, 0, none⟩) 0 0) 0 (strV []) :=
  ⟨rfl, .inr ⟨g, 0, #[], rfl, Nat.le_refl _, h, Nat.le_refl _, Nat.zero_le _, rfl, rfl⟩⟩

/-- 'append([]string{}, used...)'. -/
theorem wpList_copy (w : World) {ops : Array Oper} {rest : List Oper} {o : Oper} {a : Act} {Q : Exit → Act → World → Prop} (hgd : o.guard = none) (s x : Operand)
    (ho : o.op = .call { callee := .builtin .append, args := #[s, x], argTypes := #[36, 36] }) (g : Nat) (v : Value) (us : List ByteArray) (hs : a.eval s = .slice (some ⟨g, 0, none⟩) 0 0) (hg : w.heap[g]? = some (.cells #[] 9 (0, 0)))
    (hx : a.eval x = v) (hv : Strs w v us) (hl : us.length ≤ 300)
    (h : ∀ v' w', w'.ownsRow g 9 1 v' us.length (strV us) → w.grownBy w' (some g) → wpList Tryd.prog ops Q rest (a.put o.dst v') w') : wpList Tryd.prog ops Q (o :: rest) a w := by
  rcases hv with ⟨rfl, rfl⟩ | ⟨b, c, rfl, rfl⟩ | ⟨b, off, c, rfl, hb, hc⟩
  · refine wpList_plain hgd fun K' hK' => ?_
    have hrun := run_append_none o.type w g 0
    unfold Oper.wp
    simp [execOp, ho, resolve, invoke, builtin, hs, hx, hrun, Result.andThen]
    exact hK' _ _ (h _ w (ownsRow_fresh hg) ⟨rfl, rfl, rfl, Nat.le_refl _, fun _ _ _ => rfl⟩)
  · obtain ⟨i0, hi, hz0, hz1, hz2⟩ := info_parts infoStr
    refine wpList_append_own w hgd s x 36 ho g 9 i0 (.string ⟨#[]⟩) 1 16 Tryd.underlying36 hi hz0 hz1 hz2 rfl (by decide) _ 0 (strV []) hs (ownsRow_fresh hg) b 0 c [] hx rfl (fun j u hj => by simp at hj) (fun u hu => by simp at hu) (by decide) (by decide) (Nat.le_of_lt (lt_of_block hg)) ?_
    intro v' w' hown hgrow _
    exact h v' w' hown hgrow
  · obtain ⟨i0, hi, hz0, hz1, hz2⟩ := info_parts infoStr
    refine wpList_append_own w hgd s x 36 ho g 9 i0 (.string ⟨#[]⟩) 1 16 Tryd.underlying36 hi hz0 hz1 hz2 rfl (by decide) _ 0 (strV []) hs (ownsRow_fresh hg) ⟨b, off, none⟩ us.length c (strV us) hx (by simp) ?_ ?_ (by unfold maxLen; omega) (by omega) (Nat.le_of_lt (lt_of_block hg)) ?_
    · intro j u hj
      have hjl : j < us.length := by
        have := (List.getElem?_eq_some_iff.1 hj).1
        simpa using this
      have hu : u = .string us[j] := by simpa [strV, hjl] using hj.symm
      subst hu
      rw [show (⟨b, off, none⟩ : Addr).add j = ⟨b, off + j, none⟩ by simp [Addr.add]]
      exact hc j hjl
    · intro u hu
      obtain ⟨y, _, rfl⟩ := List.mem_map.1 hu
      rfl
    · intro v' w' hown hgrow _
      rw [Nat.zero_add] at hown
      exact h v' w' hown hgrow

theorem cell_one_new (w : World) (x : Value) (t : TypeId) : ∀ j u, [x][j]? = some u → (w.alloc (.cells #[x] t)).cell? ((⟨w.heap.size, 0, none⟩ : Addr).add j) = some u := by
  intro j u hj
  match j, hj with
  | 0, hj =>
    simp at hj
    subst hj
    simp [Addr.add]

theorem Lie.grown {w W W' : World} {row : Option Nat} (h : Lie w W) (hg0 : 1 < w.heap.size) (hg : W.grownBy W' row) (hr : ∀ k, row = some k → w.heap.size ≤ k) : Lie w W' := by
  have hB : Below w.heap.size W W' := (Below.refl _ W).grown hg h.low.size hr
  exact ⟨h.tab.below hB hg0, Nat.lt_of_lt_of_le h.pos hB.size, h.low.trans hB⟩
theorem Lie.strs {w W : World} {v : Value} {us : List ByteArray} (h : Lie w W) (hv : Strs w v us) : Strs W v us := hv.below h.low (Nat.le_refl _)
end Go.Proofs.YtlekhoicdmgbcaaDoor

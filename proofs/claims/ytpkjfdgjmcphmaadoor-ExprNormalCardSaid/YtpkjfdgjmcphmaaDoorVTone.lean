/- Small things that the statements' walks share. -/
import Derived.Test.YtpkjfdgjmcphmaaDoorVTrow
import Derived.Test.YtpkjfdgjmcphmaaDoorVTz4
namespace Go.Proofs.YtpkjfdgjmcphmaaDoor
open Go.RowKit Bset Tm

theorem le_sum {l : List Nat} {x : Nat} (h : x ∈ l) : x ≤ l.sum := by
  induction l with
  | nil => cases h
  | cons a l ih =>
    rw [List.sum_cons]
    rcases List.mem_cons.1 h with rfl | h
    · omega
    · have := ih h
      omega
theorem trees_one' {w : World} {nv : Value} {T : Ar} (h : Tree w (treeV nv T.root) T) : Trees (w.alloc (.cells #[nv, .int .i64 T.root] 26)) (.slice (some ⟨w.heap.size, 0, none⟩) 1 1) [T] := by
  have hc := Cl.new w 26 #[nv, .int .i64 T.root]
  obtain ⟨nv', e, hn⟩ := h.below ((Below.refl _ _).alloc (Nat.le_refl _) (.cells #[nv, .int .i64 T.root] 26))
  have e' : nv = nv' := by simpa using e
  subst e'
  refine ⟨_, 1, rfl, .inr ⟨w.heap.size, 0, rfl, fun j hj => ?_⟩⟩
  have : j = 0 := by simp at hj; omega
  subst this
  exact ⟨nv, hc.cell 0, hc.cell 1, hn⟩
theorem small_ok {l : List Ar} (h : small l) (hw : ∀ t ∈ l, ∀ n ∈ t.nodes, okW n) : ∀ t ∈ l, OkA t.nodes := fun t ht => okA_iff.2 ⟨by
  have h1 := h.1
  have h2 : 1 + t.nodes.length ≤ cnt l := le_sum (List.mem_map.2 ⟨t, ht, rfl⟩)
  omega, fun n hn => ⟨(hw t ht n hn).1, (hw t ht n hn).2, by have := h.2 t ht n hn; omega⟩⟩
end Go.Proofs.YtpkjfdgjmcphmaaDoor

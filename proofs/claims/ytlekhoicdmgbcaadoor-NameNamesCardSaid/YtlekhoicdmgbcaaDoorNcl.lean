/- A block that is known whole. -/
import Derived.Test.YtlekhoicdmgbcaaDoorProg
import Derived.WalkKit
import Derived.Laws.Rows
import Derived.OneCell
namespace Go.Proofs.YtlekhoicdmgbcaaDoor
open Go.RowKit

/-- Block g is just these cells, none of them frozen. -/
def Cl (w : World) (g : Nat) (t : TypeId) (cs : Array Value) : Prop := w.heap[g]? = some (.cells cs t (0, 0))

section
variable {w w' : World} {g : Nat} {t : TypeId} {cs : Array Value}
theorem Cl.lt (h : Cl w g t cs) : g < w.heap.size := lt_of_block h
theorem Cl.cell (h : Cl w g t cs) (i : Nat) : w.cell? ⟨g, i, none⟩ = cs[i]? := by
  unfold Cl at h
  simp [World.cell?, h]
theorem Cl.free (h : Cl w g t cs) (i : Nat) : w.frozen? ⟨g, i, none⟩ = false := by
  unfold Cl at h
  simp [World.frozen?, h]
theorem Cl.new (w : World) (t : TypeId) (cs : Array Value) : Cl (w.alloc (.cells cs t)) w.heap.size t cs := heap_alloc_new w _
theorem Cl.new' {w : World} {g : Nat} (h : g = w.heap.size) (t : TypeId) (cs : Array Value) : Cl (w.alloc (.cells cs t)) g t cs := by
  subst h
  exact Cl.new w t cs
theorem Cl.drew (h : Cl w g t cs) : Cl w.drew g t cs := h
theorem Cl.alloc (h : Cl w g t cs) (o : Obj) : Cl (w.alloc o) g t cs := (Below.heap_alloc w o g h.lt).trans h
theorem Cl.put (h : Cl w g t cs) (i : Nat) (u : Value) : Cl (w.setCell ⟨g, i, none⟩ u) g t (cs.setIfInBounds i u) := by
  unfold Cl at h ⊢
  simp [World.setCell, Array.getElem?_modify, h]
theorem Cl.other (h : Cl w g t cs) {p : Addr} (hp : g ≠ p.block) (u : Value) : Cl (w.setCell p u) g t cs := (Below.heap_setCell w p u g hp).trans h
theorem Cl.below {B : Nat} (h : Cl w g t cs) (hb : Below B w w') (hg : g < B) : Cl w' g t cs := (hb.block g hg).trans h
end


theorem grown_of_below {w w' : World} (h : Below w.heap.size w w') : w.grownBy w' none :=
  ⟨h.os, h.tape, h.output, h.size, fun j hj _ => h.block j hj⟩
end Go.Proofs.YtlekhoicdmgbcaaDoor

/- What stands while blocks that are no cells are laid, or turned. -/
import Derived.RangeFuncBox
import Derived.Test.YtkhokhmdiagckaaDoorEach
namespace Go.Proofs.YtkhokhmdiagckaaDoor
open Go.RowKit Go.Shelf Bset

theorem cl_own {β : Type} (g : Nat) (t : TypeId) (cs : Array Value) : Own (fun (_ : β) W => Cl W g t cs) := fun _ A _ row hs hg hr =>
  (hg.block g (Cl.lt hs) (fun e1 => by
    obtain ⟨o, ho, hc⟩ := hr g e1.symm
    rw [show A.heap[g]? = _ from hs] at ho
    cases ho
    cases hc)).trans hs

theorem keepsO_below {W W' : World} (hb : Below W.heap.size W W') : KeepsOthers W W' :=
  ⟨hb.size, fun k _ hk _ => (hb.block k (Array.getElem?_eq_some_iff.1 hk).1).trans hk⟩

theorem cl_putObj {W : World} {g D : Nat} {t : TypeId} {cs : Array Value} (h : Cl W g t cs) (hD : g ≠ D) (o : Obj) : Cl (W.putObj D o) g t cs :=
  (World.putObj_heap_other hD).trans h

end Go.Proofs.YtkhokhmdiagckaaDoor

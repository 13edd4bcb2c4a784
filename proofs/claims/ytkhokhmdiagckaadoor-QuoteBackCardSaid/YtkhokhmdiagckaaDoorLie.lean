/- What a world of a call keeps for package set, and how. -/
import Derived.Test.YtkhokhmdiagckaaDoorRuns
namespace Go.Proofs.YtkhokhmdiagckaaDoor
open Go.RowKit Bset

/-- What a world of a call keeps for package set: the table, and all that lay when the call began. -/
structure Lies (w W : World) : Prop where
  tab : TabIn W
  pos : 0 < W.heap.size
  low : Below w.heap.size w W

theorem Lies.start {w : World} (hT : TabIn w) (hg : 0 < w.heap.size) : Lies w w := ⟨hT, hg, Below.refl _ _⟩
theorem Lies.step {w W W' : World} (h : Lies w W) (hb : Below W.heap.size W W') : Lies w W' := ⟨h.tab.below hb h.pos, Nat.lt_of_lt_of_le h.pos hb.size, h.low.trans (hb.mono h.low.size)⟩
theorem Lies.drew {w W : World} (h : Lies w W) : Lies w W.drew := ⟨h.tab, h.pos, h.low.drew⟩
theorem Lies.alloc {w W : World} (h : Lies w W) (o : Obj) : Lies w (W.alloc o) := h.step ((Below.refl _ W).alloc (Nat.le_refl _) o)
theorem Lies.setCell {w W : World} (h : Lies w W) {p : Addr} (hp : w.heap.size ≤ p.block) (hg : 0 < w.heap.size) (u : Value) : Lies w (W.setCell p u) :=
  ⟨h.tab.below ((Below.refl w.heap.size W).setCell hp u) hg, by rw [World.size_setCell]; exact h.pos, h.low.setCell hp u⟩
end Go.Proofs.YtkhokhmdiagckaaDoor

/- A strings.Builder stays one while other blocks are laid, or turned. -/
import Derived.RangeFuncBox
import Derived.Test.YtkhokhmdiagckaaDoorEach
import Derived.Test.YtkhokhmdiagckaaDoorSb
namespace Go.Proofs.YtkhokhmdiagckaaDoor
open Go.RowKit Go.Shelf Bset

/-- A builder stays one while blocks are laid, or turned, that are no cells. -/
theorem builder_kept {T e : TypeId} {B b : Nat} {bs : List Value} {W W' : World} {row : Option Nat} (h : Lib.IsBuilderF T e B b bs W) (hg : W.grownBy W' row)
    (hr : ∀ r, row = some r → ∃ o : Obj, W.heap[r]? = some o ∧ o.isCells = false) : Lib.IsBuilderF T e B b bs W' := by
  have at_ : ∀ p, Lib.BuilderAtF T e B b p bs W → Lib.BuilderAtF T e B b p bs W' := by
    rintro p ⟨hB, v, hb, hown, hne⟩
    refine ⟨hB, v, (hg.block b (Array.getElem?_eq_some_iff.1 hb).1 (fun e1 => ?_)).trans hb, hown.kept hg ?_, hne⟩
    · obtain ⟨o, ho, hc⟩ := hr b e1.symm
      rw [hb] at ho
      cases ho
      cases hc
    · rcases hown.2 with ⟨rfl, _⟩ | ⟨g, cap, cur, fz, rfl, _, hgg, _⟩
      · exact .inl rfl
      · refine .inr (fun e1 => ?_)
        obtain ⟨o, ho, hc⟩ := hr g (by simpa [Value.ownBlock] using e1.symm)
        rw [hgg] at ho
        cases ho
        cases hc
  exact h.elim (fun x => .inl (at_ _ x)) (fun x => .inr (at_ _ x))

theorem builder_own {β : Type} (T e : TypeId) (B b : Nat) (f : β → List Value) : Own (fun s W => Lib.IsBuilderF T e B b (f s) W) := fun _ _ _ _ hs hg hr => builder_kept hs hg hr

theorem keeps_of_others {e : TypeId} {B b : Nat} {W W' : World} (h : Lib.OthersKept e (some b) W W') (hb : Below B W W') {cs : Array Value} {t : TypeId} {fz : Nat × Nat} (hc : W.heap[b]? = some (.cells cs t fz)) : KeepsOthers W W' :=
  ⟨hb.size, fun k o hk ho => h k o hk (fun e1 => by
      have : k = b := by simpa using e1
      subst this
      rw [hc] at hk
      cases hk
      cases ho) (fun c fz e1 => by subst e1; cases ho)⟩

/-- .. or such as are cells of another type. -/
theorem builder_keptT {T e T' : TypeId} {B b : Nat} {bs : List Value} {W W' : World} {row : Option Nat} (h : Lib.IsBuilderF T e B b bs W) (hT : T ≠ T') (he : e ≠ T') (hg : W.grownBy W' row)
    (hr : ∀ r, row = some r → ∃ o : Obj, W.heap[r]? = some o ∧ (o.isCells = false ∨ ∃ cs fz, o = .cells cs T' fz)) : Lib.IsBuilderF T e B b bs W' := by
  have other : ∀ (k : Nat) cs (t : TypeId) fz, W.heap[k]? = some (.cells cs t fz) → t ≠ T' → some k ≠ row := by
    intro k cs t fz hk ht e1
    obtain ⟨o, ho, hc⟩ := hr k e1.symm
    rw [hk] at ho
    cases ho
    rcases hc with hc | ⟨cs', fz', hc⟩
    · cases hc
    · cases hc
      exact ht rfl
  have at_ : ∀ p, Lib.BuilderAtF T e B b p bs W → Lib.BuilderAtF T e B b p bs W' := by
    rintro p ⟨hB, v, hb, hown, hne⟩
    refine ⟨hB, v, (hg.block b (Array.getElem?_eq_some_iff.1 hb).1 (other b _ _ _ hb hT)).trans hb, hown.kept hg ?_, hne⟩
    rcases hown.2 with ⟨rfl, _⟩ | ⟨g, cap, cur, fz, rfl, _, hgg, _⟩
    · exact .inl rfl
    · exact .inr (fun e1 => other g _ _ _ hgg he (by simpa [Value.ownBlock] using e1))
  exact h.elim (fun x => .inl (at_ _ x)) (fun x => .inr (at_ _ x))

/-- A store into a block of cells of another type. -/
theorem builder_keptB {T e t : TypeId} {B b g : Nat} {bs : List Value} {W W' : World} {cs : Array Value} (h : Lib.IsBuilderF T e B b bs W) (hg : W.grownBy W' (some g)) (hc : Cl W g t cs) (h1 : T ≠ t) (h2 : e ≠ t) : Lib.IsBuilderF T e B b bs W' :=
  builder_keptT h h1 h2 hg (fun r e1 => by cases e1; exact ⟨_, hc, .inr ⟨cs, _, rfl⟩⟩)
theorem builder_below {T e : TypeId} {B b : Nat} {bs : List Value} {W W' : World} (h : Lib.IsBuilderF T e B b bs W) (hb : Below W.heap.size W W') : Lib.IsBuilderF T e B b bs W' :=
  builder_kept h (row := none) ⟨hb.os, hb.tape, hb.output, hb.size, fun j hj _ => hb.block j hj⟩ (fun r e => by cases e)
theorem builder_block {T e : TypeId} {B b : Nat} {bs : List Value} {W : World} (h : Lib.IsBuilderF T e B b bs W) : ∃ cs, W.heap[b]? = some (.cells cs T (0, 0)) := by
  rcases h with ⟨_, v, h, _⟩ | ⟨_, v, h, _⟩ <;> exact ⟨_, h⟩

/-- What a write to a builder leaves: whatever is neither it nor bytes. -/
theorem cl_others {e : TypeId} {b : Nat} {W W' : World} (h : Lib.OthersKept e (some b) W W') {g : Nat} {t : TypeId} {cs : Array Value} (hc : W.heap[g]? = some (.cells cs t (0, 0))) (hg : g ≠ b) (ht : t ≠ e) : W'.heap[g]? = some (.cells cs t (0, 0)) :=
  h g _ hc (fun e1 => hg (Option.some.inj e1)) (fun c fz e1 => by cases e1; exact ht rfl)
theorem obj_others {e : TypeId} {b : Nat} {W W' : World} (h : Lib.OthersKept e (some b) W W') {g : Nat} {o : Obj} (hc : W.heap[g]? = some o) (hg : g ≠ b) (ho : o.isCells = false) : W'.heap[g]? = some o :=
  h g _ hc (fun e1 => hg (Option.some.inj e1)) (fun c fz e1 => by subst e1; cases ho)

theorem byteCells_append (a b : List UInt8) : Lib.byteCells a ++ Lib.byteCells b = Lib.byteCells (a ++ b) := by simp [Lib.byteCells]
theorem strCells_of (l : List UInt8) : Lib.strCells ⟨l.toArray⟩ = Lib.byteCells l := by simp [Lib.strCells, Lib.byteCells]
theorem byteCells_length (l : List UInt8) : (Lib.byteCells l).length = l.length := by simp [Lib.byteCells]
end Go.Proofs.YtkhokhmdiagckaaDoor

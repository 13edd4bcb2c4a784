/- A loop over an iterator that writes a variable of its own between two rounds: the blocks of that variable's type are the iterator's. Of no program. -/
import Derived.RangeFuncNested
import Derived.RangeFuncRecord
namespace Go.Proofs.YtkhokhmdiagckaaDoor
open Go Go.RowKit

/-- Cells of type T, and the blocks that are named, stand as they stood. -/
structure Stands (T : TypeId) (K : Nat → Prop) (W W' : World) : Prop where
  size : W.heap.size ≤ W'.heap.size
  typed : ∀ (k : Nat) (cs : Array Value) (fz : Nat × Nat), W.heap[k]? = some (.cells cs T fz) → W'.heap[k]? = some (.cells cs T fz)
  named : ∀ k, K k → W'.heap[k]? = W.heap[k]?

section
variable {T : TypeId} {K : Nat → Prop} {A B C : World}
theorem Stands.refl (W : World) : Stands T K W W := ⟨Nat.le_refl _, fun _ _ _ h => h, fun _ _ => rfl⟩
theorem Stands.trans (h : Stands T K A B) (k : Stands T K B C) : Stands T K A C :=
  ⟨Nat.le_trans h.size k.size, fun i cs fz e => k.typed i cs fz (h.typed i cs fz e), fun i hi => (k.named i hi).trans (h.named i hi)⟩
/-- One block turns that is neither. -/
theorem Stands.of_grown {row : Option Nat} (hg : A.grownBy B row) (h1 : ∀ r, row = some r → ¬ K r ∧ ∀ cs fz, A.heap[r]? ≠ some (.cells cs T fz)) (hK : ∀ k, K k → k < A.heap.size) : Stands T K A B :=
  ⟨hg.size, fun k cs fz e => (hg.block k (Array.getElem?_eq_some_iff.1 e).1 (fun e1 => (h1 k e1.symm).2 cs fz e)).trans e,
    fun k hk => hg.block k (hK k hk) (fun e1 => (h1 k e1.symm).1 hk)⟩
theorem Stands.put {l : Nat} {o : Obj} (o' : Obj) (hl : A.heap[l]? = some o) (ho : o.isCells = false) (hK : ∀ k, K k → k < l) : Stands T K A (A.putObj l o') :=
  Stands.of_grown (grownBy_putObj' A l o') (fun r e => by
    cases e
    exact ⟨fun h => Nat.lt_irrefl _ (hK _ h), fun cs fz e => by rw [hl] at e; cases e; cases ho⟩) (fun k hk => Nat.lt_trans (hK k hk) (Array.getElem?_eq_some_iff.1 hl).1)
end

/-- What new blocks, and blocks of cells of type T from B on, leave as it is. -/
def Abide {β : Type} (T : TypeId) (B : Nat) (J : β → World → Prop) : Prop :=
  ∀ s W W' row, J s W → W.grownBy W' row → (∀ r, row = some r → B ≤ r ∧ ∃ cs fz, W.heap[r]? = some (.cells cs T fz)) → J s W'
/-- The same, and blocks that are no cells. -/
def AbideO {β : Type} (T : TypeId) (B : Nat) (J : β → World → Prop) : Prop :=
  ∀ s W W' row, J s W → W.grownBy W' row → (∀ r, row = some r → B ≤ r ∧ ∃ o : Obj, W.heap[r]? = some o ∧ (o.isCells = false ∨ ∃ cs fz, o = .cells cs T fz)) → J s W'

theorem AbideO.put {β : Type} {T : TypeId} {B : Nat} {J : β → World → Prop} (h : AbideO T B J) {s : β} {W : World} {l : Nat} {o : Obj} (o' : Obj) (hs : J s W) (hB : B ≤ l) (hl : W.heap[l]? = some o) (ho : o.isCells = false) : J s (W.putObj l o') :=
  h s W _ (some l) hs (grownBy_putObj' W l o') (fun r e => by cases e; exact ⟨hB, o, hl, .inl ho⟩)
theorem AbideO.alloc {β : Type} {T : TypeId} {B : Nat} {J : β → World → Prop} (h : AbideO T B J) {s : β} {W : World} (o : Obj) (hs : J s W) : J s (W.alloc o) :=
  h s W _ none hs (World.grownBy_alloc W o none) (fun r e => by cases e)

/-- Such an iterator's word: S of all that it told, Sp of each beginning. -/
def Told {α : Type} (F : Fence) (n : Nat) (P : Program) (g : Nat) (lb : Array Value) (encs : α → Array Value) (T : TypeId) (K : Nat → Prop) (S Sp : List α → Prop) (w : World) : Prop :=
  ∀ (l : Nat) (J : List α → World → Prop) (W : World), Below w.heap.size w W → Abide T W.heap.size J →
    (∀ pre x W1, J pre W1 → Sp (pre ++ [x]) → YieldAt F (n - 1) P l (encs x) W1 fun e W' => e = .returned (.bool true) ∧ J (pre ++ [x]) W' ∧ Stands T K W1 W') →
    J [] W → CallsIn F n P g (#[.func (.yield l) #[] #[]] ++ lb) W fun e W' => (∃ v, e = .returned v) ∧ ∃ xs, S xs ∧ J xs W'

/-- How a round is left. -/
def toldPost {α : Type} (T : TypeId) (K : Nat → Prop) (B : Nat) (I : List α → World → Prop) (xs : List α) (W : World) : Exit → Act → World → Prop
  | .normal, _, W' => KeepsFrom B W W' ∧ Stands T K W W' ∧ I xs W'
  | _, _, _ => False

variable {F : Fence} {n : Nat} {P : Program}

theorem wpIn_told {α : Type} {g : Operand} {ps : Array Tmp} {assign body : Code} {Q : Exit → Act → World → Prop} {a : Act} {w : World}
    (hro : F.round = none) (h1 : 1 ≤ n) {gf : Nat} {lb : Array Value} (hg : a.eval g = .func (.func gf) #[] lb) (hFg : F.fn gf) (eg : ∀ args w, (callFunc gf args).run P w = .ok (.enter gf args) w)
    {encs : α → Array Value} {T : TypeId} {K : Nat → Prop} {S Sp : List α → Prop} (hseq : Told F (n - 1) P gf lb encs T K S Sp w) (hps : ∀ x, (encs x).size = ps.size) (hK : ∀ k, K k → k < w.heap.size)
    (I : List α → World → Prop) (hI : AbideO T w.heap.size I) (h0 : I [] w) (Ax : α → Act → World → Prop) (hAx : ∀ (x : α) (a' : Act) (W : World) (l : Nat) (o o' : Obj), Ax x a' W → w.heap.size ≤ l → W.heap[l]? = some o → o.isCells = false → Ax x a' (W.putObj l o'))
    (hassign : ∀ (l : Nat) (pre : List α) (x : α) (W : World) (Kc : Act → World → Prop), I pre W → Sp (pre ++ [x]) → (∀ a' W', KeepsFrom w.heap.size W W' → Stands T K W W' → I pre W' → Ax x a' W' → Kc a' W') →
      assign.wpIn (F.inRound l) (n - 1 - 1) P (Exit.then Kc (fun _ _ _ => False)) { tmps := (ps.zip (encs x)).foldl (fun t (p, v) => t.setIfInBounds p v) a.tmps, defers := [] } W)
    (hbody : ∀ (l : Nat) (pre : List α) (x : α) (a' : Act) (W : World), I pre W → Ax x a' W → Sp (pre ++ [x]) → body.wpIn (F.inRound l) (n - 1 - 1) P (toldPost T K w.heap.size I (pre ++ [x]) W) a' W)
    (hdone : ∀ (D : Nat) (xs : List α) (W : World), w.heap.size ≤ D → S xs → I xs W → W.heap[D]? = some (.deferred (some [])) → Q .normal { a with defers := { target := .collected D, args := #[] } :: a.defers } W) :
    (Code.rangeFunc g ps assign body).wpIn F n P Q a w := by
  refine wpIn_rangeFunc fun fn hfn => ?_
  -- the loop's record, in its two states
  obtain ⟨R, hR⟩ : ∃ R : LoopState → Loop, R = fun st => { state := st, pending := none, fn, tmps := a.tmps, params := ps, assign, body, defers := w.heap.size } := ⟨_, rfl⟩
  obtain ⟨d, hd⟩ : ∃ d, d = w.heap.size := ⟨_, rfl⟩
  have hKd : ∀ k, K k → k < d := fun k hk => by rw [hd]; exact hK k hk
  rw [← hd] at hI hAx hassign hbody hdone
  obtain ⟨V, hV⟩ : ∃ V, (w.alloc (.deferred (some []))).alloc (.loop (R .ready)) = V := ⟨_, rfl⟩
  have vs : V.heap.size = d + 2 := by rw [← hV, hd]; simp
  have vl : V.heap[d + 1]? = some (.loop (R .ready)) := by
    have := World.alloc_heap_new (w.alloc (.deferred (some []))) (.loop (R .ready))
    rw [World.size_alloc, hV, ← hd] at this
    exact this
  have vd : V.heap[d]? = some (.deferred (some [])) := by
    rw [← hV, hd]
    exact (Below.heap_alloc _ _ _ (by simp)).trans (World.alloc_heap_new w _)
  have vI : I [] V := by rw [← hV]; exact hI.alloc _ (hI.alloc _ h0)
  have vB : Below w.heap.size w V := by rw [← hV]; exact ((Below.refl _ w).alloc (Nat.le_refl _) _).alloc (by simp) _
  refine ⟨d + 1, [{ target := .collected d, args := #[] }], V, { target := .fn (.func gf) lb, args := #[.func (.yield (d + 1)) #[] #[]] }, V, gf, #[.func (.yield (d + 1)) #[] #[]] ++ lb, V, ?_, ?_, ?_, ?_, fun _ => h1, ?_⟩
  · rw [hro, ← hV, hR, hd]
    exact run_enterLoop_outer _ _ _ _ _
  · simp only [resolve, hg]
    simp [go_sem]
  · intro f' hf'
    simp [Target.leads] at hf'
    subst hf'
    exact hFg
  · simp [invoke, go_sem, eg]
  · -- the iterator is called: what it keeps is I, the record ready, the deferred calls none
    refine (hseq (d + 1) (fun pre W => I pre W ∧ W.heap[d + 1]? = some (.loop (R .ready)) ∧ W.heap[d]? = some (.deferred (some []))) V vB ?abide ?round ⟨vI, vl, vd⟩).mono ?behind
    case abide =>
      rintro s A B row ⟨i, l, k⟩ hg' hr
      have other : ∀ (j : Nat) (o : Obj), A.heap[j]? = some o → o.isCells = false → B.heap[j]? = some o := fun j o hj ho =>
        (hg'.block j (Array.getElem?_eq_some_iff.1 hj).1 (fun e => by
          obtain ⟨_, cs, fz, hc⟩ := hr j e.symm
          rw [hj] at hc
          cases hc
          cases ho)).trans hj
      exact ⟨hI s A B row i hg' (fun r e => by
        obtain ⟨hb, cs, fz, hc⟩ := hr r e
        exact ⟨by omega, _, hc, .inr ⟨cs, fz, rfl⟩⟩), other _ _ l rfl, other _ _ k rfl⟩
    case round =>
      rintro pre x W ⟨i, l, k⟩ hsp
      have hy := run_yield (P := P) (args := encs x) l (by rw [hR]; exact hps x)
      rw [hR] at hy
      refine ⟨fn, _, assign, body, hy, roundIn_of_wpIn hfn (hassign _ pre x W _ i hsp ?_)⟩
      intro a' Wa ka sa ia ax
      have la := ka.same _ _ (by omega) l rfl
      have kd := ka.same _ _ (Nat.le_refl _) k rfl
      have lt := (Array.getElem?_eq_some_iff.1 la).1
      refine ⟨_, run_beginRound la (by rw [hR]), ?_⟩
      obtain ⟨Wb, hWb⟩ : ∃ Wb, Wa.putObj (d + 1) (.loop { R .ready with state := .busy }) = Wb := ⟨_, rfl⟩
      have lb' : Wb.heap[d + 1]? = some (.loop { R .ready with state := .busy }) := by rw [← hWb]; exact World.putObj_heap_same lt
      have kb : Wb.heap[d]? = some (.deferred (some [])) := by rw [← hWb]; exact (World.putObj_heap_other (by omega)).trans kd
      have sb : Stands T K Wa Wb := by rw [← hWb]; exact Stands.put _ la rfl (fun j hj => by have := hKd j hj; omega)
      have ib : I pre Wb := by rw [← hWb]; exact hI.put _ ia (by omega) la rfl
      have axb : Ax x a' Wb := by rw [← hWb]; exact hAx x a' _ _ _ _ ax (by omega) la rfl
      rw [hWb]
      refine wpIn_mono (hbody _ pre x a' Wb ib axb hsp) ?_
      rintro e a3 W3 hp
      cases e with
      | normal =>
        obtain ⟨k3, s3, i3⟩ := hp
        have l3 := k3.same _ _ (by omega) lb' rfl
        have d3 := k3.same _ _ (Nat.le_refl _) kb rfl
        have he := run_endRound (P := P) none l3
        refine ⟨_, _, he, rfl, ⟨hI.put _ i3 (by omega) l3 rfl, ?_, (World.putObj_heap_other (by omega)).trans d3⟩, sa.trans (sb.trans (s3.trans (Stands.put _ l3 rfl (fun j hj => by have := hKd j hj; omega))))⟩
        rw [World.putObj_heap_same (Array.getElem?_eq_some_iff.1 l3).1, hR]
        rfl
      | ret => exact hp.elim
      | exit id => exact hp.elim
      | goto t => exact hp.elim
      | panic ch => exact hp.elim
      | outgrown => exact hp.elim
    case behind =>
      rintro e W2 ⟨⟨v, rfl⟩, xs, hS, i, l, k⟩
      have he := run_endLoop (P := P) l (by rw [hR]; simp)
      rw [hR] at he
      exact ⟨none, _, he, hdone d xs _ (Nat.le_refl _) hS (hI.put _ i (by omega) l rfl) ((World.putObj_heap_other (by omega)).trans k)⟩
end Go.Proofs.YtkhokhmdiagckaaDoor

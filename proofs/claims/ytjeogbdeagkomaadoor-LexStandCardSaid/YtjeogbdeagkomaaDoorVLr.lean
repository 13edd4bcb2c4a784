/- A loop over an iterator that keeps memory of its own, made between the rounds, while the rounds write memory of theirs: what the iterator has made is guarded. Of no program. -/
import Derived.Test.YtjeogbdeagkomaaDoorVQr
namespace Go.Proofs.YtjeogbdeagkomaaDoor
open Go Go.RowKit

/-- What is guarded may be less, and grows by what is made. -/
structure Guards {β : Type} (I : (Nat → Prop) → β → World → Prop) : Prop where
  anti : ∀ (R R' : Nat → Prop) s W, (∀ k, R' k → R k) → I R s W → I R' s W
  grow : ∀ (R : Nat → Prop) s W W', I R s W → Below W.heap.size W W' → I (fun k => R k ∨ (W.heap.size ≤ k ∧ k < W'.heap.size)) s W'

/-- Such an iterator's word: S of all that it told, Sp of each beginning. -/
def Tells {α : Type} (F : Fence) (n : Nat) (P : Program) (g : Nat) (lb : Array Value) (encs : α → Array Value) (K : Nat → Prop) (S Sp : List α → Prop) (w : World) : Prop :=
  ∀ (l : Nat) (J : (Nat → Prop) → List α → World → Prop) (Jx : List α → World → Prop) (W : World), Below w.heap.size w W → Guards J → (∀ s W W', Jx s W → Below W.heap.size W W' → Jx s W') →
    (∀ R pre x W1, J R pre W1 → Sp (pre ++ [x]) → YieldAt F (n - 1) P l (encs x) W1 fun e W' =>
      (e = .returned (.bool true) ∧ J R (pre ++ [x]) W' ∧ W1.heap.size ≤ W'.heap.size ∧ ∀ k, R k → W'.heap[k]? = W1.heap[k]?) ∨ (e = .returned (.bool false) ∧ Jx (pre ++ [x]) W')) →
    J K [] W → CallsIn F n P g (#[.func (.yield l) #[] #[]] ++ lb) W fun e W' => (∃ v, e = .returned v) ∧ ((∃ R xs, S xs ∧ J R xs W') ∨ (∃ pre, Sp pre ∧ Jx pre W'))

/-- How a round is left. -/
def tellsPost {α : Type} (R : Nat → Prop) (B : Nat) (I : (Nat → Prop) → List α → World → Prop) (Ix : List α → World → Prop) (xs : List α) (W : World) : Exit → Act → World → Prop
  | .normal, _, W' => KeepsFrom B W W' ∧ (∀ k, R k → W'.heap[k]? = W.heap[k]?) ∧ I R xs W'
  | .ret, _, W' => KeepsFrom B W W' ∧ Ix xs W'
  | _, _, _ => False

variable {F : Fence} {n : Nat} {P : Program}

theorem wpIn_tells {α : Type} {g : Operand} {ps : Array Tmp} {assign body : Code} {Q : Exit → Act → World → Prop} {a : Act} {w : World}
    (hro : F.round = none) (h1 : 1 ≤ n) {gf : Nat} {lb : Array Value} (hg : a.eval g = .func (.func gf) #[] lb) (hFg : F.fn gf) (eg : ∀ args w, (callFunc gf args).run P w = .ok (.enter gf args) w)
    {encs : α → Array Value} {K : Nat → Prop} {S Sp : List α → Prop} (hseq : Tells F (n - 1) P gf lb encs K S Sp w) (hK : ∀ k, K k → k < w.heap.size) (hps : ∀ x, (encs x).size = ps.size)
    (I : (Nat → Prop) → List α → World → Prop) (Ix : List α → World → Prop) (hI : Guards I) (hIp : ∀ R s W l (o o' : Obj), I R s W → w.heap.size ≤ l → W.heap[l]? = some o → o.isCells = false → I R s (W.putObj l o'))
    (hIxp : ∀ s W l (o o' : Obj), Ix s W → w.heap.size ≤ l → W.heap[l]? = some o → o.isCells = false → Ix s (W.putObj l o')) (hIxb : ∀ s W W', Ix s W → Below W.heap.size W W' → Ix s W')
    (h0 : I K [] w) (Ax : α → Act → World → Prop) (hAx : ∀ (x : α) (a' : Act) (W : World) (l : Nat) (o o' : Obj), Ax x a' W → w.heap.size ≤ l → W.heap[l]? = some o → o.isCells = false → Ax x a' (W.putObj l o'))
    (hassign : ∀ (l : Nat) (R : Nat → Prop) (pre : List α) (x : α) (W : World) (Kc : Act → World → Prop), I R pre W → Sp (pre ++ [x]) → (∀ a' W', KeepsFrom w.heap.size W W' → (∀ k, R k → W'.heap[k]? = W.heap[k]?) → I R pre W' → Ax x a' W' → Kc a' W') →
      assign.wpIn (F.inRound l) (n - 1 - 1) P (Exit.then Kc (fun _ _ _ => False)) { tmps := (ps.zip (encs x)).foldl (fun t (p, v) => t.setIfInBounds p v) a.tmps, defers := [] } W)
    (hbody : ∀ (l : Nat) (R : Nat → Prop) (pre : List α) (x : α) (a' : Act) (W : World), I R pre W → Ax x a' W → Sp (pre ++ [x]) → body.wpIn (F.inRound l) (n - 1 - 1) P (tellsPost R w.heap.size I Ix (pre ++ [x]) W) a' W)
    (hdone : ∀ (D : Nat) (R : Nat → Prop) (xs : List α) (W : World), w.heap.size ≤ D → S xs → I R xs W → W.heap[D]? = some (.deferred (some [])) → Q .normal { a with defers := { target := .collected D, args := #[] } :: a.defers } W)
    (hstop : ∀ (D : Nat) (pre : List α) (W : World), w.heap.size ≤ D → Sp pre → Ix pre W → W.heap[D]? = some (.deferred (some [])) → Code.ret.wpIn F n P Q { a with defers := { target := .collected D, args := #[] } :: a.defers } W) :
    (Code.rangeFunc g ps assign body).wpIn F n P Q a w := by
  refine wpIn_rangeFunc fun fn hfn => ?_
  -- the loop's record, as it stands between two rounds, within one, and when it is left
  obtain ⟨Rc, hR⟩ : ∃ Rc : LoopState → Option Code → Loop, Rc = fun st pe => { state := st, pending := pe, fn, tmps := a.tmps, params := ps, assign, body, defers := w.heap.size } := ⟨_, rfl⟩
  obtain ⟨d, hd⟩ : ∃ d, d = w.heap.size := ⟨_, rfl⟩
  rw [← hd] at hIp hIxp hAx hassign hbody hdone hstop hK
  obtain ⟨V, hV⟩ : ∃ V, (w.alloc (.deferred (some []))).alloc (.loop (Rc .ready none)) = V := ⟨_, rfl⟩
  have vs : V.heap.size = d + 2 := by rw [← hV, hd]; simp
  have vl : V.heap[d + 1]? = some (.loop (Rc .ready none)) := by
    have := World.alloc_heap_new (w.alloc (.deferred (some []))) (.loop (Rc .ready none))
    rw [World.size_alloc, hV, ← hd] at this
    exact this
  have vd : V.heap[d]? = some (.deferred (some [])) := by
    rw [← hV, hd]
    exact (Below.heap_alloc _ _ _ (by simp)).trans (World.alloc_heap_new w _)
  have vB : Below w.heap.size w V := by rw [← hV]; exact ((Below.refl _ w).alloc (Nat.le_refl _) _).alloc (by simp) _
  have vI : I K [] V := hI.anti _ _ _ _ (fun _ h => .inl h) (hI.grow _ _ _ _ h0 vB)
  refine ⟨d + 1, [{ target := .collected d, args := #[] }], V, { target := .fn (.func gf) lb, args := #[.func (.yield (d + 1)) #[] #[]] }, V, gf, #[.func (.yield (d + 1)) #[] #[]] ++ lb, V, ?_, ?_, ?_, ?_, fun _ => h1, ?_⟩
  · rw [hro, ← hV, hR, hd]
    exact run_enterLoop_outer _ _ _ _ _
  · simp only [resolve, hg]
    simp [go_sem]
  · intro f' hf'
    simp [Target.leads] at hf'
    subst hf'
    exact hFg
  · simp [invoke, go_sem, eg]
  · refine (hseq (d + 1) (fun R pre W => I R pre W ∧ (∀ k, R k → k ≠ d ∧ k ≠ d + 1) ∧ d + 2 ≤ W.heap.size ∧ W.heap[d + 1]? = some (.loop (Rc .ready none)) ∧ W.heap[d]? = some (.deferred (some [])))
      (fun pre W => Ix pre W ∧ d + 2 ≤ W.heap.size ∧ W.heap[d + 1]? = some (.loop (Rc .done (some .ret))) ∧ W.heap[d]? = some (.deferred (some [])))
      V vB ?guards ?abide ?round ⟨vI, fun k h => (by have := hK k h; omega), by omega, vl, vd⟩).mono ?behind
    case guards =>
      refine ⟨fun R R' s W hq ⟨i, r, z, l, k⟩ => ⟨hI.anti R R' s W hq i, fun j hj => r j (hq j hj), z, l, k⟩, fun R s W W' ⟨i, r, z, l, k⟩ hb => ⟨hI.grow R s W W' i hb, ?_, Nat.le_trans z hb.size, (hb.block _ (by omega)).trans l, (hb.block _ (by omega)).trans k⟩⟩
      rintro j (hj | ⟨hj, _⟩)
      · exact r j hj
      · omega
    case abide =>
      rintro s W W' ⟨i, z, l, k⟩ hb
      exact ⟨hIxb s W W' i hb, Nat.le_trans z hb.size, (hb.block _ (by omega)).trans l, (hb.block _ (by omega)).trans k⟩
    case round =>
      rintro R pre x W ⟨i, r, z, l, k⟩ hsp
      have hy := run_yield (P := P) (args := encs x) l (by rw [hR]; exact hps x)
      rw [hR] at hy
      refine ⟨fn, _, assign, body, hy, roundIn_of_wpIn hfn (hassign _ R pre x W _ i hsp ?_)⟩
      intro a' Wa ka sa ia ax
      have la := ka.same _ _ (by omega) l rfl
      have kd := ka.same _ _ (Nat.le_refl _) k rfl
      have lt := (Array.getElem?_eq_some_iff.1 la).1
      refine ⟨_, run_beginRound la (by rw [hR]), ?_⟩
      obtain ⟨Wb, hWb⟩ : ∃ Wb, Wa.putObj (d + 1) (.loop { Rc .ready none with state := .busy }) = Wb := ⟨_, rfl⟩
      have lb' : Wb.heap[d + 1]? = some (.loop { Rc .ready none with state := .busy }) := by rw [← hWb]; exact World.putObj_heap_same lt
      have kb : Wb.heap[d]? = some (.deferred (some [])) := by rw [← hWb]; exact (World.putObj_heap_other (by omega)).trans kd
      have zb : Wb.heap.size = Wa.heap.size := by rw [← hWb]; simp [World.putObj]
      have sb : ∀ j, R j → Wb.heap[j]? = Wa.heap[j]? := fun j hj => by
        have := r j hj
        rw [← hWb]
        exact World.putObj_heap_other (by omega)
      have ib : I R pre Wb := by rw [← hWb]; exact hIp _ _ _ _ _ _ ia (by omega) la rfl
      have axb : Ax x a' Wb := by rw [← hWb]; exact hAx x a' _ _ _ _ ax (by omega) la rfl
      rw [hWb]
      refine wpIn_mono (hbody _ R pre x a' Wb ib axb hsp) ?_
      rintro e a3 W3 hp
      cases e with
      | normal =>
        obtain ⟨k3, s3, i3⟩ := hp
        have l3 := k3.same _ _ (by omega) lb' rfl
        have d3 := k3.same _ _ (Nat.le_refl _) kb rfl
        have he := run_endRound (P := P) none l3
        have z3 := k3.size
        have za := ka.size
        have zp : ∀ o : Obj, (W3.putObj (d + 1) o).heap.size = W3.heap.size := fun o => by simp [World.putObj]
        refine ⟨_, _, he, .inl ⟨rfl, ⟨hIp _ _ _ _ _ _ i3 (by omega) l3 rfl, r, by rw [zp]; omega, ?_, (World.putObj_heap_other (by omega)).trans d3⟩, by rw [zp]; omega, fun j hj => ?_⟩⟩
        · rw [World.putObj_heap_same (Array.getElem?_eq_some_iff.1 l3).1, hR]
          rfl
        · have := r j hj
          exact (World.putObj_heap_other (by omega)).trans ((s3 j hj).trans ((sb j hj).trans (sa j hj)))
      | ret =>
        obtain ⟨k3, i3⟩ := hp
        have l3 := k3.same _ _ (by omega) lb' rfl
        have d3 := k3.same _ _ (Nat.le_refl _) kb rfl
        have he := run_endRound (P := P) (some .ret) l3
        have z3 := k3.size
        have za := ka.size
        have zp : ∀ o : Obj, (W3.putObj (d + 1) o).heap.size = W3.heap.size := fun o => by simp [World.putObj]
        refine ⟨_, _, he, .inr ⟨rfl, hIxp _ _ _ _ _ i3 (by omega) l3 rfl, by rw [zp]; omega, ?_, (World.putObj_heap_other (by omega)).trans d3⟩⟩
        rw [World.putObj_heap_same (Array.getElem?_eq_some_iff.1 l3).1, hR]
        rfl
      | exit id => exact hp.elim
      | goto t => exact hp.elim
      | panic ch => exact hp.elim
      | outgrown => exact hp.elim
    case behind =>
      rintro e W2 ⟨⟨v, rfl⟩, (⟨R, xs, hS, i, r, z, l, k⟩ | ⟨pre, hSp, i, z, l, k⟩)⟩
      · have he := run_endLoop (P := P) l (by rw [hR]; simp)
        rw [hR] at he
        exact ⟨none, _, he, hdone d R xs _ (Nat.le_refl _) hS (hIp _ _ _ _ _ _ i (by omega) l rfl) ((World.putObj_heap_other (by omega)).trans k)⟩
      · have he := run_endLoop (P := P) l (by rw [hR]; simp)
        rw [hR] at he
        exact ⟨some .ret, _, he, hstop d pre _ (Nat.le_refl _) hSp (hIxp _ _ _ _ _ i (by omega) l rfl) ((World.putObj_heap_other (by omega)).trans k)⟩
end Go.Proofs.YtjeogbdeagkomaaDoor

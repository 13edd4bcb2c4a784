/- A loop over an iterator that writes a variable of its own between two rounds: the blocks of that variable's type are the iterator's. Of no program. -/
import Derived.RangeFuncNested
import Derived.RangeFuncRecord
import Derived.RangeFuncBound
import Derived.RangeFuncCalls
import Derived.RangeFuncLeaves
import Derived.Shelf.Abstract
import Derived.Shelf.RegionOpen
import Derived.OwnWalkIn
import Derived.TacticsInMore
import Derived.LoopNIn
import Derived.LoopIn
import Derived.BigGuardIn
import Derived.Test.YtjeogbdeagkomaaDoorVQ3
namespace Go.Proofs.YtjeogbdeagkomaaDoor
open Go Go.RowKit

/-- Cells of type T, and the blocks that are named, stand as they stood. -/
structure Stands (T : TypeId) (K : Nat → Prop) (W W' : World) : Prop where
  size : W.heap.size ≤ W'.heap.size
  typed : ∀ (k : Nat) (cs : Array Value) (fz : Nat × Nat), W.heap[k]? = some (.cells cs T fz) → W'.heap[k]? = some (.cells cs T fz)
  named : ∀ k, K k → W'.heap[k]? = W.heap[k]?

section
variable {T : TypeId} {K : Nat → Prop} {A B C : World}
theorem Stands.refl (W : World) : Stands T K W W := ⟨Nat.le_refl _, fun _ _ _ h => h, fun _ _ => rfl⟩
theorem Stands.trans (h : Stands T K A B) (k : Stands T K B C) : Stands T K A C :=
  ⟨Nat.le_trans h.size k.size, fun i cs fz e => k.typed i cs fz (h.typed i cs fz e), fun i hi => (k.named i hi).trans (h.named i hi)⟩
/-- One block turns that is neither. -/
theorem Stands.of_grown {row : Option Nat} (hg : A.grownBy B row) (h1 : ∀ r, row = some r → ¬ K r ∧ ∀ cs fz, A.heap[r]? ≠ some (.cells cs T fz)) (hK : ∀ k, K k → k < A.heap.size) : Stands T K A B :=
  ⟨hg.size, fun k cs fz e => (hg.block k (Array.getElem?_eq_some_iff.1 e).1 (fun e1 => (h1 k e1.symm).2 cs fz e)).trans e,
    fun k hk => hg.block k (hK k hk) (fun e1 => (h1 k e1.symm).1 hk)⟩
theorem Stands.put {l : Nat} {o : Obj} (o' : Obj) (hl : A.heap[l]? = some o) (ho : o.isCells = false) (hK : ∀ k, K k → k < l) : Stands T K A (A.putObj l o') :=
  Stands.of_grown (grownBy_putObj' A l o') (fun r e => by
    cases e
    exact ⟨fun h => Nat.lt_irrefl _ (hK _ h), fun cs fz e => by rw [hl] at e; cases e; cases ho⟩) (fun k hk => Nat.lt_trans (hK k hk) (Array.getElem?_eq_some_iff.1 hl).1)
end

/-- What new blocks, and blocks of cells of type T from B on, leave as it is. -/
def Abide {β : Type} (T : TypeId) (B : Nat) (J : β → World → Prop) : Prop :=
  ∀ s W W' row, J s W → W.grownBy W' row → (∀ r, row = some r → B ≤ r ∧ ∃ cs fz, W.heap[r]? = some (.cells cs T fz)) → J s W'
/-- The same, and blocks that are no cells. -/
def AbideO {β : Type} (T : TypeId) (B : Nat) (J : β → World → Prop) : Prop :=
  ∀ s W W' row, J s W → W.grownBy W' row → (∀ r, row = some r → B ≤ r ∧ ∃ o : Obj, W.heap[r]? = some o ∧ (o.isCells = false ∨ ∃ cs fz, o = .cells cs T fz)) → J s W'

theorem AbideO.put {β : Type} {T : TypeId} {B : Nat} {J : β → World → Prop} (h : AbideO T B J) {s : β} {W : World} {l : Nat} {o : Obj} (o' : Obj) (hs : J s W) (hB : B ≤ l) (hl : W.heap[l]? = some o) (ho : o.isCells = false) : J s (W.putObj l o') :=
  h s W _ (some l) hs (grownBy_putObj' W l o') (fun r e => by cases e; exact ⟨hB, o, hl, .inl ho⟩)
theorem AbideO.alloc {β : Type} {T : TypeId} {B : Nat} {J : β → World → Prop} (h : AbideO T B J) {s : β} {W : World} (o : Obj) (hs : J s W) : J s (W.alloc o) :=
  h s W _ none hs (World.grownBy_alloc W o none) (fun r e => by cases e)

/-- Such an iterator's word: S of all that it told, Sp of each beginning. -/
def Told {α : Type} (F : Fence) (n : Nat) (P : Program) (g : Nat) (lb : Array Value) (encs : α → Array Value) (T : TypeId) (K : Nat → Prop) (S Sp : List α → Prop) (w : World) : Prop :=
  ∀ (l : Nat) (J : List α → World → Prop) (W : World), Below w.heap.size w W → Abide T W.heap.size J →
    (∀ pre x W1, J pre W1 → Sp (pre ++ [x]) → YieldAt F (n - 1) P l (encs x) W1 fun e W' => e = .returned (.bool true) ∧ J (pre ++ [x]) W' ∧ Stands T K W1 W') →
    J [] W → CallsIn F n P g (#[.func (.yield l) #[] #[]] ++ lb) W fun e W' => (∃ v, e = .returned v) ∧ ∃ xs, S xs ∧ J xs W'

/-- How a round is left. -/
def toldPost {α : Type} (T : TypeId) (K : Nat → Prop) (B : Nat) (I : List α → World → Prop) (xs : List α) (W : World) : Exit → Act → World → Prop
  | .normal, _, W' => KeepsFrom B W W' ∧ Stands T K W W' ∧ I xs W'
  | _, _, _ => False

variable {F : Fence} {n : Nat} {P : Program}

theorem wpIn_told {α : Type} {g : Operand} {ps : Array Tmp} {assign body : Code} {Q : Exit → Act → World → Prop} {a : Act} {w : World}
    (hro : F.round = none) (h1 : 1 ≤ n) {gf : Nat} {lb : Array Value} (hg : a.eval g = .func (.func gf) #[] lb) (hFg : F.fn gf) (eg : ∀ args w, (callFunc gf args).run P w = .ok (.enter gf args) w)
    {encs : α → Array Value} {T : TypeId} {K : Nat → Prop} {S Sp : List α → Prop} (hseq : Told F (n - 1) P gf lb encs T K S Sp w) (hps : ∀ x, (encs x).size = ps.size) (hK : ∀ k, K k → k < w.heap.size)
    (I : List α → World → Prop) (hI : AbideO T w.heap.size I) (h0 : I [] w) (Ax : α → Act → World → Prop) (hAx : ∀ (x : α) (a' : Act) (W : World) (l : Nat) (o o' : Obj), Ax x a' W → w.heap.size ≤ l → W.heap[l]? = some o → o.isCells = false → Ax x a' (W.putObj l o'))
    (hassign : ∀ (l : Nat) (pre : List α) (x : α) (W : World) (Kc : Act → World → Prop), I pre W → Sp (pre ++ [x]) → (∀ a' W', KeepsFrom w.heap.size W W' → Stands T K W W' → I pre W' → Ax x a' W' → Kc a' W') →
      assign.wpIn (F.inRound l) (n - 1 - 1) P (Exit.then Kc (fun _ _ _ => False)) { tmps := (ps.zip (encs x)).foldl (fun t (p, v) => t.setIfInBounds p v) a.tmps, defers := [] } W)
    (hbody : ∀ (l : Nat) (pre : List α) (x : α) (a' : Act) (W : World), I pre W → Ax x a' W → Sp (pre ++ [x]) → body.wpIn (F.inRound l) (n - 1 - 1) P (toldPost T K w.heap.size I (pre ++ [x]) W) a' W)
    (hdone : ∀ (D : Nat) (xs : List α) (W : World), w.heap.size ≤ D → S xs → I xs W → W.heap[D]? = some (.deferred (some [])) → Q .normal { a with defers := { target := .collected D, args := #[] } :: a.defers } W) :
    (Code.rangeFunc g ps assign body).wpIn F n P Q a w := by
  refine wpIn_rangeFunc fun fn hfn => ?_
  -- the loop's record, in its two states
  obtain ⟨R, hR⟩ : ∃ R : LoopState → Loop, R = fun st => { state := st, pending := none, fn, tmps := a.tmps, params := ps, assign, body, defers := w.heap.size } := ⟨_, rfl⟩
  obtain ⟨d, hd⟩ : ∃ d, d = w.heap.size := ⟨_, rfl⟩
  have hKd : ∀ k, K k → k < d := fun k hk => by rw [hd]; exact hK k hk
  rw [← hd] at hI hAx hassign hbody hdone
  obtain ⟨V, hV⟩ : ∃ V, (w.alloc (.deferred (some []))).alloc (.loop (R .ready)) = V := ⟨_, rfl⟩
  have vs : V.heap.size = d + 2 := by rw [← hV, hd]; simp
  have vl : V.heap[d + 1]? = some (.loop (R .ready)) := by
    have := World.alloc_heap_new (w.alloc (.deferred (some []))) (.loop (R .ready))
    rw [World.size_alloc, hV, ← hd] at this
    exact this
  have vd : V.heap[d]? = some (.deferred (some [])) := by
    rw [← hV, hd]
    exact (Below.heap_alloc _ _ _ (by simp)).trans (World.alloc_heap_new w _)
  have vI : I [] V := by rw [← hV]; exact hI.alloc _ (hI.alloc _ h0)
  have vB : Below w.heap.size w V := by rw [← hV]; exact ((Below.refl _ w).alloc (Nat.le_refl _) _).alloc (by simp) _
  refine ⟨d + 1, [{ target := .collected d, args := #[] }], V, { target := .fn (.func gf) lb, args := #[.func (.yield (d + 1)) #[] #[]] }, V, gf, #[.func (.yield (d + 1)) #[] #[]] ++ lb, V, ?_, ?_, ?_, ?_, fun _ => h1, ?_⟩
  · rw [hro, ← hV, hR, hd]
    exact run_enterLoop_outer _ _ _ _ _
  · simp only [resolve, hg]
    simp [go_sem]
  · intro f' hf'
    simp [Target.leads] at hf'
    subst hf'
    exact hFg
  · simp [invoke, go_sem, eg]
  · -- the iterator is called: what it keeps is I, the record ready, the deferred calls none
    refine (hseq (d + 1) (fun pre W => I pre W ∧ W.heap[d + 1]? = some (.loop (R .ready)) ∧ W.heap[d]? = some (.deferred (some []))) V vB ?abide ?round ⟨vI, vl, vd⟩).mono ?behind
    case abide =>
      rintro s A B row ⟨i, l, k⟩ hg' hr
      have other : ∀ (j : Nat) (o : Obj), A.heap[j]? = some o → o.isCells = false → B.heap[j]? = some o := fun j o hj ho =>
        (hg'.block j (Array.getElem?_eq_some_iff.1 hj).1 (fun e => by
          obtain ⟨_, cs, fz, hc⟩ := hr j e.symm
          rw [hj] at hc
          cases hc
          cases ho)).trans hj
      exact ⟨hI s A B row i hg' (fun r e => by
        obtain ⟨hb, cs, fz, hc⟩ := hr r e
        exact ⟨by omega, _, hc, .inr ⟨cs, fz, rfl⟩⟩), other _ _ l rfl, other _ _ k rfl⟩
    case round =>
      rintro pre x W ⟨i, l, k⟩ hsp
      have hy := run_yield (P := P) (args := encs x) l (by rw [hR]; exact hps x)
      rw [hR] at hy
      refine ⟨fn, _, assign, body, hy, roundIn_of_wpIn hfn (hassign _ pre x W _ i hsp ?_)⟩
      intro a' Wa ka sa ia ax
      have la := ka.same _ _ (by omega) l rfl
      have kd := ka.same _ _ (Nat.le_refl _) k rfl
      have lt := (Array.getElem?_eq_some_iff.1 la).1
      refine ⟨_, run_beginRound la (by rw [hR]), ?_⟩
      obtain ⟨Wb, hWb⟩ : ∃ Wb, Wa.putObj (d + 1) (.loop { R .ready with state := .busy }) = Wb := ⟨_, rfl⟩
      have lb' : Wb.heap[d + 1]? = some (.loop { R .ready with state := .busy }) := by rw [← hWb]; exact World.putObj_heap_same lt
      have kb : Wb.heap[d]? = some (.deferred (some [])) := by rw [← hWb]; exact (World.putObj_heap_other (by omega)).trans kd
      have sb : Stands T K Wa Wb := by rw [← hWb]; exact Stands.put _ la rfl (fun j hj => by have := hKd j hj; omega)
      have ib : I pre Wb := by rw [← hWb]; exact hI.put _ ia (by omega) la rfl
      have axb : Ax x a' Wb := by rw [← hWb]; exact hAx x a' _ _ _ _ ax (by omega) la rfl
      rw [hWb]
      refine wpIn_mono (hbody _ pre x a' Wb ib axb hsp) ?_
      rintro e a3 W3 hp
      cases e with
      | normal =>
        obtain ⟨k3, s3, i3⟩ := hp
        have l3 := k3.same _ _ (by omega) lb' rfl
        have d3 := k3.same _ _ (Nat.le_refl _) kb rfl
        have he := run_endRound (P := P) none l3
        refine ⟨_, _, he, rfl, ⟨hI.put _ i3 (by omega) l3 rfl, ?_, (World.putObj_heap_other (by omega)).trans d3⟩, sa.trans (sb.trans (s3.trans (Stands.put _ l3 rfl (fun j hj => by have := hKd j hj; omega))))⟩
        rw [World.putObj_heap_same (Array.getElem?_eq_some_iff.1 l3).1, hR]
        rfl
      | ret => exact hp.elim
      | exit id => exact hp.elim
      | goto t => exact hp.elim
      | panic ch => exact hp.elim
      | outgrown => exact hp.elim
    case behind =>
      rintro e W2 ⟨⟨v, rfl⟩, xs, hS, i, l, k⟩
      have he := run_endLoop (P := P) l (by rw [hR]; simp)
      rw [hR] at he
      exact ⟨none, _, he, hdone d xs _ (Nat.le_refl _) hS (hI.put _ i (by omega) l rfl) ((World.putObj_heap_other (by omega)).trans k)⟩
end Go.Proofs.YtjeogbdeagkomaaDoor

/- Package quote: the iterator over the parts; what stands behind them. -/
namespace Go.Proofs.YtjeogbdeagkomaaDoor
open Go.RowKit Go.Maps Go.Shelf Bset Qm

attribute [local go_sem] Oper.semAt_some

theorem MapIs.same {w w' : World} {b : Nat} {f : Nat → Option Nat} (h : MapIs w b f) (e : w'.heap[b]? = w.heap[b]?) : MapIs w' b f := by
  obtain ⟨n, D, ⟨es, clock, hh, r⟩, h2⟩ := h
  exact ⟨n, D, ⟨es, clock, e.trans hh, r⟩, h2⟩
theorem Cl.same {w w' : World} {g : Nat} {t : TypeId} {cs : Array Value} (h : Cl w g t cs) (e : w'.heap[g]? = w.heap[g]?) : Cl w' g t cs := e.trans h

/-- The blocks that the iterator reads between two rounds. -/
def keptB (B bb ba : Nat) (k : Nat) : Prop := k = B ∨ k = B + 1 ∨ k = B + 2 ∨ k = bb ∨ k = ba

/-- What the iterator's closure holds. -/
structure Held (w : World) (p : Sp) (bb ba B : Nat) (s : ByteArray) (k : Nat) : Prop where
  sp : Spell w p bb ba
  b0 : Cl w B 126 (spC p bb ba)
  b1 : Cl w (B + 1) 9 #[.string s]
  b2 : Cl w (B + 2) 3 #[.int .i64 (k : Nat)]

theorem Held.below {w w' : World} {p : Sp} {bb ba B : Nat} {s : ByteArray} {k : Nat} (h : Held w p bb ba B s k) (hb : Below w.heap.size w w') : Held w' p bb ba B s k :=
  ⟨h.sp.below hb, h.b0.below hb h.b0.lt, h.b1.below hb h.b1.lt, h.b2.below hb h.b2.lt⟩
theorem Held.stands {w w' : World} {p : Sp} {bb ba B : Nat} {s : ByteArray} {k : Nat} {T : TypeId} (h : Held w p bb ba B s k) (hs : Stands T (keptB B bb ba) w w') : Held w' p bb ba B s k :=
  ⟨⟨h.sp.isp, h.sp.beh.same (hs.named _ (.inr (.inr (.inr (.inl rfl))))), h.sp.ahd.same (hs.named _ (.inr (.inr (.inr (.inr rfl)))))⟩, h.b0.same (hs.named _ (.inl rfl)), h.b1.same (hs.named _ (.inr (.inl rfl))), h.b2.same (hs.named _ (.inr (.inr (.inl rfl))))⟩
theorem Held.kept_lt {w : World} {p : Sp} {bb ba B : Nat} {s : ByteArray} {k : Nat} (h : Held w p bb ba B s k) : ∀ j, keptB B bb ba j → j < w.heap.size := by
  rintro j (rfl | rfl | rfl | rfl | rfl)
  · exact h.b0.lt
  · exact h.b1.lt
  · exact h.b2.lt
  · exact h.sp.beh.lt
  · exact h.sp.ahd.lt

theorem Held.grown {w w' : World} {p : Sp} {bb ba B : Nat} {s : ByteArray} {k : Nat} {P : Nat} (h : Held w p bb ba B s k) (hg : w.grownBy w' (some P)) (hne : ∀ j, keptB B bb ba j → j ≠ P) : Held w' p bb ba B s k := by
  have e : ∀ j, keptB B bb ba j → w'.heap[j]? = w.heap[j]? := fun j hj => hg.block j (h.kept_lt j hj) (fun e => hne j hj (by cases e; rfl))
  exact ⟨⟨h.sp.isp, h.sp.beh.same (e _ (.inr (.inr (.inr (.inl rfl))))), h.sp.ahd.same (e _ (.inr (.inr (.inr (.inr rfl)))))⟩, h.b0.same (e _ (.inl rfl)), h.b1.same (e _ (.inr (.inl rfl))), h.b2.same (e _ (.inr (.inr (.inl rfl))))⟩
theorem setCell_grown (W : World) (P j : Nat) (u : Value) : W.grownBy (W.setCell ⟨P, j, none⟩ u) (some P) :=
  ⟨rfl, rfl, rfl, by simp, fun k _ hk => Below.heap_setCell W _ u k (fun e => hk (by rw [e]))⟩

/-- A part that is told: its bytes, and the place behind it. -/
abbrev Prt := Nat × Nat × Nat
abbrev encP (x : Prt) : Array Value := #[partV x.1 x.2.1 x.2.2]

set_option maxHeartbeats 1000000 in
theorem parts_any (p : Sp) (bb ba : Nat) (s : ByteArray) (k : Nat) (w : World) :
    Calls Tryd.prog 182 #[spV p bb ba, .string s, .int .i64 k] w fun e w' =>
      e = .returned (.func (.func 191) #[] #[.pointer (some ⟨w.heap.size, 0, none⟩), .pointer (some ⟨w.heap.size + 1, 0, none⟩), .pointer (some ⟨w.heap.size + 1 + 1, 0, none⟩)]) ∧
        w' = ((w.alloc (.cells (spC p bb ba) 126)).alloc (.cells #[.string s] 9)).alloc (.cells #[.int .i64 k] 3) := by
  go_enter Tryd.func182, Tryd.ntmps182
  go_wp2
  go_ret
  exact ⟨rfl, rfl⟩

/-- How far the parts still go, at most. -/
def toGo (n P : Nat) (v : Value) (w : World) : Nat := match v with
  | .bool true => n + 2 - (intOf ((w.cell? ⟨P, 2, none⟩).getD undef)).toNat
  | _ => 0

theorem toGo_no (n P : Nat) (w : World) : toGo n P (.bool false) w = 0 := rfl
theorem toGo_yes {n P : Nat} {w : World} {a b : Value} {x : Int} (e : Nat) {t : TypeId} (h : Cl w P t #[a, b, .int .i64 x]) (hx : x = e) : toGo n P (.bool true) w = n + 2 - e := by
  subst hx
  unfold toGo
  simp only
  rw [h.cell 2]
  simp [intOf]

set_option maxRecDepth 100000 in
set_option maxHeartbeats 4000000 in
theorem parts1_in (p : Sp) (bb ba B : Nat) (s : ByteArray) (hs : s.size ≤ maxLen) (k : Nat) (hk : k ≤ s.size) (l : Nat) (J : List Prt → World → Prop) (W : World) (hJ : Abide 197 W.heap.size J)
    (hY : ∀ pre x W1, J pre W1 → (pre ++ [x]) <+: parts p (s.data.toList.drop k) k → YieldAt Fence.wide 2 Tryd.prog l (encP x) W1 fun e W' => e = .returned (.bool true) ∧ J (pre ++ [x]) W' ∧ Stands 197 (keptB B bb ba) W1 W')
    (h : Held W p bb ba B s k) (h0 : J [] W) :
    CallsIn Fence.wide 3 Tryd.prog 191 #[.func (.yield l) #[] #[], .pointer (some ⟨B, 0, none⟩), .pointer (some ⟨B + 1, 0, none⟩), .pointer (some ⟨B + 1 + 1, 0, none⟩)] W fun e W' => (∃ v, e = .returned v) ∧
      ∃ ys : List Prt, ys = parts p (s.data.toList.drop k) k ∧ J ys W' := by
  have c0 := h.b0.cell 0
  have c1 := h.b0.cell 1
  have c2 := h.b0.cell 2
  have c3 := h.b0.cell 3
  have c4 := h.b0.cell 4
  have c5 := h.b0.cell 5
  have c6 := h.b0.cell 6
  have c7 := h.b0.cell 7
  have cs := h.b1.cell 0
  have ck : W.cell? ⟨B + 1 + 1, 0, none⟩ = some (.int .i64 (k : Nat)) := h.b2.cell 0
  refine callsIn_of_wp Tryd.func191 rfl trivial ?_ rfl
  simp only [Tryd.ntmps191, List.size_toArray, List.length_cons, List.length_nil, Nat.reduceAdd, Nat.reduceSub, Array.replicate_succ, Array.replicate_zero, List.push_toArray, List.append_toArray, List.nil_append, List.cons_append]
  obtain ⟨lo, hi, n, ok, hp⟩ : ∃ lo hi n ok, pt p (s.data.toList.drop k) = (lo, hi, n, ok) := ⟨_, _, _, _, rfl⟩
  have hpa := part_any p bb ba s hs k hk W h.sp
  rw [hp] at hpa
  have HP := Lib.hid hp
  have HH := Lib.hid h
  have HY := Lib.hid hY
  clear hp h hY
  gi_wp2_with (refine ⟨trivial, ?_⟩; gi_at_call 192; refine (callsIn_wide.2 hpa).mono ?_; rintro e w1 ⟨rfl, hb1⟩)
  obtain ⟨P, hP⟩ : ∃ P, P = w1.heap.size := ⟨_, rfl⟩
  obtain ⟨W2, hW2⟩ : ∃ W2, w1.alloc (.cells #[.int .u8 lo, .int .u8 hi, .int .i64 ((k : Int) + n)] 197) = W2 := ⟨_, rfl⟩
  have q2 : Cl W2 P 197 #[.int .u8 lo, .int .u8 hi, .int .i64 ((k : Int) + n)] := by
    rw [← hW2, hP]
    exact Cl.new w1 _ _
  have b2 : Below W.heap.size W W2 := by
    rw [← hW2]
    exact hb1.alloc hb1.size _
  have hPW : W.heap.size ≤ P := by rw [hP]; exact hb1.size
  rw [hW2, ← hP]
  have HPW := Lib.hid hPW
  clear hW2 hP hPW
  gi_loopw [6] (fun v6 wr => ∃ (lo hi n k' : Nat) (ok : Bool) (pre : List Prt), v6 = .bool ok ∧ Cl wr P 197 #[.int .u8 lo, .int .u8 hi, .int .i64 ((k' : Int) + n)] ∧ pt p (s.data.toList.drop k') = (lo, hi, n, ok) ∧ k' ≤ s.size ∧
      parts p (s.data.toList.drop k) k = pre ++ parts p (s.data.toList.drop k') k' ∧ J pre wr ∧ Held wr p bb ba B s k)
    (fun v6 wr => toGo s.size P v6 wr)
  case atStart =>
    exact ⟨lo, hi, n, k, ok, [], rfl, q2, HP.out, hk, rfl, hJ _ _ _ none h0 (grown_of_below b2) (fun r e => by cases e), HH.out.below b2⟩
  case round =>
    clear q2 b2 h0 hb1 HP hpa c0 c1 c2 c3 c4 c5 c6 c7 cs ck
    obtain ⟨lo, hi, n, k', ok, pre, rfl, q, hp, hk', hpre, hJw, hH⟩ := hrel
    cases ok with
    | false =>
      have he : parts p (s.data.toList.drop k) k = pre := by rw [hpre, parts_end p _ _ (by rw [hp]), List.append_nil]
      have HE := Lib.hid he
      clear hp hpre he
      gi_wp2_with (refine wpListIn_skip rfl rfl ?_)
      go_end0
      exact ⟨⟨_, rfl⟩, pre, HE.out.symm, hJw⟩
    | true =>
      have hle := pt_le p hH.sp.isp (s.data.toList.drop k')
      rw [hp, List.length_drop] at hle
      obtain ⟨hl1, hl2⟩ := hle
      obtain ⟨hl2, -, -⟩ := hl2 rfl
      simp only at hl1 hl2
      have hl : s.data.toList.length = s.size := by simp
      rw [hl] at hl1
      have hgo := parts_go p hH.sp.isp (s.data.toList.drop k') k' (by rw [hp])
      rw [hp, List.drop_drop] at hgo
      simp only at hgo
      have hnew : parts p (s.data.toList.drop k) k = (pre ++ [(lo, hi, k' + n)]) ++ parts p (s.data.toList.drop (k' + n)) (k' + n) := by rw [hpre, hgo]; simp
      have hke : k' + n ≤ s.size := by omega
      have hY := HY.out
      obtain ⟨fn, tmps, assign, body, hy, hR⟩ := hY pre (lo, hi, k' + n) wr hJw (by rw [hnew]; exact List.prefix_append _ _)
      have ecast : (((k' + n : Nat) : Int)) = (k' : Int) + (n : Int) := by omega
      dsimp only [encP, partV] at hy
      rw [ecast] at hy
      have HQ := Lib.hid q
      have q0 := q.cell 0
      have q1 := q.cell 1
      have q2 := q.cell 2
      have HN := Lib.hid hnew
      have HKE := Lib.hid hke
      have HL2 := Lib.hid hl2
      have ECAST := Lib.hid ecast
      clear hp hpre hgo hnew hY ecast hl1 hl2 hl hke HY
      gi_wp2
      refine hR.mono ?_
      rintro e W3 ⟨rfl, hJ3, hs3⟩
      have hH3 := hH.stands hs3
      have q3 : Cl W3 P 197 #[.int .u8 lo, .int .u8 hi, .int .i64 ((k' : Int) + n)] := hs3.typed P _ _ q
      obtain ⟨lo2, hi2, n2, ok2, hp2⟩ : ∃ lo2 hi2 n2 ok2, pt p (s.data.toList.drop (k' + n)) = (lo2, hi2, n2, ok2) := ⟨_, _, _, _, rfl⟩
      have hpa := part_any p bb ba s hs (k' + n) HKE.out W3 hH3.sp
      rw [hp2, ECAST.out] at hpa
      have c0 := hH3.b0.cell 0
      have c1 := hH3.b0.cell 1
      have c2 := hH3.b0.cell 2
      have c3 := hH3.b0.cell 3
      have c4 := hH3.b0.cell 4
      have c5 := hH3.b0.cell 5
      have c6 := hH3.b0.cell 6
      have c7 := hH3.b0.cell 7
      have cs := hH3.b1.cell 0
      have d2 := q3.cell 2
      have HP2 := Lib.hid hp2
      have hst : (parts p (s.data.toList.drop k) k) = (pre ++ [(lo, hi, k' + n)]) ++ parts p (s.data.toList.drop (k' + n)) (k' + n) := HN.out
      have HST := Lib.hid hst
      clear hp2 hst hR q q0 q1 q2 hH hJw hs3
      gi_wp2_with (refine ⟨trivial, ?_⟩; gi_at_call 192; refine (callsIn_wide.2 hpa).mono ?_; rintro e w4 ⟨rfl, hb4⟩; have q4 := q3.below hb4 q3.lt; have r0 := q4.cell 0; have r1 := q4.cell 1; have r2 := q4.cell 2; have f0 := q4.free 0; have f1 := q4.free 1; have f2 := q4.free 2)
      obtain ⟨Wf, hWf⟩ : ∃ Wf, ((w4.setCell ⟨P, 0, none⟩ (.int .u8 lo2)).setCell ⟨P, 1, none⟩ (.int .u8 hi2)).setCell ⟨P, 2, none⟩ (.int .i64 ((k' : Int) + n + n2)) = Wf := ⟨_, rfl⟩
      have qf : Cl Wf P 197 #[.int .u8 lo2, .int .u8 hi2, .int .i64 ((k' : Int) + n + n2)] := by
        rw [← hWf]
        exact ((q4.put 0 _).put 1 _).put 2 _
      have hg : W3.grownBy Wf (some P) := by
        rw [← hWf]
        exact (((((grown_of_below hb4).but (some P)).andThen (setCell_grown w4 P 0 _) (fun j e => .inr e)).andThen (setCell_grown _ P 1 _) (fun j e => .inr e)).andThen (setCell_grown _ P 2 _) (fun j e => .inr e))
      rw [hWf]
      have e4 : (((k' + n : Nat) : Int)) = (k' : Int) + (n : Int) := ECAST.out
      have hx := HP2.out
      have hle := pt_le p hH3.sp.isp (s.data.toList.drop (k' + n))
      rw [hx, List.length_drop] at hle
      have hke := HKE.out
      refine ⟨⟨lo2, hi2, n2, k' + n, ok2, pre ++ [(lo, hi, k' + n)], rfl, by rw [e4]; exact qf, hx, hke, HST.out, hJ _ W3 Wf (some P) hJ3 hg (fun r e => by cases e; exact ⟨HPW.out, _, _, q3⟩), hH3.grown hg (fun j hj e => by have h1 := HH.out.kept_lt j hj; have h2 := HPW.out; omega)⟩, ?_⟩
      rw [toGo_yes (k' + n) HQ.out e4.symm]
      cases ok2 with
      | false =>
        rw [toGo_no]
        omega
      | true =>
        have h2 := (hle.2 rfl).1
        simp only at h2
        rw [toGo_yes (k' + n + n2) qf (by omega)]
        omega

/-- **parts(t, at) hands back a value that tells the parts, one by one.** -/
theorem parts1_told (p : Sp) (bb ba B : Nat) (s : ByteArray) (hs : s.size ≤ maxLen) (k : Nat) (hk : k ≤ s.size) (w : World) (h : Held w p bb ba B s k) :
    Told Fence.wide 3 Tryd.prog 191 #[.pointer (some ⟨B, 0, none⟩), .pointer (some ⟨B + 1, 0, none⟩), .pointer (some ⟨B + 1 + 1, 0, none⟩)] encP 197 (keptB B bb ba)
      (fun ys => ys = parts p (s.data.toList.drop k) k) (fun pre => pre <+: parts p (s.data.toList.drop k) k) w :=
  fun l J W hW hJ hY h0 => parts1_in p bb ba B s hs k hk l J W hJ hY (h.below hW) h0
end Go.Proofs.YtjeogbdeagkomaaDoor

/- Package quote: what stands behind the parts. -/
namespace Go.Proofs.YtjeogbdeagkomaaDoor
open Go.RowKit Go.Maps Bset Qm

theorem Spell.drewN {w : World} {p : Sp} {bb ba : Nat} (h : Spell w p bb ba) (n : Nat) : Spell (w.drewN n) p bb ba := ⟨h.isp, h.beh, h.ahd⟩

abbrev endT (r : Nat × Nat) : Value := .tuple #[.int .i64 (r.1 : Nat), .int .i64 (r.2 : Nat)]

set_option maxHeartbeats 2000000 in
set_option maxRecDepth 100000 in
theorem ended_any (p : Sp) (bb ba : Nat) (s : ByteArray) (hs : s.size ≤ maxLen) (k : Nat) (hk : k ≤ s.size) (w : World) (h : Spell w p bb ba) :
    Calls Tryd.prog 183 #[spV p bb ba, .string s, .int .i64 k] w fun e w' => e = .returned (endT (ended p s.data.toList k)) ∧ Below w.heap.size w w' := by
  have hs2 := hs
  unfold maxLen at hs
  have hc := spell_cells w p bb ba
  have hb0 : Below w.heap.size w (w.alloc (.cells (spC p bb ba) 126)) := (Below.refl _ w).alloc (Nat.le_refl _) _
  have h1 := h.alloc (.cells (spC p bb ba) 126)
  have hl : s.data.toList.length = s.size := by simp
  have hlast : p.last < 256 := by rcases h.isp with rfl | rfl <;> decide
  have c0 := hc 0
  have c1 := hc 1
  have c2 := hc 2
  have c3 := hc 3
  have c4 := hc 4
  have c5 := hc 5
  have c6 := hc 6
  have c7 := hc 7
  clear hc
  by_cases hyes : (s.data.toList.drop k).head? = some (UInt8.ofNat p.last)
  · have he : ended p s.data.toList k = (k + 1, 0) := by unfold ended; rw [if_pos hyes]
    have hlt : k < s.size := by
      rcases Nat.lt_or_ge k s.size with h2 | h2
      · exact h2
      · rw [drop_end s k h2] at hyes
        cases hyes
    rw [head_at s k hlt] at hyes
    have hv : s[k].toNat = p.last := by rw [Option.some.inj hyes, u8 hlast]
    have t1 : ((s[k].toNat : Int) == (p.last : Int)) = true := by simp [hv]
    have t2 : decide ((k : Int) < (s.size : Int)) = true := by simp; omega
    have n0 : (0 : Int) ≤ (k : Int) := by omega
    have n1 : (k : Int) < (s.size : Int) := by omega
    have HE := Lib.hid he
    clear he hyes hv hl hlast
    go_enter Tryd.func183, Tryd.ntmps183
    go_wp2
    go_quiet (fail)
    go_wp2
    go_ret2
    exact ⟨ret_tup (by rw [HE.out]; simp), bdrewN hb0⟩
  · have he : ended p s.data.toList k = (k + (pt p (s.data.toList.drop k)).2.2.1, fau s.size (k + (pt p (s.data.toList.drop k)).2.2.1)) := by unfold ended; rw [if_neg hyes, hl]
    obtain ⟨lo, hi, n, ok, hp⟩ : ∃ lo hi n ok, pt p (s.data.toList.drop k) = (lo, hi, n, ok) := ⟨_, _, _, _, rfl⟩
    have hpa := fun W hW => part_any p bb ba s hs2 k hk W hW
    have hfa := fun W => fault_any s hs2 (k + n) W
    rw [hp] at he hpa
    simp only at he
    have ec : (((k + n : Nat) : Int)) = (k : Int) + (n : Int) := by omega
    rw [ec] at hfa
    have HE := Lib.hid he
    by_cases hlt : k < s.size
    · rw [head_at s k hlt] at hyes
      have hv : s[k].toNat ≠ p.last := fun e => hyes (by congr 1; exact UInt8.toNat_inj.1 (by rw [e, u8 hlast]))
      have t1 : ((s[k].toNat : Int) == (p.last : Int)) = false := by simp; omega
      have t2 : decide ((k : Int) < (s.size : Int)) = true := by simp; omega
      have n0 : (0 : Int) ≤ (k : Int) := by omega
      have n1 : (k : Int) < (s.size : Int) := by omega
      clear he hyes hv hl hlast hp ec
      go_enter Tryd.func183, Tryd.ntmps183
      go_wp2
      go_quiet (fail)
      go_wp2_with (go_at_call 192; refine (hpa _ (h1.drewN _)).mono ?_; rintro e w1 ⟨rfl, hb1⟩)
      go_quiet ((go_at_call 181; exact Calls.quiet_of_same (qeq (hfa _))))
      go_wp2
      go_ret2
      exact ⟨ret_tup (by rw [HE.out]; simp), bdrewN ((((bdrewN hb0).trans (hb1.mono hb0.size)).alloc (Nat.le_trans hb0.size hb1.size) _))⟩
    · have t2 : decide (k < s.size) = false := by simp; omega
      clear he hyes hl hlast hp ec hlt
      go_enter Tryd.func183, Tryd.ntmps183
      go_wp2
      go_quiet (fail)
      go_wp2_with (go_at_call 192; refine (hpa _ (h1.drewN _)).mono ?_; rintro e w1 ⟨rfl, hb1⟩)
      go_quiet ((go_at_call 181; exact Calls.quiet_of_same (qeq (hfa _))))
      go_wp2
      go_ret2
      exact ⟨ret_tup (by rw [HE.out]; simp), bdrewN ((((bdrewN hb0).trans (hb1.mono hb0.size)).alloc (Nat.le_trans hb0.size hb1.size) _))⟩
end Go.Proofs.YtjeogbdeagkomaaDoor

/- Package quote: what a loop over the parts of a class keeps. -/
import Derived.Test.YtkhokhmdiagckaaDoorQ11
namespace Go.Proofs.YtkhokhmdiagckaaDoor
open Go.RowKit Go.Maps Go.Shelf Bset Qm

/-- What Unclass's loop keeps: the set at R; the spelling at B, the place behind it; the iterator's own three. -/
structure UnC (w : World) (bb ba B : Nat) (s : ByteArray) (a : Nat) (S : Nat → Bool) (e : Nat) (W : World) : Prop where
  held : Held W cls bb ba (B + 2) s a
  box : Cl W B 44 (spC cls bb ba)
  res : Cl W w.heap.size 24 (setC S)
  place : Cl W (B + 1) 3 #[.int .i64 (e : Nat)]
  low : Below w.heap.size w W
  hb : bb < B
  ha : ba < B
  nb : w.heap.size < bb
  na : w.heap.size < ba

section
variable {w W W' : World} {bb ba B : Nat} {s : ByteArray} {a : Nat} {S S' : Nat → Bool} {e e' : Nat}
theorem UnC.names (h : UnC w bb ba B s a S e W) : ∀ j, keptB (B + 2) bb ba j → (j < B ∨ B + 2 ≤ j) ∧ j < B + 5 ∧ j ≠ w.heap.size := by
  have h1 := h.hb
  have h2 := h.ha
  have h3 := h.nb
  have h4 := h.na
  rintro j (rfl | rfl | rfl | rfl | rfl) <;> omega
theorem UnC.below (h : UnC w bb ba B s a S e W) (hb : Below W.heap.size W W') : UnC w bb ba B s a S e W' :=
  ⟨h.held.below hb, h.box.below hb h.box.lt, h.res.below hb h.res.lt, h.place.below hb h.place.lt, h.low.trans (hb.mono h.low.size), h.hb, h.ha, h.nb, h.na⟩
theorem UnC.drew (h : UnC w bb ba B s a S e W) : UnC w bb ba B s a S e W.drew := ⟨⟨h.held.sp.drew, h.held.b0, h.held.b1, h.held.b2⟩, h.box, h.res, h.place, h.low.drew, h.hb, h.ha, h.nb, h.na⟩
theorem UnC.abide (h : UnC w bb ba B s a S e W) {row : Option Nat} (hg : W.grownBy W' row) (hr : ∀ r, row = some r → B + 5 ≤ r) : UnC w bb ba B s a S e W' := by
  have h1 := h.hb
  have h3 := h.nb
  have hs : ∀ j, j < B + 5 → j < W.heap.size → W'.heap[j]? = W.heap[j]? := fun j hj hl => hg.block j hl (fun e1 => by have := hr j e1.symm; omega)
  have hn := h.names
  have hkl := h.held.kept_lt
  have st : ∀ j, keptB (B + 2) bb ba j → W'.heap[j]? = W.heap[j]? := fun j hj => hs j (hn j hj).2.1 (hkl j hj)
  exact ⟨⟨⟨h.held.sp.isp, h.held.sp.beh.same (st _ (.inr (.inr (.inr (.inl rfl))))), h.held.sp.ahd.same (st _ (.inr (.inr (.inr (.inr rfl)))))⟩, h.held.b0.same (st _ (.inl rfl)), h.held.b1.same (st _ (.inr (.inl rfl))), h.held.b2.same (st _ (.inr (.inr (.inl rfl))))⟩,
    h.box.same (hs _ (by omega) h.box.lt), h.res.same (hs _ (by omega) h.res.lt), h.place.same (hs _ (by omega) h.place.lt),
    h.low.grown hg h.low.size (fun k e1 => by have := hr k e1; omega), h.hb, h.ha, h.nb, h.na⟩
theorem Stands.below {T : TypeId} {K : Nat → Prop} (hK : ∀ k, K k → k < W.heap.size) (hb : Below W.heap.size W W') : Stands T K W W' :=
  Stands.of_grown (grown_of_below hb) (fun r e1 => by cases e1) hK

theorem put4 (W : World) (g : Nat) (t : TypeId) (u0 u1 u2 u3 v0 v1 v2 v3 : Value) (q : Cl W g t #[u0, u1, u2, u3]) :
    Cl ((((W.setCell ⟨g, 0, none⟩ v0).setCell ⟨g, 1, none⟩ v1).setCell ⟨g, 2, none⟩ v2).setCell ⟨g, 3, none⟩ v3) g t #[v0, v1, v2, v3] := by
  have h := (((q.put 0 v0).put 1 v1).put 2 v2).put 3 v3
  simp only [List.setIfInBounds_toArray, List.set_cons_succ, List.set_cons_zero] at h
  exact h
theorem grown4 (W : World) (P : Nat) (v0 v1 v2 v3 : Value) : W.grownBy ((((W.setCell ⟨P, 0, none⟩ v0).setCell ⟨P, 1, none⟩ v1).setCell ⟨P, 2, none⟩ v2).setCell ⟨P, 3, none⟩ v3) (some P) :=
  (((grown_set W P 0 v0).andThen (grown_set _ P 1 v1) (fun _ e => .inr e)).andThen (grown_set _ P 2 v2) (fun _ e => .inr e)).andThen (grown_set _ P 3 v3) (fun _ e => .inr e)

/-- The set is stored. -/
theorem UnC.store (h : UnC w bb ba B s a S e W) (S' : Nat → Bool) :
    ∀ Wf, ((((W.setCell ⟨w.heap.size, 0, none⟩ (.int .u64 (word S' 0 : Nat))).setCell ⟨w.heap.size, 1, none⟩ (.int .u64 (word S' 1 : Nat))).setCell ⟨w.heap.size, 2, none⟩ (.int .u64 (word S' 2 : Nat))).setCell ⟨w.heap.size, 3, none⟩ (.int .u64 (word S' 3 : Nat))) = Wf →
      KeepsOthers W Wf ∧ Stands 63 (keptB (B + 2) bb ba) W Wf ∧ UnC w bb ba B s a S' e Wf := by
  intro Wf hWf
  have hn := h.names
  have h1 := h.hb
  have h3 := h.nb
  have g := grown4 W w.heap.size (.int .u64 (word S' 0 : Nat)) (.int .u64 (word S' 1 : Nat)) (.int .u64 (word S' 2 : Nat)) (.int .u64 (word S' 3 : Nat))
  have q := put4 W w.heap.size 24 _ _ _ _ (.int .u64 (word S' 0 : Nat)) (.int .u64 (word S' 1 : Nat)) (.int .u64 (word S' 2 : Nat)) (.int .u64 (word S' 3 : Nat)) h.res
  have ko : KeepsOthers W Wf := by
    rw [← hWf]
    exact (KeepsOthers.setCell _ _ _).trans ((KeepsOthers.setCell _ _ _).trans ((KeepsOthers.setCell _ _ _).trans (KeepsOthers.setCell _ _ _)))
  rw [hWf] at g q
  refine ⟨ko, Stands.of_grown g (fun r e1 => by
    cases e1
    exact ⟨fun hk => (hn _ hk).2.2 rfl, fun cs fz e1 => by
      rw [show W.heap[w.heap.size]? = _ from h.res] at e1
      cases e1⟩) h.held.kept_lt, h.held.grown g (fun j hj => (hn j hj).2.2), h.box.grown g (fun e1 => by have := Option.some.inj e1; omega), q, h.place.grown g (fun e1 => by have := Option.some.inj e1; omega),
    h.low.grown g h.low.size (fun k e1 => by cases e1; exact Nat.le_refl _), h.hb, h.ha, h.nb, h.na⟩
theorem UnC.zero (h : UnC w bb ba B s a S e W) :
    ∀ Wf, ((((W.setCell ⟨w.heap.size, 0, none⟩ (.int .u64 0)).setCell ⟨w.heap.size, 1, none⟩ (.int .u64 0)).setCell ⟨w.heap.size, 2, none⟩ (.int .u64 0)).setCell ⟨w.heap.size, 3, none⟩ (.int .u64 0)) = Wf →
      KeepsOthers W Wf ∧ Stands 63 (keptB (B + 2) bb ba) W Wf ∧ UnC w bb ba B s a (fun _ => false) e Wf := by
  have h2 := h.store (fun _ => false)
  simp only [word_none] at h2
  exact h2
theorem UnC.moved (h : UnC w bb ba B s a S e W) (x : Int) (hx : x = (e' : Nat)) : KeepsOthers W (W.setCell ⟨B + 1, 0, none⟩ (.int .i64 x)) ∧ Stands 63 (keptB (B + 2) bb ba) W (W.setCell ⟨B + 1, 0, none⟩ (.int .i64 x)) ∧ UnC w bb ba B s a S e' (W.setCell ⟨B + 1, 0, none⟩ (.int .i64 x)) := by
  subst hx
  have hn := h.names
  have h1 := h.hb
  have h3 := h.nb
  have hg := setCell_grown W (B + 1) 0 (.int .i64 (e' : Nat))
  exact ⟨KeepsOthers.setCell _ _ _, Stands.of_set h.place (by decide) (fun k hk => ⟨fun e1 => by have := (hn k hk).1; omega, h.held.kept_lt k hk⟩) 0 _,
    h.held.grown hg (fun j hj e1 => by have := (hn j hj).1; omega), h.box.grown hg (fun e1 => by have := Option.some.inj e1; omega), h.res.grown hg (fun e1 => by have := Option.some.inj e1; omega), h.place.put 0 _,
    h.low.grown hg h.low.size (fun k e1 => by cases e1; omega), h.hb, h.ha, h.nb, h.na⟩
end

theorem unc_start {w w1 : World} {bb ba : Nat} (s : ByteArray) (a : Nat) (x : Int) (hx : x = a) (hS : Spell w1 cls bb ba) (hr : Cl w1 w.heap.size 24 #[.int .u64 0, .int .u64 0, .int .u64 0, .int .u64 0]) (hb : Below w.heap.size w w1) (h1 : w.heap.size < bb) (h2 : w.heap.size < ba) :
    UnC w bb ba w1.heap.size s a (fun _ => false) a (((((w1.alloc (.cells (spC cls bb ba) 44)).alloc (.cells #[.int .i64 x] 3)).alloc (.cells (spC cls bb ba) 44)).alloc (.cells #[.string s] 9)).alloc (.cells #[.int .i64 x] 3)) := by
  subst hx
  rw [← setC_none] at hr
  exact
  { held := ⟨((((hS.alloc _).alloc _).alloc _).alloc _).alloc _, ((Cl.new' (by simp) _ _).alloc _).alloc _, (Cl.new' (by simp) _ _).alloc _, Cl.new' (by simp) _ _⟩
    box := ((((Cl.new w1 _ _).alloc _).alloc _).alloc _).alloc _
    res := ((((hr.alloc _).alloc _).alloc _).alloc _).alloc _
    place := (((Cl.new' (by simp) _ _).alloc _).alloc _).alloc _
    low := ((((hb.alloc hb.size _).alloc (by have := hb.size; simp; omega) _).alloc (by have := hb.size; simp; omega) _).alloc (by have := hb.size; simp; omega) _).alloc (by have := hb.size; simp; omega) _
    hb := hS.beh.lt
    ha := hS.ahd.lt
    nb := h1
    na := h2 }
end Go.Proofs.YtkhokhmdiagckaaDoor

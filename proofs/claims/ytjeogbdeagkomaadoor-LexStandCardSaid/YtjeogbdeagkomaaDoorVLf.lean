/- A map of bytes to functions: named ones, and closures over one box. -/
import Derived.Test.YtjeogbdeagkomaaDoorVQ6
namespace Go.Proofs.YtjeogbdeagkomaaDoor
open Go.RowKit Go.Maps Bset

/-- A function's number, and its closure's box. -/
abbrev Fx := Nat × Option Nat
def fxC : Option Nat → Array Value
  | none => #[]
  | some b => #[.pointer (some ⟨b, 0, none⟩)]
abbrev fxV (x : Fx) : Value := .func (.func x.1) #[] (fxC x.2)
def fxN : Option Nat → Int
  | none => -1
  | some b => (b : Int)
def fxD (x : Fx) : DataW Unit := .agg [.lit (.int .i64 x.1), .lit (.int .i64 (fxN x.2))]
/-- How such a function reads. -/
def fxR : Value → Option (DataW Unit × List MemPlace)
  | .func (.func f) fs cs => if fs.toList = [] then (match cs.toList with
    | [] => some (fxD (f, none), [])
    | [.pointer (some a)] => if a = ⟨a.block, 0, none⟩ then some (fxD (f, some a.block), []) else none
    | _ => none) else none
  | .nilFunc => some (.lit (.int .i64 0), [])
  | _ => none

theorem fxD_inj {x y : Fx} (h : fxD x = fxD y) : x = y := by
  obtain ⟨f, b⟩ := x
  obtain ⟨g, c⟩ := y
  unfold fxD at h
  simp at h
  obtain ⟨h1, h2⟩ := h
  have e1 : f = g := by omega
  subst e1
  cases b <;> cases c <;> simp [fxN] at h2
  · rfl
  · rw [show _ = _ from Int.ofNat_inj.1 h2]
theorem fxR_mk (x : Fx) : fxR (fxV x) = some (fxD x, []) := by
  obtain ⟨f, b⟩ := x
  cases b <;> simp [fxR, fxC]
theorem fxR_inv {v : Value} {x : Fx} {ps : List MemPlace} (h : fxR v = some (fxD x, ps)) : v = fxV x := by
  unfold fxR at h
  split at h
  · rename_i f fs cs
    split at h
    · rename_i h0
      have e0 : fs = #[] := by simpa using h0
      subst e0
      split at h
      · rename_i h1
        have e1 : cs = #[] := by simpa using h1
        subst e1
        have := fxD_inj (by simpa using (congrArg (fun o => o.map Prod.fst) h))
        rw [← this]
        rfl
      · rename_i a h1
        have e1 : cs = #[.pointer (some a)] := by
          rw [← Array.toArray_toList (xs := cs), h1]
        subst e1
        split at h
        · rename_i h2
          have := fxD_inj (by simpa using (congrArg (fun o => o.map Prod.fst) h))
          rw [← this, h2]
          rfl
        · cases h
      · cases h
    · cases h
  · simp [fxD] at h
  · cases h

/-- Such a map: at most n entries; what it reads as. -/
def FnsAt (w : World) (b n : Nat) (D : DataW Unit) (f : Nat → Option Fx) : Prop :=
  w.ownsMap (H := Unit) Tryd.prog 5 fxR b n D ∧ ∀ k : Nat, k < 256 → Maps.has D (.int .u8 k) = (f k).isSome ∧ ∀ x, f k = some x → D.atKey (.int .u8 k) (.lit (.int .i64 0)) = fxD x
/-- .. whatever it reads as. -/
def FnsIs (w : World) (b : Nat) (f : Nat → Option Fx) : Prop := ∃ n D, FnsAt w b n D f

section
variable {w w' : World} {b n B : Nat} {D : DataW Unit} {f g : Nat → Option Fx}
theorem FnsAt.lt (h : FnsAt w b n D f) : b < w.heap.size := h.1.lt
theorem FnsIs.lt (h : FnsIs w b f) : b < w.heap.size := by
  obtain ⟨_, _, h⟩ := h
  exact h.lt
theorem FnsAt.kept {row : Option Nat} (h : FnsAt w b n D f) (hg : w.grownBy w' row) (hne : some b ≠ row) : FnsAt w' b n D f := ⟨h.1.kept hg hne, h.2⟩
theorem FnsAt.congr (h : FnsAt w b n D f) (e : ∀ k, k < 256 → f k = g k) : FnsAt w b n D g := ⟨h.1, fun k hk => by rw [← e k hk]; exact h.2 k hk⟩
theorem FnsAt.same (h : FnsAt w b n D f) (e : w'.heap[b]? = w.heap[b]?) : FnsAt w' b n D f := by
  obtain ⟨⟨es, clock, hh, r⟩, h2⟩ := h
  exact ⟨⟨es, clock, e.trans hh, r⟩, h2⟩
theorem FnsIs.same (h : FnsIs w b f) (e : w'.heap[b]? = w.heap[b]?) : FnsIs w' b f := by
  obtain ⟨n, D, h⟩ := h
  exact ⟨n, D, h.same e⟩
theorem FnsAt.below (h : FnsAt w b n D f) (hb : Below B w w') (hlt : b < B) : FnsAt w' b n D f := h.same (hb.block b hlt)
theorem FnsAt.alloc (h : FnsAt w b n D f) (o : Obj) : FnsAt (w.alloc o) b n D f := h.kept (World.grownBy_alloc w o none) (by simp)
theorem FnsAt.made (w : World) : FnsAt (w.alloc (.map #[] 0)) w.heap.size 0 (.map []) (fun _ => none) :=
  ⟨World.ownsMap_made w _ _ _, fun _k _ => ⟨rfl, fun _ h => by cases h⟩⟩

/-- A store. -/
theorem FnsAt.lay (h : FnsAt w b n D f) (hn : n < maxLen) (k : Nat) (x : Fx) (hk : k < 256) (y : Int) (v : Value) (hy : y = k) (hv : v = fxV x) :
    ∃ w' D', (Instr.mapUpdate 135 (.map (some b)) (.int .u8 y) v).run Tryd.prog w = .ok () w' ∧ FnsAt w' b (n + 1) D' (fun j => if j = k then some x else f j) ∧ w.grownBy w' (some b) := by
  subst hy hv
  obtain ⟨w', hrun, ho, hg⟩ := h.1.update keyed8 Tryd.underlying135 hn (keyOf_int_mk Tryd.underlying5 (q := .u8) (a := (k : Int)) (WalkArith.wf_u8 (by omega))) (fxR_mk x)
  refine ⟨w', _, hrun, ⟨ho, fun j hj => ?_⟩, hg⟩
  by_cases e : j = k
  · subst e
    simp only [↓reduceIte, Option.isSome_some]
    have hk1 : WideAt.IsKeyLit (Lit.int .u8 (j : Int)) := trivial
    exact ⟨has_put_same h.1.isMap hk1 _, fun x' e => by cases e; exact atKey_put_same h.1.isMap hk1 _ _⟩
  · simp only [e, ↓reduceIte]
    rw [has_put_other (key_ne e), atKey_put_other (key_ne e)]
    exact h.2 j hj

/-- A look-up. -/
theorem FnsIs.look (h : FnsIs w b f) {k : Nat} (hk : k < 256) :
    ∃ v, (Instr.lookup 135 (.map (some b)) (.int .u8 k) true).run Tryd.prog w = .ok (.tuple #[v, .bool (f k).isSome]) w ∧ ∀ x, f k = some x → v = fxV x := by
  obtain ⟨n, D, ho, h2⟩ := h
  obtain ⟨e1, e2⟩ := h2 k hk
  obtain ⟨v, ps, hrun, hv⟩ := ho.look_ok keyed8 Tryd.underlying135 (Tryd.zeroValue158 w) (zd := .lit (.int .i64 0)) (zp := []) rfl (keyOf_int_mk Tryd.underlying5 (q := .u8) (a := (k : Int)) (WalkArith.wf_u8 (by omega)))
  rw [e1] at hrun
  refine ⟨v, hrun, fun x hx => ?_⟩
  rw [e2 x hx] at hv
  exact fxR_inv hv
end
end Go.Proofs.YtjeogbdeagkomaaDoor

/- Package quote: a spelling is made: its two maps. -/
import Derived.Test.YtkhokhmdiagckaaDoorQ2
import Derived.Test.YtkhokhmdiagckaaDoorAll
import Derived.Test.YtkhokhmdiagckaaDoorSw3
import Derived.Maps.RangeWalk
import Derived.Maps.Ext
namespace Go.Proofs.YtkhokhmdiagckaaDoor
open Go.RowKit Go.Maps Bset Qm

/-- A map of at most n bytes that holds just this, with the datum that it reads as. -/
def MapAt (w : World) (b n : Nat) (D : DataW Unit) (f : Nat → Option Nat) : Prop :=
  w.ownsMap (H := Unit) Tryd.prog 5 (plainElem Tryd.prog 5) b n D ∧ ∀ k : Nat, k < 256 → Maps.has D (.int .u8 k) = (f k).isSome ∧ D.atKey (.int .u8 k) (.lit (.int .u8 0)) = .lit (.int .u8 ((f k).getD 0 : Nat))

theorem MapAt.is {w : World} {b n : Nat} {D : DataW Unit} {f : Nat → Option Nat} (h : MapAt w b n D f) : MapIs w b f := ⟨n, D, h⟩
theorem MapAt.kept {w w' : World} {b n : Nat} {D : DataW Unit} {f : Nat → Option Nat} {row : Option Nat} (h : MapAt w b n D f) (hg : w.grownBy w' row) (hne : some b ≠ row) : MapAt w' b n D f := ⟨h.1.kept hg hne, h.2⟩
theorem MapAt.congr {w : World} {b n : Nat} {D : DataW Unit} {f g : Nat → Option Nat} (h : MapAt w b n D f) (e : ∀ k, k < 256 → f k = g k) : MapAt w b n D g := ⟨h.1, fun k hk => by rw [← e k hk]; exact h.2 k hk⟩
theorem MapAt.alloc {w : World} {b n : Nat} {D : DataW Unit} {f : Nat → Option Nat} (h : MapAt w b n D f) (o : Obj) : MapAt (w.alloc o) b n D f := h.kept (World.grownBy_alloc w o none) (by simp)
theorem MapAt.made (w : World) : MapAt (w.alloc (.map #[] 0)) w.heap.size 0 (.map []) (fun _ => none) :=
  ⟨World.ownsMap_made w _ _ _, fun _k _ => ⟨rfl, rfl⟩⟩

theorem key_ne {j k : Nat} (h : j ≠ k) : (Lit.int .u8 (j : Int)) ≠ .int .u8 (k : Int) := by
  intro e
  injection e with _ e
  omega

theorem grown_set (W : World) (P j : Nat) (u : Value) : W.grownBy (W.setCell ⟨P, j, none⟩ u) (some P) :=
  ⟨rfl, rfl, rfl, by simp, fun k _ hk => Below.heap_setCell W _ u k (fun e => hk (by rw [e]))⟩
theorem grown8 (W : World) (P : Nat) (v0 v1 v2 v3 v4 v5 v6 v7 : Value) :
    W.grownBy ((((((((W.setCell ⟨P, 0, none⟩ v0).setCell ⟨P, 1, none⟩ v1).setCell ⟨P, 2, none⟩ v2).setCell ⟨P, 3, none⟩ v3).setCell ⟨P, 4, none⟩ v4).setCell ⟨P, 5, none⟩ v5).setCell ⟨P, 6, none⟩ v6).setCell ⟨P, 7, none⟩ v7) (some P) :=
  (((((((grown_set W P 0 v0).andThen (grown_set _ P 1 v1) (fun _ e => .inr e)).andThen (grown_set _ P 2 v2) (fun _ e => .inr e)).andThen (grown_set _ P 3 v3) (fun _ e => .inr e)).andThen (grown_set _ P 4 v4) (fun _ e => .inr e)).andThen (grown_set _ P 5 v5) (fun _ e => .inr e)).andThen (grown_set _ P 6 v6) (fun _ e => .inr e)).andThen (grown_set _ P 7 v7) (fun _ e => .inr e)

/-- A store. -/
theorem MapAt.put {w : World} {b n : Nat} {D : DataW Unit} {f : Nat → Option Nat} (h : MapAt w b n D f) (hn : n < maxLen) {k c : Nat} (hk : k < 256) (hc : c < 256) :
    ∃ w', (Instr.mapUpdate 42 (.map (some b)) (.int .u8 k) (.int .u8 c)).run Tryd.prog w = .ok () w' ∧ MapAt w' b (n + 1) (D.put (.int .u8 k) (.lit (.int .u8 c))) (fun j => if j = k then some c else f j) ∧ w.grownBy w' (some b) := by
  obtain ⟨w', hrun, ho, hg⟩ := h.1.update keyed8 Tryd.underlying42 hn (keyOf_int_mk Tryd.underlying5 (q := .u8) (a := (k : Int)) (WalkArith.wf_u8 (by omega))) (plainElem_int Tryd.underlying5 (q := .u8) (a := (c : Int)) (WalkArith.wf_u8 (by omega)))
  refine ⟨w', hrun, ⟨ho, fun j hj => ?_⟩, hg⟩
  by_cases e : j = k
  · subst e
    simp only [↓reduceIte, Option.isSome_some, Option.getD_some]
    have hk1 : WideAt.IsKeyLit (Lit.int .u8 (j : Int)) := trivial
    exact ⟨has_put_same h.1.isMap hk1 _, atKey_put_same h.1.isMap hk1 _ _⟩
  · simp only [e, ↓reduceIte]
    rw [has_put_other (key_ne e), atKey_put_other (key_ne e)]
    exact h.2 j hj

theorem MapAt.lay {w : World} {b n : Nat} {D : DataW Unit} {f : Nat → Option Nat} (h : MapAt w b n D f) (hn : n < maxLen) (k c : Nat) (hk : k < 256) (hc : c < 256) (x y : Int) (hx : x = k) (hy : y = c) :
    ∃ w' D', (Instr.mapUpdate 42 (.map (some b)) (.int .u8 x) (.int .u8 y)).run Tryd.prog w = .ok () w' ∧ MapAt w' b (n + 1) D' (fun j => if j = k then some c else f j) ∧ w.grownBy w' (some b) := by
  subst hx hy
  obtain ⟨w', h1, h2, h3⟩ := h.put hn hk hc
  exact ⟨w', _, h1, h2, h3⟩

theorem behind_ahead (p : Sp) (hp : Is p) : ∀ k, k < 256 → (match behind p k with | some c => decide (c < 256) && (Qm.ahead p c == some k) | none => true) = true := by
  rcases hp with rfl | rfl <;> decide +kernel

/-- What has come over of a map turned about. -/
def gone (p : Sp) (left : Lit → Bool) (j : Nat) : Option Nat := match Qm.ahead p j with
  | some k => if left (.int .u8 (k : Int)) then none else some k
  | none => none

theorem gone_end (p : Sp) {left : Lit → Bool} (h : ∀ z, left z = false) (j : Nat) : gone p left j = Qm.ahead p j := by
  unfold gone
  cases Qm.ahead p j with
  | none => rfl
  | some k => simp [h]
theorem gone_start (p : Sp) (hp : Is p) {D : DataW Unit} (h : ∀ k : Nat, k < 256 → Maps.has D (.int .u8 k) = (behind p k).isSome) (j : Nat) (hj : j < 256) : gone p (Maps.has D) j = none := by
  unfold gone
  have ha := ahead_behind p hp j hj
  cases e : Qm.ahead p j with
  | none => rfl
  | some k =>
    rw [e] at ha
    simp at ha
    simp [h k ha.1, ha.2]
theorem gone_step (p : Sp) (hp : Is p) {left : Lit → Bool} {k c : Nat} (hk : k < 256) (h : behind p k = some c) (j : Nat) (hj : j < 256) :
    (if j = c then some k else gone p left j) = gone p (fun z => left z && !z.sameKey (.int .u8 (k : Int))) j := by
  have hb := behind_ahead p hp k hk
  rw [h] at hb
  simp at hb
  unfold gone
  by_cases e : j = c
  · subst e
    rw [if_pos rfl, hb.2]
    have h1 := WideAt.sameKey_self (a := Lit.int .u8 (k : Int)) trivial
    simp [h1]
  · rw [if_neg e]
    have ha := ahead_behind p hp j hj
    cases e2 : Qm.ahead p j with
    | none => rfl
    | some k2 =>
      rw [e2] at ha
      simp at ha
      have hne : k2 ≠ k := by
        intro e3
        subst e3
        rw [h] at ha
        exact e (Option.some.inj ha.2).symm
      have h1 := Maps.sameKey_ne (key_ne hne)
      simp [h1]

/-- What a spelling is made from: what is no sign itself, but for the backslash. -/
def woB (p : Sp) : ByteArray := if p.rng then ⟨#[93, 45, 94]⟩ else ⟨#[34]⟩
theorem wo_toNat (p : Sp) (hp : Is p) : (woB p ++ ⟨#[92]⟩).data.toList.map UInt8.toNat = p.wo := by
  rcases hp with rfl | rfl <;> rfl
theorem wo_size (p : Sp) : (woB p ++ ⟨#[92]⟩).size ≤ 4 := by
  unfold woB
  split <;> decide
theorem wo_has (p : Sp) (hp : Is p) (n : Nat) : ofT (woB p ++ ⟨#[92]⟩).data.toList n = p.wo.contains n := by
  rw [← wo_toNat p hp]
  unfold ofT
  generalize (woB p ++ ⟨#[92]⟩).data.toList = l
  rw [Bool.eq_iff_iff]
  simp
theorem plain_set (p : Sp) (hp : Is p) : setV (fun n => (decide (32 ≤ n) && decide (n ≤ 126)) && !ofT (woB p ++ ⟨#[92]⟩).data.toList n) = setV (plain p) := by
  refine setV_congr fun n _ => ?_
  rw [wo_has p hp]
  rfl

/-- What stands behind a backslash, the first ones of the own signs laid in. -/
def beh (l : List UInt8) (n : Nat) : Option Nat := if l.any (fun c => c.toNat == n) then some n else if n = 110 then some 10 else if n = 114 then some 13 else if n = 116 then some 9 else none
theorem beh_step (l : List UInt8) (c : UInt8) (j : Nat) : (if j = c.toNat then some c.toNat else beh l j) = beh (l ++ [c]) j := by
  unfold beh
  rw [List.any_append]
  by_cases e : j = c.toNat
  · subst e
    simp
  · have : (c.toNat == j) = false := by simp; omega
    simp [e, this]
theorem beh_all (p : Sp) (hp : Is p) (j : Nat) : beh (woB p ++ ⟨#[92]⟩).data.toList j = behind p j := by
  unfold beh behind
  have := wo_has p hp j
  unfold ofT at this
  rw [this]
theorem beh_none (j : Nat) : (if j = 116 then some 9 else if j = 114 then some 13 else if j = 110 then some 10 else none) = beh [] j := by
  unfold beh
  simp only [List.any_nil, Bool.false_eq_true, ↓reduceIte]
  by_cases e1 : j = 116
  · subst e1; rfl
  · by_cases e2 : j = 114
    · subst e2; rfl
    · by_cases e3 : j = 110
      · subst e3; rfl
      · simp [e1, e2, e3]

end Go.Proofs.YtkhokhmdiagckaaDoor

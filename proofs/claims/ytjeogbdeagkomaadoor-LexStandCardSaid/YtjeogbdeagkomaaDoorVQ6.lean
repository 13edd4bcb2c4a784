/- Package quote: a spelling is made: its two maps. -/
import Derived.Test.YtjeogbdeagkomaaDoorVQ2
import Derived.Test.YtjeogbdeagkomaaDoorVSw0
import Derived.Maps.RangeWalk
import Derived.Maps.Ext
import Derived.Test.YtjeogbdeagkomaaDoorVShs
import Derived.Test.YtjeogbdeagkomaaDoorVRunsM
namespace Go.Proofs.YtjeogbdeagkomaaDoor
open Go.RowKit Go.Maps Bset Qm

/-- A map of at most n bytes that holds just this, with the datum that it reads as. -/
def MapAt (w : World) (b n : Nat) (D : DataW Unit) (f : Nat → Option Nat) : Prop :=
  w.ownsMap (H := Unit) Tryd.prog 5 (plainElem Tryd.prog 5) b n D ∧ ∀ k : Nat, k < 256 → Maps.has D (.int .u8 k) = (f k).isSome ∧ D.atKey (.int .u8 k) (.lit (.int .u8 0)) = .lit (.int .u8 ((f k).getD 0 : Nat))

theorem MapAt.is {w : World} {b n : Nat} {D : DataW Unit} {f : Nat → Option Nat} (h : MapAt w b n D f) : MapIs w b f := ⟨n, D, h⟩
theorem MapAt.kept {w w' : World} {b n : Nat} {D : DataW Unit} {f : Nat → Option Nat} {row : Option Nat} (h : MapAt w b n D f) (hg : w.grownBy w' row) (hne : some b ≠ row) : MapAt w' b n D f := ⟨h.1.kept hg hne, h.2⟩
theorem MapAt.congr {w : World} {b n : Nat} {D : DataW Unit} {f g : Nat → Option Nat} (h : MapAt w b n D f) (e : ∀ k, k < 256 → f k = g k) : MapAt w b n D g := ⟨h.1, fun k hk => by rw [← e k hk]; exact h.2 k hk⟩
theorem MapAt.alloc {w : World} {b n : Nat} {D : DataW Unit} {f : Nat → Option Nat} (h : MapAt w b n D f) (o : Obj) : MapAt (w.alloc o) b n D f := h.kept (World.grownBy_alloc w o none) (by simp)
theorem MapAt.made (w : World) : MapAt (w.alloc (.map #[] 0)) w.heap.size 0 (.map []) (fun _ => none) :=
  ⟨World.ownsMap_made w _ _ _, fun _k _ => ⟨rfl, rfl⟩⟩

theorem key_ne {j k : Nat} (h : j ≠ k) : (Lit.int .u8 (j : Int)) ≠ .int .u8 (k : Int) := by
  intro e
  injection e with _ e
  omega

theorem grown_set (W : World) (P j : Nat) (u : Value) : W.grownBy (W.setCell ⟨P, j, none⟩ u) (some P) :=
  ⟨rfl, rfl, rfl, by simp, fun k _ hk => Below.heap_setCell W _ u k (fun e => hk (by rw [e]))⟩
theorem grown8 (W : World) (P : Nat) (v0 v1 v2 v3 v4 v5 v6 v7 : Value) :
    W.grownBy ((((((((W.setCell ⟨P, 0, none⟩ v0).setCell ⟨P, 1, none⟩ v1).setCell ⟨P, 2, none⟩ v2).setCell ⟨P, 3, none⟩ v3).setCell ⟨P, 4, none⟩ v4).setCell ⟨P, 5, none⟩ v5).setCell ⟨P, 6, none⟩ v6).setCell ⟨P, 7, none⟩ v7) (some P) :=
  (((((((grown_set W P 0 v0).andThen (grown_set _ P 1 v1) (fun _ e => .inr e)).andThen (grown_set _ P 2 v2) (fun _ e => .inr e)).andThen (grown_set _ P 3 v3) (fun _ e => .inr e)).andThen (grown_set _ P 4 v4) (fun _ e => .inr e)).andThen (grown_set _ P 5 v5) (fun _ e => .inr e)).andThen (grown_set _ P 6 v6) (fun _ e => .inr e)).andThen (grown_set _ P 7 v7) (fun _ e => .inr e)

/-- A store. -/
theorem MapAt.put {w : World} {b n : Nat} {D : DataW Unit} {f : Nat → Option Nat} (h : MapAt w b n D f) (hn : n < maxLen) {k c : Nat} (hk : k < 256) (hc : c < 256) :
    ∃ w', (Instr.mapUpdate 124 (.map (some b)) (.int .u8 k) (.int .u8 c)).run Tryd.prog w = .ok () w' ∧ MapAt w' b (n + 1) (D.put (.int .u8 k) (.lit (.int .u8 c))) (fun j => if j = k then some c else f j) ∧ w.grownBy w' (some b) := by
  obtain ⟨w', hrun, ho, hg⟩ := h.1.update keyed8 Tryd.underlying124 hn (keyOf_int_mk Tryd.underlying5 (q := .u8) (a := (k : Int)) (WalkArith.wf_u8 (by omega))) (plainElem_int Tryd.underlying5 (q := .u8) (a := (c : Int)) (WalkArith.wf_u8 (by omega)))
  refine ⟨w', hrun, ⟨ho, fun j hj => ?_⟩, hg⟩
  by_cases e : j = k
  · subst e
    simp only [↓reduceIte, Option.isSome_some, Option.getD_some]
    have hk1 : WideAt.IsKeyLit (Lit.int .u8 (j : Int)) := trivial
    exact ⟨has_put_same h.1.isMap hk1 _, atKey_put_same h.1.isMap hk1 _ _⟩
  · simp only [e, ↓reduceIte]
    rw [has_put_other (key_ne e), atKey_put_other (key_ne e)]
    exact h.2 j hj

theorem MapAt.lay {w : World} {b n : Nat} {D : DataW Unit} {f : Nat → Option Nat} (h : MapAt w b n D f) (hn : n < maxLen) (k c : Nat) (hk : k < 256) (hc : c < 256) (x y : Int) (hx : x = k) (hy : y = c) :
    ∃ w' D', (Instr.mapUpdate 124 (.map (some b)) (.int .u8 x) (.int .u8 y)).run Tryd.prog w = .ok () w' ∧ MapAt w' b (n + 1) D' (fun j => if j = k then some c else f j) ∧ w.grownBy w' (some b) := by
  subst hx hy
  obtain ⟨w', h1, h2, h3⟩ := h.put hn hk hc
  exact ⟨w', _, h1, h2, h3⟩

theorem behind_ahead (p : Sp) (hp : Is p) : ∀ k, k < 256 → (match behind p k with | some c => decide (c < 256) && (Qm.ahead p c == some k) | none => true) = true := by
  rcases hp with rfl | rfl <;> decide +kernel

/-- What has come over of a map turned about. -/
def gone (p : Sp) (left : Lit → Bool) (j : Nat) : Option Nat := match Qm.ahead p j with
  | some k => if left (.int .u8 (k : Int)) then none else some k
  | none => none

theorem gone_end (p : Sp) {left : Lit → Bool} (h : ∀ z, left z = false) (j : Nat) : gone p left j = Qm.ahead p j := by
  unfold gone
  cases Qm.ahead p j with
  | none => rfl
  | some k => simp [h]
theorem gone_start (p : Sp) (hp : Is p) {D : DataW Unit} (h : ∀ k : Nat, k < 256 → Maps.has D (.int .u8 k) = (behind p k).isSome) (j : Nat) (hj : j < 256) : gone p (Maps.has D) j = none := by
  unfold gone
  have ha := ahead_behind p hp j hj
  cases e : Qm.ahead p j with
  | none => rfl
  | some k =>
    rw [e] at ha
    simp at ha
    simp [h k ha.1, ha.2]
theorem gone_step (p : Sp) (hp : Is p) {left : Lit → Bool} {k c : Nat} (hk : k < 256) (h : behind p k = some c) (j : Nat) (hj : j < 256) :
    (if j = c then some k else gone p left j) = gone p (fun z => left z && !z.sameKey (.int .u8 (k : Int))) j := by
  have hb := behind_ahead p hp k hk
  rw [h] at hb
  simp at hb
  unfold gone
  by_cases e : j = c
  · subst e
    rw [if_pos rfl, hb.2]
    have h1 := WideAt.sameKey_self (a := Lit.int .u8 (k : Int)) trivial
    simp [h1]
  · rw [if_neg e]
    have ha := ahead_behind p hp j hj
    cases e2 : Qm.ahead p j with
    | none => rfl
    | some k2 =>
      rw [e2] at ha
      simp at ha
      have hne : k2 ≠ k := by
        intro e3
        subst e3
        rw [h] at ha
        exact e (Option.some.inj ha.2).symm
      have h1 := Maps.sameKey_ne (key_ne hne)
      simp [h1]

/-- What a spelling is made from: what is no sign itself, but for the backslash. -/
def woB (p : Sp) : ByteArray := if p.rng then ⟨#[93, 45, 94]⟩ else ⟨#[34]⟩
theorem wo_toNat (p : Sp) (hp : Is p) : (woB p ++ ⟨#[92]⟩).data.toList.map UInt8.toNat = p.wo := by
  rcases hp with rfl | rfl <;> rfl
theorem wo_size (p : Sp) : (woB p ++ ⟨#[92]⟩).size ≤ 4 := by
  unfold woB
  split <;> decide
theorem wo_has (p : Sp) (hp : Is p) (n : Nat) : ofT (woB p ++ ⟨#[92]⟩).data.toList n = p.wo.contains n := by
  rw [← wo_toNat p hp]
  unfold ofT
  generalize (woB p ++ ⟨#[92]⟩).data.toList = l
  rw [Bool.eq_iff_iff]
  simp
theorem plain_set (p : Sp) (hp : Is p) : setV (fun n => (decide (32 ≤ n) && decide (n ≤ 126)) && !ofT (woB p ++ ⟨#[92]⟩).data.toList n) = setV (plain p) := by
  refine setV_congr fun n _ => ?_
  rw [wo_has p hp]
  rfl

/-- What stands behind a backslash, the first ones of the own signs laid in. -/
def beh (l : List UInt8) (n : Nat) : Option Nat := if l.any (fun c => c.toNat == n) then some n else if n = 110 then some 10 else if n = 114 then some 13 else if n = 116 then some 9 else none
theorem beh_step (l : List UInt8) (c : UInt8) (j : Nat) : (if j = c.toNat then some c.toNat else beh l j) = beh (l ++ [c]) j := by
  unfold beh
  rw [List.any_append]
  by_cases e : j = c.toNat
  · subst e
    simp
  · have : (c.toNat == j) = false := by simp; omega
    simp [e, this]
theorem beh_all (p : Sp) (hp : Is p) (j : Nat) : beh (woB p ++ ⟨#[92]⟩).data.toList j = behind p j := by
  unfold beh behind
  have := wo_has p hp j
  unfold ofT at this
  rw [this]
theorem beh_none (j : Nat) : (if j = 116 then some 9 else if j = 114 then some 13 else if j = 110 then some 10 else none) = beh [] j := by
  unfold beh
  simp only [List.any_nil, Bool.false_eq_true, ↓reduceIte]
  by_cases e1 : j = 116
  · subst e1; rfl
  · by_cases e2 : j = 114
    · subst e2; rfl
    · by_cases e3 : j = 110
      · subst e3; rfl
      · simp [e1, e2, e3]

end Go.Proofs.YtjeogbdeagkomaaDoor

/- Package quote: a spelling is made, walked. -/
namespace Go.Proofs.YtjeogbdeagkomaaDoor
open Go.RowKit Go.Maps Bset Qm

theorem wo_room (p : Sp) : (woB p).size + 1 ≤ 9223372036854775807 := by
  unfold woB
  split <;> decide

abbrev spZ : Array Value := #[.int .u64 0, .int .u64 0, .int .u64 0, .int .u64 0, .map none, .map none, .bool false, .int .u8 0]
theorem Cl.grown {w w' : World} {g : Nat} {t : TypeId} {cs : Array Value} {row : Option Nat} (h : Cl w g t cs) (hg : w.grownBy w' row) (hne : some g ≠ row) : Cl w' g t cs := (hg.block g h.lt hne).trans h

set_option maxRecDepth 100000 in
set_option maxHeartbeats 4000000 in
theorem spell_any (p : Sp) (hp : Is p) (w : World) :
    Calls Tryd.prog 141 #[.string (woB p), .bool p.rng, .int .u8 (p.last : Nat)] w fun e w' => ∃ bb ba, e = .returned (spV p bb ba) ∧ Spell w' p bb ba ∧ Below w.heap.size w w' ∧ w.heap.size ≤ bb ∧ w.heap.size ≤ ba := by
  have hmm := @run_makeMap Tryd.prog
  obtain ⟨u, hu⟩ : ∃ u, u = woB p ++ ⟨#[92]⟩ := ⟨_, rfl⟩
  have hz : u.size ≤ 4 := by rw [hu]; exact wo_size p
  have hmi : ∀ w, Calls Tryd.prog 161 #[setV fun m => decide (32 ≤ m) && decide (m ≤ 126), setV (ofT u.data.toList)] w fun e w' => e = .returned (setV (plain p)) ∧ Below w.heap.size w w' := fun w => by
    rw [← plain_set p hp, ← hu]
    exact minus_any _ _ w
  have hcat := wo_room p
  have HU := Lib.hid hu
  have hsz : u.size ≤ maxLen := by unfold maxLen; omega
  have HSZ := Lib.hid hsz
  have HZ := Lib.hid hz
  have HMI := Lib.hid hmi
  clear hu hmi hsz hz
  go_enter Tryd.func141, Tryd.ntmps141
  go_wp2_with fail
  rw [← HU.out]
  clear hcat
  go_wp2_with (first
    | (go_at_call 162; refine (range_any 32 126 (by decide) (by decide) _).mono ?_; rintro e w1 ⟨rfl, hb1⟩)
    | (go_at_call 163; refine (of_any u HSZ.out _).mono ?_; rintro e w2 ⟨rfl, hb2⟩)
    | (go_at_call 161; refine (HMI.out _).mono ?_; rintro e w3 ⟨rfl, hb3⟩; have m0 := MapAt.made w3; obtain ⟨v1, D1, e1, m1, g1⟩ := m0.lay (by decide) 110 10 (by decide) (by decide) 110 10 rfl rfl; obtain ⟨v2, D2, e2, m2, g2⟩ := m1.lay (by decide) 114 13 (by decide) (by decide) 114 13 rfl rfl; obtain ⟨v3, D3, e3, m3, g3⟩ := m2.lay (by decide) 116 9 (by decide) (by decide) 116 9 rfl rfl))
  obtain ⟨bb, hbb⟩ : ∃ bb, bb = w3.heap.size := ⟨_, rfl⟩
  obtain ⟨ba, hba⟩ : ∃ ba, ba = v3.heap.size := ⟨_, rfl⟩
  obtain ⟨W4, hW4⟩ : ∃ W4, (v3.alloc (.map #[] 0)).alloc (.cells (spC p bb ba) 126) = W4 := ⟨_, rfl⟩
  have hs3 : w3.heap.size + 1 = (w3.alloc (.map #[] 0)).heap.size := by simp
  have hB3 : Below w.heap.size w w3 := (((Below.refl _ w).alloc (Nat.le_refl _) _).trans (hb1.mono (by simp))).trans (hb2.mono (by have := hb1.size; simp at this; omega)) |>.trans (hb3.mono (by have := hb1.size; have := hb2.size; simp at *; omega))
  have z3 : Cl w3 w.heap.size 126 spZ := (((Cl.new w _ _).below hb1 (by simp)).below hb2 (by have := hb1.size; simp at this; omega)).below hb3 (by have := hb1.size; have := hb2.size; simp at *; omega)
  have hlt : w.heap.size < bb := by rw [hbb]; exact z3.lt
  have hv : bb < ba := by rw [hba, hbb]; exact Nat.lt_of_lt_of_le (by simp) (Nat.le_trans g1.size (Nat.le_trans g2.size g3.size))
  have gA : (w3.alloc (.map #[] 0)).grownBy v3 (some bb) := by rw [hbb]; exact (g1.andThen g2 (fun j e => .inr e)).andThen g3 (fun j e => .inr e)
  have hBv : Below w.heap.size w v3 := (hB3.alloc hB3.size _).grown gA (by have := hB3.size; simp; omega) (fun k e => by cases e; omega)
  have zv : Cl v3 w.heap.size 126 spZ := (z3.alloc _).grown gA (fun e => by have := Option.some.inj e; omega)
  have gL : v3.grownBy W4 none := by rw [← hW4]; exact (World.grownBy_alloc _ _ none).andThen (World.grownBy_alloc _ _ none) (fun j e => by cases e)
  have mB : ∃ D, MapAt W4 bb (3 + 0) D (beh (u.data.toList.take 0)) := ⟨D3, by
    rw [← hbb] at m3
    exact (m3.kept gL (by simp)).congr (fun j _ => beh_none j)⟩
  have mA : MapAt W4 ba 0 (.map []) (fun _ => none) := by
    rw [← hW4, hba]
    exact (MapAt.made v3).alloc _
  have qS : Cl W4 (ba + 1) 126 (spC p bb ba) := by
    rw [← hW4]
    exact Cl.new' (by rw [hba]; simp) _ _
  have qZ : Cl W4 w.heap.size 126 spZ := zv.grown gL (by simp)
  have hB4 : Below w.heap.size w W4 := hBv.grown gL hBv.size (fun k e => by cases e)
  rw [← hbb, ← hba, hW4]
  have hle : w.heap.size < ba := by omega
  clear e1 e2 e3 m0 m1 m2 m3 g1 g2 g3 gA gL zv hBv z3 hB3 hs3 hb1 hb2 hb3 hbb hba hW4
  have hz := HZ.out
  go_loopw [25] (fun v wr => ∃ k : Nat, v = .int .i64 k ∧ k ≤ u.size ∧ (∃ D, MapAt wr bb (3 + k) D (beh (u.data.toList.take k))) ∧ MapAt wr ba 0 (.map []) (fun _ => none) ∧ Cl wr (ba + 1) 126 (spC p bb ba) ∧ Cl wr w.heap.size 126 spZ ∧ Below w.heap.size w wr)
    (fun v _ => u.size - (intOf v).toNat)
  case atStart => exact ⟨0, rfl, Nat.zero_le _, mB, mA, qS, qZ, hB4⟩
  case round =>
    clear mB mA qS qZ hB4
    obtain ⟨k, rfl, hk, ⟨D, mB⟩, mA, qS, qZ, hB⟩ := hrel
    by_cases hlt2 : k < u.size
    · have c4 := qS.cell 4
      have hu8 := u[k].toNat_lt
      obtain ⟨wn, Dn, en, mn, gn⟩ := MapAt.lay (w := wr.drew) mB (by unfold maxLen; omega) u[k].toNat u[k].toNat hu8 hu8 _ _ rfl rfl
      have hst : beh (u.data.toList.take (k + 1)) = fun j => if j = u[k].toNat then some u[k].toNat else beh (u.data.toList.take k) j := by
        funext j
        rw [beh_step, take_snoc u k hlt2]
      have n0 : (0 : Int) ≤ (k : Int) := by omega
      have n1 : (k : Int) < (u.size : Int) := by omega
      have HST := Lib.hid hst
      have HMN := Lib.hid mn
      clear hst mn
      go_wp2
      go_region
      all_goals
        go_wp2
        go_roundw
        case rel =>
          refine ⟨k + 1, by go_num, by omega, ⟨Dn, ?_⟩, MapAt.kept (w := wr.drew) mA gn (fun e => by have := Option.some.inj e; omega), Cl.grown (w := wr.drew) qS gn (fun e => by have := Option.some.inj e; omega), Cl.grown (w := wr.drew) qZ gn (fun e => by have := Option.some.inj e; omega), hB.drew.grown gn hB.size (fun k e => by cases e; omega)⟩
          rw [HST.out]
          exact HMN.out
        case measure => simp [intOf]; omega
    · obtain rfl : k = u.size := by omega
      have hall : u.data.toList.take u.size = u.data.toList := List.take_of_length_le (by simp)
      rw [hall] at mB
      have hbe : ∀ j, beh u.data.toList j = behind p j := fun j => by rw [HU.out]; exact beh_all p hp j
      have hD : ∀ j : Nat, j < 256 → Maps.has D (.int .u8 j) = (behind p j).isSome ∧ D.atKey (.int .u8 j) (.lit (.int .u8 0)) = .lit (.int .u8 ((behind p j).getD 0 : Nat)) := fun j hj => by
        rw [← hbe j]
        exact mB.2 j hj
      have hown := mB.1
      have hsize := hown.size_le
      have c4 := qS.cell 4
      have HD := Lib.hid hD
      have HOWN := Lib.hid hown
      clear hall mB hbe hD hown hlt2
      go_wp2_with (at_range; refine wpList_range_own _ rfl _ 124 rfl 5 5 keyed8 Tryd.underlying124 _ bb (3 + u.size) D rfl HOWN.out ?_; intro w0 hrg0 hg0 hs0)
      go_frame
      obtain ⟨r, hr⟩ : ∃ r, r = wr.heap.size := ⟨_, rfl⟩
      have hrb : ba + 1 < r := by rw [hr]; exact qS.lt
      rw [← hr] at hrg0 ⊢
      have mA0 := MapAt.kept mA hg0 (by simp)
      have qS0 := qS.grown hg0 (by simp)
      have qZ0 := qZ.grown hg0 (by simp)
      have hB0 := hB.grown hg0 hB.size (fun k e => by cases e)
      have hstart : MapAt w0 ba 0 (.map []) (gone p (Maps.has D)) := mA0.congr (fun j hj => (gone_start p hp (fun k hk => (HD.out k hk).1) j hj).symm)
      clear hg0 hs0 mA qS qZ hB mA0 c4 hr
      go_loopw [9] (fun _ wq => ∃ (left : Lit → Bool) (cnt m : Nat) (Da : DataW Unit), wq.ranges Tryd.prog 5 (plainElem Tryd.prog 5) bb r (3 + u.size) D left cnt ∧ m + cnt ≤ 20 ∧ MapAt wq ba m Da (gone p left) ∧ Cl wq (ba + 1) 126 (spC p bb ba) ∧ Cl wq w.heap.size 126 spZ ∧ Below w.heap.size w wq)
        (fun _ wq => wq.rangeLeft bb r)
      case atStart => exact ⟨_, _, 0, _, hrg0, by omega, hstart, qS0, qZ0, hB0⟩
      case round =>
        clear hrg0 qS0 qZ0 hB0 hstart
        obtain ⟨left, cnt, m, Da, hrg, hm, mA, qS, qZ, hB⟩ := hrel
        go_wp2_with (at_next; refine wpList_next_ranges_ii _ rfl _ rfl 5 5 .u8 .u8 keyed8 Tryd.underlying5 Tryd.underlying5 bb r (3 + u.size) _ _ _ rfl hrg ?_ ?_)
        · intro hc0 hl0
          have c0 := qS.cell 0
          have c1 := qS.cell 1
          have c2 := qS.cell 2
          have c3 := qS.cell 3
          have c4 := qS.cell 4
          have c5 := qS.cell 5
          have c6 := qS.cell 6
          have c7 := qS.cell 7
          have d0 := qZ.cell 0
          have d1 := qZ.cell 1
          have d2 := qZ.cell 2
          have d3 := qZ.cell 3
          have d4 := qZ.cell 4
          have d5 := qZ.cell 5
          have d6 := qZ.cell 6
          have d7 := qZ.cell 7
          have f0 := qZ.free 0
          have f1 := qZ.free 1
          have f2 := qZ.free 2
          have f3 := qZ.free 3
          have f4 := qZ.free 4
          have f5 := qZ.free 5
          have f6 := qZ.free 6
          have f7 := qZ.free 7
          go_wp2
          have g8 := grown8 wr w.heap.size (.int .u64 (word (plain p) 0 : Nat)) (.int .u64 (word (plain p) 1 : Nat)) (.int .u64 (word (plain p) 2 : Nat)) (.int .u64 (word (plain p) 3 : Nat)) (.map (some bb)) (.map (some ba)) (.bool p.rng) (.int .u8 (p.last : Nat))
          have hbI : MapIs wr bb (behind p) := ⟨3 + u.size, D, hrg.owns, HD.out⟩
          have haI : MapIs wr ba (Qm.ahead p) := (mA.congr (fun j _ => gone_end p hl0 j)).is
          have hbJ := hbI.kept g8 (fun e => by have := Option.some.inj e; omega)
          have haJ := haI.kept g8 (fun e => by have := Option.some.inj e; omega)
          have hBJ := hB.grown g8 hB.size (fun k e => by cases e; exact Nat.le_refl _)
          have qJ := (((((((qZ.put 0 (.int .u64 (word (plain p) 0 : Nat))).put 1 (.int .u64 (word (plain p) 1 : Nat))).put 2 (.int .u64 (word (plain p) 2 : Nat))).put 3 (.int .u64 (word (plain p) 3 : Nat))).put 4 (.map (some bb))).put 5 (.map (some ba))).put 6 (.bool p.rng)).put 7 (.int .u8 (p.last : Nat))
          generalize ((((((((wr.setCell ⟨w.heap.size, 0, none⟩ (.int .u64 (word (plain p) 0 : Nat))).setCell ⟨w.heap.size, 1, none⟩ (.int .u64 (word (plain p) 1 : Nat))).setCell ⟨w.heap.size, 2, none⟩ (.int .u64 (word (plain p) 2 : Nat))).setCell ⟨w.heap.size, 3, none⟩ (.int .u64 (word (plain p) 3 : Nat))).setCell ⟨w.heap.size, 4, none⟩ (.map (some bb))).setCell ⟨w.heap.size, 5, none⟩ (.map (some ba))).setCell ⟨w.heap.size, 6, none⟩ (.bool p.rng)).setCell ⟨w.heap.size, 7, none⟩ (.int .u8 (p.last : Nat))) = Wf at hbJ haJ hBJ qJ ⊢
          have k0 := qJ.cell 0
          have k1 := qJ.cell 1
          have k2 := qJ.cell 2
          have k3 := qJ.cell 3
          have k4 := qJ.cell 4
          have k5 := qJ.cell 5
          have k6 := qJ.cell 6
          have k7 := qJ.cell 7
          exact bodyPost_ret (v := spV p bb ba) (by simp [results, Tryd.results141, go_sem, k0, k1, k2, k3, k4, k5, k6, k7]) rfl ⟨bb, ba, rfl, ⟨hp, hbJ, haJ⟩, hBJ, by omega, by omega⟩
        · intro x c w1 cnt1 hwx hwc hlx hat hrg1 hlt hg1 hs1 hen
          have hx8 : 0 ≤ x ∧ x ≤ 255 := by
            have h := hwx
            unfold Lit.wf at h
            rw [Bool.and_eq_true, decide_eq_true_eq, decide_eq_true_eq] at h
            exact h
          obtain ⟨xn, hxn⟩ : ∃ xn : Nat, x = xn := ⟨x.toNat, by omega⟩
          have hx256 : xn < 256 := by omega
          obtain ⟨q1, q2⟩ := HD.out xn hx256
          have hh := Maps.has_true_of_atKey hat
          have ha := hat (.lit (.int .u8 0))
          rw [hxn] at hh ha
          rw [q1] at hh
          rw [q2] at ha
          obtain ⟨cn, hcn⟩ := Option.isSome_iff_exists.1 hh
          rw [hcn] at ha
          have hcc : c = cn := by
            simp at ha
            exact ha.symm
          have hc256 : cn < 256 := by
            have := behind_sign p hp xn hx256
            rw [hcn] at this
            simp at this
            exact this.1
          have mA1 := mA.kept hg1 (fun e => by have := Option.some.inj e; omega)
          have qS1 := qS.grown hg1 (fun e => by have := Option.some.inj e; omega)
          have qZ1 := qZ.grown hg1 (fun e => by have := Option.some.inj e; omega)
          have hB1 := hB.grown hg1 hB.size (fun k e => by cases e; omega)
          obtain ⟨wn, Dn, en, mn, gn⟩ := mA1.lay (by unfold maxLen; omega) cn xn hc256 hx256 c x hcc hxn
          have c5 := qS1.cell 5
          have hstep : MapAt wn ba (m + 1) Dn (gone p (fun z => left z && !z.sameKey (.int .u8 x))) := by
            rw [hxn]
            exact mn.congr (fun j hj => gone_step p hp hx256 hcn j hj)
          have HST := Lib.hid hstep
          have hl1 := hrg1.left_eq
          have hl2 := hrg.left_eq
          have hrgn := hrg1.kept gn (fun e => by have := Option.some.inj e; omega) (fun e => by have := Option.some.inj e; omega)
          have HM : wn.rangeLeft bb r < wr.rangeLeft bb r := by rw [hrgn.left_eq, hl2]; exact hlt
          have HMM := Lib.hid HM
          have HRG := Lib.hid hrgn
          have qSn := qS1.grown gn (fun e => by have := Option.some.inj e; omega)
          have qZn := qZ1.grown gn (fun e => by have := Option.some.inj e; omega)
          have hBn := hB1.grown gn hB1.size (fun k e => by cases e; omega)
          have hmn : m + 1 + cnt1 ≤ 20 := by omega
          clear hx8 hxn hx256 q1 q2 hh ha hcn hcc hc256 hstep hl1 hl2 hrgn HM hat mA hrg hlt
          go_wp2
          go_roundw
          case rel => exact ⟨_, cnt1, m + 1, Dn, HRG.out, hmn, HST.out, qSn, qZn, hBn⟩
          case measure => exact HMM.out
end Go.Proofs.YtjeogbdeagkomaaDoor

/- Package quote: the two spellings; a literal. -/
namespace Go.Proofs.YtjeogbdeagkomaaDoor
open Go.RowKit Go.Maps Bset Qm

theorem spell_lit (w : World) : Calls Tryd.prog 141 #[.string ⟨#[34]⟩, .bool false, .int .u8 34] w fun e w' => ∃ bb ba, e = .returned (spV lit bb ba) ∧ Spell w' lit bb ba ∧ Below w.heap.size w w' ∧ w.heap.size ≤ bb ∧ w.heap.size ≤ ba :=
  spell_any lit (.inl rfl) w
theorem spell_cls (w : World) : Calls Tryd.prog 141 #[.string ⟨#[93, 45, 94]⟩, .bool true, .int .u8 93] w fun e w' => ∃ bb ba, e = .returned (spV cls bb ba) ∧ Spell w' cls bb ba ∧ Below w.heap.size w w' ∧ w.heap.size ≤ bb ∧ w.heap.size ≤ ba :=
  spell_any cls (.inr rfl) w

theorem put8 (w : World) (g : Nat) (t : TypeId) (u0 u1 u2 u3 u4 u5 u6 u7 v0 v1 v2 v3 v4 v5 v6 v7 : Value) (q : Cl w g t #[u0, u1, u2, u3, u4, u5, u6, u7]) :
    Cl ((((((((w.setCell ⟨g, 0, none⟩ v0).setCell ⟨g, 1, none⟩ v1).setCell ⟨g, 2, none⟩ v2).setCell ⟨g, 3, none⟩ v3).setCell ⟨g, 4, none⟩ v4).setCell ⟨g, 5, none⟩ v5).setCell ⟨g, 6, none⟩ v6).setCell ⟨g, 7, none⟩ v7) g t #[v0, v1, v2, v3, v4, v5, v6, v7] := by
  have h := (((((((q.put 0 v0).put 1 v1).put 2 v2).put 3 v3).put 4 v4).put 5 v5).put 6 v6).put 7 v7
  simp only [List.setIfInBounds_toArray, List.set_cons_succ, List.set_cons_zero] at h
  exact h

/-- A spelling is stored into a block that the call has laid. -/
theorem spell_stored {w w1 : World} {p : Sp} {bb ba : Nat} (hb1 : Below (w.heap.size + 1) (w.alloc (.cells spZ 126)) w1) (hS : Spell w1 p bb ba) (hlb : w.heap.size + 1 ≤ bb) (hla : w.heap.size + 1 ≤ ba) :
    ∀ Wf, ((((((((w1.setCell ⟨w.heap.size, 0, none⟩ (.int .u64 (word (plain p) 0 : Nat))).setCell ⟨w.heap.size, 1, none⟩ (.int .u64 (word (plain p) 1 : Nat))).setCell ⟨w.heap.size, 2, none⟩ (.int .u64 (word (plain p) 2 : Nat))).setCell ⟨w.heap.size, 3, none⟩ (.int .u64 (word (plain p) 3 : Nat))).setCell ⟨w.heap.size, 4, none⟩ (.map (some bb))).setCell ⟨w.heap.size, 5, none⟩ (.map (some ba))).setCell ⟨w.heap.size, 6, none⟩ (.bool p.rng)).setCell ⟨w.heap.size, 7, none⟩ (.int .u8 (p.last : Nat))) = Wf →
      Cl Wf w.heap.size 126 (spC p bb ba) ∧ Spell Wf p bb ba ∧ Below w.heap.size w Wf := by
  intro Wf hWf
  have q : Cl w1 w.heap.size 126 spZ := (Cl.new w _ _).below hb1 (by omega)
  have g := grown8 w1 w.heap.size (.int .u64 (word (plain p) 0 : Nat)) (.int .u64 (word (plain p) 1 : Nat)) (.int .u64 (word (plain p) 2 : Nat)) (.int .u64 (word (plain p) 3 : Nat)) (.map (some bb)) (.map (some ba)) (.bool p.rng) (.int .u8 (p.last : Nat))
  have q8 := put8 w1 w.heap.size _ _ _ _ _ _ _ _ _ (.int .u64 (word (plain p) 0 : Nat)) (.int .u64 (word (plain p) 1 : Nat)) (.int .u64 (word (plain p) 2 : Nat)) (.int .u64 (word (plain p) 3 : Nat)) (.map (some bb)) (.map (some ba)) (.bool p.rng) (.int .u8 (p.last : Nat)) q
  rw [hWf] at g q8
  have hs : w.heap.size + 1 ≤ w1.heap.size := by have := hb1.size; simp at this; exact this
  exact ⟨q8, ⟨hS.isp, hS.beh.kept g (fun e => by have := Option.some.inj e; omega), hS.ahd.kept g (fun e => by have := Option.some.inj e; omega)⟩,
    (((Below.refl _ w).alloc (Nat.le_refl _) _).trans (hb1.mono (by omega))).grown g (by omega) (fun k e => by cases e; exact Nat.le_refl _)⟩

set_option maxRecDepth 100000 in
set_option maxHeartbeats 2000000 in
theorem literals_any (w : World) : Calls Tryd.prog 119 #[] w fun e w' => ∃ bb ba, e = .returned (spV lit bb ba) ∧ Spell w' lit bb ba ∧ Below w.heap.size w w' := by
  go_enter Tryd.func119, Tryd.ntmps119
  go_wp2_with (go_at_call 141; refine (spell_lit _).mono ?_; rintro e w1 ⟨bb, ba, rfl, hS, hb1, hlb, hla⟩; have qZ := (Cl.new w 126 spZ).below hb1 (by simp); have d0 := qZ.cell 0; have d1 := qZ.cell 1; have d2 := qZ.cell 2; have d3 := qZ.cell 3; have d4 := qZ.cell 4; have d5 := qZ.cell 5; have d6 := qZ.cell 6; have d7 := qZ.cell 7; have f0 := qZ.free 0; have f1 := qZ.free 1; have f2 := qZ.free 2; have f3 := qZ.free 3; have f4 := qZ.free 4; have f5 := qZ.free 5; have f6 := qZ.free 6; have f7 := qZ.free 7)
  obtain ⟨Wf, hWf⟩ : ∃ Wf, ((((((((w1.setCell ⟨w.heap.size, 0, none⟩ (.int .u64 (word (plain lit) 0 : Nat))).setCell ⟨w.heap.size, 1, none⟩ (.int .u64 (word (plain lit) 1 : Nat))).setCell ⟨w.heap.size, 2, none⟩ (.int .u64 (word (plain lit) 2 : Nat))).setCell ⟨w.heap.size, 3, none⟩ (.int .u64 (word (plain lit) 3 : Nat))).setCell ⟨w.heap.size, 4, none⟩ (.map (some bb))).setCell ⟨w.heap.size, 5, none⟩ (.map (some ba))).setCell ⟨w.heap.size, 6, none⟩ (.bool lit.rng)).setCell ⟨w.heap.size, 7, none⟩ (.int .u8 (lit.last : Nat))) = Wf := ⟨_, rfl⟩
  obtain ⟨q, s1, b1⟩ := spell_stored (by simpa using hb1) hS (by simpa using hlb) (by simpa using hla) Wf hWf
  rw [hWf]
  have k0 := q.cell 0
  have k1 := q.cell 1
  have k2 := q.cell 2
  have k3 := q.cell 3
  have k4 := q.cell 4
  have k5 := q.cell 5
  have k6 := q.cell 6
  have k7 := q.cell 7
  clear hWf
  exact bodyPost_ret (v := spV lit bb ba) (by simp [results, Tryd.results119, go_sem, k0, k1, k2, k3, k4, k5, k6, k7]) rfl ⟨bb, ba, rfl, s1, b1⟩

set_option maxRecDepth 100000 in
set_option maxHeartbeats 2000000 in
theorem classes_all (w : World) : Calls Tryd.prog 122 #[] w fun e w' => ∃ bb ba, e = .returned (spV cls bb ba) ∧ Spell w' cls bb ba ∧ Below w.heap.size w w' ∧ w.heap.size ≤ bb ∧ w.heap.size ≤ ba := by
  go_enter Tryd.func122, Tryd.ntmps122
  go_wp2_with (go_at_call 141; refine (spell_cls _).mono ?_; rintro e w1 ⟨bb, ba, rfl, hS, hb1, hlb, hla⟩; have qZ := (Cl.new w 126 spZ).below hb1 (by simp); have d0 := qZ.cell 0; have d1 := qZ.cell 1; have d2 := qZ.cell 2; have d3 := qZ.cell 3; have d4 := qZ.cell 4; have d5 := qZ.cell 5; have d6 := qZ.cell 6; have d7 := qZ.cell 7; have f0 := qZ.free 0; have f1 := qZ.free 1; have f2 := qZ.free 2; have f3 := qZ.free 3; have f4 := qZ.free 4; have f5 := qZ.free 5; have f6 := qZ.free 6; have f7 := qZ.free 7)
  obtain ⟨Wf, hWf⟩ : ∃ Wf, ((((((((w1.setCell ⟨w.heap.size, 0, none⟩ (.int .u64 (word (plain cls) 0 : Nat))).setCell ⟨w.heap.size, 1, none⟩ (.int .u64 (word (plain cls) 1 : Nat))).setCell ⟨w.heap.size, 2, none⟩ (.int .u64 (word (plain cls) 2 : Nat))).setCell ⟨w.heap.size, 3, none⟩ (.int .u64 (word (plain cls) 3 : Nat))).setCell ⟨w.heap.size, 4, none⟩ (.map (some bb))).setCell ⟨w.heap.size, 5, none⟩ (.map (some ba))).setCell ⟨w.heap.size, 6, none⟩ (.bool cls.rng)).setCell ⟨w.heap.size, 7, none⟩ (.int .u8 (cls.last : Nat))) = Wf := ⟨_, rfl⟩
  obtain ⟨q, s1, b1⟩ := spell_stored (by simpa using hb1) hS (by simpa using hlb) (by simpa using hla) Wf hWf
  rw [hWf]
  have k0 := q.cell 0
  have k1 := q.cell 1
  have k2 := q.cell 2
  have k3 := q.cell 3
  have k4 := q.cell 4
  have k5 := q.cell 5
  have k6 := q.cell 6
  have k7 := q.cell 7
  clear hWf
  exact bodyPost_ret (v := spV cls bb ba) (by simp [results, Tryd.results122, go_sem, k0, k1, k2, k3, k4, k5, k6, k7]) rfl ⟨bb, ba, rfl, s1, b1, by simp at hlb; omega, by simp at hla; omega⟩
theorem classes_any (w : World) : Calls Tryd.prog 122 #[] w fun e w' => ∃ bb ba, e = .returned (spV cls bb ba) ∧ Spell w' cls bb ba ∧ Below w.heap.size w w' :=
  (classes_all w).mono fun _ _ ⟨bb, ba, h1, h2, h3, _⟩ => ⟨bb, ba, h1, h2, h3⟩
end Go.Proofs.YtjeogbdeagkomaaDoor

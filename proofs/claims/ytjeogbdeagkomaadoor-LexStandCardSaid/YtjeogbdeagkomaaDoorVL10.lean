/- Package lex: the map of readers. -/
import Derived.Test.YtjeogbdeagkomaaDoorVL8
import Derived.Test.YtjeogbdeagkomaaDoorVLf
import Derived.Deep.CutBlock
namespace Go.Proofs.YtjeogbdeagkomaaDoor
open Go.RowKit Go.Maps Nm Bset Lm

/-- The kind of a sign by its first byte; and its byte. -/
def sk (b : Nat) : Nat := if b = 60 then 11 else signK b
def sb (k : Nat) : Nat := ((sgn k).headD 0).toNat
theorem sb_sk : ∀ b, b < 256 → sk b ≠ 0 → sb (sk b) = b ∧ 3 ≤ sk b ∧ sk b ≤ 13 := by decide +kernel
theorem sk_sb : ∀ k, k < 14 → 3 ≤ k → sk (sb k) = k ∧ sb k < 256 ∧ sgn k = [UInt8.ofNat (sb k)] := by decide +kernel

abbrev namedF : Fx := (150, none)
abbrev lessF : Fx := (152, none)
abbrev signF (b : Nat) : Fx := (171, some b)
def fn0 (j : Nat) : Option Fx :=
  if j = 91 then some (149, none) else if j = 34 then some (148, none)
  else if j = 123 then some (147, none) else if j = 46 then some (146, none) else none
def fn1 (n j : Nat) : Option Fx := if j < n ∧ isLet j = true then some namedF else fn0 j
def fn2 (k : Nat) (box : Nat → Nat) (j : Nat) : Option Fx := if 3 ≤ sk j ∧ sk j < k then some (signF (box (sk j))) else fn1 256 j
def fnR (box : Nat → Nat) (j : Nat) : Option Fx := if j = 60 then some lessF else fn2 14 box j

theorem fn1_zero (j : Nat) : fn1 0 j = fn0 j := by unfold fn1; rw [if_neg (by omega)]
theorem fn1_yes (n j : Nat) (h : isLet n = true) : (if j = n then some namedF else fn1 n j) = fn1 (n + 1) j := by
  unfold fn1
  by_cases e : j = n
  · subst e
    rw [if_pos rfl, if_pos ⟨by omega, h⟩]
  · rw [if_neg e]
    by_cases h2 : j < n ∧ isLet j = true
    · rw [if_pos h2, if_pos ⟨by omega, h2.2⟩]
    · rw [if_neg h2, if_neg (fun h3 => h2 ⟨by omega, h3.2⟩)]
theorem fn1_no (n j : Nat) (h : isLet n = false) : fn1 n j = fn1 (n + 1) j := by
  unfold fn1
  by_cases h2 : j < n ∧ isLet j = true
  · rw [if_pos h2, if_pos ⟨by omega, h2.2⟩]
  · rw [if_neg h2, if_neg]
    rintro ⟨h3, h4⟩
    by_cases e : j = n
    · subst e
      rw [h] at h4
      cases h4
    · exact h2 ⟨by omega, h4⟩
theorem fn2_start (box : Nat → Nat) (j : Nat) : fn2 3 box j = fn1 256 j := by unfold fn2; rw [if_neg (by omega)]
theorem fn2_step (k : Nat) (h3 : 3 ≤ k) (h13 : k < 14) (box : Nat → Nat) (P j : Nat) (hj : j < 256) : (if j = sb k then some (signF P) else fn2 k box j) = fn2 (k + 1) (fun i => if i = k then P else box i) j := by
  obtain ⟨e1, e2, _⟩ := sk_sb k h13 h3
  unfold fn2
  by_cases e : j = sb k
  · subst e
    rw [if_pos rfl, if_pos ⟨by omega, by omega⟩]
    simp [e1]
  · rw [if_neg e]
    have hne : sk j ≠ k := fun h => e (by rw [← (sb_sk j hj (by omega)).1, h])
    by_cases h : 3 ≤ sk j ∧ sk j < k
    · rw [if_pos h, if_pos ⟨h.1, by omega⟩]
      simp [hne]
    · rw [if_neg h, if_neg (fun h' => h ⟨h'.1, by omega⟩)]

/-- The closures' boxes. -/
def Boxes (w : World) (B n : Nat) (box : Nat → Nat) : Prop := ∀ k : Nat, 3 ≤ k → k < n → B ≤ box k ∧ Cl w (box k) 5 #[.int .u8 k]

theorem Boxes.grown {w w' : World} {B n : Nat} {box : Nat → Nat} {P : Nat} (h : Boxes w B n box) (hg : w.grownBy w' (some P)) (hP : ∀ k, 3 ≤ k → k < n → box k ≠ P) : Boxes w' B n box :=
  fun k h3 hn => ⟨(h k h3 hn).1, (h k h3 hn).2.grown hg (fun e => hP k h3 hn (by cases e; rfl))⟩

theorem signs_below {n₀ : Nat} {w w' : World} (h : SignsIn w) (hb : Below n₀ w w') (hg : 1 < n₀) : SignsIn w' :=
  fun j hj => (hb.cell (p := ⟨1, j, none⟩) hg).trans (h j hj)

structure Ends (w : World) (b : Nat) (box : Nat → Nat) (w' : World) : Prop where
  p1 : FnsIs w' b (fnR box)
  p2 : Boxes w' w.heap.size 14 box
  p3 : w.heap.size ≤ b
  p4 : Below w.heap.size w w'

theorem idx_one (b : Nat) (hb : b < 256) (W : World) : (Instr.index 9 (.string ⟨#[UInt8.ofNat b]⟩) (.int .i64 0)).run Tryd.prog W = .ok (.int .u8 b) W := by
  obtain ⟨s, hs⟩ : ∃ s : ByteArray, s = ⟨#[UInt8.ofNat b]⟩ := ⟨_, rfl⟩
  have h1 : 0 < s.size := by rw [hs]; exact Nat.lt_of_lt_of_le Nat.zero_lt_one (Nat.le_of_eq rfl)
  have e : (s[0]).toNat = b := by
    subst hs
    show (UInt8.ofNat b).toNat = b
    simp
    omega
  rw [← hs]
  have h0 : (0 : Int) < (s.size : Int) := by omega
  have : ((s[0]).toNat : Int) = (b : Int) := by rw [e]
  rw [← this]
  go_simp

set_option maxRecDepth 100000 in
set_option maxHeartbeats 4000000 in
theorem readers_any (w : World) (hS : SignsIn w) :
    Calls Tryd.prog 126 #[] w fun e w' => ∃ b box, e = .returned (.map (some b)) ∧ Ends w b box w' := by
  have hmm := @run_makeMap Tryd.prog
  have hg : 1 < w.heap.size := World.block_lt_of_cell? w _ (hS 2 (by omega))
  have m0 := FnsAt.made w
  obtain ⟨v1, D1, e1, m1, g1⟩ := m0.lay (by decide) 46 (146, none) (by decide) 46 (.func (.func 146) #[] #[]) rfl rfl
  obtain ⟨v2, D2, e2, m2, g2⟩ := m1.lay (by decide) 123 (147, none) (by decide) 123 (.func (.func 147) #[] #[]) rfl rfl
  obtain ⟨v3, D3, e3, m3, g3⟩ := m2.lay (by decide) 34 (148, none) (by decide) 34 (.func (.func 148) #[] #[]) rfl rfl
  obtain ⟨v4, D4, e4, m4, g4⟩ := m3.lay (by decide) 91 (149, none) (by decide) 91 (.func (.func 149) #[] #[]) rfl rfl
  have hB : Below w.heap.size w v4 := ((Below.refl _ w).alloc (Nat.le_refl _) _).grown ((g1.andThen g2 (fun j e => .inr e)).andThen (g3.andThen g4 (fun j e => .inr e)) (fun j e => .inr e)) (by simp) (fun k e => by cases e; omega)
  obtain ⟨M, hM⟩ : ∃ M, M = w.heap.size := ⟨_, rfl⟩
  have mA : ∃ D, FnsAt v4 M (4 + 0) D (fn1 0) := ⟨D4, by
    rw [hM]
    exact m4.congr (fun j _ => by rw [fn1_zero]; rfl)⟩
  go_enter Tryd.func126, Tryd.ntmps126
  go_wp2
  rw [← hM]
  have HMM := Lib.hid hM
  clear hM
  clear e1 e2 e3 e4 m0 m1 m2 m3 m4 g1 g2 g3 g4
  have hMlt : M < v4.heap.size := by
    obtain ⟨D, hD⟩ := mA
    exact hD.lt
  go_loopw [6] (fun i wr => ∃ n : Nat, i = .int .i64 n ∧ n ≤ 256 ∧ (∃ D, FnsAt wr M (4 + n) D (fn1 n)) ∧ Below w.heap.size w wr) (fun i _ => 256 - (intOf i).toNat)
  case atStart => exact ⟨0, rfl, by omega, mA, hB⟩
  case round =>
    clear mA hB hMlt
    obtain ⟨n, rfl, hn, ⟨D, mA⟩, hB⟩ := hrel
    by_cases hlt : n < 256
    · have hle := letter_any n hlt
      have hw : IntKind.u8.wrap (n : Int) = (n : Int) := by rw [IntKind.wrap_u8']; omega
      cases hl : isLet n with
      | true =>
        rw [hl] at hle
        obtain ⟨wn, Dn, en, mn, gn⟩ := mA.lay (by unfold maxLen; omega) n namedF hlt n (.func (.func 150) #[] #[]) rfl rfl
        have HL := Lib.hid hl
        have HMN := Lib.hid mn
        clear hl mn
        go_wp2_with (go_at_call 129; refine (hle _).mono ?_; rintro e w' ⟨rfl, rfl⟩)
        go_roundw
        case rel => first | exact ⟨n + 1, by go_num, by omega, ⟨Dn, HMN.out.congr (fun j _ => fn1_yes n j HL.out)⟩, hB.grown gn hB.size (fun k e => by cases e; have := HMM.out; omega)⟩ | ((repeat apply Exists.intro); exact ⟨⟨n + 1, by go_num, by omega, ⟨Dn, HMN.out.congr (fun j _ => fn1_yes n j HL.out)⟩, hB.grown gn hB.size (fun k e => by cases e; have := HMM.out; omega)⟩, rfl⟩)
        case measure => simp [intOf]; omega
      | false =>
        rw [hl] at hle
        have HL := Lib.hid hl
        have HMN := Lib.hid mA
        clear hl mA
        go_wp2_with (go_at_call 129; refine (hle _).mono ?_; rintro e w' ⟨rfl, rfl⟩)
        go_roundw
        case rel => first | exact ⟨n + 1, by go_num, by omega, ⟨D, ⟨HMN.out.1.mono (by omega), (HMN.out.congr (fun j _ => fn1_no n j HL.out)).2⟩⟩, hB⟩ | ((repeat apply Exists.intro); exact ⟨⟨n + 1, by go_num, by omega, ⟨D, ⟨HMN.out.1.mono (by omega), (HMN.out.congr (fun j _ => fn1_no n j HL.out)).2⟩⟩, hB⟩, rfl⟩)
        case measure => simp [intOf]; omega
    · obtain rfl : n = 256 := by omega
      have hMlt : M < wr.heap.size := mA.lt
      have mB : ∃ D, FnsAt wr M (260 + 0) D (fn2 3 (fun _ => 0)) := ⟨D, mA.congr (fun j _ => (fn2_start _ j).symm)⟩
      have b0 : Boxes wr w.heap.size 3 (fun _ => 0) := fun k h3 h => by omega
      have hS' : SignsIn wr := signs_below hS hB hg
      clear mA
      go_upto_block 2 with fail
      have HB0 := Lib.hid hB
      go_wp2_with fail
      go_loopw [3] (fun v wq => ∃ (k : Nat) (box : Nat → Nat), v = .int .u8 k ∧ 3 ≤ k ∧ k ≤ 14 ∧ (∃ D, FnsAt wq M (260 + (k - 3)) D (fn2 k box)) ∧ Boxes wq w.heap.size k box ∧ (∀ j, 3 ≤ j → j < k → box j ≠ M) ∧ Below w.heap.size w wq) (fun v _ => 14 - (intOf v).toNat)
      case atStart => exact ⟨3, fun _ => 0, rfl, by omega, by omega, mB, b0, fun j h3 h => by omega, hB⟩
      case round =>
        clear mB b0 hB hS' hMlt HB0
        obtain ⟨k, box, rfl, h3, h14, ⟨D, mA⟩, bx, bM, hB⟩ := hrel
        by_cases hlt : k < 14
        · have hS2 := signs_below hS hB hg
          obtain ⟨e1, e2, e3⟩ := sk_sb k hlt h3
          have c1 := hS2 k hlt
          rw [e3] at c1
          have l0 : (0 : Int) ≤ (k : Int) := by omega
          have l1 : (k : Int) < 14 := by omega
          have l2 : (k : Int) ≤ 13 := by omega
          have hpos : 0 < (⟨#[UInt8.ofNat (sb k)]⟩ : ByteArray).size := Nat.lt_of_lt_of_le Nat.zero_lt_one (Nat.le_of_eq rfl)
          have hq : (((⟨#[UInt8.ofNat (sb k)]⟩ : ByteArray)[0].toNat : Nat) : Int) = (sb k : Nat) := by
            show (((UInt8.ofNat (sb k)).toNat : Nat) : Int) = (sb k : Nat)
            rw [UInt8.toNat_ofNat_of_lt' e2]
          have hMP : M < wr.heap.size := mA.lt
          have mA' : FnsAt (wr.alloc (.cells #[.int .u8 k] 5)).drew M (260 + (k - 3)) D (fn2 k box) := (mA.alloc _)
          obtain ⟨wn, Dn, en, mn, gn⟩ := mA'.lay (by unfold maxLen; omega) (sb k) (signF wr.heap.size) e2 ((⟨#[UInt8.ofNat (sb k)]⟩ : ByteArray)[0].toNat : Nat) (fxV (signF wr.heap.size)) hq rfl
          have HMN := Lib.hid mn
          clear mn mA' hq
          have hgw : 1 < wr.heap.size := Nat.lt_of_lt_of_le hg hB.size
          have c2 := (((Below.refl _ wr).alloc (Nat.le_refl _) (.cells #[.int .u8 k] 5)).cell (p := ⟨1, k, none⟩) hgw).trans c1
          have hMP2 : wr.heap.size ≠ M := by omega
          have bN : Boxes wn w.heap.size (k + 1) (fun i => if i = k then wr.heap.size else box i) := fun i hi3 hik => by
            by_cases e : i = k
            · subst e
              simp only [↓reduceIte]
              exact ⟨hB.size, Cl.grown (w := (wr.alloc (.cells #[.int .u8 i] 5)).drew) (Cl.new _ _ _).drew gn (fun e => hMP2 (by cases e; rfl))⟩
            · simp only [e, ↓reduceIte]
              obtain ⟨b1, b2⟩ := bx i hi3 (by omega)
              exact ⟨b1, Cl.grown (w := (wr.alloc (.cells #[.int .u8 k] 5)).drew) (b2.alloc _).drew gn (fun e => bM i hi3 (by omega) (by cases e; rfl))⟩
          have bK : ∀ j, 3 ≤ j → j < k + 1 → (fun i => if i = k then wr.heap.size else box i) j ≠ M := fun i hi3 hik => by
            by_cases e : i = k
            · simp only [e, ↓reduceIte]
              exact hMP2
            · simp only [e, ↓reduceIte]
              exact bM i hi3 (by omega)
          have bB : Below w.heap.size w wn := (hB.alloc hB.size (.cells #[.int .u8 k] 5)).drew.grown gn (by have := hB.size; simp; omega) (fun k e => by cases e; have := HMM.out; omega)
          have bD : ∃ D, FnsAt wn M (260 + (k + 1 - 3)) D (fn2 (k + 1) (fun i => if i = k then wr.heap.size else box i)) := ⟨Dn, HMN.out.1.mono (by omega), (HMN.out.congr (fun j hj => fn2_step k h3 hlt box wr.heap.size j hj)).2⟩
          have hwk : IntKind.u8.wrap ((k : Int) + 1) = ((k + 1 : Nat) : Int) := by rw [IntKind.wrap_u8']; omega
          generalize (fun i => if i = k then wr.heap.size else box i) = box' at *
          clear mA bx bM HMN hMP2 hMP
          go_wp2_with fail
          go_region_with (go_at_call 151; refine (lsign_any k _).mono ?_; rintro e w' ⟨rfl, rfl⟩)
          all_goals
            go_wp2
            go_roundw
            case rel => first | exact ⟨k + 1, box', by first | rfl | rw [hwk], by omega, by omega, bD, bN, bK, bB⟩ | ((repeat apply Exists.intro); exact ⟨⟨k + 1, box', by first | rfl | rw [hwk], by omega, by omega, bD, bN, bK, bB⟩, rfl⟩)
            case measure => simp [intOf]; omega
        · obtain rfl : k = 14 := by omega
          obtain ⟨wn, Dn, en, mn, gn⟩ := mA.lay (by unfold maxLen; omega) 60 lessF (by decide) 60 (.func (.func 152) #[] #[]) rfl rfl
          have bN : Boxes wn w.heap.size 14 box := bx.grown gn bM
          have bB : Below w.heap.size w wn := hB.grown gn hB.size (fun k e => by cases e; have := HMM.out; omega)
          have hI : FnsIs wn M (fnR box) := ⟨_, _, mn⟩
          have hR : Ends w M box wn := ⟨hI, bN, by have := HMM.out; omega, bB⟩
          clear mn mA gn bx bM bN bB hI HMM
          go_wp2
          go_ret
          exact ⟨M, box, rfl, hR⟩
end Go.Proofs.YtjeogbdeagkomaaDoor

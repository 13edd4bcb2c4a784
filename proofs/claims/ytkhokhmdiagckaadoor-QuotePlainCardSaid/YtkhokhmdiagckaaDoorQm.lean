/- Signs, literals and classes, by the document's words. Of no program. -/
import Derived.Test.YtkhokhmdiagckaaDoorRunsM
import Derived.Lib.Bytealg
namespace Go.Proofs.YtkhokhmdiagckaaDoor.Qm
open Bset

/-- How signs stand: what is no sign itself; whether there are ranges; what stands at the end. -/
structure Sp where
  wo : List Nat
  rng : Bool
  last : Nat

def lit : Sp := ⟨[34, 92], false, 34⟩
def cls : Sp := ⟨[93, 45, 94, 92], true, 93⟩

/-- One of the two. -/
def Is (p : Sp) : Prop := p = lit ∨ p = cls

def hexB : ByteArray := ⟨#[48, 49, 50, 51, 52, 53, 54, 55, 56, 57, 97, 98, 99, 100, 101, 102]⟩
def plain (p : Sp) (b : Nat) : Bool := (decide (32 ≤ b) && decide (b ≤ 126)) && !p.wo.contains b
def behind (p : Sp) (b : Nat) : Option Nat := if p.wo.contains b then some b else if b = 110 then some 10 else if b = 114 then some 13 else if b = 116 then some 9 else none
def ahead (p : Sp) (b : Nat) : Option Nat := if p.wo.contains b then some b else if b = 10 then some 110 else if b = 13 then some 114 else if b = 9 then some 116 else none
def hexd (n : Nat) : UInt8 := hexB.data.toList.getD n 0
/-- A byte's own sign. -/
def sign (p : Sp) (b : Nat) : List UInt8 :=
  if plain p b then [UInt8.ofNat b] else match ahead p b with
    | some c => [92, UInt8.ofNat c]
    | none => [92, 120, hexd (b / 16), hexd (b % 16)]

def low (b : Nat) : Nat := if 65 ≤ b ∧ b ≤ 70 then b + 32 else b
/-- A hexadecimal digit's number, or -1. -/
def dg (b : Nat) : Int := Lib.indexByte hexB.data.toList (UInt8.ofNat (low b))

def hx : List UInt8 → Nat × Nat × Bool
  | [] => (0, 0, false)
  | c :: r => if dg c.toNat < 0 then (0, 0, false) else
    match r with
    | [] => (0, 1, false)
    | d :: _ => if dg d.toNat < 0 then (0, 1, false) else ((dg c.toNat).toNat * 16 + (dg d.toNat).toNat, 2, true)

/-- A sign is read: its byte; how long it is, or where it goes wrong; whether it is one. -/
def rd (p : Sp) : List UInt8 → Nat × Nat × Bool
  | [] => (0, 0, false)
  | c :: r => if c.toNat = 92 then
      match r with
      | [] => (0, 1, false)
      | d :: r2 =>
        match behind p d.toNat with
        | some v => (v, 2, true)
        | none => if d.toNat = 120 then ((hx r2).1, 2 + (hx r2).2.1, (hx r2).2.2) else (0, 1, false)
    else if plain p c.toNat then (c.toNat, 1, true) else (0, 0, false)

/-- A sign, or a range. -/
def pt (p : Sp) (l : List UInt8) : Nat × Nat × Nat × Bool :=
  if (rd p l).2.2 = true ∧ p.rng = true ∧ (l.drop (rd p l).2.1).head? = some 45 then
    if (rd p (l.drop ((rd p l).2.1 + 1))).2.2 = true ∧ (rd p (l.drop ((rd p l).2.1 + 1))).1 < (rd p l).1 then (0, 0, 0, false)
    else ((rd p l).1, (rd p (l.drop ((rd p l).2.1 + 1))).1, (rd p l).2.1 + 1 + (rd p (l.drop ((rd p l).2.1 + 1))).2.1, (rd p (l.drop ((rd p l).2.1 + 1))).2.2)
  else ((rd p l).1, (rd p l).1, (rd p l).2.1, (rd p l).2.2)

/-- All that stand from here on, as long as they may be; how many bytes they have. -/
def run (p : Sp) : Nat → List UInt8 → List (Nat × Nat) × Nat
  | 0, _ => ([], 0)
  | f + 1, l => if (pt p l).2.2.2 then (((pt p l).1, (pt p l).2.1) :: (run p f (l.drop (pt p l).2.2.1)).1, (pt p l).2.2.1 + (run p f (l.drop (pt p l).2.2.1)).2) else ([], 0)

/-- The same, with the place behind each. -/
def pts (p : Sp) : Nat → List UInt8 → Nat → List (Nat × Nat × Nat)
  | 0, _, _ => []
  | f + 1, l, k => if (pt p l).2.2.2 then ((pt p l).1, (pt p l).2.1, k + (pt p l).2.2.1) :: pts p f (l.drop (pt p l).2.2.1) (k + (pt p l).2.2.1) else []

def all (p : Sp) (l : List UInt8) : List (Nat × Nat) × Nat := run p (l.length + 1) l
def parts (p : Sp) (l : List UInt8) (k : Nat) : List (Nat × Nat × Nat) := pts p (l.length + 1) l k
def lastEnd (ps : List (Nat × Nat × Nat)) (k : Nat) : Nat := ps.foldl (fun _ x => x.2.2) k

def fau (n k : Nat) : Nat := if k = n then 8 else 4

/-- What stands behind the signs: its end, or the fault. -/
def ended (p : Sp) (t : List UInt8) (k : Nat) : Nat × Nat :=
  if (t.drop k).head? = some (UInt8.ofNat p.last) then (k + 1, 0) else (k + (pt p (t.drop k)).2.2.1, fau t.length (k + (pt p (t.drop k)).2.2.1))

def unlit (t : List UInt8) : List UInt8 × Nat × Nat :=
  if t.head? = some 34 then
    if (ended lit t (1 + (all lit (t.drop 1)).2)).2 ≠ 0 then ([], ended lit t (1 + (all lit (t.drop 1)).2))
    else if (all lit (t.drop 1)).1.length > 255 then ([], 0, 40)
    else ((all lit (t.drop 1)).1.map (fun x => UInt8.ofNat x.1), (ended lit t (1 + (all lit (t.drop 1)).2)).1, 0)
  else ([], 0, fau t.length 0)

def from_ (t : List UInt8) : Nat := if t[1]? = some 94 then 2 else 1

def uncls (t : List UInt8) : (Nat → Bool) × Nat × Nat :=
  if t.head? = some 91 then
    if (ended cls t (from_ t + (all cls (t.drop (from_ t))).2)).2 ≠ 0 then (fun _ => false, ended cls t (from_ t + (all cls (t.drop (from_ t))).2))
    else (fun n => if from_ t = 2 then !covers (all cls (t.drop (from_ t))).1 n else covers (all cls (t.drop (from_ t))).1 n, (ended cls t (from_ t + (all cls (t.drop (from_ t))).2)).1, 0)
  else (fun _ => false, 0, fau t.length 0)

def litT (s : List UInt8) : List UInt8 := 34 :: (s.flatMap fun c => sign lit c.toNat) ++ [34]
def runT (r : Nat × Nat) : List UInt8 := sign cls r.1 ++ (if r.1 + 1 < r.2 then [45] else []) ++ (if r.2 = r.1 then [] else sign cls r.2)
def isAll (S : Nat → Bool) : Bool := (List.range 256).all fun n => S n == true
def clsT (S : Nat → Bool) : List UInt8 := if isAll S then [46] else 91 :: ((runsOf S).flatMap runT) ++ [93]

/-! ### What a sign is -/

theorem u8 {b : Nat} (h : b < 256) : (UInt8.ofNat b).toNat = b := by
  rw [UInt8.toNat_ofNat']
  exact Nat.mod_eq_of_lt h

theorem plain_ne (p : Sp) (hp : Is p) : ∀ b, b < 256 → plain p b = true → b ≠ 92 := by
  rcases hp with rfl | rfl <;> decide +kernel
theorem ahead_behind (p : Sp) (hp : Is p) : ∀ b, b < 256 → (match ahead p b with | some c => decide (c < 256) && (behind p c == some b) | none => true) = true := by
  rcases hp with rfl | rfl <;> decide +kernel
theorem behind_sign (p : Sp) (hp : Is p) : ∀ d, d < 256 → (match behind p d with | some c => decide (c < 256) && decide ((sign p c).length ≤ 2) | none => true) = true := by
  rcases hp with rfl | rfl <;> decide +kernel
theorem behind_x (p : Sp) (hp : Is p) : behind p 120 = none := by
  rcases hp with rfl | rfl <;> decide +kernel
theorem hexd_dg : ∀ n, n < 16 → dg (hexd n).toNat = (n : Int) := by decide +kernel
theorem dg_lt : ∀ b, b < 256 → dg b < 16 := by decide +kernel
theorem sign_len (p : Sp) (hp : Is p) : ∀ b, b < 256 → 1 ≤ (sign p b).length ∧ (sign p b).length ≤ 4 := by
  rcases hp with rfl | rfl <;> decide +kernel
theorem sign_head : ∀ b, b < 256 → (sign cls b).head? ≠ some 45 ∧ (sign cls b).head? ≠ some 94 ∧ (sign cls b).head? ≠ some 93 ∧ sign cls b ≠ [] := by decide +kernel
theorem sign_seen (p : Sp) (hp : Is p) : ∀ b, b < 256 → ((sign p b).all fun c => decide (32 ≤ c.toNat) && decide (c.toNat ≤ 126)) = true := by
  rcases hp with rfl | rfl <;> decide +kernel
theorem plain_len (p : Sp) (b : Nat) (h : plain p b = true) : (sign p b).length = 1 := by
  unfold sign
  rw [if_pos h]
  rfl

theorem rd1 (p : Sp) (c : UInt8) (r : List UInt8) (h : c.toNat ≠ 92) : rd p (c :: r) = if plain p c.toNat then (c.toNat, 1, true) else (0, 0, false) := by
  simp [rd, h]
theorem rd2 (p : Sp) (c : UInt8) (h : c.toNat = 92) : rd p [c] = (0, 1, false) := by
  simp [rd, h]
theorem rd3 (p : Sp) (c d : UInt8) (r : List UInt8) (h : c.toNat = 92) : rd p (c :: d :: r) = match behind p d.toNat with
    | some v => (v, 2, true)
    | none => if d.toNat = 120 then ((hx r).1, 2 + (hx r).2.1, (hx r).2.2) else (0, 1, false) := by
  simp [rd, h]
theorem hx1 (c : UInt8) (r : List UInt8) (h : dg c.toNat < 0) : hx (c :: r) = (0, 0, false) := by
  simp [hx, h]
theorem hx2 (c : UInt8) (h : ¬ dg c.toNat < 0) : hx [c] = (0, 1, false) := by
  simp [hx, h]
theorem hx3 (c d : UInt8) (r : List UInt8) (h : ¬ dg c.toNat < 0) (h2 : dg d.toNat < 0) : hx (c :: d :: r) = (0, 1, false) := by
  simp [hx, h, h2]
theorem hx4 (c d : UInt8) (r : List UInt8) (h : ¬ dg c.toNat < 0) (h2 : ¬ dg d.toNat < 0) : hx (c :: d :: r) = ((dg c.toNat).toNat * 16 + (dg d.toNat).toNat, 2, true) := by
  simp [hx, h, h2]

theorem hx_le (l : List UInt8) : (hx l).2.1 ≤ l.length ∧ ((hx l).2.2 = true → (hx l).2.1 = 2 ∧ (hx l).1 < 256) := by
  match l with
  | [] => simp [hx]
  | c :: r =>
    by_cases h : dg c.toNat < 0
    · rw [hx1 c r h]
      simp
    · match r with
      | [] =>
        rw [hx2 c h]
        simp
      | d :: r =>
        have h1 := dg_lt c.toNat c.toNat_lt
        have h2 := dg_lt d.toNat d.toNat_lt
        by_cases h3 : dg d.toNat < 0
        · rw [hx3 c d r h h3]
          simp
        · rw [hx4 c d r h h3]
          simp
          omega

theorem rd_le (p : Sp) (hp : Is p) (l : List UInt8) : (rd p l).2.1 ≤ l.length ∧ ((rd p l).2.2 = true → 1 ≤ (rd p l).2.1 ∧ (rd p l).1 < 256 ∧ (sign p (rd p l).1).length ≤ (rd p l).2.1) := by
  match l with
  | [] => simp [rd]
  | c :: r =>
    by_cases h : c.toNat = 92
    · match r with
      | [] =>
        rw [rd2 p c h]
        simp
      | d :: r =>
        have hb := behind_sign p hp d.toNat d.toNat_lt
        have hh := hx_le r
        rw [rd3 p c d r h]
        cases hd : behind p d.toNat with
        | some v =>
          rw [hd] at hb
          simp at hb
          simp [hb]
        | none =>
          simp only
          split
          · simp only
            refine ⟨by have := hh.1; simp; omega, fun h => ?_⟩
            obtain ⟨h1, h2⟩ := hh.2 h
            have := (sign_len p hp _ h2).2
            omega
          · simp
    · rw [rd1 p c r h]
      split
      · rename_i h
        have := plain_len p _ h
        have := c.toNat_lt
        simp only
        refine ⟨by simp, fun _ => ?_⟩
        omega
      · simp

/-- A sign is read as it was written. -/
theorem rd_sign (p : Sp) (hp : Is p) (b : Nat) (hb : b < 256) (r : List UInt8) : rd p (sign p b ++ r) = (b, (sign p b).length, true) := by
  unfold sign
  by_cases h : plain p b = true
  · rw [if_pos h]
    have h1 := plain_ne p hp b hb h
    show rd p (UInt8.ofNat b :: r) = _
    rw [rd1 p _ r (by rw [u8 hb]; exact h1), u8 hb, if_pos h]
    rfl
  · rw [if_neg h]
    have ha := ahead_behind p hp b hb
    cases hc : ahead p b with
    | some c =>
      rw [hc] at ha
      simp at ha
      show rd p (92 :: UInt8.ofNat c :: r) = _
      rw [rd3 p _ _ r rfl, u8 ha.1, ha.2]
      rfl
    | none =>
      show rd p (92 :: 120 :: hexd (b / 16) :: hexd (b % 16) :: r) = _
      have e : (120 : UInt8).toNat = 120 := rfl
      have d1 := hexd_dg (b / 16) (by omega)
      have d2 := hexd_dg (b % 16) (by omega)
      have hh : hx (hexd (b / 16) :: hexd (b % 16) :: r) = (b, 2, true) := by
        rw [hx4 _ _ _ (by omega) (by omega), d1, d2]
        have : ((b / 16 : Nat) : Int).toNat * 16 + ((b % 16 : Nat) : Int).toNat = b := by omega
        rw [this]
      rw [rd3 p _ _ _ rfl, e, behind_x p hp]
      simp only
      rw [hh]
      rfl

theorem pt_le (p : Sp) (hp : Is p) (l : List UInt8) : (pt p l).2.2.1 ≤ l.length ∧ ((pt p l).2.2.2 = true → 1 ≤ (pt p l).2.2.1 ∧ (pt p l).1 ≤ (pt p l).2.1 ∧ (pt p l).2.1 < 256) := by
  have h1 := rd_le p hp l
  have h2 := rd_le p hp (l.drop ((rd p l).2.1 + 1))
  unfold pt
  split
  · rename_i h
    have h3 : 1 ≤ (l.drop (rd p l).2.1).length := by
      cases hd : l.drop (rd p l).2.1 with
      | nil => rw [hd] at h; simp at h
      | cons => simp
    rw [List.length_drop] at h2 h3
    split
    · simp
    · rename_i h4
      simp only
      refine ⟨by omega, fun h5 => ?_⟩
      have := h2.2 h5
      have h6 : ¬ (rd p (List.drop ((rd p l).2.1 + 1) l)).1 < (rd p l).1 := fun h => h4 ⟨h5, h⟩
      omega
  · simp only
    refine ⟨h1.1, fun h => ?_⟩
    have := h1.2 h
    omega

/-- A literal's sign. -/
theorem pt_lit (b : Nat) (hb : b < 256) (r : List UInt8) : pt lit (sign lit b ++ r) = (b, b, (sign lit b).length, true) := by
  unfold pt
  rw [rd_sign lit (.inl rfl) b hb r]
  simp [lit]
/-- A class's sign, and no - behind it. -/
theorem pt_one (b : Nat) (hb : b < 256) (r : List UInt8) (hr : r.head? ≠ some 45) : pt cls (sign cls b ++ r) = (b, b, (sign cls b).length, true) := by
  unfold pt
  rw [rd_sign cls (.inr rfl) b hb r]
  simp only [List.drop_left]
  rw [if_neg (fun h => hr h.2.2)]
/-- A range. -/
theorem pt_two (a b : Nat) (ha : a < 256) (hb : b < 256) (hab : a ≤ b) (r : List UInt8) : pt cls (sign cls a ++ (45 :: (sign cls b ++ r))) = (a, b, (sign cls a).length + 1 + (sign cls b).length, true) := by
  unfold pt
  rw [rd_sign cls (.inr rfl) a ha]
  simp only [List.drop_left]
  have e : List.drop ((sign cls a).length + 1) (sign cls a ++ 45 :: (sign cls b ++ r)) = sign cls b ++ r := by
    rw [← List.drop_drop, List.drop_left]
    rfl
  rw [e, rd_sign cls (.inr rfl) b hb]
  simp only
  rw [if_pos (by simp [cls]), if_neg (fun h => by omega)]
theorem pt_quote (r : List UInt8) : pt lit (34 :: r) = (0, 0, 0, false) := by
  simp [pt, rd, plain, lit]
theorem pt_close (r : List UInt8) : pt cls (93 :: r) = (0, 0, 0, false) := by
  simp [pt, rd, plain, cls]

/-! ### All of them -/

theorem run_more (p : Sp) (hp : Is p) : ∀ (f g : Nat) (l : List UInt8), l.length < f → l.length < g → run p f l = run p g l
  | 0, _, _, h, _ => by omega
  | _ + 1, 0, _, _, h => by omega
  | f + 1, g + 1, l, h1, h2 => by
    unfold run
    by_cases h : (pt p l).2.2.2 = true
    · have := (pt_le p hp l).2 h
      have := (pt_le p hp l).1
      rw [if_pos h, if_pos h, run_more p hp f g (l.drop (pt p l).2.2.1) (by rw [List.length_drop]; omega) (by rw [List.length_drop]; omega)]
    · rw [if_neg h, if_neg h]
theorem pts_more (p : Sp) (hp : Is p) : ∀ (f g : Nat) (l : List UInt8) (k : Nat), l.length < f → l.length < g → pts p f l k = pts p g l k
  | 0, _, _, _, h, _ => by omega
  | _ + 1, 0, _, _, _, h => by omega
  | f + 1, g + 1, l, k, h1, h2 => by
    unfold pts
    by_cases h : (pt p l).2.2.2 = true
    · have := (pt_le p hp l).2 h
      have := (pt_le p hp l).1
      rw [if_pos h, if_pos h, pts_more p hp f g (l.drop (pt p l).2.2.1) _ (by rw [List.length_drop]; omega) (by rw [List.length_drop]; omega)]
    · rw [if_neg h, if_neg h]
theorem all_go (p : Sp) (hp : Is p) (l : List UInt8) (h : (pt p l).2.2.2 = true) :
    all p l = (((pt p l).1, (pt p l).2.1) :: (all p (l.drop (pt p l).2.2.1)).1, (pt p l).2.2.1 + (all p (l.drop (pt p l).2.2.1)).2) := by
  have h1 := (pt_le p hp l).2 h
  have h2 := (pt_le p hp l).1
  unfold all
  rw [run, if_pos h, run_more p hp l.length ((l.drop (pt p l).2.2.1).length + 1) _ (by rw [List.length_drop]; omega) (by omega)]
theorem all_end (p : Sp) (l : List UInt8) (h : (pt p l).2.2.2 = false) : all p l = ([], 0) := by
  unfold all
  rw [run, if_neg (by rw [h]; simp)]
theorem parts_go (p : Sp) (hp : Is p) (l : List UInt8) (k : Nat) (h : (pt p l).2.2.2 = true) :
    parts p l k = ((pt p l).1, (pt p l).2.1, k + (pt p l).2.2.1) :: parts p (l.drop (pt p l).2.2.1) (k + (pt p l).2.2.1) := by
  have h1 := (pt_le p hp l).2 h
  have h2 := (pt_le p hp l).1
  unfold parts
  rw [pts, if_pos h, pts_more p hp l.length ((l.drop (pt p l).2.2.1).length + 1) _ _ (by rw [List.length_drop]; omega) (by omega)]
theorem parts_end (p : Sp) (l : List UInt8) (k : Nat) (h : (pt p l).2.2.2 = false) : parts p l k = [] := by
  unfold parts
  rw [pts, if_neg (by rw [h]; simp)]

theorem pts_run (p : Sp) : ∀ (f : Nat) (l : List UInt8) (k : Nat), (pts p f l k).map (fun x => (x.1, x.2.1)) = (run p f l).1 ∧ lastEnd (pts p f l k) k = k + (run p f l).2
  | 0, _, _ => ⟨rfl, rfl⟩
  | f + 1, l, k => by
    unfold pts run
    by_cases h : (pt p l).2.2.2 = true
    · obtain ⟨h1, h2⟩ := pts_run p f (l.drop (pt p l).2.2.1) (k + (pt p l).2.2.1)
      rw [if_pos h, if_pos h]
      refine ⟨by simp [h1], ?_⟩
      simp only
      unfold lastEnd at h2 ⊢
      rw [List.foldl_cons, h2]
      omega
    · rw [if_neg h, if_neg h]
      exact ⟨rfl, rfl⟩
theorem parts_all (p : Sp) (l : List UInt8) (k : Nat) : (parts p l k).map (fun x => (x.1, x.2.1)) = (all p l).1 ∧ lastEnd (parts p l k) k = k + (all p l).2 := pts_run p _ l k

/-- What all of them are: each rises, below 256; they end in the text; no part stands behind. -/
theorem all_ok (p : Sp) (hp : Is p) : ∀ (n : Nat) (l : List UInt8), l.length ≤ n → (∀ x ∈ (all p l).1, x.1 ≤ x.2 ∧ x.2 < 256) ∧ (all p l).2 ≤ l.length ∧ (all p l).1.length ≤ (all p l).2 ∧ (pt p (l.drop (all p l).2)).2.2.2 = false
  | n, l, hn => by
    by_cases h : (pt p l).2.2.2 = true
    · have h1 := (pt_le p hp l).2 h
      have h2 := (pt_le p hp l).1
      match n with
      | 0 => omega
      | n + 1 =>
        obtain ⟨i1, i2, i3, i4⟩ := all_ok p hp n (l.drop (pt p l).2.2.1) (by rw [List.length_drop]; omega)
        rw [all_go p hp l h]
        rw [List.length_drop] at i2
        refine ⟨fun x hx => ?_, by simp only; omega, by simp only [List.length_cons]; omega, ?_⟩
        · rcases List.mem_cons.1 hx with rfl | hx
          · exact h1.2
          · exact i1 x hx
        · simp only
          rw [← List.drop_drop]
          exact i4
    · have h0 : (pt p l).2.2.2 = false := by simpa using h
      rw [all_end p l h0]
      exact ⟨by simp, by simp, by simp, h0⟩
end Go.Proofs.YtkhokhmdiagckaaDoor.Qm

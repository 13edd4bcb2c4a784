/- A set's runs, made byte by byte. Of no program. -/
import Derived.Test.YtjeogbdeagkomaaDoorVBset
import Derived.Lib.Bytealg
namespace Go.Proofs.YtjeogbdeagkomaaDoor.Bset

/-- One byte more: the last run goes on, or a new one begins. -/
def addRun (rs : List (Nat × Nat)) (b : Nat) : List (Nat × Nat) :=
  match rs.getLast? with
  | some (a, c) => if (c + 1) % 256 = b then rs.dropLast ++ [(a, b)] else rs ++ [(b, b)]
  | none => [(b, b)]

/-- The runs of bytes that come one by one. -/
def runsL (l : List Nat) : List (Nat × Nat) := l.foldl addRun []

def runsOf (S : Nat → Bool) : List (Nat × Nat) := runsL (mem S)

theorem runsL_snoc (l : List Nat) (b : Nat) : runsL (l ++ [b]) = addRun (runsL l) b := by
  unfold runsL
  rw [List.foldl_append]
  rfl

theorem addRun_none (b : Nat) : addRun [] b = [(b, b)] := rfl

theorem addRun_on (rs : List (Nat × Nat)) (a c b : Nat) (h : (c + 1) % 256 = b) : addRun (rs ++ [(a, c)]) b = rs ++ [(a, b)] := by
  unfold addRun
  simp [h]

theorem addRun_new (rs : List (Nat × Nat)) (a c b : Nat) (h : (c + 1) % 256 ≠ b) : addRun (rs ++ [(a, c)]) b = rs ++ [(a, c)] ++ [(b, b)] := by
  unfold addRun
  simp [h]

theorem addRun_len (rs : List (Nat × Nat)) (b : Nat) : (addRun rs b).length ≤ rs.length + 1 := by
  rcases rs.eq_nil_or_concat with rfl | ⟨r, ⟨a, c⟩, rfl⟩
  · simp [addRun]
  · rw [List.concat_eq_append]
    by_cases h : (c + 1) % 256 = b
    · rw [addRun_on _ _ _ _ h]
      simp
    · rw [addRun_new _ _ _ _ h]
      simp

theorem fold_len : ∀ (l : List Nat) (acc : List (Nat × Nat)), (l.foldl addRun acc).length ≤ acc.length + l.length
  | [], _ => by simp
  | b :: l, acc => by
    have h1 := fold_len l (addRun acc b)
    have h2 := addRun_len acc b
    simp only [List.foldl_cons, List.length_cons]
    omega

theorem runsL_len (l : List Nat) : (runsL l).length ≤ l.length := by
  have := fold_len l []
  unfold runsL
  simpa using this


/-- What runs cover; how many bytes they have. -/
def covers (rs : List (Nat × Nat)) : Nat → Bool := fun m => rs.any fun p => decide (p.1 ≤ m) && decide (m ≤ p.2)
def sumR (rs : List (Nat × Nat)) : Int := (rs.map fun p => (p.2 : Int) - (p.1 : Int) + 1).sum

theorem covers_nil : covers [] = fun _ => false := rfl
theorem covers_snoc (rs : List (Nat × Nat)) (a c : Nat) : covers (rs ++ [(a, c)]) = fun m => covers rs m || (decide (a ≤ m) && decide (m ≤ c)) := by
  funext m
  unfold covers
  rw [List.any_append]
  simp
theorem sumR_snoc (rs : List (Nat × Nat)) (a c : Nat) : sumR (rs ++ [(a, c)]) = sumR rs + (c : Int) - (a : Int) + 1 := by
  unfold sumR
  rw [List.map_append, List.sum_append]
  simp
  omega

/-- Each run rises, ends below 256, and begins two behind the one ahead, or later. -/
def Good (rs : List (Nat × Nat)) : Prop := ∀ pre a c post, rs = pre ++ (a, c) :: post → a ≤ c ∧ c < 256 ∧ ∀ pre' a' c', pre = pre' ++ [(a', c')] → c' + 2 ≤ a

theorem Good.nil : Good [] := fun pre a c post h => by simp at h

theorem Good.snoc {rs : List (Nat × Nat)} {a c : Nat} (h : Good rs) (h1 : a ≤ c) (h2 : c < 256) (h3 : ∀ pre' a' c', rs = pre' ++ [(a', c')] → c' + 2 ≤ a) : Good (rs ++ [(a, c)]) := by
  intro pre x y post hp
  rcases post.eq_nil_or_concat with rfl | ⟨p2, z, rfl⟩
  · obtain ⟨e1, e2⟩ := List.append_inj' hp rfl
    subst e1
    cases e2
    exact ⟨h1, h2, h3⟩
  · rw [List.concat_eq_append, ← List.cons_append, ← List.append_assoc] at hp
    obtain ⟨e1, _⟩ := List.append_inj' hp rfl
    exact h pre x y p2 e1

theorem Good.init {rs : List (Nat × Nat)} {a c : Nat} (h : Good (rs ++ [(a, c)])) : Good rs := fun pre x y post hp => h pre x y (post ++ [(a, c)]) (by rw [hp]; simp)

theorem Good.last {rs : List (Nat × Nat)} {a c : Nat} (h : Good (rs ++ [(a, c)])) : a ≤ c ∧ c < 256 ∧ ∀ pre' a' c', rs = pre' ++ [(a', c')] → c' + 2 ≤ a := h rs a c [] rfl

theorem runs_inv (S : Nat → Bool) : ∀ q, q ≤ 256 → Good (runsL (upTo S q)) ∧ (∀ m, covers (runsL (upTo S q)) m = (S m && decide (m < q))) ∧ sumR (runsL (upTo S q)) = ((upTo S q).length : Nat) ∧
    ∀ rs a c, runsL (upTo S q) = rs ++ [(a, c)] → c < q
  | 0, _ => ⟨Good.nil, by intro m; simp [upTo, runsL, covers], by simp [upTo, runsL, sumR], by intro rs a c h; simp [upTo, runsL] at h⟩
  | q + 1, hq => by
    obtain ⟨i1, i2, i3, i4⟩ := runs_inv S q (by omega)
    rw [upTo_succ]
    cases hS : S q with
    | false =>
      rw [if_neg (by simp), List.append_nil]
      refine ⟨i1, fun m => ?_, i3, fun rs a c h => by have := i4 rs a c h; omega⟩
      rw [i2 m]
      by_cases hm : m = q
      · subst hm
        simp [hS]
      · have : (m < q + 1) ↔ m < q := by omega
        simp [this]
    | true =>
      rw [if_pos rfl, runsL_snoc, List.length_append]
      rcases (runsL (upTo S q)).eq_nil_or_concat with hr | ⟨rs, ⟨a, c⟩, hr⟩
      · rw [hr] at i1 i2 i3 ⊢
        rw [addRun_none]
        refine ⟨Good.snoc Good.nil (Nat.le_refl _) (by omega) (fun p _ _ h => by simp at h), fun m => ?_, ?_, ?_⟩
        · have h0 := i2 m
          simp only [covers, List.any_nil] at h0
          simp only [covers, List.any_cons, List.any_nil, Bool.or_false]
          by_cases hm : m = q
          · subst hm
            simp [hS]
          · have e : (decide (q ≤ m) && decide (m ≤ q)) = false := by simp; omega
            have e2 : (m < q + 1) ↔ m < q := by omega
            rw [e]
            simp only [e2]
            exact h0
        · simp [sumR] at i3 ⊢
          omega
        · intro rs a c h
          have := List.append_inj' (s₁ := []) h rfl
          obtain ⟨_, e⟩ := this
          cases e
          omega
      · rw [List.concat_eq_append] at hr
        have hc := i4 rs a c hr
        rw [hr] at i1 i2 i3
        rw [hr]
        by_cases hx : (c + 1) % 256 = q
        · have hcq : c + 1 = q := by omega
          rw [addRun_on _ _ _ _ hx]
          obtain ⟨g1, g2, g3⟩ := i1.last
          refine ⟨Good.snoc i1.init (by omega) (by omega) g3, fun m => ?_, ?_, ?_⟩
          · have h0 := i2 m
            rw [covers_snoc] at h0 ⊢
            simp only at h0 ⊢
            by_cases hm : m = q
            · subst hm
              have e : a ≤ m := by omega
              simp [hS, e]
            · have e1 : (m ≤ q) ↔ m ≤ c := by omega
              have e2 : (m < q + 1) ↔ m < q := by omega
              simp only [e1, e2]
              exact h0
          · rw [sumR_snoc] at i3 ⊢
            simp
            omega
          · intro rs' a' c' h
            obtain ⟨_, e⟩ := List.append_inj' h rfl
            cases e
            omega
        · rw [addRun_new _ _ _ _ hx]
          refine ⟨Good.snoc i1 (Nat.le_refl _) (by omega) ?_, fun m => ?_, ?_, ?_⟩
          · intro p a' c' h
            obtain ⟨_, e⟩ := List.append_inj' h rfl
            cases e
            omega
          · have h0 := i2 m
            rw [covers_snoc]
            simp only
            rw [h0]
            by_cases hm : m = q
            · subst hm
              simp [hS]
            · have e : (decide (q ≤ m) && decide (m ≤ q)) = false := by simp; omega
              have e2 : (m < q + 1) ↔ m < q := by omega
              rw [e]
              simp only [e2, Bool.or_false]
          · rw [sumR_snoc, i3]
            simp
          · intro rs' a' c' h
            obtain ⟨_, e⟩ := List.append_inj' h rfl
            cases e
            omega

theorem runs_good (S : Nat → Bool) : Good (runsOf S) := (runs_inv S 256 (Nat.le_refl _)).1
theorem runs_covers (S : Nat → Bool) : ∀ m, m < 256 → covers (runsOf S) m = S m := fun m hm => by
  have := (runs_inv S 256 (Nat.le_refl _)).2.1 m
  unfold runsOf mem
  rw [this]
  simp [hm]
theorem runs_sum (S : Nat → Bool) : sumR (runsOf S) = ((mem S).length : Nat) := (runs_inv S 256 (Nat.le_refl _)).2.2.1
theorem runs_len (S : Nat → Bool) : (runsOf S).length ≤ 256 := Nat.le_trans (runsL_len _) (upTo_len S 256)

theorem sumR_bound : ∀ (rs : List (Nat × Nat)), (∀ p ∈ rs, p.1 ≤ p.2 ∧ p.2 < 256) → 0 ≤ sumR rs ∧ sumR rs ≤ 256 * (rs.length : Int)
  | [], _ => by simp [sumR]
  | p :: rs, h => by
    obtain ⟨h1, h2⟩ := sumR_bound rs (fun q hq => h q (List.mem_cons_of_mem _ hq))
    have h3 := h p List.mem_cons_self
    have e : sumR (p :: rs) = (p.2 : Int) - (p.1 : Int) + 1 + sumR rs := by simp [sumR]
    have e2 : ((p :: rs).length : Int) = (rs.length : Int) + 1 := by simp
    rw [e, e2]
    omega

theorem Good.mem {rs : List (Nat × Nat)} (h : Good rs) {p : Nat × Nat} (hp : p ∈ rs) : p.1 ≤ p.2 ∧ p.2 < 256 := by
  obtain ⟨s, t, e⟩ := List.append_of_mem hp
  obtain ⟨h1, h2, _⟩ := h s p.1 p.2 t e
  exact ⟨h1, h2⟩

theorem sumR_head {rs pre post : List (Nat × Nat)} (h : Good rs) (e : rs = pre ++ post) (hl : rs.length ≤ 256) : 0 ≤ sumR pre ∧ sumR pre ≤ 65536 := by
  obtain ⟨h1, h2⟩ := sumR_bound pre (fun p hp => h.mem (by rw [e]; exact List.mem_append_left _ hp))
  have : pre.length ≤ rs.length := by rw [e]; simp
  omega
end Go.Proofs.YtjeogbdeagkomaaDoor.Bset

/- Signs, literals and classes, by the document's words. Of no program. -/
namespace Go.Proofs.YtjeogbdeagkomaaDoor.Qm
open Bset

/-- How signs stand: what is no sign itself; whether there are ranges; what stands at the end. -/
structure Sp where
  wo : List Nat
  rng : Bool
  last : Nat

def lit : Sp := ⟨[34, 92], false, 34⟩
def cls : Sp := ⟨[93, 45, 94, 92], true, 93⟩

/-- One of the two. -/
def Is (p : Sp) : Prop := p = lit ∨ p = cls

def hexB : ByteArray := ⟨#[48, 49, 50, 51, 52, 53, 54, 55, 56, 57, 97, 98, 99, 100, 101, 102]⟩
def plain (p : Sp) (b : Nat) : Bool := (decide (32 ≤ b) && decide (b ≤ 126)) && !p.wo.contains b
def behind (p : Sp) (b : Nat) : Option Nat := if p.wo.contains b then some b else if b = 110 then some 10 else if b = 114 then some 13 else if b = 116 then some 9 else none
def ahead (p : Sp) (b : Nat) : Option Nat := if p.wo.contains b then some b else if b = 10 then some 110 else if b = 13 then some 114 else if b = 9 then some 116 else none
def hexd (n : Nat) : UInt8 := hexB.data.toList.getD n 0
/-- A byte's own sign. -/
def sign (p : Sp) (b : Nat) : List UInt8 :=
  if plain p b then [UInt8.ofNat b] else match ahead p b with
    | some c => [92, UInt8.ofNat c]
    | none => [92, 120, hexd (b / 16), hexd (b % 16)]

def low (b : Nat) : Nat := if 65 ≤ b ∧ b ≤ 70 then b + 32 else b
/-- A hexadecimal digit's number, or -1. -/
def dg (b : Nat) : Int := Lib.indexByte hexB.data.toList (UInt8.ofNat (low b))

def hx : List UInt8 → Nat × Nat × Bool
  | [] => (0, 0, false)
  | c :: r => if dg c.toNat < 0 then (0, 0, false) else
    match r with
    | [] => (0, 1, false)
    | d :: _ => if dg d.toNat < 0 then (0, 1, false) else ((dg c.toNat).toNat * 16 + (dg d.toNat).toNat, 2, true)

/-- A sign is read: its byte; how long it is, or where it goes wrong; whether it is one. -/
def rd (p : Sp) : List UInt8 → Nat × Nat × Bool
  | [] => (0, 0, false)
  | c :: r => if c.toNat = 92 then
      match r with
      | [] => (0, 1, false)
      | d :: r2 =>
        match behind p d.toNat with
        | some v => (v, 2, true)
        | none => if d.toNat = 120 then ((hx r2).1, 2 + (hx r2).2.1, (hx r2).2.2) else (0, 1, false)
    else if plain p c.toNat then (c.toNat, 1, true) else (0, 0, false)

/-- A sign, or a range. -/
def pt (p : Sp) (l : List UInt8) : Nat × Nat × Nat × Bool :=
  if (rd p l).2.2 = true ∧ p.rng = true ∧ (l.drop (rd p l).2.1).head? = some 45 then
    if (rd p (l.drop ((rd p l).2.1 + 1))).2.2 = true ∧ (rd p (l.drop ((rd p l).2.1 + 1))).1 < (rd p l).1 then (0, 0, 0, false)
    else ((rd p l).1, (rd p (l.drop ((rd p l).2.1 + 1))).1, (rd p l).2.1 + 1 + (rd p (l.drop ((rd p l).2.1 + 1))).2.1, (rd p (l.drop ((rd p l).2.1 + 1))).2.2)
  else ((rd p l).1, (rd p l).1, (rd p l).2.1, (rd p l).2.2)

/-- All that stand from here on, as long as they may be; how many bytes they have. -/
def run (p : Sp) : Nat → List UInt8 → List (Nat × Nat) × Nat
  | 0, _ => ([], 0)
  | f + 1, l => if (pt p l).2.2.2 then (((pt p l).1, (pt p l).2.1) :: (run p f (l.drop (pt p l).2.2.1)).1, (pt p l).2.2.1 + (run p f (l.drop (pt p l).2.2.1)).2) else ([], 0)

/-- The same, with the place behind each. -/
def pts (p : Sp) : Nat → List UInt8 → Nat → List (Nat × Nat × Nat)
  | 0, _, _ => []
  | f + 1, l, k => if (pt p l).2.2.2 then ((pt p l).1, (pt p l).2.1, k + (pt p l).2.2.1) :: pts p f (l.drop (pt p l).2.2.1) (k + (pt p l).2.2.1) else []

def all (p : Sp) (l : List UInt8) : List (Nat × Nat) × Nat := run p (l.length + 1) l
def parts (p : Sp) (l : List UInt8) (k : Nat) : List (Nat × Nat × Nat) := pts p (l.length + 1) l k
def lastEnd (ps : List (Nat × Nat × Nat)) (k : Nat) : Nat := ps.foldl (fun _ x => x.2.2) k

def fau (n k : Nat) : Nat := if k = n then 8 else 4

/-- What stands behind the signs: its end, or the fault. -/
def ended (p : Sp) (t : List UInt8) (k : Nat) : Nat × Nat :=
  if (t.drop k).head? = some (UInt8.ofNat p.last) then (k + 1, 0) else (k + (pt p (t.drop k)).2.2.1, fau t.length (k + (pt p (t.drop k)).2.2.1))

def unlit (t : List UInt8) : List UInt8 × Nat × Nat :=
  if t.head? = some 34 then
    if (ended lit t (1 + (all lit (t.drop 1)).2)).2 ≠ 0 then ([], ended lit t (1 + (all lit (t.drop 1)).2))
    else if (all lit (t.drop 1)).1.length > 255 then ([], 0, 40)
    else ((all lit (t.drop 1)).1.map (fun x => UInt8.ofNat x.1), (ended lit t (1 + (all lit (t.drop 1)).2)).1, 0)
  else ([], 0, fau t.length 0)

def from_ (t : List UInt8) : Nat := if t[1]? = some 94 then 2 else 1

def uncls (t : List UInt8) : (Nat → Bool) × Nat × Nat :=
  if t.head? = some 91 then
    if (ended cls t (from_ t + (all cls (t.drop (from_ t))).2)).2 ≠ 0 then (fun _ => false, ended cls t (from_ t + (all cls (t.drop (from_ t))).2))
    else (fun n => if from_ t = 2 then !covers (all cls (t.drop (from_ t))).1 n else covers (all cls (t.drop (from_ t))).1 n, (ended cls t (from_ t + (all cls (t.drop (from_ t))).2)).1, 0)
  else (fun _ => false, 0, fau t.length 0)

def litT (s : List UInt8) : List UInt8 := 34 :: (s.flatMap fun c => sign lit c.toNat) ++ [34]
def runT (r : Nat × Nat) : List UInt8 := sign cls r.1 ++ (if r.1 + 1 < r.2 then [45] else []) ++ (if r.2 = r.1 then [] else sign cls r.2)
def isAll (S : Nat → Bool) : Bool := (List.range 256).all fun n => S n == true
def clsT (S : Nat → Bool) : List UInt8 := if isAll S then [46] else 91 :: ((runsOf S).flatMap runT) ++ [93]

/-! ### What a sign is -/

theorem u8 {b : Nat} (h : b < 256) : (UInt8.ofNat b).toNat = b := by
  rw [UInt8.toNat_ofNat']
  exact Nat.mod_eq_of_lt h

theorem plain_ne (p : Sp) (hp : Is p) : ∀ b, b < 256 → plain p b = true → b ≠ 92 := by
  rcases hp with rfl | rfl <;> decide +kernel
theorem ahead_behind (p : Sp) (hp : Is p) : ∀ b, b < 256 → (match ahead p b with | some c => decide (c < 256) && (behind p c == some b) | none => true) = true := by
  rcases hp with rfl | rfl <;> decide +kernel
theorem behind_sign (p : Sp) (hp : Is p) : ∀ d, d < 256 → (match behind p d with | some c => decide (c < 256) && decide ((sign p c).length ≤ 2) | none => true) = true := by
  rcases hp with rfl | rfl <;> decide +kernel
theorem behind_x (p : Sp) (hp : Is p) : behind p 120 = none := by
  rcases hp with rfl | rfl <;> decide +kernel
theorem hexd_dg : ∀ n, n < 16 → dg (hexd n).toNat = (n : Int) := by decide +kernel
theorem dg_lt : ∀ b, b < 256 → dg b < 16 := by decide +kernel
theorem sign_len (p : Sp) (hp : Is p) : ∀ b, b < 256 → 1 ≤ (sign p b).length ∧ (sign p b).length ≤ 4 := by
  rcases hp with rfl | rfl <;> decide +kernel
theorem sign_head : ∀ b, b < 256 → (sign cls b).head? ≠ some 45 ∧ (sign cls b).head? ≠ some 94 ∧ (sign cls b).head? ≠ some 93 ∧ sign cls b ≠ [] := by decide +kernel
theorem sign_seen (p : Sp) (hp : Is p) : ∀ b, b < 256 → ((sign p b).all fun c => decide (32 ≤ c.toNat) && decide (c.toNat ≤ 126)) = true := by
  rcases hp with rfl | rfl <;> decide +kernel
theorem plain_len (p : Sp) (b : Nat) (h : plain p b = true) : (sign p b).length = 1 := by
  unfold sign
  rw [if_pos h]
  rfl

theorem rd1 (p : Sp) (c : UInt8) (r : List UInt8) (h : c.toNat ≠ 92) : rd p (c :: r) = if plain p c.toNat then (c.toNat, 1, true) else (0, 0, false) := by
  simp [rd, h]
theorem rd2 (p : Sp) (c : UInt8) (h : c.toNat = 92) : rd p [c] = (0, 1, false) := by
  simp [rd, h]
theorem rd3 (p : Sp) (c d : UInt8) (r : List UInt8) (h : c.toNat = 92) : rd p (c :: d :: r) = match behind p d.toNat with
    | some v => (v, 2, true)
    | none => if d.toNat = 120 then ((hx r).1, 2 + (hx r).2.1, (hx r).2.2) else (0, 1, false) := by
  simp [rd, h]
theorem hx1 (c : UInt8) (r : List UInt8) (h : dg c.toNat < 0) : hx (c :: r) = (0, 0, false) := by
  simp [hx, h]
theorem hx2 (c : UInt8) (h : ¬ dg c.toNat < 0) : hx [c] = (0, 1, false) := by
  simp [hx, h]
theorem hx3 (c d : UInt8) (r : List UInt8) (h : ¬ dg c.toNat < 0) (h2 : dg d.toNat < 0) : hx (c :: d :: r) = (0, 1, false) := by
  simp [hx, h, h2]
theorem hx4 (c d : UInt8) (r : List UInt8) (h : ¬ dg c.toNat < 0) (h2 : ¬ dg d.toNat < 0) : hx (c :: d :: r) = ((dg c.toNat).toNat * 16 + (dg d.toNat).toNat, 2, true) := by
  simp [hx, h, h2]

theorem hx_le (l : List UInt8) : (hx l).2.1 ≤ l.length ∧ ((hx l).2.2 = true → (hx l).2.1 = 2 ∧ (hx l).1 < 256) := by
  match l with
  | [] => simp [hx]
  | c :: r =>
    by_cases h : dg c.toNat < 0
    · rw [hx1 c r h]
      simp
    · match r with
      | [] =>
        rw [hx2 c h]
        simp
      | d :: r =>
        have h1 := dg_lt c.toNat c.toNat_lt
        have h2 := dg_lt d.toNat d.toNat_lt
        by_cases h3 : dg d.toNat < 0
        · rw [hx3 c d r h h3]
          simp
        · rw [hx4 c d r h h3]
          simp
          omega

theorem rd_le (p : Sp) (hp : Is p) (l : List UInt8) : (rd p l).2.1 ≤ l.length ∧ ((rd p l).2.2 = true → 1 ≤ (rd p l).2.1 ∧ (rd p l).1 < 256 ∧ (sign p (rd p l).1).length ≤ (rd p l).2.1) := by
  match l with
  | [] => simp [rd]
  | c :: r =>
    by_cases h : c.toNat = 92
    · match r with
      | [] =>
        rw [rd2 p c h]
        simp
      | d :: r =>
        have hb := behind_sign p hp d.toNat d.toNat_lt
        have hh := hx_le r
        rw [rd3 p c d r h]
        cases hd : behind p d.toNat with
        | some v =>
          rw [hd] at hb
          simp at hb
          simp [hb]
        | none =>
          simp only
          split
          · simp only
            refine ⟨by have := hh.1; simp; omega, fun h => ?_⟩
            obtain ⟨h1, h2⟩ := hh.2 h
            have := (sign_len p hp _ h2).2
            omega
          · simp
    · rw [rd1 p c r h]
      split
      · rename_i h
        have := plain_len p _ h
        have := c.toNat_lt
        simp only
        refine ⟨by simp, fun _ => ?_⟩
        omega
      · simp

/-- A sign is read as it was written. -/
theorem rd_sign (p : Sp) (hp : Is p) (b : Nat) (hb : b < 256) (r : List UInt8) : rd p (sign p b ++ r) = (b, (sign p b).length, true) := by
  unfold sign
  by_cases h : plain p b = true
  · rw [if_pos h]
    have h1 := plain_ne p hp b hb h
    show rd p (UInt8.ofNat b :: r) = _
    rw [rd1 p _ r (by rw [u8 hb]; exact h1), u8 hb, if_pos h]
    rfl
  · rw [if_neg h]
    have ha := ahead_behind p hp b hb
    cases hc : ahead p b with
    | some c =>
      rw [hc] at ha
      simp at ha
      show rd p (92 :: UInt8.ofNat c :: r) = _
      rw [rd3 p _ _ r rfl, u8 ha.1, ha.2]
      rfl
    | none =>
      show rd p (92 :: 120 :: hexd (b / 16) :: hexd (b % 16) :: r) = _
      have e : (120 : UInt8).toNat = 120 := rfl
      have d1 := hexd_dg (b / 16) (by omega)
      have d2 := hexd_dg (b % 16) (by omega)
      have hh : hx (hexd (b / 16) :: hexd (b % 16) :: r) = (b, 2, true) := by
        rw [hx4 _ _ _ (by omega) (by omega), d1, d2]
        have : ((b / 16 : Nat) : Int).toNat * 16 + ((b % 16 : Nat) : Int).toNat = b := by omega
        rw [this]
      rw [rd3 p _ _ _ rfl, e, behind_x p hp]
      simp only
      rw [hh]
      rfl

theorem pt_le (p : Sp) (hp : Is p) (l : List UInt8) : (pt p l).2.2.1 ≤ l.length ∧ ((pt p l).2.2.2 = true → 1 ≤ (pt p l).2.2.1 ∧ (pt p l).1 ≤ (pt p l).2.1 ∧ (pt p l).2.1 < 256) := by
  have h1 := rd_le p hp l
  have h2 := rd_le p hp (l.drop ((rd p l).2.1 + 1))
  unfold pt
  split
  · rename_i h
    have h3 : 1 ≤ (l.drop (rd p l).2.1).length := by
      cases hd : l.drop (rd p l).2.1 with
      | nil => rw [hd] at h; simp at h
      | cons => simp
    rw [List.length_drop] at h2 h3
    split
    · simp
    · rename_i h4
      simp only
      refine ⟨by omega, fun h5 => ?_⟩
      have := h2.2 h5
      have h6 : ¬ (rd p (List.drop ((rd p l).2.1 + 1) l)).1 < (rd p l).1 := fun h => h4 ⟨h5, h⟩
      omega
  · simp only
    refine ⟨h1.1, fun h => ?_⟩
    have := h1.2 h
    omega

/-- A literal's sign. -/
theorem pt_lit (b : Nat) (hb : b < 256) (r : List UInt8) : pt lit (sign lit b ++ r) = (b, b, (sign lit b).length, true) := by
  unfold pt
  rw [rd_sign lit (.inl rfl) b hb r]
  simp [lit]
/-- A class's sign, and no - behind it. -/
theorem pt_one (b : Nat) (hb : b < 256) (r : List UInt8) (hr : r.head? ≠ some 45) : pt cls (sign cls b ++ r) = (b, b, (sign cls b).length, true) := by
  unfold pt
  rw [rd_sign cls (.inr rfl) b hb r]
  simp only [List.drop_left]
  rw [if_neg (fun h => hr h.2.2)]
/-- A range. -/
theorem pt_two (a b : Nat) (ha : a < 256) (hb : b < 256) (hab : a ≤ b) (r : List UInt8) : pt cls (sign cls a ++ (45 :: (sign cls b ++ r))) = (a, b, (sign cls a).length + 1 + (sign cls b).length, true) := by
  unfold pt
  rw [rd_sign cls (.inr rfl) a ha]
  simp only [List.drop_left]
  have e : List.drop ((sign cls a).length + 1) (sign cls a ++ 45 :: (sign cls b ++ r)) = sign cls b ++ r := by
    rw [← List.drop_drop, List.drop_left]
    rfl
  rw [e, rd_sign cls (.inr rfl) b hb]
  simp only
  rw [if_pos (by simp [cls]), if_neg (fun h => by omega)]
theorem pt_quote (r : List UInt8) : pt lit (34 :: r) = (0, 0, 0, false) := by
  simp [pt, rd, plain, lit]
theorem pt_close (r : List UInt8) : pt cls (93 :: r) = (0, 0, 0, false) := by
  simp [pt, rd, plain, cls]

/-! ### All of them -/

theorem run_more (p : Sp) (hp : Is p) : ∀ (f g : Nat) (l : List UInt8), l.length < f → l.length < g → run p f l = run p g l
  | 0, _, _, h, _ => by omega
  | _ + 1, 0, _, _, h => by omega
  | f + 1, g + 1, l, h1, h2 => by
    unfold run
    by_cases h : (pt p l).2.2.2 = true
    · have := (pt_le p hp l).2 h
      have := (pt_le p hp l).1
      rw [if_pos h, if_pos h, run_more p hp f g (l.drop (pt p l).2.2.1) (by rw [List.length_drop]; omega) (by rw [List.length_drop]; omega)]
    · rw [if_neg h, if_neg h]
theorem pts_more (p : Sp) (hp : Is p) : ∀ (f g : Nat) (l : List UInt8) (k : Nat), l.length < f → l.length < g → pts p f l k = pts p g l k
  | 0, _, _, _, h, _ => by omega
  | _ + 1, 0, _, _, _, h => by omega
  | f + 1, g + 1, l, k, h1, h2 => by
    unfold pts
    by_cases h : (pt p l).2.2.2 = true
    · have := (pt_le p hp l).2 h
      have := (pt_le p hp l).1
      rw [if_pos h, if_pos h, pts_more p hp f g (l.drop (pt p l).2.2.1) _ (by rw [List.length_drop]; omega) (by rw [List.length_drop]; omega)]
    · rw [if_neg h, if_neg h]
theorem all_go (p : Sp) (hp : Is p) (l : List UInt8) (h : (pt p l).2.2.2 = true) :
    all p l = (((pt p l).1, (pt p l).2.1) :: (all p (l.drop (pt p l).2.2.1)).1, (pt p l).2.2.1 + (all p (l.drop (pt p l).2.2.1)).2) := by
  have h1 := (pt_le p hp l).2 h
  have h2 := (pt_le p hp l).1
  unfold all
  rw [run, if_pos h, run_more p hp l.length ((l.drop (pt p l).2.2.1).length + 1) _ (by rw [List.length_drop]; omega) (by omega)]
theorem all_end (p : Sp) (l : List UInt8) (h : (pt p l).2.2.2 = false) : all p l = ([], 0) := by
  unfold all
  rw [run, if_neg (by rw [h]; simp)]
theorem parts_go (p : Sp) (hp : Is p) (l : List UInt8) (k : Nat) (h : (pt p l).2.2.2 = true) :
    parts p l k = ((pt p l).1, (pt p l).2.1, k + (pt p l).2.2.1) :: parts p (l.drop (pt p l).2.2.1) (k + (pt p l).2.2.1) := by
  have h1 := (pt_le p hp l).2 h
  have h2 := (pt_le p hp l).1
  unfold parts
  rw [pts, if_pos h, pts_more p hp l.length ((l.drop (pt p l).2.2.1).length + 1) _ _ (by rw [List.length_drop]; omega) (by omega)]
theorem parts_end (p : Sp) (l : List UInt8) (k : Nat) (h : (pt p l).2.2.2 = false) : parts p l k = [] := by
  unfold parts
  rw [pts, if_neg (by rw [h]; simp)]

theorem pts_run (p : Sp) : ∀ (f : Nat) (l : List UInt8) (k : Nat), (pts p f l k).map (fun x => (x.1, x.2.1)) = (run p f l).1 ∧ lastEnd (pts p f l k) k = k + (run p f l).2
  | 0, _, _ => ⟨rfl, rfl⟩
  | f + 1, l, k => by
    unfold pts run
    by_cases h : (pt p l).2.2.2 = true
    · obtain ⟨h1, h2⟩ := pts_run p f (l.drop (pt p l).2.2.1) (k + (pt p l).2.2.1)
      rw [if_pos h, if_pos h]
      refine ⟨by simp [h1], ?_⟩
      simp only
      unfold lastEnd at h2 ⊢
      rw [List.foldl_cons, h2]
      omega
    · rw [if_neg h, if_neg h]
      exact ⟨rfl, rfl⟩
theorem parts_all (p : Sp) (l : List UInt8) (k : Nat) : (parts p l k).map (fun x => (x.1, x.2.1)) = (all p l).1 ∧ lastEnd (parts p l k) k = k + (all p l).2 := pts_run p _ l k

/-- What all of them are: each rises, below 256; they end in the text; no part stands behind. -/
theorem all_ok (p : Sp) (hp : Is p) : ∀ (n : Nat) (l : List UInt8), l.length ≤ n → (∀ x ∈ (all p l).1, x.1 ≤ x.2 ∧ x.2 < 256) ∧ (all p l).2 ≤ l.length ∧ (all p l).1.length ≤ (all p l).2 ∧ (pt p (l.drop (all p l).2)).2.2.2 = false
  | n, l, hn => by
    by_cases h : (pt p l).2.2.2 = true
    · have h1 := (pt_le p hp l).2 h
      have h2 := (pt_le p hp l).1
      match n with
      | 0 => omega
      | n + 1 =>
        obtain ⟨i1, i2, i3, i4⟩ := all_ok p hp n (l.drop (pt p l).2.2.1) (by rw [List.length_drop]; omega)
        rw [all_go p hp l h]
        rw [List.length_drop] at i2
        refine ⟨fun x hx => ?_, by simp only; omega, by simp only [List.length_cons]; omega, ?_⟩
        · rcases List.mem_cons.1 hx with rfl | hx
          · exact h1.2
          · exact i1 x hx
        · simp only
          rw [← List.drop_drop]
          exact i4
    · have h0 : (pt p l).2.2.2 = false := by simpa using h
      rw [all_end p l h0]
      exact ⟨by simp, by simp, by simp, h0⟩
end Go.Proofs.YtjeogbdeagkomaaDoor.Qm

/- What was written is read as it was; what is written is seen, and its ends stand alone. Of no program. -/
namespace Go.Proofs.YtjeogbdeagkomaaDoor.Qm
open Bset

/-! ### There and back: literals -/

def sigs (s : List UInt8) : List UInt8 := s.flatMap fun c => sign lit c.toNat

theorem all_lit : ∀ (s r : List UInt8), all lit (sigs s ++ 34 :: r) = (s.map (fun c => (c.toNat, c.toNat)), (sigs s).length)
  | [], r => by
    show all lit (34 :: r) = _
    rw [all_end _ _ (by rw [pt_quote])]
    rfl
  | c :: s, r => by
    have hc := c.toNat_lt
    have e : sigs (c :: s) ++ 34 :: r = sign lit c.toNat ++ (sigs s ++ 34 :: r) := by simp [sigs]
    have h := pt_lit c.toNat hc (sigs s ++ 34 :: r)
    rw [e, all_go lit (.inl rfl) _ (by rw [h]), h]
    simp only [List.drop_left]
    rw [all_lit s r]
    simp [sigs]

theorem litT_eq (s : List UInt8) : litT s = 34 :: (sigs s ++ [34]) := rfl
theorem litT_len (s : List UInt8) : (litT s).length = (sigs s).length + 2 := by simp [litT_eq]
theorem sigs_len : ∀ (s : List UInt8), s.length ≤ (sigs s).length ∧ (sigs s).length ≤ 4 * s.length
  | [] => by simp [sigs]
  | c :: s => by
    have := sigs_len s
    have := sign_len lit (.inl rfl) c.toNat c.toNat_lt
    have e : (sigs (c :: s)).length = (sign lit c.toNat).length + (sigs s).length := by simp [sigs]
    rw [e, List.length_cons]
    omega

theorem ofNat_toNat (c : UInt8) : UInt8.ofNat c.toNat = c := by simp

theorem unlit_back (s r : List UInt8) (hs : s.length ≤ 255) : unlit (litT s ++ r) = (s, (litT s).length, 0) := by
  have e : litT s ++ r = 34 :: (sigs s ++ 34 :: r) := by simp [litT_eq]
  have h1 : all lit ((litT s ++ r).drop 1) = (s.map (fun c => (c.toNat, c.toNat)), (sigs s).length) := by
    rw [e]
    exact all_lit s r
  have h2 : ended lit (litT s ++ r) (1 + (sigs s).length) = ((sigs s).length + 2, 0) := by
    unfold ended
    have e2 : (litT s ++ r).drop (1 + (sigs s).length) = 34 :: r := by
      rw [e, ← List.drop_drop]
      simp
    rw [e2, if_pos (show (34 :: r).head? = some (UInt8.ofNat lit.last) from rfl)]
    congr 1
    omega
  unfold unlit
  rw [h1]
  simp only
  rw [h2, if_pos (by rw [e]; rfl), if_neg (by simp), if_neg (by simp; omega), litT_len, List.map_map]
  congr 1
  have : ((fun x : Nat × Nat => UInt8.ofNat x.1) ∘ fun c : UInt8 => (c.toNat, c.toNat)) = id := by
    funext c
    simp
  rw [this, List.map_id]

/-! ### There and back: classes -/

def runsT (rs : List (Nat × Nat)) : List UInt8 := rs.flatMap runT

theorem runT_one (a : Nat) : runT (a, a) = sign cls a := by
  simp [runT]
theorem runT_pair (a : Nat) : runT (a, a + 1) = sign cls a ++ sign cls (a + 1) := by
  simp [runT]
theorem runT_more (a b : Nat) (h : a + 1 < b) : runT (a, b) = sign cls a ++ (45 :: sign cls b) := by
  have : b ≠ a := by omega
  simp [runT, h, this]

theorem head_signs (b : Nat) (hb : b < 256) (x : List UInt8) : (sign cls b ++ x).head? ≠ some 45 ∧ (sign cls b ++ x).head? ≠ some 94 := by
  obtain ⟨h1, h2, _, h4⟩ := sign_head b hb
  cases hs : sign cls b with
  | nil => exact absurd hs h4
  | cons c l =>
    rw [hs] at h1 h2
    exact ⟨h1, h2⟩
theorem head_runs (rs : List (Nat × Nat)) (h : ∀ x ∈ rs, x.1 ≤ x.2 ∧ x.2 < 256) (r : List UInt8) : (runsT rs ++ 93 :: r).head? ≠ some 45 ∧ (runsT rs ++ 93 :: r).head? ≠ some 94 := by
  cases rs with
  | nil => simp [runsT]
  | cons x rs =>
    have := h x List.mem_cons_self
    have e : runsT (x :: rs) ++ 93 :: r = sign cls x.1 ++ ((if x.1 + 1 < x.2 then [45] else []) ++ (if x.2 = x.1 then [] else sign cls x.2) ++ runsT rs ++ 93 :: r) := by
      simp [runsT, runT]
    rw [e]
    exact head_signs _ (by omega) _

theorem covers_cons (x : Nat × Nat) (rs : List (Nat × Nat)) (m : Nat) : covers (x :: rs) m = ((decide (x.1 ≤ m) && decide (m ≤ x.2)) || covers rs m) := by
  simp [covers]

theorem all_runs : ∀ (rs : List (Nat × Nat)) (r : List UInt8), (∀ x ∈ rs, x.1 ≤ x.2 ∧ x.2 < 256) →
    (all cls (runsT rs ++ 93 :: r)).2 = (runsT rs).length ∧ ∀ m, covers (all cls (runsT rs ++ 93 :: r)).1 m = covers rs m
  | [], r, _ => by
    have e : runsT [] ++ 93 :: r = 93 :: r := rfl
    rw [e, all_end _ _ (by rw [pt_close])]
    exact ⟨rfl, fun _ => rfl⟩
  | (a, b) :: rs, r, h => by
    have hx := h (a, b) List.mem_cons_self
    have hrs : ∀ x ∈ rs, x.1 ≤ x.2 ∧ x.2 < 256 := fun x hx => h x (List.mem_cons_of_mem _ hx)
    simp only at hx
    have hh := head_runs rs hrs r
    obtain ⟨i1, i2⟩ := all_runs rs r hrs
    rcases Nat.lt_or_ge (a + 1) b with hab | hab
    · have e : runsT ((a, b) :: rs) ++ 93 :: r = sign cls a ++ (45 :: (sign cls b ++ (runsT rs ++ 93 :: r))) := by
        show (runT (a, b) ++ runsT rs) ++ 93 :: r = _
        rw [runT_more a b hab]
        simp
      have hp := pt_two a b (by omega) (by omega) hx.1 (runsT rs ++ 93 :: r)
      have e2 : List.drop ((sign cls a).length + 1 + (sign cls b).length) (sign cls a ++ (45 :: (sign cls b ++ (runsT rs ++ 93 :: r)))) = runsT rs ++ 93 :: r := by
        rw [← List.drop_drop, ← List.drop_drop, List.drop_left]
        simp
      rw [e, all_go cls (.inr rfl) _ (by rw [hp]), hp]
      simp only
      rw [e2]
      refine ⟨?_, fun m => ?_⟩
      · rw [i1]
        show _ = (runT (a, b) ++ runsT rs).length
        rw [runT_more a b hab]
        simp
        omega
      · rw [covers_cons, covers_cons, i2]
    · rcases Nat.lt_or_ge a b with h2 | h2
      · obtain rfl : b = a + 1 := by omega
        have e : runsT ((a, a + 1) :: rs) ++ 93 :: r = sign cls a ++ (sign cls (a + 1) ++ (runsT rs ++ 93 :: r)) := by
          show (runT (a, a + 1) ++ runsT rs) ++ 93 :: r = _
          rw [runT_pair a]
          simp
        have hp := pt_one a (by omega) (sign cls (a + 1) ++ (runsT rs ++ 93 :: r)) (head_signs _ (by omega) _).1
        have hq := pt_one (a + 1) (by omega) (runsT rs ++ 93 :: r) hh.1
        rw [e, all_go cls (.inr rfl) _ (by rw [hp]), hp]
        simp only [List.drop_left]
        rw [all_go cls (.inr rfl) _ (by rw [hq]), hq]
        simp only [List.drop_left]
        refine ⟨?_, fun m => ?_⟩
        · rw [i1]
          show _ = (runT (a, a + 1) ++ runsT rs).length
          rw [runT_pair a]
          simp
        · rw [covers_cons, covers_cons, covers_cons, i2, ← Bool.or_assoc]
          congr 1
          rw [Bool.eq_iff_iff]
          simp
          omega
      · obtain rfl : b = a := by omega
        have e : runsT ((b, b) :: rs) ++ 93 :: r = sign cls b ++ (runsT rs ++ 93 :: r) := by
          show (runT (b, b) ++ runsT rs) ++ 93 :: r = _
          rw [runT_one b]
          simp
        have hp := pt_one b (by omega) (runsT rs ++ 93 :: r) hh.1
        rw [e, all_go cls (.inr rfl) _ (by rw [hp]), hp]
        simp only [List.drop_left]
        refine ⟨?_, fun m => ?_⟩
        · rw [i1]
          show _ = (runT (b, b) ++ runsT rs).length
          rw [runT_one b]
          simp
        · rw [covers_cons, covers_cons, i2]

theorem clsT_eq (S : Nat → Bool) (h : isAll S = false) : clsT S = 91 :: (runsT (runsOf S) ++ [93]) := by
  unfold clsT
  rw [h]
  rfl

theorem uncls_back (S : Nat → Bool) (h : isAll S = false) (r : List UInt8) : (∀ m, m < 256 → (uncls (clsT S ++ r)).1 m = S m) ∧ (uncls (clsT S ++ r)).2 = ((clsT S).length, 0) := by
  have hg : ∀ x ∈ runsOf S, x.1 ≤ x.2 ∧ x.2 < 256 := fun x hx => (runs_good S).mem hx
  have e : clsT S ++ r = 91 :: (runsT (runsOf S) ++ 93 :: r) := by rw [clsT_eq S h]; simp
  have hh := (head_runs (runsOf S) hg r).2
  have hf : from_ (clsT S ++ r) = 1 := by
    unfold from_
    rw [e, if_neg]
    intro h2
    apply hh
    rw [List.head?_eq_getElem?]
    exact h2
  obtain ⟨a1, a2⟩ := all_runs (runsOf S) r hg
  have hd : (clsT S ++ r).drop 1 = runsT (runsOf S) ++ 93 :: r := by rw [e]; rfl
  have hE : ended cls (clsT S ++ r) (1 + (runsT (runsOf S)).length) = ((runsT (runsOf S)).length + 2, 0) := by
    unfold ended
    have e2 : (clsT S ++ r).drop (1 + (runsT (runsOf S)).length) = 93 :: r := by
      rw [e, ← List.drop_drop]
      simp
    rw [e2, if_pos (show (93 :: r).head? = some (UInt8.ofNat cls.last) from rfl)]
    congr 1
    omega
  have hl : (clsT S).length = (runsT (runsOf S)).length + 2 := by rw [clsT_eq S h]; simp
  unfold uncls
  rw [hf, hd, a1, hE, if_pos (by rw [e]; rfl), if_neg (by simp), hl]
  refine ⟨fun m hm => ?_, rfl⟩
  simp only
  rw [if_neg (by decide), a2 m, runs_covers S m hm]

/-! ### What is seen -/

/-- A byte stands nowhere but behind a backslash. -/
def Held (q : UInt8) (l : List UInt8) : Prop := ∀ i, l[i]? = some q → ∃ j, i = j + 1 ∧ l[j]? = some 92

theorem Held.nil (q : UInt8) : Held q [] := fun i h => by simp at h
theorem Held.append {q : UInt8} {l r : List UInt8} (h1 : Held q l) (h2 : Held q r) : Held q (l ++ r) := by
  intro i h
  rcases Nat.lt_or_ge i l.length with hi | hi
  · rw [List.getElem?_append_left hi] at h
    obtain ⟨j, rfl, hj⟩ := h1 i h
    exact ⟨j, rfl, by rw [List.getElem?_append_left (by omega)]; exact hj⟩
  · rw [List.getElem?_append_right hi] at h
    obtain ⟨j, hj, hq⟩ := h2 _ h
    refine ⟨l.length + j, by omega, ?_⟩
    rw [List.getElem?_append_right (by omega), show l.length + j - l.length = j by omega]
    exact hq
theorem Held.flat {α : Type} {q : UInt8} (f : α → List UInt8) : ∀ (l : List α), (∀ x ∈ l, Held q (f x)) → Held q (l.flatMap f)
  | [], _ => Held.nil q
  | x :: l, h => by
    rw [List.flatMap_cons]
    exact (h x List.mem_cons_self).append (Held.flat f l fun y hy => h y (List.mem_cons_of_mem _ hy))

def heldB (q : UInt8) (l : List UInt8) : Bool := (List.range l.length).all fun i => l[i]? != some q || (decide (1 ≤ i) && (l[i - 1]? == some 92))
theorem held_of {q : UInt8} {l : List UInt8} (h : heldB q l = true) : Held q l := by
  intro i hi
  have hlt : i < l.length := (List.getElem?_eq_some_iff.1 hi).1
  unfold heldB at h
  rw [List.all_eq_true] at h
  have := h i (List.mem_range.2 hlt)
  rw [hi] at this
  simp at this
  exact ⟨i - 1, by omega, this.2⟩

theorem held_lit : ∀ b, b < 256 → heldB 34 (sign lit b) = true := by decide +kernel
theorem held_cls : ∀ b, b < 256 → heldB 93 (sign cls b) = true := by decide +kernel
theorem held_sigs (s : List UInt8) : Held 34 (sigs s) := Held.flat _ s fun c _ => held_of (held_lit c.toNat c.toNat_lt)
theorem held_runs (rs : List (Nat × Nat)) (h : ∀ x ∈ rs, x.1 ≤ x.2 ∧ x.2 < 256) : Held 93 (runsT rs) := by
  refine Held.flat _ rs fun x hx => ?_
  have hb := h x hx
  unfold runT
  refine Held.append (Held.append (held_of (held_cls x.1 (by omega))) ?_) ?_
  · split
    · exact held_of (by decide)
    · exact Held.nil _
  · split
    · exact Held.nil _
    · exact held_of (held_cls x.2 (by omega))

def Seen (l : List UInt8) : Prop := ∀ c ∈ l, 32 ≤ c.toNat ∧ c.toNat ≤ 126
theorem seen_sign (p : Sp) (hp : Is p) (b : Nat) (hb : b < 256) : Seen (sign p b) := by
  have := sign_seen p hp b hb
  rw [List.all_eq_true] at this
  intro c hc
  have := this c hc
  simpa using this
theorem seen_lit (s : List UInt8) : Seen (litT s) := by
  intro c hc
  rw [litT_eq] at hc
  rcases List.mem_cons.1 hc with rfl | hc
  · decide
  · rcases List.mem_append.1 hc with hc | hc
    · obtain ⟨x, _, hx⟩ := List.mem_flatMap.1 hc
      exact seen_sign lit (.inl rfl) _ x.toNat_lt c hx
    · rw [List.mem_singleton.1 hc]
      decide
theorem seen_cls (S : Nat → Bool) : Seen (clsT S) := by
  cases hA : isAll S with
  | true =>
    unfold clsT
    rw [hA]
    intro c hc
    rw [List.mem_singleton.1 hc]
    decide
  | false =>
    rw [clsT_eq S hA]
    intro c hc
    rcases List.mem_cons.1 hc with rfl | hc
    · decide
    · rcases List.mem_append.1 hc with hc | hc
      · obtain ⟨x, hx, hc⟩ := List.mem_flatMap.1 hc
        have hb := (runs_good S).mem hx
        unfold runT at hc
        rcases List.mem_append.1 hc with hc | hc
        · rcases List.mem_append.1 hc with hc | hc
          · exact seen_sign cls (.inr rfl) _ (by omega) c hc
          · split at hc
            · rw [List.mem_singleton.1 hc]
              decide
            · cases hc
        · split at hc
          · cases hc
          · exact seen_sign cls (.inr rfl) _ (by omega) c hc
      · rw [List.mem_singleton.1 hc]
        decide

theorem ends_alone {q a z : UInt8} {m : List UInt8} (h : Held q m) (i : Nat) (h0 : 0 < i) (h1 : i < m.length + 1) (hq : (a :: (m ++ [z]))[i]? = some q) : (a :: (m ++ [z]))[i - 1]? = some 92 := by
  obtain ⟨k, rfl⟩ : ∃ k, i = k + 1 := ⟨i - 1, by omega⟩
  rw [List.getElem?_cons_succ, List.getElem?_append_left (by omega)] at hq
  obtain ⟨j, rfl, hj⟩ := h k hq
  rw [show j + 1 + 1 - 1 = j + 1 by omega, List.getElem?_cons_succ, List.getElem?_append_left (by omega)]
  exact hj
end Go.Proofs.YtjeogbdeagkomaaDoor.Qm

/- What is read is not shorter than what is written of it; a ^ more, or less. Of no program. -/
namespace Go.Proofs.YtjeogbdeagkomaaDoor.Qm
open Bset

/-! ### What a set's text costs, byte by byte -/

def sg (n : Nat) : Nat := (sign cls n).length
theorem sg_pos {n : Nat} (h : n < 256) : 1 ≤ sg n := (sign_len cls (.inr rfl) n h).1

/-- What a byte adds: a run's first, and its last one, their signs; the second one of three or more the dash. -/
def fc (S : Nat → Bool) (q n : Nat) : Nat :=
  if S n = true then
    if n = 0 ∨ S (n - 1) = false then sg n
    else if ¬ (S (n + 1) = true ∧ n + 1 < q) then sg n
    else if n = 1 ∨ S (n - 2) = false then 1 else 0
  else 0

def sumTo (f : Nat → Nat) : Nat → Nat
  | 0 => 0
  | m + 1 => sumTo f m + f m

theorem sumTo_congr {f g : Nat → Nat} : ∀ {m : Nat}, (∀ n, n < m → f n = g n) → sumTo f m = sumTo g m
  | 0, _ => rfl
  | m + 1, h => by rw [sumTo, sumTo, sumTo_congr (fun n hn => h n (by omega)), h m (by omega)]
theorem sumTo_le {f g : Nat → Nat} : ∀ {m : Nat}, (∀ n, n < m → f n ≤ g n) → sumTo f m ≤ sumTo g m
  | 0, _ => Nat.le_refl _
  | m + 1, h => by
    have := sumTo_le (m := m) (fun n hn => h n (by omega))
    have := h m (by omega)
    rw [sumTo, sumTo]
    omega
theorem sumTo_add (f g : Nat → Nat) : ∀ (m : Nat), sumTo (fun n => f n + g n) m = sumTo f m + sumTo g m
  | 0 => rfl
  | m + 1 => by
    rw [sumTo, sumTo, sumTo, sumTo_add f g m]
    omega
theorem sumTo_one (a v : Nat) : ∀ (m : Nat), sumTo (fun n => if n = a then v else 0) m ≤ v ∧ (m ≤ a → sumTo (fun n => if n = a then v else 0) m = 0)
  | 0 => ⟨Nat.zero_le _, fun _ => rfl⟩
  | m + 1 => by
    obtain ⟨h1, h2⟩ := sumTo_one a v m
    rw [sumTo]
    by_cases h : m = a
    · have := h2 (by omega)
      rw [this, if_pos h]
      exact ⟨by omega, fun h3 => by omega⟩
    · rw [if_neg h]
      exact ⟨by omega, fun h3 => by rw [h2 (by omega)]⟩

theorem last_inv (S : Nat → Bool) : ∀ q, q ≤ 256 → (runsL (upTo S q) = [] → ∀ m, m < q → S m = false) ∧
    ∀ rs a c, runsL (upTo S q) = rs ++ [(a, c)] → a ≤ c ∧ c < q ∧ (∀ m, a ≤ m → m ≤ c → S m = true) ∧ (a = 0 ∨ S (a - 1) = false) ∧ (∀ m, c < m → m < q → S m = false)
  | 0, _ => ⟨fun _ m h => by omega, fun rs a c h => by simp [upTo, runsL] at h⟩
  | q + 1, hq => by
    obtain ⟨i1, i2⟩ := last_inv S q (by omega)
    rw [upTo_succ]
    cases hS : S q with
    | false =>
      rw [if_neg (by simp), List.append_nil]
      refine ⟨fun h m hm => ?_, fun rs a c h => ?_⟩
      · by_cases e : m = q
        · rw [e]; exact hS
        · exact i1 h m (by omega)
      · obtain ⟨h1, h2, h3, h4, h5⟩ := i2 rs a c h
        refine ⟨h1, by omega, h3, h4, fun m hm hm2 => ?_⟩
        by_cases e : m = q
        · rw [e]; exact hS
        · exact h5 m hm (by omega)
    | true =>
      rw [if_pos rfl, runsL_snoc]
      rcases (runsL (upTo S q)).eq_nil_or_concat with hr | ⟨rs, ⟨a, c⟩, hr⟩
      · have h0 := i1 hr
        rw [hr, addRun_none]
        refine ⟨fun h => by simp at h, fun rs a c h => ?_⟩
        obtain ⟨_, e⟩ := List.append_inj' (s₁ := []) h rfl
        cases e
        refine ⟨Nat.le_refl _, by omega, fun m h1 h2 => by rw [show m = q by omega]; exact hS, ?_, fun m h1 h2 => by omega⟩
        by_cases e : q = 0
        · exact .inl e
        · exact .inr (h0 _ (by omega))
      · rw [List.concat_eq_append] at hr
        obtain ⟨h1, h2, h3, h4, h5⟩ := i2 rs a c hr
        rw [hr]
        by_cases hx : (c + 1) % 256 = q
        · have hcq : c + 1 = q := by omega
          rw [addRun_on _ _ _ _ hx]
          refine ⟨fun h => by simp at h, fun rs' a' c' h => ?_⟩
          obtain ⟨_, e⟩ := List.append_inj' h rfl
          cases e
          refine ⟨by omega, by omega, fun m m1 m2 => ?_, h4, fun m m1 m2 => by omega⟩
          by_cases e : m = q
          · rw [e]; exact hS
          · exact h3 m m1 (by omega)
        · rw [addRun_new _ _ _ _ hx]
          refine ⟨fun h => by simp at h, fun rs' a' c' h => ?_⟩
          obtain ⟨_, e⟩ := List.append_inj' h rfl
          cases e
          exact ⟨Nat.le_refl _, by omega, fun m m1 m2 => by rw [show m = q by omega]; exact hS, .inr (h5 _ (by omega) (by omega)), fun m m1 m2 => by omega⟩

theorem runsT_snoc (rs : List (Nat × Nat)) (x : Nat × Nat) : (runsT (rs ++ [x])).length = (runsT rs).length + (runT x).length := by
  simp [runsT]
theorem runT_len (a b : Nat) : (runT (a, b)).length = sg a + (if a + 1 < b then 1 else 0) + (if b = a then 0 else sg b) := by
  unfold runT sg
  simp only [List.length_append]
  split <;> split <;> rfl

/-- A set's text is as long as its bytes cost. -/
theorem cost_eq (S : Nat → Bool) : ∀ q, q ≤ 256 → (runsT (runsL (upTo S q))).length = sumTo (fc S q) q
  | 0, _ => rfl
  | q + 1, hq => by
    have ih := cost_eq S q (by omega)
    obtain ⟨i1, i2⟩ := last_inv S q (by omega)
    rw [upTo_succ, sumTo]
    cases hS : S q with
    | false =>
      rw [if_neg (by simp), List.append_nil, ih]
      have e1 : fc S (q + 1) q = 0 := by unfold fc; rw [if_neg (by rw [hS]; simp)]
      rw [e1]
      refine sumTo_congr fun n hn => ?_
      have e2 : (S (n + 1) = true ∧ n + 1 < q) ↔ (S (n + 1) = true ∧ n + 1 < q + 1) := by
        constructor
        · rintro ⟨h1, h2⟩; exact ⟨h1, by omega⟩
        · rintro ⟨h1, h2⟩
          refine ⟨h1, ?_⟩
          by_cases e : n + 1 = q
          · rw [e, hS] at h1; cases h1
          · omega
      unfold fc
      simp only [e2]
    | true =>
      rw [if_pos rfl, runsL_snoc]
      have last : fc S (q + 1) q = sg q := by
        unfold fc
        rw [if_pos hS]
        split
        · rfl
        · rw [if_pos (by omega)]
      rw [last]
      by_cases hp : q = 0 ∨ S (q - 1) = false
      · have e0 : sumTo (fc S (q + 1)) q = sumTo (fc S q) q := by
          refine sumTo_congr fun n hn => ?_
          by_cases e : n + 1 = q
          · have : S n = false := by
              rcases hp with hp | hp
              · omega
              · rw [show n = q - 1 by omega]; exact hp
            unfold fc
            rw [if_neg (by rw [this]; simp), if_neg (by rw [this]; simp)]
          · have e2 : (n + 1 < q) ↔ (n + 1 < q + 1) := by omega
            unfold fc
            simp only [e2]
        rw [e0, ← ih]
        rcases (runsL (upTo S q)).eq_nil_or_concat with hr | ⟨rs, ⟨a, c⟩, hr⟩
        · rw [hr, addRun_none]
          show (runsT ([] ++ [(q, q)])).length = _
          rw [runsT_snoc, runT_len]
          simp
        · rw [List.concat_eq_append] at hr
          obtain ⟨h1, h2, h3, _, _⟩ := i2 rs a c hr
          have hx : (c + 1) % 256 ≠ q := by
            intro hx
            have e : c = q - 1 := by omega
            have := h3 c h1 (Nat.le_refl _)
            rcases hp with hp | hp
            · omega
            · rw [e, hp] at this; cases this
          rw [hr, addRun_new _ _ _ _ hx, runsT_snoc, runT_len]
          simp
      · obtain ⟨r, rfl⟩ : ∃ r, q = r + 1 := ⟨q - 1, by omega⟩
        have hr1 : S r = true := by
          cases h : S r with
          | true => rfl
          | false => exact absurd (.inr (by simpa using h)) hp
        rcases (runsL (upTo S (r + 1))).eq_nil_or_concat with hr | ⟨rs, ⟨a, c⟩, hr⟩
        · rw [i1 hr r (by omega)] at hr1
          cases hr1
        · rw [List.concat_eq_append] at hr
          obtain ⟨h1, h2, h3, h4, h5⟩ := i2 rs a c hr
          obtain rfl : c = r := by
            by_cases e : c = r
            · exact e
            · rw [h5 r (by omega) (by omega)] at hr1
              cases hr1
          rw [hr, addRun_on _ _ _ _ (by omega), runsT_snoc, runT_len]
          rw [hr, runsT_snoc, runT_len, sumTo] at ih
          rw [sumTo]
          have e0 : sumTo (fc S (c + 1 + 1)) c = sumTo (fc S (c + 1)) c := by
            refine sumTo_congr fun n hn => ?_
            have e2 : (n + 1 < c + 1) ↔ (n + 1 < c + 1 + 1) := by omega
            unfold fc
            simp only [e2]
          have e1 : fc S (c + 1) c = sg c := by
            unfold fc
            rw [if_pos hr1]
            split
            · rfl
            · rw [if_pos (by omega)]
          rw [e1] at ih
          rw [e0]
          have hn1 : ¬ (c + 1 = a) := by omega
          rw [if_neg hn1]
          rcases Nat.lt_trichotomy (a + 1) c with hac | hac | hac
          · have : fc S (c + 1 + 1) c = 0 := by
              unfold fc
              have s1 := h3 (c - 1) (by omega) (by omega)
              have s2 := h3 (c - 2) (by omega) (by omega)
              rw [if_pos hr1, if_neg (by rw [s1]; simp; omega), if_neg (by rw [hS]; simp), if_neg (by rw [s2]; simp; omega)]
            rw [this]
            rw [if_pos (by omega), if_neg (by omega)] at ih
            rw [if_pos (by omega)]
            omega
          · have : fc S (c + 1 + 1) c = 1 := by
              unfold fc
              have s1 := h3 (c - 1) (by omega) (by omega)
              have s2 : c = 1 ∨ S (c - 2) = false := by
                rcases h4 with h4 | h4
                · exact .inl (by omega)
                · exact .inr (by rw [show c - 2 = a - 1 by omega]; exact h4)
              rw [if_pos hr1, if_neg (by rw [s1]; simp; omega), if_neg (by rw [hS]; simp), if_pos s2]
            rw [this]
            rw [if_neg (by omega), if_neg (by omega)] at ih
            rw [if_pos (by omega)]
            omega
          · obtain rfl : c = a := by omega
            have : fc S (c + 1 + 1) c = sg c := by
              unfold fc
              rw [if_pos hr1, if_pos h4]
            rw [this]
            rw [if_neg (by omega), if_pos rfl] at ih
            rw [if_neg (by omega)]
            omega

/-! ### Parts cost no less than what they come to -/

def iv (x : Nat × Nat) : Nat → Bool := fun m => decide (x.1 ≤ m) && decide (m ≤ x.2)

theorem fc_mono {S I : Nat → Bool} (h : ∀ m, I m = true → S m = true) (q n : Nat) (hn : n < 256) (hI : I n = true) : fc S q n ≤ fc I q n := by
  have hf : ∀ m, S m = false → I m = false := fun m hm => by
    cases e : I m with
    | false => rfl
    | true => rw [h m e] at hm; cases hm
  have hp := sg_pos hn
  unfold fc
  rw [if_pos (h n hI), if_pos hI]
  by_cases h1 : n = 0 ∨ S (n - 1) = false
  · rw [if_pos h1, if_pos (h1.imp id (hf _))]
    exact Nat.le_refl _
  · rw [if_neg h1]
    by_cases h2 : S (n + 1) = true ∧ n + 1 < q
    · rw [if_neg (fun h => h h2)]
      by_cases h3 : n = 1 ∨ S (n - 2) = false
      · rw [if_pos h3]
        split
        · exact hp
        · split
          · exact hp
          · rw [if_pos (h3.imp id (hf _))]
            exact Nat.le_refl _
      · rw [if_neg h3]
        exact Nat.zero_le _
    · rw [if_pos h2]
      split
      · exact Nat.le_refl _
      · rw [if_pos (fun h4 => h2 ⟨h _ h4.1, h4.2⟩)]
        exact Nat.le_refl _

theorem iv_cost (a b : Nat) (_hab : a ≤ b) (hb : b < 256) : sumTo (fc (iv (a, b)) 256) 256 ≤ (runT (a, b)).length := by
  have h1 : sumTo (fc (iv (a, b)) 256) 256 ≤ sumTo (fun n => (if n = a then sg a else 0) + ((if n = a + 1 then (if a + 1 < b then 1 else 0) else 0) + (if n = b then (if b = a then 0 else sg b) else 0))) 256 := by
    refine sumTo_le fun n hn => ?_
    have yes : ∀ m, iv (a, b) m = true ↔ (a ≤ m ∧ m ≤ b) := fun m => by simp [iv]
    have no : ∀ m, iv (a, b) m = false ↔ ¬ (a ≤ m ∧ m ≤ b) := fun m => by rw [← yes m]; simp
    unfold fc
    simp only [yes, no]
    by_cases e1 : n = a
    · have h1 := congrArg sg e1
      repeat' split
      all_goals omega
    · by_cases e2 : n = b
      · have h1 := congrArg sg e2
        repeat' split
        all_goals omega
      · repeat' split
        all_goals omega
  rw [sumTo_add, sumTo_add] at h1
  have k1 := (sumTo_one a (sg a) 256).1
  have k2 := (sumTo_one (a + 1) (if a + 1 < b then 1 else 0) 256).1
  have k3 := (sumTo_one b (if b = a then 0 else sg b) 256).1
  rw [runT_len]
  omega

theorem le_total {α : Type} (f : α → Nat) : ∀ (l : List α) (x : α), x ∈ l → f x ≤ (l.map f).sum
  | [], _, h => by cases h
  | y :: l, x, h => by
    rw [List.map_cons, List.sum_cons]
    rcases List.mem_cons.1 h with rfl | h
    · omega
    · have := le_total f l x h
      omega

theorem parts_cost : ∀ (ps : List (Nat × Nat)), (∀ x ∈ ps, x.1 ≤ x.2 ∧ x.2 < 256) → sumTo (fun n => (ps.map fun x => fc (iv x) 256 n).sum) 256 ≤ (runsT ps).length
  | [], _ => by
    have : sumTo (fun n => (([] : List (Nat × Nat)).map fun x => fc (iv x) 256 n).sum) 256 ≤ sumTo (fun _ => 0) 256 := sumTo_le fun n _ => Nat.le_refl _
    have h0 : ∀ m, sumTo (fun _ => 0) m = 0 := by
      intro m
      induction m with
      | zero => rfl
      | succ m ih => rw [sumTo, ih]
    rw [h0] at this
    omega
  | x :: ps, h => by
    have ih := parts_cost ps fun y hy => h y (List.mem_cons_of_mem _ hy)
    have hx := iv_cost x.1 x.2 (h x List.mem_cons_self).1 (h x List.mem_cons_self).2
    have e : sumTo (fun n => ((x :: ps).map fun x => fc (iv x) 256 n).sum) 256 = sumTo (fc (iv x) 256) 256 + sumTo (fun n => (ps.map fun x => fc (iv x) 256 n).sum) 256 := by
      rw [← sumTo_add]
      refine sumTo_congr fun n _ => ?_
      rw [List.map_cons, List.sum_cons]
    have e2 : (runsT (x :: ps)).length = (runT x).length + (runsT ps).length := by simp [runsT]
    have hx' : sumTo (fc (iv x) 256) 256 ≤ (runT x).length := hx
    rw [e, e2]
    omega

/-- The runs of what parts come to are no longer than the parts. -/
theorem runs_short (ps : List (Nat × Nat)) (h : ∀ x ∈ ps, x.1 ≤ x.2 ∧ x.2 < 256) : (runsT (runsOf (covers ps))).length ≤ (runsT ps).length := by
  have h1 : (runsT (runsOf (covers ps))).length = sumTo (fc (covers ps) 256) 256 := cost_eq (covers ps) 256 (Nat.le_refl _)
  rw [h1]
  refine Nat.le_trans (sumTo_le fun n hn => ?_) (parts_cost ps h)
  cases hc : covers ps n with
  | false =>
    unfold fc
    rw [if_neg (by rw [hc]; simp)]
    exact Nat.zero_le _
  | true =>
    unfold covers at hc
    obtain ⟨x, hx, hn2⟩ := List.any_eq_true.1 hc
    refine Nat.le_trans (fc_mono (I := iv x) (fun m hm => ?_) 256 n hn hn2) (le_total (fun x => fc (iv x) 256 n) ps x hx)
    exact List.any_eq_true.2 ⟨x, hx, hm⟩

/-! ### What is read -/

theorem pt_short_lit (l : List UInt8) (h : (pt lit l).2.2.2 = true) : (sign lit (pt lit l).1).length ≤ (pt lit l).2.2.1 := by
  have h1 := rd_le lit (.inl rfl) l
  unfold pt at h ⊢
  rw [if_neg (by simp [lit])] at h ⊢
  exact (h1.2 h).2.2
theorem pt_short_cls (l : List UInt8) (h : (pt cls l).2.2.2 = true) : (runT ((pt cls l).1, (pt cls l).2.1)).length ≤ (pt cls l).2.2.1 := by
  have h1 := rd_le cls (.inr rfl) l
  have h2 := rd_le cls (.inr rfl) (l.drop ((rd cls l).2.1 + 1))
  rw [runT_len]
  unfold pt at h ⊢
  split
  · rename_i hc
    rw [if_pos hc] at h
    split
    · rename_i hd
      rw [if_pos hd] at h
      cases h
    · rename_i hd
      rw [if_neg hd] at h
      simp only at h ⊢
      have k1 := (h1.2 hc.1).2.2
      have k2 := (h2.2 h).2.2
      unfold sg
      split <;> split <;> omega
  · rename_i hc
    rw [if_neg hc] at h
    simp only at h ⊢
    have k1 := (h1.2 h).2.2
    unfold sg
    rw [if_neg (by omega), if_pos trivial]
    omega

def sigsN (ps : List (Nat × Nat)) : List UInt8 := ps.flatMap fun x => sign lit x.1
theorem all_short_lit : ∀ (n : Nat) (l : List UInt8), l.length ≤ n → (sigsN (all lit l).1).length ≤ (all lit l).2
  | n, l, hn => by
    by_cases h : (pt lit l).2.2.2 = true
    · have h1 := (pt_le lit (.inl rfl) l).2 h
      have h2 := (pt_le lit (.inl rfl) l).1
      have h3 := pt_short_lit l h
      match n with
      | 0 => omega
      | n + 1 =>
        have ih := all_short_lit n (l.drop (pt lit l).2.2.1) (by rw [List.length_drop]; omega)
        rw [all_go lit (.inl rfl) l h]
        simp only [sigsN, List.flatMap_cons, List.length_append] at ih ⊢
        omega
    · rw [all_end lit l (by simpa using h)]
      exact Nat.le_refl _
theorem all_short_cls : ∀ (n : Nat) (l : List UInt8), l.length ≤ n → (runsT (all cls l).1).length ≤ (all cls l).2
  | n, l, hn => by
    by_cases h : (pt cls l).2.2.2 = true
    · have h1 := (pt_le cls (.inr rfl) l).2 h
      have h2 := (pt_le cls (.inr rfl) l).1
      have h3 := pt_short_cls l h
      match n with
      | 0 => omega
      | n + 1 =>
        have ih := all_short_cls n (l.drop (pt cls l).2.2.1) (by rw [List.length_drop]; omega)
        rw [all_go cls (.inr rfl) l h]
        simp only [runsT, List.flatMap_cons, List.length_append] at ih ⊢
        omega
    · rw [all_end cls l (by simpa using h)]
      exact Nat.le_refl _

theorem ended_ok (p : Sp) (t : List UInt8) (k : Nat) (h : (ended p t k).2 = 0) : (t.drop k).head? = some (UInt8.ofNat p.last) ∧ ended p t k = (k + 1, 0) := by
  unfold ended at h ⊢
  split
  · rename_i h1
    exact ⟨h1, rfl⟩
  · rename_i h1
    rw [if_neg h1] at h
    unfold fau at h
    simp only at h
    split at h <;> cases h
theorem ended_bad (p : Sp) (hp : Is p) (t : List UInt8) (k : Nat) (hk : k ≤ t.length) (h : (ended p t k).2 ≠ 0) : (ended p t k).1 ≤ t.length := by
  unfold ended at h ⊢
  split
  · rename_i h1
    rw [if_pos h1] at h
    exact absurd rfl h
  · have := (pt_le p hp (t.drop k)).1
    rw [List.length_drop] at this
    simp only
    omega

theorem unlit_short (t : List UInt8) (h : (unlit t).2.2 = 0) : (litT (unlit t).1).length ≤ (unlit t).2.1 ∧ (unlit t).1.length ≤ 255 := by
  have hs := all_short_lit _ (t.drop 1) (Nat.le_refl _)
  obtain ⟨h1, -, -, -⟩ := all_ok lit (.inl rfl) _ (t.drop 1) (Nat.le_refl _)
  unfold unlit at h ⊢
  split
  · rename_i ht
    rw [if_pos ht] at h
    split
    · rename_i he
      rw [if_pos he] at h
      exact absurd h he
    · rename_i he
      rw [if_neg he] at h
      split
      · rename_i hl
        rw [if_pos hl] at h
        cases h
      · rename_i hl
        have e := (ended_ok lit t _ (Decidable.not_not.1 he)).2
        rw [e, litT_len]
        simp only [List.length_map]
        refine ⟨?_, by omega⟩
        have e2 : sigs ((all lit (t.drop 1)).1.map fun x => UInt8.ofNat x.1) = sigsN (all lit (t.drop 1)).1 := by
          unfold sigs sigsN
          rw [List.flatMap_map]
          have : ∀ ps : List (Nat × Nat), (∀ x ∈ ps, x.1 ≤ x.2 ∧ x.2 < 256) → (ps.flatMap fun x => sign lit (UInt8.ofNat x.1).toNat) = ps.flatMap fun x => sign lit x.1 := by
            intro ps
            induction ps with
            | nil => intro _; rfl
            | cons x ps ih =>
              intro hb
              have := hb x List.mem_cons_self
              rw [List.flatMap_cons, List.flatMap_cons, u8 (by omega), ih fun y hy => hb y (List.mem_cons_of_mem _ hy)]
          exact this _ h1
        rw [e2]
        omega
  · rename_i ht
    rw [if_neg ht] at h
    unfold fau at h
    simp only at h
    split at h <;> cases h

theorem from_le (t : List UInt8) (h : t.head? = some 91) : from_ t ≤ t.length := by
  unfold from_
  split
  · rename_i h1
    have := (List.getElem?_eq_some_iff.1 h1).1
    omega
  · cases t with
    | nil => cases h
    | cons => simp

theorem uncls_bad (t : List UInt8) (h : (uncls t).2.2 ≠ 0) : (uncls t).1 = (fun _ => false) ∧ (uncls t).2.1 ≤ t.length := by
  have ha := (all_ok cls (.inr rfl) _ (t.drop (from_ t)) (Nat.le_refl _)).2.1
  rw [List.length_drop] at ha
  unfold uncls at h ⊢
  split
  · rename_i ht
    have := from_le t ht
    rw [if_pos ht] at h
    split
    · rename_i he
      exact ⟨rfl, ended_bad cls (.inr rfl) t _ (by omega) he⟩
    · rename_i he
      rw [if_neg he] at h
      exact absurd rfl h
  · exact ⟨rfl, Nat.zero_le _⟩

/-- Where a class is read. -/
structure Read (t : List UInt8) : Prop where
  head : t.head? = some 91
  stop : (ended cls t (from_ t + (all cls (t.drop (from_ t))).2)) = (from_ t + (all cls (t.drop (from_ t))).2 + 1, 0)
  close : (t.drop (from_ t + (all cls (t.drop (from_ t))).2)).head? = some 93
  len : (uncls t).2 = (from_ t + (all cls (t.drop (from_ t))).2 + 1, 0)
  set : (uncls t).1 = fun n => if from_ t = 2 then !covers (all cls (t.drop (from_ t))).1 n else covers (all cls (t.drop (from_ t))).1 n

theorem read_of {t : List UInt8} (h0 : t.head? = some 91) (he : (ended cls t (from_ t + (all cls (t.drop (from_ t))).2)).2 = 0) : Read t := by
  obtain ⟨h1, h2⟩ := ended_ok cls t _ he
  have e : uncls t = (fun n => if from_ t = 2 then !covers (all cls (t.drop (from_ t))).1 n else covers (all cls (t.drop (from_ t))).1 n, from_ t + (all cls (t.drop (from_ t))).2 + 1, 0) := by
    unfold uncls
    rw [if_pos h0, if_neg (fun h => h he), h2]
  exact ⟨h0, h2, h1, by rw [e], by rw [e]⟩
theorem uncls_ok {t : List UInt8} (h : (uncls t).2.2 = 0) : Read t := by
  by_cases h0 : t.head? = some 91
  · refine read_of h0 ?_
    unfold uncls at h
    rw [if_pos h0] at h
    split at h
    · exact h
    · rename_i he
      exact Decidable.not_not.1 he
  · unfold uncls at h
    rw [if_neg h0] at h
    unfold fau at h
    simp only at h
    split at h <;> cases h

theorem Read.bound {t : List UInt8} (h : Read t) : 2 ≤ (uncls t).2.1 ∧ (uncls t).2.1 ≤ t.length ∧ t[(uncls t).2.1 - 1]? = some 93 := by
  have hc := h.close
  rw [h.len]
  simp only
  have hf : 1 ≤ from_ t := by unfold from_; split <;> omega
  rw [List.head?_eq_getElem?, List.getElem?_drop, Nat.add_zero] at hc
  have := (List.getElem?_eq_some_iff.1 hc).1
  exact ⟨by omega, by omega, by rw [Nat.add_sub_cancel]; exact hc⟩

theorem Read.short {t : List UInt8} (h : Read t) (h1 : t[1]? ≠ some 94) : (clsT (uncls t).1).length ≤ (uncls t).2.1 := by
  have hf : from_ t = 1 := by unfold from_; rw [if_neg h1]
  have hb := h.bound
  have hs := all_short_cls _ (t.drop 1) (Nat.le_refl _)
  obtain ⟨ho, -, -, -⟩ := all_ok cls (.inr rfl) _ (t.drop 1) (Nat.le_refl _)
  have hset : (uncls t).1 = covers (all cls (t.drop 1)).1 := by
    rw [h.set, hf]
    rfl
  have hr := runs_short _ ho
  have hl := h.len
  rw [hf] at hl
  rw [hset]
  cases hA : isAll (covers (all cls (t.drop 1)).1) with
  | true =>
    unfold clsT
    rw [hA]
    have : (if true = true then ([46] : List UInt8) else 91 :: ((runsOf (covers (all cls (t.drop 1)).1)).flatMap runT) ++ [93]).length = 1 := rfl
    omega
  | false =>
    rw [clsT_eq _ hA]
    rw [hl]
    simp only [List.length_cons, List.length_append, List.length_nil]
    omega

/-- The text with a ^ less, or more. -/
def other (t : List UInt8) : List UInt8 := if t[1]? = some 94 then 91 :: t.drop 2 else 91 :: 94 :: t.drop 1

theorem pt_hat (r : List UInt8) : pt cls (94 :: r) = (0, 0, 0, false) := by
  simp [pt, rd, plain, cls]

theorem Read.other {t : List UInt8} (h : Read t) : Read (other t) ∧ (uncls (Qm.other t)).1 = (fun n => !(uncls t).1 n) ∧ (uncls (Qm.other t)).2.1 + t.length = (uncls t).2.1 + (Qm.other t).length := by
  have hb := h.bound
  by_cases h1 : t[1]? = some 94
  · have hf : from_ t = 2 := by unfold from_; rw [if_pos h1]
    have eo : Qm.other t = 91 :: t.drop 2 := by unfold Qm.other; rw [if_pos h1]
    have hc := h.close
    rw [hf] at hc
    have hf2 : from_ (91 :: t.drop 2) = 1 := by
      unfold from_
      rw [if_neg]
      intro h2
      rw [List.getElem?_cons_succ] at h2
      cases hd : t.drop 2 with
      | nil => rw [hd] at h2; cases h2
      | cons x r =>
        rw [hd] at h2
        have hx : x = 94 := by simpa using h2
        subst hx
        have ha : all cls (t.drop 2) = ([], 0) := by
          rw [hd]
          exact all_end _ _ (by rw [pt_hat])
        rw [ha, Nat.add_zero, hd] at hc
        simp at hc
    have hd2 : (91 :: t.drop 2).drop (from_ (91 :: t.drop 2)) = t.drop 2 := by rw [hf2]; rfl
    have hR : Read (91 :: t.drop 2) := by
      refine read_of rfl ?_
      rw [hd2, hf2]
      unfold ended
      have e3 : (91 :: t.drop 2).drop (1 + (all cls (t.drop 2)).2) = t.drop (2 + (all cls (t.drop 2)).2) := by
        rw [← List.drop_drop, ← List.drop_drop]
        rfl
      rw [e3, if_pos (by rw [hc]; rfl)]
    rw [eo]
    refine ⟨hR, ?_, ?_⟩
    · rw [hR.set, h.set, hd2, hf2, hf]
      funext n
      simp
    · rw [hR.len, h.len, hd2, hf2, hf]
      have := (List.getElem?_eq_some_iff.1 h1).1
      simp only [List.length_cons, List.length_drop]
      omega
  · have hf : from_ t = 1 := by unfold from_; rw [if_neg h1]
    have eo : Qm.other t = 91 :: 94 :: t.drop 1 := by unfold Qm.other; rw [if_neg h1]
    have hc := h.close
    rw [hf] at hc
    have hf2 : from_ (91 :: 94 :: t.drop 1) = 2 := by unfold from_; rw [if_pos (show (91 :: 94 :: List.drop 1 t)[1]? = some 94 from rfl)]
    have hd2 : (91 :: 94 :: t.drop 1).drop (from_ (91 :: 94 :: t.drop 1)) = t.drop 1 := by rw [hf2]; rfl
    have hR : Read (91 :: 94 :: t.drop 1) := by
      refine read_of rfl ?_
      rw [hd2, hf2]
      unfold ended
      have e3 : (91 :: 94 :: t.drop 1).drop (2 + (all cls (t.drop 1)).2) = t.drop (1 + (all cls (t.drop 1)).2) := by
        rw [← List.drop_drop, ← List.drop_drop]
        rfl
      rw [e3, if_pos (by rw [hc]; rfl)]
    rw [eo]
    refine ⟨hR, ?_, ?_⟩
    · rw [hR.set, h.set, hd2, hf2, hf]
      funext n
      simp
    · rw [hR.len, h.len, hd2, hf2, hf]
      simp only [List.length_cons, List.length_drop]
      omega
end Go.Proofs.YtjeogbdeagkomaaDoor.Qm

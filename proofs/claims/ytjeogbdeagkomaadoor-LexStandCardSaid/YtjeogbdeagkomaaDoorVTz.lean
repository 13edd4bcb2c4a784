/- math/bits.TrailingZeros64, by the library's own words for its table; what it says of a set's word. -/
import Derived.Test.YtjeogbdeagkomaaDoorVBset
import Derived.Shelf.Spec.TrailingZeros
import Derived.RangeFuncNested
import Derived.RangeFuncBound
import Derived.RangeFuncCalls
import Derived.RangeFuncLeaves
import Derived.Shelf.Abstract
import Derived.Shelf.RegionOpen
import Derived.WalkKit
import Derived.OwnWalkIn
import Derived.TacticsInMore
import Derived.LoopNIn
import Derived.LoopIn
import Derived.Test.YtjeogbdeagkomaaDoorVSw0
import Derived.RangeFuncBox
namespace Go.Proofs.YtjeogbdeagkomaaDoor
open Go.RowKit Bset

/-- The table lies in its variable. -/
abbrev TabIn (w : World) : Prop := TabAt 2 Lib.deBruijn64tab w

set_option maxHeartbeats 1000000 in
theorem tz_core (x k idx : Nat) (w : World) (hx0 : ((x : Int) == 0) = false)
    (key : IntKind.u64.wrap (bits BinOp.and IntKind.u64 (x : Int) (IntKind.u64.wrap (-(x : Int))) * 285870213051353865) / 288230376151711744 = (idx : Int))
    (hi : idx < 64) (hk : k < 64) (hcell : w.cell? ⟨2, idx, none⟩ = some (.int .u8 k)) :
    Calls Tryd.prog 166 #[.int .u64 x] w fun e w' => e = .returned (.int .i64 k) ∧ w = w' := by
  go_enter Tryd.func166, Tryd.ntmps166
  go_wp2_with (simp only [key])
  go_ret
  exact ⟨rfl, rfl⟩

theorem tz_any (x : Nat) (hx : x < 18446744073709551616) (hx0 : x ≠ 0) (w : World) (hT : TabIn w) :
    Calls Tryd.prog 166 #[.int .u64 x] w fun e w' => e = .returned (.int .i64 (Lib.ctzFrom 64 x : Nat)) ∧ w = w' := by
  obtain ⟨hlow, hk⟩ := Lib.lowest_bit 64 x hx0 hx
  obtain ⟨hi, htab⟩ := Lib.deBruijn64_at _ hk
  have hcell := hT _ hi
  rw [htab] at hcell
  have e : Lib.ctz 64 x = Lib.ctzFrom 64 x := by unfold Lib.ctz; rw [if_neg hx0]
  rw [e] at hlow hk hi hcell
  exact tz_core x _ _ w (by simp; omega) (tz64_key x _ hx hx0 hlow) hi hk hcell
end Go.Proofs.YtjeogbdeagkomaaDoor

/- How many bits a word has: the sums in parallel that math/bits.OnesCount64 makes. Of no program. -/
namespace Go.Proofs.YtjeogbdeagkomaaDoor.Bset

/-- The bits of x below n, from the lowest on. -/
def pc : Nat → Nat → Nat
  | 0, _ => 0
  | n + 1, x => x % 2 + pc n (x / 2)

/-- The same, from the highest on. -/
def pcH : Nat → Nat → Nat
  | 0, _ => 0
  | n + 1, x => pcH n x + if x.testBit n then 1 else 0

theorem pcH_low : ∀ (n x : Nat), pcH (n + 1) x = x % 2 + pcH n (x / 2)
  | 0, x => by
    simp only [pcH, Nat.testBit_zero]
    rcases Nat.mod_two_eq_zero_or_one x with h | h <;> simp [h]
  | n + 1, x => by
    rw [pcH, pcH_low n x, pcH, Nat.testBit_succ]
    omega

theorem pc_eq : ∀ (n x : Nat), pc n x = pcH n x
  | 0, _ => rfl
  | n + 1, x => by rw [pcH_low, pc, pc_eq n]

theorem pc_split : ∀ (m n x : Nat), pc (m + n) x = pc m (x % 2 ^ m) + pc n (x / 2 ^ m)
  | 0, n, x => by simp [pc]
  | m + 1, n, x => by
    have e : m + 1 + n = (m + n) + 1 := by omega
    rw [e, pc, pc, pc_split m n (x / 2), Nat.div_div_eq_div_mul, Nat.pow_succ]
    have e1 : x % (2 ^ m * 2) % 2 = x % 2 := by rw [Nat.mul_comm, Nat.mod_mul_right_mod]
    have e2 : x % (2 ^ m * 2) / 2 = x / 2 % 2 ^ m := by rw [Nat.mul_comm, Nat.mod_mul_right_div_self]
    rw [e1, e2, Nat.mul_comm 2 (2 ^ m)]
    omega

theorem land_pow (k a b c d : Nat) (hb : b < 2 ^ k) (hd : d < 2 ^ k) : (2 ^ k * a + b) &&& (2 ^ k * c + d) = 2 ^ k * (a &&& c) + (b &&& d) := by
  have hpos : 0 < 2 ^ k := Nat.pow_pos (by decide)
  have hand : b &&& d < 2 ^ k := Nat.lt_of_le_of_lt Nat.and_le_left hb
  have m1 : ((2 ^ k * a + b) &&& (2 ^ k * c + d)) % 2 ^ k = b &&& d := by
    rw [Nat.and_mod_two_pow, Nat.mul_add_mod, Nat.mul_add_mod, Nat.mod_eq_of_lt hb, Nat.mod_eq_of_lt hd]
  have m2 : ((2 ^ k * a + b) &&& (2 ^ k * c + d)) / 2 ^ k = a &&& c := by
    rw [Nat.and_div_two_pow, Nat.mul_add_div hpos, Nat.mul_add_div hpos, Nat.div_eq_of_lt hb, Nat.div_eq_of_lt hd, Nat.add_zero, Nat.add_zero]
  have := Nat.div_add_mod ((2 ^ k * a + b) &&& (2 ^ k * c + d)) (2 ^ k)
  rw [m1, m2] at this
  exact this.symm

/-- One function on each of n bytes. -/
def bm (f : Nat → Nat) : Nat → Nat → Nat
  | 0, _ => 0
  | n + 1, x => 256 * bm f n (x / 256) + f (x % 256)

/-- One byte, n times. -/
def rp (c : Nat) : Nat → Nat
  | 0 => 0
  | n + 1 => 256 * rp c n + c

theorem bm_lt (f : Nat → Nat) (hf : ∀ b, b < 256 → f b < 256) : ∀ (n x : Nat), bm f n x < 256 ^ n
  | 0, _ => by simp [bm]
  | n + 1, x => by
    have h1 := bm_lt f hf n (x / 256)
    have h2 := hf (x % 256) (Nat.mod_lt _ (by decide))
    rw [bm, Nat.pow_succ]
    omega

theorem bm_bm (f g : Nat → Nat) (hf : ∀ b, b < 256 → f b < 256) : ∀ (n x : Nat), bm g n (bm f n x) = bm (fun b => g (f b)) n x
  | 0, _ => rfl
  | n + 1, x => by
    have h2 := hf (x % 256) (Nat.mod_lt _ (by decide))
    have e1 : (256 * bm f n (x / 256) + f (x % 256)) / 256 = bm f n (x / 256) := by omega
    have e2 : (256 * bm f n (x / 256) + f (x % 256)) % 256 = f (x % 256) := by omega
    rw [bm, bm, e1, e2, bm_bm f g hf n, bm]

theorem bm_congr (f g : Nat → Nat) (h : ∀ b, b < 256 → f b = g b) : ∀ (n x : Nat), bm f n x = bm g n x
  | 0, _ => rfl
  | n + 1, x => by rw [bm, bm, bm_congr f g h n, h _ (Nat.mod_lt _ (by decide))]

/-- A mask that leaves out the s highest bits of a byte: what is shifted in from the next byte is cut off. -/
theorem and_shift (s k c : Nat) (h8 : 2 ^ s * 2 ^ k = 256) (hc : c < 2 ^ k) : ∀ (n x : Nat), x < 256 ^ n →
    (x / 2 ^ s) &&& rp c n = bm (fun b => (b / 2 ^ s) &&& c) n x
  | 0, x, hx => by simp [rp, bm]
  | n + 1, x, hx => by
    have hs : 0 < 2 ^ s := Nat.pow_pos (by decide)
    have hx' : x / 256 < 256 ^ n := by
      rw [Nat.pow_succ] at hx
      omega
    have ih := and_shift s k c h8 hc n (x / 256) hx'
    have e1 : x / 2 ^ s = 2 ^ k * (x / 256) + (x % 256) / 2 ^ s := by
      have e : x = 2 ^ s * (2 ^ k * (x / 256)) + x % 256 := by
        rw [← Nat.mul_assoc, h8]
        omega
      rw [e, Nat.mul_add_div hs]
      congr 1
      · congr 1
        rw [← Nat.mul_assoc, h8]
        omega
      · rw [← e]
    have e2 : rp c (n + 1) = 2 ^ k * (2 ^ s * rp c n) + c := by
      rw [rp, ← Nat.mul_assoc, Nat.mul_comm (2 ^ k), h8]
    have hb : (x % 256) / 2 ^ s < 2 ^ k := by
      apply Nat.div_lt_of_lt_mul
      rw [h8]
      exact Nat.mod_lt _ (by decide)
    have e3 : (x / 256) &&& (2 ^ s * rp c n) = 2 ^ s * ((x / 256 / 2 ^ s) &&& rp c n) := by
      have h := land_pow s (x / 256 / 2 ^ s) (x / 256 % 2 ^ s) (rp c n) 0 (Nat.mod_lt _ hs) hs
      rw [Nat.div_add_mod, Nat.add_zero, Nat.and_zero, Nat.add_zero] at h
      exact h
    rw [e1, e2, land_pow k _ _ _ _ hb hc, e3, ih, bm, ← Nat.mul_assoc, Nat.mul_comm (2 ^ k), h8]

def f1 (b : Nat) : Nat := ((b / 2 ^ 1) &&& 85) + ((b / 2 ^ 0) &&& 85)
def f2 (b : Nat) : Nat := ((b / 2 ^ 2) &&& 51) + ((b / 2 ^ 0) &&& 51)

theorem bm_add (f g : Nat → Nat) : ∀ (n x : Nat), bm f n x + bm g n x = bm (fun b => f b + g b) n x
  | 0, _ => rfl
  | n + 1, x => by
    rw [bm, bm, bm, ← bm_add f g n]
    omega

theorem st1 (x : Nat) (hx : x < 256 ^ 8) : ((x / 2) &&& rp 85 8) + (x &&& rp 85 8) = bm f1 8 x := by
  have h1 := and_shift 1 7 85 (by decide) (by decide) 8 x hx
  have h0 := and_shift 0 8 85 (by decide) (by decide) 8 x hx
  have e : x / 2 ^ 0 = x := by simp
  rw [e] at h0
  have e1 : (2 : Nat) ^ 1 = 2 := rfl
  rw [e1] at h1
  rw [h1, h0, bm_add]
  rfl

theorem st2 (x : Nat) (hx : x < 256 ^ 8) : ((x / 4) &&& rp 51 8) + (x &&& rp 51 8) = bm f2 8 x := by
  have h1 := and_shift 2 6 51 (by decide) (by decide) 8 x hx
  have h0 := and_shift 0 8 51 (by decide) (by decide) 8 x hx
  have e : x / 2 ^ 0 = x := by simp
  rw [e] at h0
  have e1 : (2 : Nat) ^ 2 = 4 := rfl
  rw [e1] at h1
  rw [h1, h0, bm_add]
  rfl

def f3 (b : Nat) : Nat := (b / 16 + b) % 16

/-- Where each half of each byte is 4 at most nothing is carried over. -/
theorem st3 (f : Nat → Nat) (hf : ∀ b, b < 256 → f b / 16 ≤ 4 ∧ f b % 16 ≤ 4) : ∀ (n x : Nat),
    (bm f n x / 16 + bm f n x) &&& rp 15 n = bm (fun b => f3 (f b)) n x ∧ bm f n x % 16 ≤ 4
  | 0, _ => by simp [bm, rp]
  | n + 1, x => by
    obtain ⟨ih, hlow⟩ := st3 f hf n (x / 256)
    obtain ⟨h1, h2⟩ := hf (x % 256) (Nat.mod_lt _ (by decide))
    rw [bm]
    generalize hA : bm f n (x / 256) = a at ih hlow
    generalize hB : f (x % 256) = b at h1 h2
    have e1 : (256 * a + b) / 16 + (256 * a + b) = 2 ^ 8 * (a / 16 + a) + (16 * (a % 16) + b / 16 + b) := by omega
    have e2 : rp 15 (n + 1) = 2 ^ 8 * rp 15 n + 15 := rfl
    have e3 : (16 * (a % 16) + b / 16 + b) &&& 15 = (b / 16 + b) % 16 := by
      have : (15 : Nat) = 2 ^ 4 - 1 := by decide
      rw [this, Nat.and_two_pow_sub_one_eq_mod]
      omega
    refine ⟨?_, by omega⟩
    rw [e1, e2, land_pow 8 _ _ _ _ (by omega) (by decide), e3, ih, bm, hB]
    rfl

theorem f12 : ∀ b, b < 256 → f1 b < 256 := by decide +kernel
theorem f12' : ∀ b, b < 256 → f2 (f1 b) / 16 ≤ 4 ∧ f2 (f1 b) % 16 ≤ 4 := by decide +kernel
theorem f123 : ∀ b, b < 256 → f3 (f2 (f1 b)) = pc 8 b ∧ pc 8 b ≤ 8 := by decide +kernel
theorem f2lt : ∀ b, b < 256 → f2 b < 256 := by decide +kernel

/-- The sum of eight bytes, of 8 at most each, by three more sums. -/
theorem sum8 (b0 b1 b2 b3 b4 b5 b6 b7 y4 y5 y6 : Nat) (h0 : b0 ≤ 8) (h1 : b1 ≤ 8) (h2 : b2 ≤ 8) (h3 : b3 ≤ 8) (h4 : b4 ≤ 8) (h5 : b5 ≤ 8) (h6 : b6 ≤ 8) (h7 : b7 ≤ 8)
    (y3 : Nat) (hy3 : y3 = 256 * (256 * (256 * (256 * (256 * (256 * (256 * b7 + b6) + b5) + b4) + b3) + b2) + b1) + b0)
    (hy4 : y4 = y3 + y3 / 256) (hy5 : y5 = y4 + y4 / 65536) (hy6 : y6 = y5 + y5 / 4294967296) :
    y4 < 18446744073709551616 ∧ y5 < 18446744073709551616 ∧ y6 < 9223372036854775808 ∧ y6 % 128 = b0 + b1 + b2 + b3 + b4 + b5 + b6 + b7 := by
  have q3 : y3 / 256 = 256 * (256 * (256 * (256 * (256 * (256 * (b7) + (b6)) + (b5)) + (b4)) + (b3)) + (b2)) + (b1) := by omega
  have p4 : y4 = 256 * (256 * (256 * (256 * (256 * (256 * (256 * (b7) + (b6 + b7)) + (b5 + b6)) + (b4 + b5)) + (b3 + b4)) + (b2 + b3)) + (b1 + b2)) + (b0 + b1) := by omega
  clear hy4 q3 hy3
  have q4 : y4 / 65536 = 256 * (256 * (256 * (256 * (256 * (b7) + (b6 + b7)) + (b5 + b6)) + (b4 + b5)) + (b3 + b4)) + (b2 + b3) := by omega
  have p5 : y5 = 256 * (256 * (256 * (256 * (256 * (256 * (256 * (b7) + (b6 + b7)) + (b5 + b6 + b7)) + (b4 + b5 + b6 + b7)) + (b3 + b4 + b5 + b6)) + (b2 + b3 + b4 + b5)) + (b1 + b2 + b3 + b4)) + (b0 + b1 + b2 + b3) := by omega
  have l4 : y4 < 18446744073709551616 := by omega
  clear hy5 q4 p4
  have q5 : y5 / 4294967296 = 256 * (256 * (256 * (b7) + (b6 + b7)) + (b5 + b6 + b7)) + (b4 + b5 + b6 + b7) := by omega
  have p6 : y6 = 256 * (256 * (256 * (256 * (256 * (256 * (256 * (b7) + (b6 + b7)) + (b5 + b6 + b7)) + (b4 + b5 + b6 + b7)) + (b3 + b4 + b5 + b6 + b7)) + (b2 + b3 + b4 + b5 + b6 + b7)) + (b1 + b2 + b3 + b4 + b5 + b6 + b7)) + (b0 + b1 + b2 + b3 + b4 + b5 + b6 + b7) := by omega
  have l5 : y5 < 18446744073709551616 := by omega
  clear hy6 q5 p5
  refine ⟨l4, l5, by omega, by omega⟩

theorem rp85 : rp 85 8 = 6148914691236517205 := by decide
theorem rp51 : rp 51 8 = 3689348814741910323 := by decide
theorem rp15 : rp 15 8 = 1085102592571150095 := by decide
theorem p256 : (256 : Nat) ^ 8 = 18446744073709551616 := by decide

/-- The six sums. -/
structure Ones (x y1 y2 y3 y4 y5 y6 : Nat) : Prop where
  h1 : y1 = ((x / 2) &&& 6148914691236517205) + (x &&& 6148914691236517205)
  h2 : y2 = ((y1 / 4) &&& 3689348814741910323) + (y1 &&& 3689348814741910323)
  h3 : y3 = (y2 / 16 + y2) &&& 1085102592571150095
  h4 : y4 = y3 + y3 / 256
  h5 : y5 = y4 + y4 / 65536
  h6 : y6 = y5 + y5 / 4294967296

theorem Ones.mk' (x : Nat) : ∃ y1 y2 y3 y4 y5 y6, Ones x y1 y2 y3 y4 y5 y6 := ⟨_, _, _, _, _, _, ⟨rfl, rfl, rfl, rfl, rfl, rfl⟩⟩

/-- A word has 64 bits: those of its eight bytes. -/
theorem pc64 (x : Nat) : pc 64 x = pc 8 (x % 256) + (pc 8 (x / 256 % 256) + (pc 8 (x / 256 / 256 % 256) + (pc 8 (x / 256 / 256 / 256 % 256) + (pc 8 (x / 256 / 256 / 256 / 256 % 256) + (pc 8 (x / 256 / 256 / 256 / 256 / 256 % 256) +
    (pc 8 (x / 256 / 256 / 256 / 256 / 256 / 256 % 256) + pc 8 (x / 256 / 256 / 256 / 256 / 256 / 256 / 256))))))) := by
  rw [show (64 : Nat) = 8 + 56 from rfl, pc_split 8 56, show (56 : Nat) = 8 + 48 from rfl, pc_split 8 48, show (48 : Nat) = 8 + 40 from rfl, pc_split 8 40, show (40 : Nat) = 8 + 32 from rfl, pc_split 8 32,
    show (32 : Nat) = 8 + 24 from rfl, pc_split 8 24, show (24 : Nat) = 8 + 16 from rfl, pc_split 8 16, show (16 : Nat) = 8 + 8 from rfl, pc_split 8 8]

theorem ones_sum (x y1 y2 y3 y4 y5 y6 : Nat) (hx : x < 18446744073709551616) (H : Ones x y1 y2 y3 y4 y5 y6) :
    y1 < 18446744073709551616 ∧ y2 < 18446744073709551616 ∧ y2 / 16 + y2 < 18446744073709551616 ∧ y3 < 18446744073709551616 ∧ y4 < 18446744073709551616 ∧ y5 < 18446744073709551616 ∧ y6 < 9223372036854775808 ∧
      y6 % 128 = pc 64 x ∧ pc 64 x ≤ 64 := by
  obtain ⟨h1, h2, h3, h4, h5, h6⟩ := H
  rw [← rp85, st1 x (by rw [p256]; exact hx)] at h1
  have l1 : y1 < 256 ^ 8 := by rw [h1]; exact bm_lt f1 f12 8 x
  rw [← rp51, st2 y1 l1, h1, bm_bm f1 f2 f12 8 x] at h2
  have l2 : y2 < 256 ^ 8 := by rw [h2]; exact bm_lt _ (fun b hb => f2lt _ (f12 b hb)) 8 x
  rw [← rp15, h2, (st3 (fun b => f2 (f1 b)) f12' 8 x).1, bm_congr _ (pc 8) (fun b hb => (f123 b hb).1) 8 x] at h3
  have l3 : y2 / 16 + y2 < 256 ^ 8 := by
    have : ∀ n z, bm (fun b => f2 (f1 b)) n z / 16 + bm (fun b => f2 (f1 b)) n z < 256 ^ n := by
      intro n
      induction n with
      | zero => intro z; simp [bm]
      | succ n ih =>
        intro z
        have i1 := ih (z / 256)
        have i2 := (st3 (fun b => f2 (f1 b)) f12' n (z / 256)).2
        have i3 := f12' (z % 256) (Nat.mod_lt _ (by decide))
        rw [bm, Nat.pow_succ]
        omega
    rw [h2]
    exact this 8 x
  rw [p256] at l1 l2 l3
  have hb : ∀ z, pc 8 (z % 256) ≤ 8 := fun z => (f123 _ (Nat.mod_lt z (by decide))).2
  have h7 : x / 256 / 256 / 256 / 256 / 256 / 256 / 256 % 256 = x / 256 / 256 / 256 / 256 / 256 / 256 / 256 := by omega
  have hs := pc64 x
  rw [← h7] at hs
  simp only [bm] at h3
  rw [Nat.mul_zero, Nat.zero_add] at h3
  have g0 := hb x
  have g1 := hb (x / 256)
  have g2 := hb (x / 256 / 256)
  have g3 := hb (x / 256 / 256 / 256)
  have g4 := hb (x / 256 / 256 / 256 / 256)
  have g5 := hb (x / 256 / 256 / 256 / 256 / 256)
  have g6 := hb (x / 256 / 256 / 256 / 256 / 256 / 256)
  have g7 := hb (x / 256 / 256 / 256 / 256 / 256 / 256 / 256)
  obtain ⟨r1, r2, r3, r4⟩ := sum8 _ _ _ _ _ _ _ _ y4 y5 y6 g0 g1 g2 g3 g4 g5 g6 g7 y3 h3 h4 h5 h6
  refine ⟨l1, l2, l3, ?_, r1, r2, r3, ?_, ?_⟩
  · omega
  · rw [r4, hs]
    omega
  · rw [hs]
    omega

theorem len_word (S : Nat → Bool) (k : Nat) : ∀ m, m ≤ 64 → (upTo S (64 * k + m)).length = (upTo S (64 * k)).length + pcH m (word S k)
  | 0, _ => by simp [pcH]
  | m + 1, h => by
    have hm : m < 64 := by omega
    rw [← Nat.add_assoc, upTo_succ, List.length_append, len_word S k m (by omega), pcH, word_testBit]
    cases hs : S (64 * k + m) <;> simp [hm]
    omega

theorem len_mem (S : Nat → Bool) : (mem S).length = pc 64 (word S 0) + pc 64 (word S 1) + pc 64 (word S 2) + pc 64 (word S 3) := by
  have h0 := len_word S 0 64 (by omega)
  have h1 := len_word S 1 64 (by omega)
  have h2 := len_word S 2 64 (by omega)
  have h3 := len_word S 3 64 (by omega)
  have z : (upTo S (64 * 0)).length = 0 := rfl
  simp only [pc_eq]
  unfold mem
  have e1 : 64 * 0 + 64 = 64 * 1 := rfl
  have e2 : 64 * 1 + 64 = 64 * 2 := rfl
  have e3 : 64 * 2 + 64 = 64 * 3 := rfl
  have e4 : 64 * 3 + 64 = 256 := rfl
  rw [e1] at h0
  rw [e2] at h1
  rw [e3] at h2
  rw [e4] at h3
  omega

theorem pc_le (S : Nat → Bool) (k : Nat) : pc 64 (word S k) ≤ 64 := by
  obtain ⟨y1, y2, y3, y4, y5, y6, H⟩ := Ones.mk' (word S k)
  exact (ones_sum _ y1 y2 y3 y4 y5 y6 (word_lt S k) H).2.2.2.2.2.2.2.2
end Go.Proofs.YtjeogbdeagkomaaDoor.Bset

/- The lowest bit of a word, and the word without it: how a set's bytes come one by one. Of no program. -/
namespace Go.Proofs.YtjeogbdeagkomaaDoor.Bset
open Go

/-- The set from q on. -/
def frm (S : Nat → Bool) (q : Nat) : Nat → Bool := fun n => S n && decide (q ≤ n)

theorem word_frm (S : Nat → Bool) (k : Nat) : word (frm S (64 * k)) k = word S k := by
  refine (eq_word (word_lt S k) (fun j hj => ?_)).symm
  rw [word_testBit]
  unfold frm
  have : 64 * k ≤ 64 * k + j := by omega
  simp [hj]

theorem frm_none {S : Nat → Bool} {q k : Nat} (h : word (frm S q) k = 0) (hq : q ≤ 64 * k + 64) (hq0 : 64 * k ≤ q) : upTo S (64 * k + 64) = upTo S q := by
  obtain ⟨d, hd⟩ : ∃ d, 64 * k + 64 = q + d := ⟨64 * k + 64 - q, by omega⟩
  rw [hd]
  refine upTo_skip d (fun n h1 h2 => ?_)
  have hb := word_testBit (frm S q) k (n - 64 * k)
  rw [h, Nat.zero_testBit] at hb
  have e : 64 * k + (n - 64 * k) = n := by omega
  have e2 : n - 64 * k < 64 := by omega
  rw [e] at hb
  unfold frm at hb
  simpa [e2, h1] using hb.symm

/-- The lowest bit of a word that is not 0. -/
theorem low_spec {S : Nat → Bool} {q k x : Nat} (hx : x = word (frm S q) k) (hq0 : 64 * k ≤ q) (h0 : x ≠ 0) :
    Lib.ctzFrom 64 x < 64 ∧ q ≤ 64 * k + Lib.ctzFrom 64 x ∧ upTo S (64 * k + Lib.ctzFrom 64 x + 1) = upTo S q ++ [64 * k + Lib.ctzFrom 64 x] ∧
      x &&& (x - 1) = word (frm S (64 * k + Lib.ctzFrom 64 x + 1)) k := by
  have hlt : x < 2 ^ 64 := by rw [hx, two64]; exact word_lt _ _
  obtain ⟨m, hm, ht⟩ := Lib.ctzFrom_spec 64 x (by omega) hlt
  generalize hT : Lib.ctzFrom 64 x = t at hm ht ⊢
  have hpos : 0 < 2 ^ t := Nat.pow_pos (by decide)
  have bit : ∀ j, j < 64 → x.testBit j = frm S q (64 * k + j) := by
    intro j hj
    rw [hx, word_testBit]
    simp [hj]
  have low : ∀ j, j < t → x.testBit j = false := by
    intro j hj
    rw [hm, Nat.mul_comm, Nat.testBit_mul_two_pow]
    have : ¬ t ≤ j := by omega
    simp [this]
  have at_ : x.testBit t = true := by
    rw [hm, Nat.mul_comm, Nat.testBit_mul_two_pow]
    simp [Nat.testBit_zero]
  have hS : S (64 * k + t) = true ∧ q ≤ 64 * k + t := by
    have := bit t ht
    rw [at_] at this
    unfold frm at this
    simpa using this.symm
  refine ⟨ht, hS.2, ?_, ?_⟩
  · rw [upTo_succ, hS.1, if_pos rfl]
    congr 1
    obtain ⟨d, hd⟩ : ∃ d, 64 * k + t = q + d := ⟨64 * k + t - q, by omega⟩
    rw [hd]
    refine upTo_skip d (fun n h1 h2 => ?_)
    have hb := bit (n - 64 * k) (by omega)
    rw [low _ (by omega)] at hb
    have e : 64 * k + (n - 64 * k) = n := by omega
    rw [e] at hb
    unfold frm at hb
    simpa [h1] using hb.symm
  · have e1 : x = 2 ^ (t + 1) * m + 2 ^ t := by
      rw [hm, Nat.mul_add, Nat.pow_succ, Nat.mul_one, Nat.mul_assoc]
    have e2 : x - 1 = 2 ^ (t + 1) * m + (2 ^ t - 1) := by omega
    have l1 : 2 ^ t < 2 ^ (t + 1) := Nat.pow_lt_pow_right (by decide) (by omega)
    have hand : x &&& (x - 1) = 2 ^ (t + 1) * m := by
      rw [e2]
      conv => lhs; lhs; rw [e1]
      rw [land_pow (t + 1) _ _ _ _ l1 (by omega), Nat.and_self, Nat.and_two_pow_sub_one_eq_mod, Nat.mod_self, Nat.add_zero]
    refine eq_word (Nat.lt_of_le_of_lt Nat.and_le_left (by rw [← two64]; exact hlt)) (fun j hj => ?_)
    rw [hand, Nat.mul_comm, Nat.testBit_mul_two_pow]
    have hb := bit j hj
    rw [e1] at hb
    unfold frm at hb ⊢
    by_cases hjt : t + 1 ≤ j
    · have e3 : (2 ^ (t + 1) * m + 2 ^ t).testBit j = m.testBit (j - (t + 1)) := by
        have e4 : (2 ^ (t + 1) * m + 2 ^ t) / 2 ^ (t + 1) = m := by
          rw [Nat.mul_add_div (Nat.pow_pos (by decide)), Nat.div_eq_of_lt l1, Nat.add_zero]
        have := Nat.testBit_div_two_pow (2 ^ (t + 1) * m + 2 ^ t) (i := j - (t + 1)) (n := t + 1)
        rw [e4] at this
        rw [this]
        congr 1
        omega
      rw [e3] at hb
      have g1 : q ≤ 64 * k + j := by omega
      have g2 : 64 * k + t + 1 ≤ 64 * k + j := by omega
      simp only [hjt, decide_true, Bool.true_and, hb, g1, g2]
    · have g2 : ¬ 64 * k + t + 1 ≤ 64 * k + j := by omega
      simp only [hjt, g2, decide_false, Bool.false_and, Bool.and_false]

end Go.Proofs.YtjeogbdeagkomaaDoor.Bset

/- The iterator over a set's bytes: it tells each, rising, as long as the round goes on. -/
namespace Go.Proofs.YtjeogbdeagkomaaDoor
open Go.RowKit Go.Shelf Bset

attribute [local go_sem] Oper.semAt_some

theorem idx_word (S : Nat → Bool) (k : Nat) (hk : k < 4) (w : World) : (Instr.index 35 (setV S) (.int .i64 k)).run Tryd.prog w = .ok (.int .u64 (word S k : Nat)) w := by
  match k, hk with
  | 0, _ => exact idx0 _ _ _ _ w
  | 1, _ => exact idx1 _ _ _ _ w
  | 2, _ => exact idx2 _ _ _ _ w
  | 3, _ => exact idx3 _ _ _ _ w

theorem TabIn.below {n₀ : Nat} {w w' : World} (h : TabIn w) (hb : Below n₀ w w') (hg : 2 < n₀) : TabIn w' :=
  fun j hj => (hb.cell (p := ⟨2, j, none⟩) hg).trans (h j hj)

/-- A byte. -/
abbrev By := { x : Nat // x < 256 }

set_option maxRecDepth 100000 in
set_option maxHeartbeats 2000000 in
theorem each1_in (l Bn n₀ : Nat) (S : Nat → Bool) (J Jx : List By → World → Prop) (hg : 2 < n₀)
    (hY : ∀ pre x W, J pre W → pre.length < 256 → YieldAt Fence.wide 2 Tryd.prog l #[.int .u8 x.1] W fun e W' =>
      (e = .returned (.bool true) ∧ J (pre ++ [x]) W' ∧ Below n₀ W W') ∨ (e = .returned (.bool false) ∧ Jx (pre ++ [x]) W'))
    (W : World) (hBn : Cl W Bn 35 (setC S)) (hT : TabIn W) (h0 : J [] W) :
    CallsIn Fence.wide 3 Tryd.prog 165 #[.func (.yield l) #[] #[], .pointer (some ⟨Bn, 0, none⟩)] W fun e W' => (∃ v, e = .returned v) ∧
      ((∃ ys : List By, ys.map (·.1) = mem S ∧ J ys W') ∨ (∃ pre : List By, pre.map (·.1) <+: mem S ∧ Jx pre W')) := by
  have w0 := hBn.word 0 (by omega)
  have w1 := hBn.word 1 (by omega)
  have w2 := hBn.word 2 (by omega)
  have w3 := hBn.word 3 (by omega)
  refine callsIn_of_wp Tryd.func165 rfl trivial ?_ rfl
  simp only [Tryd.ntmps165, List.size_toArray, List.length_cons, List.length_nil, Nat.reduceAdd, Nat.reduceSub, Array.replicate_succ, Array.replicate_zero, List.push_toArray, List.append_toArray, List.nil_append, List.cons_append]
  gi_wp2
  gi_loopw [6] (fun i wr => ∃ (k : Nat) (pre : List By), i = .int .i64 k ∧ k ≤ 4 ∧ pre.map (·.1) = upTo S (64 * k) ∧ J pre wr ∧ TabIn wr)
    (fun i _ => 4 - (intOf i).toNat)
  case atStart =>
    exact ⟨0, [], rfl, by omega, rfl, h0, hT⟩
  case round =>
    obtain ⟨k, pre, rfl, hk, hp, hJ, hTw⟩ := hrel
    by_cases hlt : k < 4
    · have ik := idx_word S k hlt
      have hd : decide ((k : Int) < 4) = true := by simp; omega
      gi_wp2
      obtain ⟨wo, rfl⟩ : ∃ wo : World, wo = wr := ⟨_, rfl⟩
      gi_loopw [4] (fun v wq => ∃ (q x : Nat) (pr : List By), v = .int .u64 x ∧ x = word (frm S q) k ∧ 64 * k ≤ q ∧ q ≤ 64 * k + 64 ∧ pr.map (·.1) = upTo S q ∧ J pr wq ∧ TabIn wq)
        (fun v _ => (intOf v).toNat)
      case atStart =>
        exact ⟨64 * k, word S k, pre, rfl, (word_frm S k).symm, by omega, by omega, hp, hJ, hTw⟩
      case round =>
        obtain ⟨q, x, pr, rfl, hx, hq0, hq1, hpr, hJq, hTq⟩ := hrel
        have hxlt : x < 18446744073709551616 := by rw [hx]; exact word_lt _ _
        by_cases hx0 : x = 0
        · have hnone := frm_none (hx ▸ hx0) hq1 hq0
          subst hx0
          clear hx ik hd
          gi_wp2
          refine ⟨⟨k + 1, pr, by go_num, by omega, ?_, hJq, hTq⟩, by simp [intOf]; omega⟩
          rw [hpr, Nat.mul_add, Nat.mul_one]
          exact hnone.symm
        · obtain ⟨t, ht⟩ : ∃ t, t = Lib.ctzFrom 64 x := ⟨_, rfl⟩
          have hc := tz_any x hxlt hx0
          obtain ⟨l1, l2, l3, l4⟩ := low_spec hx hq0 hx0
          rw [← ht] at hc l1 l2 l3 l4
          obtain ⟨b, hb⟩ : ∃ b, b = 64 * k + t := ⟨_, rfl⟩
          have hb8 : b < 256 := by omega
          have hlen : pr.length < 256 := by
            have h1 : (pr.map (·.1)).length = (upTo S q).length := by rw [hpr]
            rw [List.length_map] at h1
            have := upTo_len S q
            omega
          obtain ⟨fn, tmps, assign, body, hy, hR⟩ := hY pr ⟨b, hb8⟩ wr hJq hlen
          dsimp only at hy
          have e1 : (k : Int) * 64 + (t : Int) = (b : Int) := by omega
          have hx1 : (1 : Int) ≤ (x : Int) := by omega
          have hne : ((x : Int) != 0) = true := by rw [bne_iff_ne]; omega
          obtain ⟨y, hy'⟩ : ∃ y, y = x &&& (x - 1) := ⟨_, rfl⟩
          have e2 : bits .and .u64 (x : Int) ((x : Int) - 1) = (y : Int) := by
            have : (x : Int) - 1 = ((x - 1 : Nat) : Int) := by omega
            rw [this, bits_and' _ _ hxlt (by omega), hy']
          have Hc := Lib.hid hc
          have HJ := Lib.hid hx
          have HB := Lib.hid hb
          have HY := Lib.hid hy'
          clear hc hx ht ik hd hb hy'
          gi_wp2_with (refine ⟨trivial, ?_⟩; gi_at_call 166; refine (callsIn_wide.2 (Hc.out _ (by assumption))).mono ?_; rintro e w' ⟨rfl, rfl⟩)
          have hpr' : (pr ++ [(⟨b, hb8⟩ : By)]).map (·.1) = upTo S (b + 1) := by
            have h3 := HB.out
            rw [List.map_append, hpr]
            show upTo S q ++ [b] = upTo S (b + 1)
            rw [h3, l3]
          refine hR.mono ?_
          rintro e W3 (⟨rfl, hJ3, hk3⟩ | ⟨rfl, hJx3⟩)
          · have hT3 := TabIn.below hTq hk3 hg
            gi_wp2
            refine ⟨⟨b + 1, y, pr ++ [⟨b, hb8⟩], rfl, ?_, by have := HB.out; omega, by have := HB.out; omega, hpr', hJ3, hT3⟩, ?_⟩
            · rw [HY.out, l4, HB.out]
            · have h1 := HY.out
              have h2 : x &&& (x - 1) ≤ x - 1 := Nat.and_le_right
              simp [intOf]
              omega
          · gi_wp2
            refine bodyPost_ret (results_none rfl _ _ _) rfl ?_
            exact ⟨⟨_, rfl⟩, .inr ⟨pr ++ [⟨b, hb8⟩], by rw [hpr']; exact upTo_mem (by omega), hJx3⟩⟩
    · obtain rfl : k = 4 := by omega
      gi_wp2
      go_end0
      exact ⟨⟨_, rfl⟩, .inl ⟨pre, hp, hJ⟩⟩

/-- **each(s) hands back a value that tells s's bytes, rising, or the first ones of them, where a round has said 'no more'.** -/
theorem each_stops (Bn n₀ : Nat) (S : Nat → Bool) (w : World) (hg : 2 < n₀) (hn : n₀ ≤ w.heap.size) (hBn : Cl w Bn 35 (setC S)) (hT : TabIn w) :
    SeqStopsK Fence.wide 3 Tryd.prog 165 #[.pointer (some ⟨Bn, 0, none⟩)] (fun x : By => #[Value.int .u8 x.1]) (Below n₀) (fun ys => ys.map (·.1) = mem S) (fun pre => pre.map (·.1) <+: mem S) 256 w :=
  fun l J Jx W hW _ _ hY h0 =>
    each1_in l Bn n₀ S J Jx hg hY W (hBn.below hW hBn.lt) (TabIn.below (hT.below (Below.refl n₀ _) hg) hW (by omega)) h0

set_option maxHeartbeats 1000000 in
theorem each_any (S : Nat → Bool) (w : World) :
    Calls Tryd.prog 144 #[setV S] w fun e w' => e = .returned (.func (.func 165) #[] #[.pointer (some ⟨w.heap.size, 0, none⟩)]) ∧ w' = w.alloc (.cells (setC S) 35) := by
  go_enter Tryd.func144, Tryd.ntmps144
  go_wp2
  go_ret
  exact ⟨rfl, rfl⟩
end Go.Proofs.YtjeogbdeagkomaaDoor

/- What stands while blocks that are no cells are laid, or turned. -/
namespace Go.Proofs.YtjeogbdeagkomaaDoor
open Go.RowKit Go.Shelf Bset

theorem cl_own {β : Type} (g : Nat) (t : TypeId) (cs : Array Value) : Own (fun (_ : β) W => Cl W g t cs) := fun _ A _ row hs hg hr =>
  (hg.block g (Cl.lt hs) (fun e1 => by
    obtain ⟨o, ho, hc⟩ := hr g e1.symm
    rw [show A.heap[g]? = _ from hs] at ho
    cases ho
    cases hc)).trans hs

theorem keepsO_below {W W' : World} (hb : Below W.heap.size W W') : KeepsOthers W W' :=
  ⟨hb.size, fun k _ hk _ => (hb.block k (Array.getElem?_eq_some_iff.1 hk).1).trans hk⟩

theorem cl_putObj {W : World} {g D : Nat} {t : TypeId} {cs : Array Value} (h : Cl W g t cs) (hD : g ≠ D) (o : Obj) : Cl (W.putObj D o) g t cs :=
  (World.putObj_heap_other hD).trans h

end Go.Proofs.YtjeogbdeagkomaaDoor

/- How many bits a word has: the sums in parallel that math/bits.OnesCount64 makes. Of no program. -/
import Derived.Test.YtkhokhmdiagckaaDoorBset
namespace Go.Proofs.YtkhokhmdiagckaaDoor.Bset

/-- The bits of x below n, from the lowest on. -/
def pc : Nat → Nat → Nat
  | 0, _ => 0
  | n + 1, x => x % 2 + pc n (x / 2)

/-- The same, from the highest on. -/
def pcH : Nat → Nat → Nat
  | 0, _ => 0
  | n + 1, x => pcH n x + if x.testBit n then 1 else 0

theorem pcH_low : ∀ (n x : Nat), pcH (n + 1) x = x % 2 + pcH n (x / 2)
  | 0, x => by
    simp only [pcH, Nat.testBit_zero]
    rcases Nat.mod_two_eq_zero_or_one x with h | h <;> simp [h]
  | n + 1, x => by
    rw [pcH, pcH_low n x, pcH, Nat.testBit_succ]
    omega

theorem pc_eq : ∀ (n x : Nat), pc n x = pcH n x
  | 0, _ => rfl
  | n + 1, x => by rw [pcH_low, pc, pc_eq n]

theorem pc_split : ∀ (m n x : Nat), pc (m + n) x = pc m (x % 2 ^ m) + pc n (x / 2 ^ m)
  | 0, n, x => by simp [pc]
  | m + 1, n, x => by
    have e : m + 1 + n = (m + n) + 1 := by omega
    rw [e, pc, pc, pc_split m n (x / 2), Nat.div_div_eq_div_mul, Nat.pow_succ]
    have e1 : x % (2 ^ m * 2) % 2 = x % 2 := by rw [Nat.mul_comm, Nat.mod_mul_right_mod]
    have e2 : x % (2 ^ m * 2) / 2 = x / 2 % 2 ^ m := by rw [Nat.mul_comm, Nat.mod_mul_right_div_self]
    rw [e1, e2, Nat.mul_comm 2 (2 ^ m)]
    omega

theorem land_pow (k a b c d : Nat) (hb : b < 2 ^ k) (hd : d < 2 ^ k) : (2 ^ k * a + b) &&& (2 ^ k * c + d) = 2 ^ k * (a &&& c) + (b &&& d) := by
  have hpos : 0 < 2 ^ k := Nat.pow_pos (by decide)
  have hand : b &&& d < 2 ^ k := Nat.lt_of_le_of_lt Nat.and_le_left hb
  have m1 : ((2 ^ k * a + b) &&& (2 ^ k * c + d)) % 2 ^ k = b &&& d := by
    rw [Nat.and_mod_two_pow, Nat.mul_add_mod, Nat.mul_add_mod, Nat.mod_eq_of_lt hb, Nat.mod_eq_of_lt hd]
  have m2 : ((2 ^ k * a + b) &&& (2 ^ k * c + d)) / 2 ^ k = a &&& c := by
    rw [Nat.and_div_two_pow, Nat.mul_add_div hpos, Nat.mul_add_div hpos, Nat.div_eq_of_lt hb, Nat.div_eq_of_lt hd, Nat.add_zero, Nat.add_zero]
  have := Nat.div_add_mod ((2 ^ k * a + b) &&& (2 ^ k * c + d)) (2 ^ k)
  rw [m1, m2] at this
  exact this.symm

/-- One function on each of n bytes. -/
def bm (f : Nat → Nat) : Nat → Nat → Nat
  | 0, _ => 0
  | n + 1, x => 256 * bm f n (x / 256) + f (x % 256)

/-- One byte, n times. -/
def rp (c : Nat) : Nat → Nat
  | 0 => 0
  | n + 1 => 256 * rp c n + c

theorem bm_lt (f : Nat → Nat) (hf : ∀ b, b < 256 → f b < 256) : ∀ (n x : Nat), bm f n x < 256 ^ n
  | 0, _ => by simp [bm]
  | n + 1, x => by
    have h1 := bm_lt f hf n (x / 256)
    have h2 := hf (x % 256) (Nat.mod_lt _ (by decide))
    rw [bm, Nat.pow_succ]
    omega

theorem bm_bm (f g : Nat → Nat) (hf : ∀ b, b < 256 → f b < 256) : ∀ (n x : Nat), bm g n (bm f n x) = bm (fun b => g (f b)) n x
  | 0, _ => rfl
  | n + 1, x => by
    have h2 := hf (x % 256) (Nat.mod_lt _ (by decide))
    have e1 : (256 * bm f n (x / 256) + f (x % 256)) / 256 = bm f n (x / 256) := by omega
    have e2 : (256 * bm f n (x / 256) + f (x % 256)) % 256 = f (x % 256) := by omega
    rw [bm, bm, e1, e2, bm_bm f g hf n, bm]

theorem bm_congr (f g : Nat → Nat) (h : ∀ b, b < 256 → f b = g b) : ∀ (n x : Nat), bm f n x = bm g n x
  | 0, _ => rfl
  | n + 1, x => by rw [bm, bm, bm_congr f g h n, h _ (Nat.mod_lt _ (by decide))]

/-- A mask that leaves out the s highest bits of a byte: what is shifted in from the next byte is cut off. -/
theorem and_shift (s k c : Nat) (h8 : 2 ^ s * 2 ^ k = 256) (hc : c < 2 ^ k) : ∀ (n x : Nat), x < 256 ^ n →
    (x / 2 ^ s) &&& rp c n = bm (fun b => (b / 2 ^ s) &&& c) n x
  | 0, x, hx => by simp [rp, bm]
  | n + 1, x, hx => by
    have hs : 0 < 2 ^ s := Nat.pow_pos (by decide)
    have hx' : x / 256 < 256 ^ n := by
      rw [Nat.pow_succ] at hx
      omega
    have ih := and_shift s k c h8 hc n (x / 256) hx'
    have e1 : x / 2 ^ s = 2 ^ k * (x / 256) + (x % 256) / 2 ^ s := by
      have e : x = 2 ^ s * (2 ^ k * (x / 256)) + x % 256 := by
        rw [← Nat.mul_assoc, h8]
        omega
      rw [e, Nat.mul_add_div hs]
      congr 1
      · congr 1
        rw [← Nat.mul_assoc, h8]
        omega
      · rw [← e]
    have e2 : rp c (n + 1) = 2 ^ k * (2 ^ s * rp c n) + c := by
      rw [rp, ← Nat.mul_assoc, Nat.mul_comm (2 ^ k), h8]
    have hb : (x % 256) / 2 ^ s < 2 ^ k := by
      apply Nat.div_lt_of_lt_mul
      rw [h8]
      exact Nat.mod_lt _ (by decide)
    have e3 : (x / 256) &&& (2 ^ s * rp c n) = 2 ^ s * ((x / 256 / 2 ^ s) &&& rp c n) := by
      have h := land_pow s (x / 256 / 2 ^ s) (x / 256 % 2 ^ s) (rp c n) 0 (Nat.mod_lt _ hs) hs
      rw [Nat.div_add_mod, Nat.add_zero, Nat.and_zero, Nat.add_zero] at h
      exact h
    rw [e1, e2, land_pow k _ _ _ _ hb hc, e3, ih, bm, ← Nat.mul_assoc, Nat.mul_comm (2 ^ k), h8]

def f1 (b : Nat) : Nat := ((b / 2 ^ 1) &&& 85) + ((b / 2 ^ 0) &&& 85)
def f2 (b : Nat) : Nat := ((b / 2 ^ 2) &&& 51) + ((b / 2 ^ 0) &&& 51)

theorem bm_add (f g : Nat → Nat) : ∀ (n x : Nat), bm f n x + bm g n x = bm (fun b => f b + g b) n x
  | 0, _ => rfl
  | n + 1, x => by
    rw [bm, bm, bm, ← bm_add f g n]
    omega

theorem st1 (x : Nat) (hx : x < 256 ^ 8) : ((x / 2) &&& rp 85 8) + (x &&& rp 85 8) = bm f1 8 x := by
  have h1 := and_shift 1 7 85 (by decide) (by decide) 8 x hx
  have h0 := and_shift 0 8 85 (by decide) (by decide) 8 x hx
  have e : x / 2 ^ 0 = x := by simp
  rw [e] at h0
  have e1 : (2 : Nat) ^ 1 = 2 := rfl
  rw [e1] at h1
  rw [h1, h0, bm_add]
  rfl

theorem st2 (x : Nat) (hx : x < 256 ^ 8) : ((x / 4) &&& rp 51 8) + (x &&& rp 51 8) = bm f2 8 x := by
  have h1 := and_shift 2 6 51 (by decide) (by decide) 8 x hx
  have h0 := and_shift 0 8 51 (by decide) (by decide) 8 x hx
  have e : x / 2 ^ 0 = x := by simp
  rw [e] at h0
  have e1 : (2 : Nat) ^ 2 = 4 := rfl
  rw [e1] at h1
  rw [h1, h0, bm_add]
  rfl

def f3 (b : Nat) : Nat := (b / 16 + b) % 16

/-- Where each half of each byte is 4 at most nothing is carried over. -/
theorem st3 (f : Nat → Nat) (hf : ∀ b, b < 256 → f b / 16 ≤ 4 ∧ f b % 16 ≤ 4) : ∀ (n x : Nat),
    (bm f n x / 16 + bm f n x) &&& rp 15 n = bm (fun b => f3 (f b)) n x ∧ bm f n x % 16 ≤ 4
  | 0, _ => by simp [bm, rp]
  | n + 1, x => by
    obtain ⟨ih, hlow⟩ := st3 f hf n (x / 256)
    obtain ⟨h1, h2⟩ := hf (x % 256) (Nat.mod_lt _ (by decide))
    rw [bm]
    generalize hA : bm f n (x / 256) = a at ih hlow
    generalize hB : f (x % 256) = b at h1 h2
    have e1 : (256 * a + b) / 16 + (256 * a + b) = 2 ^ 8 * (a / 16 + a) + (16 * (a % 16) + b / 16 + b) := by omega
    have e2 : rp 15 (n + 1) = 2 ^ 8 * rp 15 n + 15 := rfl
    have e3 : (16 * (a % 16) + b / 16 + b) &&& 15 = (b / 16 + b) % 16 := by
      have : (15 : Nat) = 2 ^ 4 - 1 := by decide
      rw [this, Nat.and_two_pow_sub_one_eq_mod]
      omega
    refine ⟨?_, by omega⟩
    rw [e1, e2, land_pow 8 _ _ _ _ (by omega) (by decide), e3, ih, bm, hB]
    rfl

theorem f12 : ∀ b, b < 256 → f1 b < 256 := by decide +kernel
theorem f12' : ∀ b, b < 256 → f2 (f1 b) / 16 ≤ 4 ∧ f2 (f1 b) % 16 ≤ 4 := by decide +kernel
theorem f123 : ∀ b, b < 256 → f3 (f2 (f1 b)) = pc 8 b ∧ pc 8 b ≤ 8 := by decide +kernel
theorem f2lt : ∀ b, b < 256 → f2 b < 256 := by decide +kernel

/-- The sum of eight bytes, of 8 at most each, by three more sums. -/
theorem sum8 (b0 b1 b2 b3 b4 b5 b6 b7 y4 y5 y6 : Nat) (h0 : b0 ≤ 8) (h1 : b1 ≤ 8) (h2 : b2 ≤ 8) (h3 : b3 ≤ 8) (h4 : b4 ≤ 8) (h5 : b5 ≤ 8) (h6 : b6 ≤ 8) (h7 : b7 ≤ 8)
    (y3 : Nat) (hy3 : y3 = 256 * (256 * (256 * (256 * (256 * (256 * (256 * b7 + b6) + b5) + b4) + b3) + b2) + b1) + b0)
    (hy4 : y4 = y3 + y3 / 256) (hy5 : y5 = y4 + y4 / 65536) (hy6 : y6 = y5 + y5 / 4294967296) :
    y4 < 18446744073709551616 ∧ y5 < 18446744073709551616 ∧ y6 < 9223372036854775808 ∧ y6 % 128 = b0 + b1 + b2 + b3 + b4 + b5 + b6 + b7 := by
  have q3 : y3 / 256 = 256 * (256 * (256 * (256 * (256 * (256 * (b7) + (b6)) + (b5)) + (b4)) + (b3)) + (b2)) + (b1) := by omega
  have p4 : y4 = 256 * (256 * (256 * (256 * (256 * (256 * (256 * (b7) + (b6 + b7)) + (b5 + b6)) + (b4 + b5)) + (b3 + b4)) + (b2 + b3)) + (b1 + b2)) + (b0 + b1) := by omega
  clear hy4 q3 hy3
  have q4 : y4 / 65536 = 256 * (256 * (256 * (256 * (256 * (b7) + (b6 + b7)) + (b5 + b6)) + (b4 + b5)) + (b3 + b4)) + (b2 + b3) := by omega
  have p5 : y5 = 256 * (256 * (256 * (256 * (256 * (256 * (256 * (b7) + (b6 + b7)) + (b5 + b6 + b7)) + (b4 + b5 + b6 + b7)) + (b3 + b4 + b5 + b6)) + (b2 + b3 + b4 + b5)) + (b1 + b2 + b3 + b4)) + (b0 + b1 + b2 + b3) := by omega
  have l4 : y4 < 18446744073709551616 := by omega
  clear hy5 q4 p4
  have q5 : y5 / 4294967296 = 256 * (256 * (256 * (b7) + (b6 + b7)) + (b5 + b6 + b7)) + (b4 + b5 + b6 + b7) := by omega
  have p6 : y6 = 256 * (256 * (256 * (256 * (256 * (256 * (256 * (b7) + (b6 + b7)) + (b5 + b6 + b7)) + (b4 + b5 + b6 + b7)) + (b3 + b4 + b5 + b6 + b7)) + (b2 + b3 + b4 + b5 + b6 + b7)) + (b1 + b2 + b3 + b4 + b5 + b6 + b7)) + (b0 + b1 + b2 + b3 + b4 + b5 + b6 + b7) := by omega
  have l5 : y5 < 18446744073709551616 := by omega
  clear hy6 q5 p5
  refine ⟨l4, l5, by omega, by omega⟩

theorem rp85 : rp 85 8 = 6148914691236517205 := by decide
theorem rp51 : rp 51 8 = 3689348814741910323 := by decide
theorem rp15 : rp 15 8 = 1085102592571150095 := by decide
theorem p256 : (256 : Nat) ^ 8 = 18446744073709551616 := by decide

/-- The six sums. -/
structure Ones (x y1 y2 y3 y4 y5 y6 : Nat) : Prop where
  h1 : y1 = ((x / 2) &&& 6148914691236517205) + (x &&& 6148914691236517205)
  h2 : y2 = ((y1 / 4) &&& 3689348814741910323) + (y1 &&& 3689348814741910323)
  h3 : y3 = (y2 / 16 + y2) &&& 1085102592571150095
  h4 : y4 = y3 + y3 / 256
  h5 : y5 = y4 + y4 / 65536
  h6 : y6 = y5 + y5 / 4294967296

theorem Ones.mk' (x : Nat) : ∃ y1 y2 y3 y4 y5 y6, Ones x y1 y2 y3 y4 y5 y6 := ⟨_, _, _, _, _, _, ⟨rfl, rfl, rfl, rfl, rfl, rfl⟩⟩

/-- A word has 64 bits: those of its eight bytes. -/
theorem pc64 (x : Nat) : pc 64 x = pc 8 (x % 256) + (pc 8 (x / 256 % 256) + (pc 8 (x / 256 / 256 % 256) + (pc 8 (x / 256 / 256 / 256 % 256) + (pc 8 (x / 256 / 256 / 256 / 256 % 256) + (pc 8 (x / 256 / 256 / 256 / 256 / 256 % 256) +
    (pc 8 (x / 256 / 256 / 256 / 256 / 256 / 256 % 256) + pc 8 (x / 256 / 256 / 256 / 256 / 256 / 256 / 256))))))) := by
  rw [show (64 : Nat) = 8 + 56 from rfl, pc_split 8 56, show (56 : Nat) = 8 + 48 from rfl, pc_split 8 48, show (48 : Nat) = 8 + 40 from rfl, pc_split 8 40, show (40 : Nat) = 8 + 32 from rfl, pc_split 8 32,
    show (32 : Nat) = 8 + 24 from rfl, pc_split 8 24, show (24 : Nat) = 8 + 16 from rfl, pc_split 8 16, show (16 : Nat) = 8 + 8 from rfl, pc_split 8 8]

theorem ones_sum (x y1 y2 y3 y4 y5 y6 : Nat) (hx : x < 18446744073709551616) (H : Ones x y1 y2 y3 y4 y5 y6) :
    y1 < 18446744073709551616 ∧ y2 < 18446744073709551616 ∧ y2 / 16 + y2 < 18446744073709551616 ∧ y3 < 18446744073709551616 ∧ y4 < 18446744073709551616 ∧ y5 < 18446744073709551616 ∧ y6 < 9223372036854775808 ∧
      y6 % 128 = pc 64 x ∧ pc 64 x ≤ 64 := by
  obtain ⟨h1, h2, h3, h4, h5, h6⟩ := H
  rw [← rp85, st1 x (by rw [p256]; exact hx)] at h1
  have l1 : y1 < 256 ^ 8 := by rw [h1]; exact bm_lt f1 f12 8 x
  rw [← rp51, st2 y1 l1, h1, bm_bm f1 f2 f12 8 x] at h2
  have l2 : y2 < 256 ^ 8 := by rw [h2]; exact bm_lt _ (fun b hb => f2lt _ (f12 b hb)) 8 x
  rw [← rp15, h2, (st3 (fun b => f2 (f1 b)) f12' 8 x).1, bm_congr _ (pc 8) (fun b hb => (f123 b hb).1) 8 x] at h3
  have l3 : y2 / 16 + y2 < 256 ^ 8 := by
    have : ∀ n z, bm (fun b => f2 (f1 b)) n z / 16 + bm (fun b => f2 (f1 b)) n z < 256 ^ n := by
      intro n
      induction n with
      | zero => intro z; simp [bm]
      | succ n ih =>
        intro z
        have i1 := ih (z / 256)
        have i2 := (st3 (fun b => f2 (f1 b)) f12' n (z / 256)).2
        have i3 := f12' (z % 256) (Nat.mod_lt _ (by decide))
        rw [bm, Nat.pow_succ]
        omega
    rw [h2]
    exact this 8 x
  rw [p256] at l1 l2 l3
  have hb : ∀ z, pc 8 (z % 256) ≤ 8 := fun z => (f123 _ (Nat.mod_lt z (by decide))).2
  have h7 : x / 256 / 256 / 256 / 256 / 256 / 256 / 256 % 256 = x / 256 / 256 / 256 / 256 / 256 / 256 / 256 := by omega
  have hs := pc64 x
  rw [← h7] at hs
  simp only [bm] at h3
  rw [Nat.mul_zero, Nat.zero_add] at h3
  have g0 := hb x
  have g1 := hb (x / 256)
  have g2 := hb (x / 256 / 256)
  have g3 := hb (x / 256 / 256 / 256)
  have g4 := hb (x / 256 / 256 / 256 / 256)
  have g5 := hb (x / 256 / 256 / 256 / 256 / 256)
  have g6 := hb (x / 256 / 256 / 256 / 256 / 256 / 256)
  have g7 := hb (x / 256 / 256 / 256 / 256 / 256 / 256 / 256)
  obtain ⟨r1, r2, r3, r4⟩ := sum8 _ _ _ _ _ _ _ _ y4 y5 y6 g0 g1 g2 g3 g4 g5 g6 g7 y3 h3 h4 h5 h6
  refine ⟨l1, l2, l3, ?_, r1, r2, r3, ?_, ?_⟩
  · omega
  · rw [r4, hs]
    omega
  · rw [hs]
    omega

theorem len_word (S : Nat → Bool) (k : Nat) : ∀ m, m ≤ 64 → (upTo S (64 * k + m)).length = (upTo S (64 * k)).length + pcH m (word S k)
  | 0, _ => by simp [pcH]
  | m + 1, h => by
    have hm : m < 64 := by omega
    rw [← Nat.add_assoc, upTo_succ, List.length_append, len_word S k m (by omega), pcH, word_testBit]
    cases hs : S (64 * k + m) <;> simp [hm]
    omega

theorem len_mem (S : Nat → Bool) : (mem S).length = pc 64 (word S 0) + pc 64 (word S 1) + pc 64 (word S 2) + pc 64 (word S 3) := by
  have h0 := len_word S 0 64 (by omega)
  have h1 := len_word S 1 64 (by omega)
  have h2 := len_word S 2 64 (by omega)
  have h3 := len_word S 3 64 (by omega)
  have z : (upTo S (64 * 0)).length = 0 := rfl
  simp only [pc_eq]
  unfold mem
  have e1 : 64 * 0 + 64 = 64 * 1 := rfl
  have e2 : 64 * 1 + 64 = 64 * 2 := rfl
  have e3 : 64 * 2 + 64 = 64 * 3 := rfl
  have e4 : 64 * 3 + 64 = 256 := rfl
  rw [e1] at h0
  rw [e2] at h1
  rw [e3] at h2
  rw [e4] at h3
  omega

theorem pc_le (S : Nat → Bool) (k : Nat) : pc 64 (word S k) ≤ 64 := by
  obtain ⟨y1, y2, y3, y4, y5, y6, H⟩ := Ones.mk' (word S k)
  exact (ones_sum _ y1 y2 y3 y4 y5 y6 (word_lt S k) H).2.2.2.2.2.2.2.2
end Go.Proofs.YtkhokhmdiagckaaDoor.Bset

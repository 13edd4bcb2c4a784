/- What a set is as a value, and as cells; small facts on words as integers. -/
import Derived.Test.YtpkjfdgjmcphmaaDoorProg
import Derived.Test.YtpkjfdgjmcphmaaDoorBset
import Derived.WalkKit
import Derived.WalkSpells
import Derived.WalkLawsBesides
import Derived.IntWalk
import Derived.Handy
import Derived.Laws.BitsAllLaws
import Derived.Deep.QuietTactic
import Derived.BigQuiet
import Derived.Lib.Hide
namespace Go.Proofs.YtpkjfdgjmcphmaaDoor
open Go.RowKit Bset

/-- A set's cells. -/
abbrev setC (S : Nat → Bool) : Array Value := #[.int .u64 (word S 0 : Nat), .int .u64 (word S 1 : Nat), .int .u64 (word S 2 : Nat), .int .u64 (word S 3 : Nat)]

/-- A set as a value. -/
abbrev setV (S : Nat → Bool) : Value := .agg (setC S)

theorem wrap_nat {m : Nat} (h : m < 18446744073709551616) : IntKind.u64.wrap ((m : Nat) : Int) = ((m : Nat) : Int) :=
  IntWalk.u64_in _ (by omega)

theorem bt_wrap (b : Nat) : IntKind.u64.wrap (2 ^ (b % 64)) = ((bt b : Nat) : Int) := by
  have h := bt_lt b
  have e : ((2 : Int) ^ (b % 64)) = ((bt b : Nat) : Int) := by simp [bt]
  rw [e]
  exact wrap_nat h

theorem bt_i (b : Nat) : IntKind.u64.wrap (1 * 2 ^ (b % 64)) = ((bt b : Nat) : Int) := by
  rw [Int.one_mul]
  exact bt_wrap b

/-- A contract of a function that leaves the world alone, turned. -/
theorem qeq {P : Program} {f : FuncId} {args : Array Value} {w : World} {v : Value} (h : Calls P f args w fun e w' => e = .returned v ∧ w = w') :
    Calls P f args w fun e w' => e = .returned v ∧ w' = w := h.mono fun _ _ h => ⟨h.1, h.2.symm⟩

theorem ret_of {a b : Value} (h : a = b) : Ending.returned a = .returned b := by rw [h]
theorem ret_bool {a b : Bool} (h : a = b) : Ending.returned (.bool a) = .returned (.bool b) := by rw [h]
theorem ret_int {k : IntKind} {a b : Int} (h : a = b) : Ending.returned (.int k a) = .returned (.int k b) := by rw [h]

theorem cellW (w : World) (S : Nat → Bool) (k : Nat) (hk : k < 4) (t : TypeId) :
    (w.alloc (.cells #[.int .u64 (word S 0 : Nat), .int .u64 (word S 1 : Nat), .int .u64 (word S 2 : Nat), .int .u64 (word S 3 : Nat)] t)).cell? ⟨w.heap.size, k, none⟩ = some (.int .u64 (word S k : Nat)) := by
  match k, hk with
  | 0, _ => simp
  | 1, _ => simp
  | 2, _ => simp
  | 3, _ => simp

theorem bcell {W w1 : World} (hb : Below W.heap.size W w1) : (∀ b o, b < W.heap.size → w1.cell? ⟨b, o, none⟩ = W.cell? ⟨b, o, none⟩) ∧ (∀ b o, b < W.heap.size → w1.frozen? ⟨b, o, none⟩ = W.frozen? ⟨b, o, none⟩) :=
  ⟨fun b o h => hb.cell (p := ⟨b, o, none⟩) h, fun b o h => hb.frozen (p := ⟨b, o, none⟩) h⟩

theorem bits_or' (a b : Nat) (ha : a < 18446744073709551616) (hb : b < 18446744073709551616) : bits .or .u64 (a : Int) (b : Int) = ((a ||| b : Nat) : Int) := bits_or_u64_nat a b ha hb
theorem bits_and' (a b : Nat) (ha : a < 18446744073709551616) (hb : b < 18446744073709551616) : bits .and .u64 (a : Int) (b : Int) = ((a &&& b : Nat) : Int) := bits_and_u64_nat a b ha hb

theorem has_bit (S : Nat → Bool) (b k : Nat) (hk : k = b / 64) : (bits .and .u64 (word S k : Nat) (bt b : Nat) != 0) = S b := by
  rw [bits_and' _ _ (word_lt _ _) (bt_lt _)]
  subst hk
  have h := word_has S b
  cases hs : S b with
  | true =>
    have := h.2 hs
    unfold bt
    rw [bne_iff_ne]
    omega
  | false =>
    have h' : ¬ (word S (b / 64) &&& 2 ^ (b % 64) ≠ 0) := fun x => by rw [h.1 x] at hs; cases hs
    have h0 : word S (b / 64) &&& 2 ^ (b % 64) = 0 := by
      by_cases e : word S (b / 64) &&& 2 ^ (b % 64) = 0
      · exact e
      · exact absurd e h'
    unfold bt
    rw [h0]
    rfl
theorem bdrewN {B n : Nat} {a w : World} (h : Below B a w) : Below B a (w.drewN n) := ⟨h.os, h.tape, h.output, h.size, h.block⟩

theorem or_w (S T : Nat → Bool) (k : Nat) : bits .or .u64 (word S k : Nat) (word T k : Nat) = (word (fun n => S n || T n) k : Nat) := by
  rw [bits_or' _ _ (word_lt _ _) (word_lt _ _), word_or]
theorem and_w (S T : Nat → Bool) (k : Nat) : bits .and .u64 (word S k : Nat) (word T k : Nat) = (word (fun n => S n && T n) k : Nat) := by
  rw [bits_and' _ _ (word_lt _ _) (word_lt _ _), word_and]
theorem minus_w (S T : Nat → Bool) (k : Nat) : bits .andNot .u64 (word S k : Nat) (word T k : Nat) = (word (fun n => S n && !T n) k : Nat) := by
  rw [u64_andNot_nat _ _ (word_lt _ _) (word_lt _ _), word_minus]
theorem not_w (S : Nat → Bool) (k : Nat) : bits .xor .u64 IntKind.u64.max (word S k : Nat) = (word (fun n => !S n) k : Nat) := by
  have h := word_lt S k
  have e : IntKind.u64.max = ((18446744073709551615 : Nat) : Int) := rfl
  have e2 : (2 : Nat) ^ 64 - 1 = 18446744073709551615 := by decide
  rw [e, bits_xor_u64_nat _ _ (by omega) h, ← word_not S k]
  congr 1
  apply Nat.eq_of_testBit_eq
  intro j
  have e3 : 18446744073709551615 - word S k = 2 ^ 64 - (word S k + 1) := by rw [two64]; omega
  rw [e3, Nat.testBit_two_pow_sub_succ (by rw [two64]; exact h), Nat.testBit_xor, ← e2, Nat.testBit_two_pow_sub_one, word_testBit]
  by_cases hj : j < 64 <;> simp [hj]
end Go.Proofs.YtpkjfdgjmcphmaaDoor

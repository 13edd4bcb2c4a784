/- '==' on two sets: their four words. -/
import Derived.Test.YtpkjfdgjmcphmaaDoorCl
import Derived.ChangeKeysEq
namespace Go.Proofs.YtpkjfdgjmcphmaaDoor
open Go.RowKit Bset

theorem part0 (a b c d : Value) (w : World) : (part 33 #[a, b, c, d] 0).run Tryd.prog w = .ok a w := by kernel_rfl
theorem part1 (a b c d : Value) (w : World) : (part 33 #[a, b, c, d] 1).run Tryd.prog w = .ok b w := by kernel_rfl
theorem part2 (a b c d : Value) (w : World) : (part 33 #[a, b, c, d] 2).run Tryd.prog w = .ok c w := by kernel_rfl
theorem part3 (a b c d : Value) (w : World) : (part 33 #[a, b, c, d] 3).run Tryd.prog w = .ok d w := by kernel_rfl

theorem infoU64 : (Tryd.prog.info? 33).map (fun i => (i.zero, i.size, i.bytes)) = some (some (.int .u64 0), 1, 8) := by kernel_rfl
theorem cellsU64 : Tryd.prog.cellsOf 33 = 1 := by kernel_rfl

theorem equal_arr (d : Nat) (w : World) (a0 a1 a2 a3 b0 b1 b2 b3 : Int) :
    (Op.equalIn (d + 2) 35 (.agg #[.int .u64 a0, .int .u64 a1, .int .u64 a2, .int .u64 a3]) (.agg #[.int .u64 b0, .int .u64 b1, .int .u64 b2, .int .u64 b3])).run Tryd.prog w =
      .ok (a0 == b0 && (a1 == b1 && (a2 == b2 && a3 == b3))) w := by
  obtain ⟨i0, hi, _⟩ := info_parts infoU64
  have e : ∀ (x y : Int), (Op.equalIn (d + 1) 33 (.int .u64 x) (.int .u64 y)).run Tryd.prog w = .ok (x == y) w := fun x y => run_equalIn_int w d _ _ _ x y Tryd.underlying33
  have r4 : List.range 4 = [0, 1, 2, 3] := rfl
  rw [run_equalIn_array w (d + 1) _ _ Tryd.underlying35 hi, cellsU64, r4]
  simp only [Op.eqItems, Nat.mul_one, Sem.run_bind, part0, e, Result.andThen_ok]
  cases h0 : (a0 == b0) <;> cases h1 : (a1 == b1) <;> cases h2 : (a2 == b2) <;> cases h3 : (a3 == b3) <;>
    simp only [Bool.not_true, Bool.not_false, Bool.false_eq_true, if_true, if_false, Sem.run_pure, Sem.run_bind, Result.andThen_ok, part1, part2, part3, e, h1, h2, h3, Bool.and_true, Bool.and_false]

/-- Two sets are the same, byte for byte. -/
def sameS (S T : Nat → Bool) : Bool := (List.range 256).all fun n => S n == T n

theorem sameS_iff {S T : Nat → Bool} : sameS S T = true ↔ ∀ n, n < 256 → S n = T n := by
  simp [sameS]

theorem sameS_words (S T : Nat → Bool) : (((word S 0 : Nat) : Int) == ((word T 0 : Nat) : Int) && (((word S 1 : Nat) : Int) == ((word T 1 : Nat) : Int) && (((word S 2 : Nat) : Int) == ((word T 2 : Nat) : Int) && ((word S 3 : Nat) : Int) == ((word T 3 : Nat) : Int)))) = sameS S T := by
  rw [Bool.eq_iff_iff, sameS_iff]
  simp only [Bool.and_eq_true, beq_iff_eq]
  constructor
  · rintro ⟨h0, h1, h2, h3⟩
    exact word_ext (by omega) (by omega) (by omega) (by omega)
  · intro h
    rw [word_congr h (by omega : 0 < 4), word_congr h (by omega : 1 < 4), word_congr h (by omega : 2 < 4), word_congr h (by omega : 3 < 4)]
    exact ⟨rfl, rfl, rfl, rfl⟩

theorem run_eql_set (w : World) (S T : Nat → Bool) : (binOp .eql 35 (setV S) (setV T)).run Tryd.prog w = .ok (.bool (sameS S T)) w := by
  have h := equal_arr 9998 w (word S 0 : Nat) (word S 1 : Nat) (word S 2 : Nat) (word S 3 : Nat) (word T 0 : Nat) (word T 1 : Nat) (word T 2 : Nat) (word T 3 : Nat)
  rw [sameS_words] at h
  simp only [binOp]
  simp [Op.equal, Op.maxDepth, h]

theorem run_neq_set (w : World) (S T : Nat → Bool) : (binOp .neq 35 (setV S) (setV T)).run Tryd.prog w = .ok (.bool (!sameS S T)) w := by
  have h := equal_arr 9998 w (word S 0 : Nat) (word S 1 : Nat) (word S 2 : Nat) (word S 3 : Nat) (word T 0 : Nat) (word T 1 : Nat) (word T 2 : Nat) (word T 3 : Nat)
  rw [sameS_words] at h
  simp only [binOp]
  simp [Op.equal, Op.maxDepth, h]

end Go.Proofs.YtpkjfdgjmcphmaaDoor

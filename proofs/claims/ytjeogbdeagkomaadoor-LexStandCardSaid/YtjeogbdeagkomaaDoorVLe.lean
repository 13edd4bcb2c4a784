/- '==' on two sets: their four words. -/
import Derived.Test.YtjeogbdeagkomaaDoorVBset
import Derived.ChangeKeysEq
import Derived.Laws.StructEq
import Derived.Test.YtjeogbdeagkomaaDoorVLw
namespace Go.Proofs.YtjeogbdeagkomaaDoor
open Go.RowKit Bset

theorem part0 (a b c d : Value) (w : World) : (part 33 #[a, b, c, d] 0).run Tryd.prog w = .ok a w := by kernel_rfl
theorem part1 (a b c d : Value) (w : World) : (part 33 #[a, b, c, d] 1).run Tryd.prog w = .ok b w := by kernel_rfl
theorem part2 (a b c d : Value) (w : World) : (part 33 #[a, b, c, d] 2).run Tryd.prog w = .ok c w := by kernel_rfl
theorem part3 (a b c d : Value) (w : World) : (part 33 #[a, b, c, d] 3).run Tryd.prog w = .ok d w := by kernel_rfl

theorem infoU64 : (Tryd.prog.info? 33).map (fun i => (i.zero, i.size, i.bytes)) = some (some (.int .u64 0), 1, 8) := by kernel_rfl
theorem cellsU64 : Tryd.prog.cellsOf 33 = 1 := by kernel_rfl

theorem equal_arr (d : Nat) (w : World) (a0 a1 a2 a3 b0 b1 b2 b3 : Int) :
    (Op.equalIn (d + 2) 35 (.agg #[.int .u64 a0, .int .u64 a1, .int .u64 a2, .int .u64 a3]) (.agg #[.int .u64 b0, .int .u64 b1, .int .u64 b2, .int .u64 b3])).run Tryd.prog w =
      .ok (a0 == b0 && (a1 == b1 && (a2 == b2 && a3 == b3))) w := by
  obtain ⟨i0, hi, _⟩ := info_parts infoU64
  have e : ∀ (x y : Int), (Op.equalIn (d + 1) 33 (.int .u64 x) (.int .u64 y)).run Tryd.prog w = .ok (x == y) w := fun x y => run_equalIn_int w d _ _ _ x y Tryd.underlying33
  have r4 : List.range 4 = [0, 1, 2, 3] := rfl
  rw [run_equalIn_array w (d + 1) _ _ Tryd.underlying35 hi, cellsU64, r4]
  simp only [Op.eqItems, Nat.mul_one, Sem.run_bind, part0, e, Result.andThen_ok]
  cases h0 : (a0 == b0) <;> cases h1 : (a1 == b1) <;> cases h2 : (a2 == b2) <;> cases h3 : (a3 == b3) <;>
    simp only [Bool.not_true, Bool.not_false, Bool.false_eq_true, if_true, if_false, Sem.run_pure, Sem.run_bind, Result.andThen_ok, part1, part2, part3, e, h1, h2, h3, Bool.and_true, Bool.and_false]

/-- Two sets are the same, byte for byte. -/
def sameS (S T : Nat → Bool) : Bool := (List.range 256).all fun n => S n == T n

theorem sameS_iff {S T : Nat → Bool} : sameS S T = true ↔ ∀ n, n < 256 → S n = T n := by
  simp [sameS]

theorem sameS_words (S T : Nat → Bool) : (((word S 0 : Nat) : Int) == ((word T 0 : Nat) : Int) && (((word S 1 : Nat) : Int) == ((word T 1 : Nat) : Int) && (((word S 2 : Nat) : Int) == ((word T 2 : Nat) : Int) && ((word S 3 : Nat) : Int) == ((word T 3 : Nat) : Int)))) = sameS S T := by
  rw [Bool.eq_iff_iff, sameS_iff]
  simp only [Bool.and_eq_true, beq_iff_eq]
  constructor
  · rintro ⟨h0, h1, h2, h3⟩
    exact word_ext (by omega) (by omega) (by omega) (by omega)
  · intro h
    rw [word_congr h (by omega : 0 < 4), word_congr h (by omega : 1 < 4), word_congr h (by omega : 2 < 4), word_congr h (by omega : 3 < 4)]
    exact ⟨rfl, rfl, rfl, rfl⟩

theorem run_eql_set (w : World) (S T : Nat → Bool) : (binOp .eql 35 (setV S) (setV T)).run Tryd.prog w = .ok (.bool (sameS S T)) w := by
  have h := equal_arr 9998 w (word S 0 : Nat) (word S 1 : Nat) (word S 2 : Nat) (word S 3 : Nat) (word T 0 : Nat) (word T 1 : Nat) (word T 2 : Nat) (word T 3 : Nat)
  rw [sameS_words] at h
  simp only [binOp]
  simp [Op.equal, Op.maxDepth, h]

theorem run_neq_set (w : World) (S T : Nat → Bool) : (binOp .neq 35 (setV S) (setV T)).run Tryd.prog w = .ok (.bool (!sameS S T)) w := by
  have h := equal_arr 9998 w (word S 0 : Nat) (word S 1 : Nat) (word S 2 : Nat) (word S 3 : Nat) (word T 0 : Nat) (word T 1 : Nat) (word T 2 : Nat) (word T 3 : Nat)
  rw [sameS_words] at h
  simp only [binOp]
  simp [Op.equal, Op.maxDepth, h]

theorem pair0 (a b : Value) (w : World) : (part 5 #[a, b] 0).run Tryd.prog w = .ok a w := by kernel_rfl
theorem pair1 (a b : Value) (w : World) : (part 5 #[a, b] 1).run Tryd.prog w = .ok b w := by kernel_rfl
theorem infoByte : (Tryd.prog.info? 5).map (fun i => (i.zero, i.size, i.bytes)) = some (some (.int .u8 0), 1, 1) := by kernel_rfl
theorem cellsByte : Tryd.prog.cellsOf 5 = 1 := by kernel_rfl

theorem equal_pair (d : Nat) (w : World) (a0 a1 b0 b1 : Int) :
    (Op.equalIn (d + 2) 132 (.agg #[.int .u8 a0, .int .u8 a1]) (.agg #[.int .u8 b0, .int .u8 b1])).run Tryd.prog w = .ok (a0 == b0 && a1 == b1) w := by
  obtain ⟨i0, hi, _⟩ := info_parts infoByte
  have e : ∀ (x y : Int), (Op.equalIn (d + 1) 5 (.int .u8 x) (.int .u8 y)).run Tryd.prog w = .ok (x == y) w := fun x y => run_equalIn_int w d _ _ _ x y Tryd.underlying5
  have r2 : List.range 2 = [0, 1] := rfl
  rw [run_equalIn_array w (d + 1) _ _ Tryd.underlying132 hi, cellsByte, r2]
  simp only [Op.eqItems, Nat.mul_one, Sem.run_bind, pair0, e, Result.andThen_ok]
  cases h0 : (a0 == b0) <;> cases h1 : (a1 == b1) <;>
    simp only [Bool.not_true, Bool.not_false, Bool.false_eq_true, if_true, if_false, Sem.run_pure, Sem.run_bind, Result.andThen_ok, pair1, e, h1, Bool.and_true, Bool.and_false]

theorem run_eql_pair (w : World) (a0 a1 b0 b1 : Int) : (binOp .eql 132 (.agg #[.int .u8 a0, .int .u8 a1]) (.agg #[.int .u8 b0, .int .u8 b1])).run Tryd.prog w = .ok (.bool (a0 == b0 && a1 == b1)) w := by
  have h := equal_pair 9998 w a0 a1 b0 b1
  simp only [binOp]
  simp [Op.equal, Op.maxDepth, h]
theorem run_neq_pair (w : World) (a0 a1 b0 b1 : Int) : (binOp .neq 132 (.agg #[.int .u8 a0, .int .u8 a1]) (.agg #[.int .u8 b0, .int .u8 b1])).run Tryd.prog w = .ok (.bool (!(a0 == b0 && a1 == b1))) w := by
  have h := equal_pair 9998 w a0 a1 b0 b1
  simp only [binOp]
  simp [Op.equal, Op.maxDepth, h]
end Go.Proofs.YtjeogbdeagkomaaDoor

/- '==' on two words. -/
namespace Go.Proofs.YtjeogbdeagkomaaDoor
open Go.RowKit Bset

/-- Two words are the same, places and all. -/
def sameW (x y : Lw) : Bool := ((x.kind : Int) == (y.kind : Int)) && ((x.at_ == y.at_) && ((x.to_ == y.to_) && ((x.text.toList == y.text.toList) && (sameS x.set y.set && ((x.low == y.low) && (x.high == y.high))))))

theorem fieldsW : (Tryd.prog.fieldsOf 64).toList.map (fun f => (f.name != "_", f.type, f.offset)) = [(true, 5, 0), (true, 3, 1), (true, 3, 2), (true, 9, 3), (true, 35, 4), (true, 3, 8), (true, 3, 9)] := by kernel_rfl

/-- The comparison looks at no more of a field than its name, type and place. -/
def eqF (d : Nat) (xs ys : Array Value) : List (Bool × TypeId × Nat) → Sem Bool
  | [] => pure true
  | f :: fs =>
    if f.1 = true then do
      let a ← part f.2.1 xs f.2.2
      let b ← part f.2.1 ys f.2.2
      let r ← Op.equalIn d f.2.1 a b
      if (!r) = true then pure false else eqF d xs ys fs
    else eqF d xs ys fs
theorem eqF_of (d : Nat) (xs ys : Array Value) : ∀ fs : List Field, Op.eqFields d xs ys fs = eqF d xs ys (fs.map (fun f => (f.name != "_", f.type, f.offset)))
  | [] => rfl
  | f :: fs => by
    rw [List.map_cons, Op.eqFields, eqF, eqF_of d xs ys fs]
    by_cases h : f.name = "_"
    · simp [h]
    · simp [h]

section
variable (a0 a1 a2 a3 a4 a5 a6 a7 a8 a9 : Value) (w : World)
theorem wpart0 : (part 5 #[a0, a1, a2, a3, a4, a5, a6, a7, a8, a9] 0).run Tryd.prog w = .ok a0 w := by kernel_rfl
theorem wpart1 : (part 3 #[a0, a1, a2, a3, a4, a5, a6, a7, a8, a9] 1).run Tryd.prog w = .ok a1 w := by kernel_rfl
theorem wpart2 : (part 3 #[a0, a1, a2, a3, a4, a5, a6, a7, a8, a9] 2).run Tryd.prog w = .ok a2 w := by kernel_rfl
theorem wpart3 : (part 9 #[a0, a1, a2, a3, a4, a5, a6, a7, a8, a9] 3).run Tryd.prog w = .ok a3 w := by kernel_rfl
theorem wpart4 : (part 35 #[a0, a1, a2, a3, a4, a5, a6, a7, a8, a9] 4).run Tryd.prog w = .ok (.agg #[a4, a5, a6, a7]) w := by kernel_rfl
theorem wpart8 : (part 3 #[a0, a1, a2, a3, a4, a5, a6, a7, a8, a9] 8).run Tryd.prog w = .ok a8 w := by kernel_rfl
theorem wpart9 : (part 3 #[a0, a1, a2, a3, a4, a5, a6, a7, a8, a9] 9).run Tryd.prog w = .ok a9 w := by kernel_rfl
end

theorem equal_word (x y : Lw) (w : World) : (Op.equalIn 10000 64 (lwV x) (lwV y)).run Tryd.prog w = .ok (sameW x y) w := by
  have h := equal_arr 9997 w (word x.set 0 : Nat) (word x.set 1 : Nat) (word x.set 2 : Nat) (word x.set 3 : Nat) (word y.set 0 : Nat) (word y.set 1 : Nat) (word y.set 2 : Nat) (word y.set 3 : Nat)
  rw [sameS_words] at h
  have ei : ∀ (p q : Int), (Op.equalIn 9999 3 (.int .i64 p) (.int .i64 q)).run Tryd.prog w = .ok (p == q) w := fun p q => run_equalIn_int w 9998 _ _ _ p q Tryd.underlying3
  have eb : ∀ (p q : Int), (Op.equalIn 9999 5 (.int .u8 p) (.int .u8 q)).run Tryd.prog w = .ok (p == q) w := fun p q => run_equalIn_int w 9998 _ _ _ p q Tryd.underlying5
  have es : ∀ (p q : ByteArray), (Op.equalIn 9999 9 (.string p) (.string q)).run Tryd.prog w = .ok (p.toList == q.toList) w := fun p q => run_equalIn_string w 9998 _ p q Tryd.underlying9
  rw [lwV, lwV, run_equalIn_struct w 9999 _ _ _ (by kernel_rfl) (by kernel_rfl), eqF_of, fieldsW]
  unfold sameW lwC
  simp only [eqF, if_true, Sem.run_bind, wpart0, Result.andThen_ok, eb]
  cases h0 : ((x.kind : Int) == (y.kind : Int)) <;> cases h1 : (x.at_ == y.at_) <;> cases h2 : (x.to_ == y.to_) <;> cases h3 : (x.text.toList == y.text.toList) <;> cases h4 : sameS x.set y.set <;> cases h5 : (x.low == y.low) <;> cases h6 : (x.high == y.high) <;>
    simp only [Bool.not_true, Bool.not_false, Bool.false_eq_true, if_true, if_false, Sem.run_pure, Sem.run_bind, Result.andThen_ok, wpart1, wpart2, wpart3, wpart4, wpart8, wpart9, ei, es, h, h1, h2, h3, h4, h5, h6, Bool.and_true, Bool.and_false]
theorem run_eql_word (x y : Lw) (w : World) : (binOp .eql 64 (lwV x) (lwV y)).run Tryd.prog w = .ok (.bool (sameW x y)) w := by
  have h := equal_word x y w
  simp only [lwV] at h ⊢
  rw [run_eql_struct, h]
  rfl
end Go.Proofs.YtjeogbdeagkomaaDoor

/- The laws of sets that bonsailaw01.SetLaws asks, of functions on bytes; the calls' contracts under these names. -/
import Derived.Test.YtgekfdmamingjaaDoorAwake
import Derived.Test.YtgekfdmamingjaaDoorCmpM
namespace Go.Proofs.YtgekfdmamingjaaDoor
open Go.RowKit Bset

def notS (S : Nat → Bool) : Nat → Bool := fun n => !S n
def orS (S T : Nat → Bool) : Nat → Bool := fun n => S n || T n
def andS (S T : Nat → Bool) : Nat → Bool := fun n => S n && T n
def minusS (S T : Nat → Bool) : Nat → Bool := fun n => S n && !T n
/-- List(S), and the set of its bytes. -/
def listS (S : Nat → Bool) : ByteArray := ⟨(bytesOf S).toArray⟩
def ofL (S : Nat → Bool) : Nat → Bool := ofT (bytesOf S)
def ofS (s : ByteArray) : Nat → Bool := ofT s.data.toList
def ofTT (s : ByteArray) : Nat → Bool := ofT (s ++ s).data.toList

theorem not_o (S : Nat → Bool) (w : World) : Calls Tryd.prog 15 #[setV S] w fun e w' => e = .returned (setV (notS S)) ∧ Below w.heap.size w w' := not_any S w
theorem or_o (S T : Nat → Bool) (w : World) : Calls Tryd.prog 30 #[setV S, setV T] w fun e w' => e = .returned (setV (orS S T)) ∧ Below w.heap.size w w' := or_any S T w
theorem and_o (S T : Nat → Bool) (w : World) : Calls Tryd.prog 32 #[setV S, setV T] w fun e w' => e = .returned (setV (andS S T)) ∧ Below w.heap.size w w' := and_any S T w
theorem minus_o (S T : Nat → Bool) (w : World) : Calls Tryd.prog 34 #[setV S, setV T] w fun e w' => e = .returned (setV (minusS S T)) ∧ Below w.heap.size w w' := minus_any S T w
theorem list_L {w W : World} (S : Nat → Bool) (h : Lies w W) : Calls Tryd.prog 18 #[setV S] W fun e w' => e = .returned (.string (listS S)) ∧ Below W.heap.size W w' := list_any S W h.tab h.pos

theorem bytesOf_len (S : Nat → Bool) : (bytesOf S).length ≤ 256 := by
  unfold bytesOf
  rw [List.length_map]
  exact upTo_len S 256
theorem of_list (S : Nat → Bool) (w : World) : Calls Tryd.prog 12 #[.string (listS S)] w fun e w' => e = .returned (setV (ofL S)) ∧ Below w.heap.size w w' :=
  of_any (listS S) (by have := bytesOf_len S; unfold maxLen listS; simp [ByteArray.size]; omega) w
theorem of_s (s : ByteArray) (h : s.size ≤ 5000) (w : World) : Calls Tryd.prog 12 #[.string s] w fun e w' => e = .returned (setV (ofS s)) ∧ Below w.heap.size w w' :=
  of_any s (by unfold maxLen; omega) w
theorem of_ss (s : ByteArray) (h : s.size ≤ 5000) (w : World) : Calls Tryd.prog 12 #[.string (s ++ s)] w fun e w' => e = .returned (setV (ofTT s)) ∧ Below w.heap.size w w' :=
  of_any (s ++ s) (by unfold maxLen; rw [ByteArray.size_append]; omega) w

theorem same_ss (s : ByteArray) : sameS (ofTT s) (ofS s) = true := by
  rw [sameS_iff]
  intro n _
  unfold ofTT ofS ofT
  rw [ByteArray.data_append, Array.toList_append, List.any_append, Bool.or_self]
theorem same_list (S : Nat → Bool) : sameS (ofL S) S = true := by
  rw [sameS_iff]
  intro n hn
  unfold ofL ofT bytesOf
  rw [Bool.eq_iff_iff, List.any_eq_true]
  constructor
  · rintro ⟨c, hc, he⟩
    obtain ⟨m, hm, rfl⟩ := List.mem_map.1 hc
    obtain ⟨h1, h2⟩ := mem_upTo.1 hm
    rw [UInt8.toNat_ofNat', Nat.mod_eq_of_lt h1] at he
    have : m = n := by simpa using he
    rw [← this]
    exact h2
  · intro h
    refine ⟨UInt8.ofNat n, List.mem_map.2 ⟨n, mem_upTo.2 ⟨hn, h⟩, rfl⟩, ?_⟩
    rw [UInt8.toNat_ofNat', Nat.mod_eq_of_lt hn]
    simp
theorem same_not (S : Nat → Bool) : sameS (notS (notS S)) S = true := sameS_iff.2 fun n _ => by simp [notS]
theorem same_or (S T : Nat → Bool) : sameS (notS (orS S T)) (andS (notS S) (notS T)) = true := sameS_iff.2 fun n _ => by simp [notS, orS, andS]
theorem same_minus (S T : Nat → Bool) : sameS (minusS S T) (andS S (notS T)) = true := sameS_iff.2 fun n _ => by simp [notS, minusS, andS]
theorem in_step (s : ByteArray) (n b : Nat) (h : n < s.size) : ofT (s.data.toList.take (n + 1)) b = (ofT (s.data.toList.take n) b || decide (s[n].toNat = b)) := by
  rw [take_snoc s n h, ← ofT_put]
  have e : (b == s[n].toNat) = decide (s[n].toNat = b) := by
    rw [Bool.eq_iff_iff, beq_iff_eq, decide_eq_true_eq]
    exact eq_comm
  show (_ || (b == s[n].toNat)) = _
  rw [e]
theorem run_same {S T : Nat → Bool} (h : sameS S T = true) (w : World) : (binOp .eql 26 (setV S) (setV T)).run Tryd.prog w = .ok (.bool true) w := by
  rw [run_eql_set, h]
theorem list_eq (S T : Nat → Bool) : ((listS S).toList == (listS T).toList) = sameS S T := by
  rw [ByteArray.toList_eq, ByteArray.toList_eq, Bool.eq_iff_iff, beq_iff_eq, ← bytesOf_inj]
  unfold listS
  simp
end Go.Proofs.YtgekfdmamingjaaDoor

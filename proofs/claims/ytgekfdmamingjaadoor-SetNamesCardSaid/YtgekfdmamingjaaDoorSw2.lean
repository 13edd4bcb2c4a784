/- Walks over package set: how many, all. -/
import Derived.Test.YtgekfdmamingjaaDoorSw1
import Derived.Test.YtgekfdmamingjaaDoorCl
import Derived.Test.YtgekfdmamingjaaDoorOnes
import Derived.Laws.Bits128
namespace Go.Proofs.YtgekfdmamingjaaDoor
open Go.RowKit Bset
theorem addw (a b : Nat) (h : a + b < 18446744073709551616) : IntKind.u64.wrap ((a : Int) + (b : Int)) = ((a + b : Nat) : Int) := by
  rw [← Int.natCast_add]
  exact wrap_nat h

set_option maxHeartbeats 1000000 in
theorem ones_any (x : Nat) (hx : x < 18446744073709551616) (w : World) :
    Calls Tryd.prog 42 #[.int .u64 x] w fun e w' => e = .returned (.int .i64 (pc 64 x : Nat)) ∧ w = w' := by
  obtain ⟨y1, y2, y3, y4, y5, y6, H⟩ := Ones.mk' x
  obtain ⟨l1, l2, l3, l4, l5, l6, l7, hp, hp'⟩ := ones_sum x y1 y2 y3 y4 y5 y6 hx H
  obtain ⟨h1, h2, h3, h4, h5, h6⟩ := H
  have q1 : IntKind.u64.wrap (bits .and .u64 ((x : Int) / 2) 6148914691236517205 + bits .and .u64 (x : Int) 6148914691236517205) = (y1 : Int) := by
    have e : ((x : Int) / 2) = ((x / 2 : Nat) : Int) := by omega
    have a1 := bits_and' (x / 2) 6148914691236517205 (by omega) (by omega)
    have a2 := bits_and' x 6148914691236517205 hx (by omega)
    rw [e, show (6148914691236517205 : Int) = ((6148914691236517205 : Nat) : Int) from rfl, a1, a2, addw _ _ (by omega), h1]
  have q2 : IntKind.u64.wrap (bits .and .u64 ((y1 : Int) / 4) 3689348814741910323 + bits .and .u64 (y1 : Int) 3689348814741910323) = (y2 : Int) := by
    have e : ((y1 : Int) / 4) = ((y1 / 4 : Nat) : Int) := by omega
    have a1 := bits_and' (y1 / 4) 3689348814741910323 (by omega) (by omega)
    have a2 := bits_and' y1 3689348814741910323 l1 (by omega)
    rw [e, show (3689348814741910323 : Int) = ((3689348814741910323 : Nat) : Int) from rfl, a1, a2, addw _ _ (by omega), h2]
  have q3 : bits .and .u64 (IntKind.u64.wrap ((y2 : Int) / 16 + (y2 : Int))) 1085102592571150095 = (y3 : Int) := by
    have e : ((y2 : Int) / 16) = ((y2 / 16 : Nat) : Int) := by omega
    have a1 := bits_and' (y2 / 16 + y2) 1085102592571150095 l3 (by omega)
    rw [e, addw _ _ l3, show (1085102592571150095 : Int) = ((1085102592571150095 : Nat) : Int) from rfl, a1, h3]
  have q4 : IntKind.u64.wrap ((y3 : Int) + (y3 : Int) / 256) = (y4 : Int) := by
    have e : ((y3 : Int) / 256) = ((y3 / 256 : Nat) : Int) := by omega
    rw [e, addw _ _ (by omega), h4]
  have q5 : IntKind.u64.wrap ((y4 : Int) + (y4 : Int) / 65536) = (y5 : Int) := by
    have e : ((y4 : Int) / 65536) = ((y4 / 65536 : Nat) : Int) := by omega
    rw [e, addw _ _ (by omega), h5]
  have q6 : IntKind.u64.wrap ((y5 : Int) + (y5 : Int) / 4294967296) = (y6 : Int) := by
    have e : ((y5 : Int) / 4294967296) = ((y5 / 4294967296 : Nat) : Int) := by omega
    rw [e, addw _ _ (by omega), h6]
  clear h1 h2 h3 h4 h5 h6
  have hp2 := Lib.hid hp
  have l1' : (y6 : Int) < 9223372036854775808 := by omega
  have l1'' : (0 : Int) ≤ y6 := by omega
  clear hp l1 l2 l3 l4 l5 l6 hp'
  go_enter Tryd.func42, Tryd.ntmps42
  go_wp2
  go_ret
  refine ⟨ret_int ?_, rfl⟩
  have h := hp2.out
  rw [i64_and127]
  omega

theorem not_none (w : World) :
    Calls Tryd.prog 15 #[.agg #[.int .u64 0, .int .u64 0, .int .u64 0, .int .u64 0]] w fun e w' => e = .returned (setV fun _ => true) ∧ Below w.heap.size w w' := by
  have h := not_any (fun _ => false) w
  rw [setV_none] at h
  exact h

set_option maxHeartbeats 1000000 in
theorem all_any (w : World) :
    Calls Tryd.prog 17 #[] w fun e w' => e = .returned (setV fun _ => true) ∧ Below w.heap.size w w' := by
  go_enter Tryd.func17, Tryd.ntmps17
  go_wp2_with (go_at_call 15; refine (not_none _).mono ?_; rintro e w1 ⟨rfl, hb⟩; obtain ⟨hc, hf⟩ := bcell hb; have hz : w.heap.size + 1 ≤ w1.heap.size := by have := hb.size; simp at this; omega)
  exact bodyPost_ret (v := setV fun _ => true) (by simp [results, Tryd.results17, go_sem, hc]) rfl
    ⟨rfl, (((((((Below.refl _ _).alloc (Nat.le_refl _) _).trans (hb.mono (by simp))).setCell (by simp) _).setCell (by simp) _).setCell (by simp) _).setCell (by simp) _)⟩

set_option maxHeartbeats 1000000 in
theorem len_any (S : Nat → Bool) (w : World) :
    Calls Tryd.prog 14 #[setV S] w fun e w' => e = .returned (.int .i64 ((mem S).length : Nat)) ∧ Below w.heap.size w w' := by
  have i0 := idx0
  have i1 := idx1
  have i2 := idx2
  have i3 := idx3
  have p0 : (pc 64 (word S 0) : Int) ≤ 64 := by have := pc_le S 0; omega
  have p1 : (pc 64 (word S 1) : Int) ≤ 64 := by have := pc_le S 1; omega
  have p2 : (pc 64 (word S 2) : Int) ≤ 64 := by have := pc_le S 2; omega
  have p3 : (pc 64 (word S 3) : Int) ≤ 64 := by have := pc_le S 3; omega
  go_enter Tryd.func14, Tryd.ntmps14
  go_wp2
  refine wp_loop_rounds 5 ?_
  repeat any_goals (rw [rounds_succ]; go_wp2_with (go_at_call 42; refine (ones_any _ (word_lt _ _) _).mono ?_; rintro e w' ⟨rfl, rfl⟩))
  go_ret
  exact ⟨ret_int (by rw [len_mem]; simp), (Below.refl _ _).alloc (Nat.le_refl _) _⟩
end Go.Proofs.YtgekfdmamingjaaDoor

/- The document's own answers (bonsairef01): Only, Subset, Meets, Compare. -/
import Derived.Test.YtgekfdmamingjaaDoorRef4
import Derived.Test.YtgekfdmamingjaaDoorOnly
import Derived.Test.YtgekfdmamingjaaDoorLawM
import Derived.Deep.RegionHeld3
namespace Go.Proofs.YtgekfdmamingjaaDoor
open Go.RowKit Bset

/-- A text's length is none, as against a set's. -/
theorem subS_len (S T : Nat → Bool) : ((((mem fun n => S n && !T n).length : Nat) : Int) == 0) = subS S T := by
  unfold subS
  rw [Bool.eq_iff_iff, beq_iff_eq, sameS_iff]
  constructor
  · intro h n hn
    have h0 : (mem fun n => S n && !T n) = [] := List.eq_nil_of_length_eq_zero (by omega)
    have hm : n ∉ mem fun n => S n && !T n := by rw [h0]; simp
    unfold mem at hm
    rw [mem_upTo] at hm
    cases hs : S n <;> cases ht : T n <;> simp_all
  · intro h
    have h0 : (mem fun n => S n && !T n) = [] := by
      rw [List.eq_nil_iff_forall_not_mem]
      intro n hm
      unfold mem at hm
      obtain ⟨h1, h2⟩ := mem_upTo.1 hm
      have := h n h1
      cases hs : S n <;> cases ht : T n <;> simp_all
    rw [h0]
    rfl
theorem meetS_len (S T : Nat → Bool) : (decide ((0 : Int) < ((mem fun n => S n && T n).length : Nat))) = meetS S T := by
  have key : meetS S T = false ↔ (mem fun n => S n && T n) = [] := by
    unfold meetS
    rw [Bool.not_eq_false', sameS_iff, List.eq_nil_iff_forall_not_mem]
    constructor
    · intro h n hm
      unfold mem at hm
      obtain ⟨h1, h2⟩ := mem_upTo.1 hm
      have := h n h1
      simp_all
    · intro h n hn
      have := h n
      unfold mem at this
      rw [mem_upTo] at this
      cases hs : S n <;> cases ht : T n <;> simp_all
  rcases hm : meetS S T with _ | _
  · rw [key.1 hm]
    rfl
  · have : (mem fun n => S n && T n) ≠ [] := fun h => by rw [key.2 h] at hm; cases hm
    have := List.length_pos_iff.2 this
    simp
    omega

set_option maxHeartbeats 1000000 in
theorem rsubset_any (S T : Nat → Bool) (w : World) :
    Calls Tryd.prog 37 #[setV S, setV T] w fun e w' => e = .returned (.bool (subS S T)) ∧ Below w.heap.size w w' := by
  have hl := subS_len S T
  have hB0 : Below w.heap.size w ((w.alloc (.cells (setC S) 26)).alloc (.cells (setC T) 26)) := ((Below.refl _ w).alloc (Nat.le_refl _) _).alloc (by simp) _
  go_enter Tryd.func37, Tryd.ntmps37
  go_wp2_with (first
    | (go_at_call 35; refine (rminus_any S T _).mono ?_; rintro e w1 ⟨rfl, hb1⟩)
    | (go_at_call 26; refine (rlen_any _ _).mono ?_; rintro e w2 ⟨rfl, hb2⟩))
  go_ret
  exact ⟨rfl, (hB0.trans (hb1.mono hB0.size)).trans (hb2.mono (hB0.trans (hb1.mono hB0.size)).size)⟩

set_option maxHeartbeats 1000000 in
theorem rmeets_any (S T : Nat → Bool) (w : World) :
    Calls Tryd.prog 38 #[setV S, setV T] w fun e w' => e = .returned (.bool (meetS S T)) ∧ Below w.heap.size w w' := by
  have hl := meetS_len S T
  have hB0 : Below w.heap.size w ((w.alloc (.cells (setC S) 26)).alloc (.cells (setC T) 26)) := ((Below.refl _ w).alloc (Nat.le_refl _) _).alloc (by simp) _
  generalize hn : (mem fun n => S n && T n).length = n at hl
  go_enter Tryd.func38, Tryd.ntmps38
  go_wp2_with (first
    | (go_at_call 33; refine (rand_any S T _).mono ?_; rintro e w1 ⟨rfl, hb1⟩)
    | (go_at_call 26; refine (rlen_any _ _).mono ?_; rintro e w2 ⟨rfl, hb2⟩; rw [hn]))
  go_ret
  exact ⟨ret_bool (by simpa using hl), (hB0.trans (hb1.mono hB0.size)).trans (hb2.mono (hB0.trans (hb1.mono hB0.size)).size)⟩

theorem rlist_o (S : Nat → Bool) (w : World) : Calls Tryd.prog 27 #[setV S] w fun e w' => e = .returned (.string (listS S)) ∧ Below w.heap.size w w' := rlist_any S w
theorem listS_size (S : Nat → Bool) : (listS S).size = (mem S).length := by
  unfold listS bytesOf
  simp [ByteArray.size]

set_option maxHeartbeats 1000000 in
theorem ronly_any (S : Nat → Bool) (w : World) :
    Calls Tryd.prog 22 #[setV S] w fun e w' => e = .returned (.tuple #[.int .u8 (onlyOf S).1, .bool (onlyOf S).2]) ∧ Below w.heap.size w w' := by
  have hB0 : Below w.heap.size w (w.alloc (.cells (setC S) 26)) := (Below.refl _ w).alloc (Nat.le_refl _) _
  have hl := listS_size S
  by_cases h1 : ∃ b, mem S = [b]
  · obtain ⟨b, hb⟩ := h1
    have hb8 : b < 256 := by
      have : b ∈ mem S := by rw [hb]; simp
      unfold mem at this
      exact (mem_upTo.1 this).1
    have ho : onlyOf S = (b, true) := by unfold onlyOf; rw [hb]
    have hget : ∀ h : 0 < (listS S).size, ((listS S)[0]'h).toNat = b := by
      have hs : listS S = ⟨#[UInt8.ofNat b]⟩ := by unfold listS bytesOf; rw [hb]; rfl
      rw [hs]
      intro _
      show (UInt8.ofNat b).toNat = b
      rw [UInt8.toNat_ofNat']
      exact Nat.mod_eq_of_lt hb8
    rw [ho]
    rw [hb] at hl
    replace hl : (listS S).size = 1 := hl
    have HO := Lib.hid ho
    clear hb ho
    go_enter Tryd.func22, Tryd.ntmps22
    go_wp2_with (go_at_call 27; refine (rlist_o S _).mono ?_; rintro e w1 ⟨rfl, hb1⟩)
    first | go_ret | go_ret2
    exact ⟨rfl, hB0.trans (hb1.mono hB0.size)⟩
  · have ho : onlyOf S = (0, false) := by
      unfold onlyOf
      split
      · rename_i b hb
        exact absurd ⟨b, hb⟩ h1
      · rfl
    have hn : (mem S).length ≠ 1 := fun h => h1 (List.length_eq_one_iff.1 h)
    rw [← hl] at hn
    rw [ho]
    have hn2 : (((listS S).size : Int) != 1) = true := by simp; omega
    clear hl ho h1
    go_enter Tryd.func22, Tryd.ntmps22
    go_wp2_with (go_at_call 27; refine (rlist_o S _).mono ?_; rintro e w1 ⟨rfl, hb1⟩)
    first | go_ret | go_ret2
    exact ⟨rfl, hB0.trans (hb1.mono hB0.size)⟩
end Go.Proofs.YtgekfdmamingjaaDoor

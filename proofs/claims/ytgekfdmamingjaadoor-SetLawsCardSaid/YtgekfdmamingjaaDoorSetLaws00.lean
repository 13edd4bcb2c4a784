/- bonsailaw01.SetLaws where the byte is not in the first set, and is not in the second one. -/
import Derived.Test.YtgekfdmamingjaaDoorSetLaws
import Derived.Deep.RegionHeld3
namespace Go.Proofs.YtgekfdmamingjaaDoor
open Go.RowKit Bset

set_option maxRecDepth 100000 in
set_option maxHeartbeats 4000000 in
theorem laws_00 (X Y : Nat → Bool) (b : Nat) (hb8 : b < 256) (s : ByteArray) (hl : s.size ≤ 5000) (hx : X b = false) (hy : Y b = false) (w : World) (hT : TabIn w) (hg : 0 < w.heap.size) :
    Calls Tryd.prog 6 #[setV X, setV Y, .int .u8 b, .string s] w fun e w' => e = .returned (.bool true) ∧ Below w.heap.size w w' := by
  have h0 := two_begin (X := X) (Y := Y) hT hg _ rfl
  have hli : (s.size : Int) ≤ 5000 := by omega
  have o1 : orS X Y b = false := by simp [orS, hx, hy]
  have o2 : andS X Y b = false := by simp [andS, hx, hy]
  have o3 : minusS X Y b = false := by simp [minusS, hx, hy]
  have o4 : notS X b = true := by simp [notS, hx]
  have hd : decide (5000 < (s.size : Int)) = false := by simp; omega
  go_enter Tryd.func6, Tryd.ntmps6
  go_wp2_with (fail)
  refine (awake_any _ (h0.2.2.2.2.2.2.2.2).tab (h0.2.2.2.2.2.2.2.2).pos).mono ?_
  rintro e W1 ⟨rfl, hb1⟩
  have h1 := two_keep hb1 h0
  clear h0 hb1
  go_wp2_with (fail)
  go_region_held3 (fun w' => w'.cell? ⟨w.heap.size, 0, none⟩ = some (.int .u64 (word X 0 : Nat)) ∧ w'.cell? ⟨w.heap.size, 1, none⟩ = some (.int .u64 (word X 1 : Nat)) ∧ w'.cell? ⟨w.heap.size, 2, none⟩ = some (.int .u64 (word X 2 : Nat)) ∧ w'.cell? ⟨w.heap.size, 3, none⟩ = some (.int .u64 (word X 3 : Nat)) ∧ w'.cell? ⟨w.heap.size + 1, 0, none⟩ = some (.int .u64 (word Y 0 : Nat)) ∧ w'.cell? ⟨w.heap.size + 1, 1, none⟩ = some (.int .u64 (word Y 1 : Nat)) ∧ w'.cell? ⟨w.heap.size + 1, 2, none⟩ = some (.int .u64 (word Y 2 : Nat)) ∧ w'.cell? ⟨w.heap.size + 1, 3, none⟩ = some (.int .u64 (word Y 3 : Nat)) ∧ Lies w w')
    (first | (with_reducible assumption) | exact two_drew (by assumption) | exact two_keep hb (by assumption))
    ((go_at_call 13; refine (has_any _ b hb8 _).mono ?_; rintro e w' ⟨rfl, hb⟩))
  have hS : w'.cell? ⟨w.heap.size, 0, none⟩ = some (.int .u64 (word X 0 : Nat)) ∧ w'.cell? ⟨w.heap.size, 1, none⟩ = some (.int .u64 (word X 1 : Nat)) ∧ w'.cell? ⟨w.heap.size, 2, none⟩ = some (.int .u64 (word X 2 : Nat)) ∧ w'.cell? ⟨w.heap.size, 3, none⟩ = some (.int .u64 (word X 3 : Nat)) ∧ w'.cell? ⟨w.heap.size + 1, 0, none⟩ = some (.int .u64 (word Y 0 : Nat)) ∧ w'.cell? ⟨w.heap.size + 1, 1, none⟩ = some (.int .u64 (word Y 1 : Nat)) ∧ w'.cell? ⟨w.heap.size + 1, 2, none⟩ = some (.int .u64 (word Y 2 : Nat)) ∧ w'.cell? ⟨w.heap.size + 1, 3, none⟩ = some (.int .u64 (word Y 3 : Nat)) ∧ Lies w w' := by assumption
  have hS0 := hS
  obtain ⟨a0, a1, a2, a3, b0, b1, b2, b3, hL⟩ := hS0
  clear h1
  go_wp2_with (first
    | (go_at_call 13; refine (has_any _ b hb8 _).mono ?_; rintro e w' ⟨rfl, hb⟩; clear a0 a1 a2 a3 b0 b1 b2 b3 hL; replace hS := two_keep hb hS; have hS0 := hS; obtain ⟨a0, a1, a2, a3, b0, b1, b2, b3, hL⟩ := hS0)
    | (go_at_call 30; refine (or_o _ _ _).mono ?_; rintro e w' ⟨rfl, hb⟩; clear a0 a1 a2 a3 b0 b1 b2 b3 hL; replace hS := two_keep hb hS; have hS0 := hS; obtain ⟨a0, a1, a2, a3, b0, b1, b2, b3, hL⟩ := hS0)
    | (go_at_call 32; refine (and_o _ _ _).mono ?_; rintro e w' ⟨rfl, hb⟩; clear a0 a1 a2 a3 b0 b1 b2 b3 hL; replace hS := two_keep hb hS; have hS0 := hS; obtain ⟨a0, a1, a2, a3, b0, b1, b2, b3, hL⟩ := hS0)
    | (go_at_call 34; refine (minus_o _ _ _).mono ?_; rintro e w' ⟨rfl, hb⟩; clear a0 a1 a2 a3 b0 b1 b2 b3 hL; replace hS := two_keep hb hS; have hS0 := hS; obtain ⟨a0, a1, a2, a3, b0, b1, b2, b3, hL⟩ := hS0)
    | (go_at_call 15; refine (not_o _ _).mono ?_; rintro e w' ⟨rfl, hb⟩; clear a0 a1 a2 a3 b0 b1 b2 b3 hL; replace hS := two_keep hb hS; have hS0 := hS; obtain ⟨a0, a1, a2, a3, b0, b1, b2, b3, hL⟩ := hS0))
  have HX := Lib.hid hx
  have HY := Lib.hid hy
  clear o1 o2 o3 o4 hx hy hd
  go_loop [11, 12] (fun q i => ∃ n : Nat, n ≤ s.size ∧ i = .int .i64 n ∧ q = .bool (ofT (s.data.toList.take n) b)) (fun _ i => s.size - (intOf i).toNat)
  case atStart => exact ⟨0, Nat.zero_le _, rfl, rfl⟩
  case round =>
    obtain ⟨n, h1, rfl, rfl⟩ := hrel
    by_cases hlt : n < s.size
    · have hnew : ofT (s.data.toList.take (n + 1)) b = (ofT (s.data.toList.take n) b || decide (s[n].toNat = b)) := in_step s n b hlt
      generalize ofT (s.data.toList.take n) b = q at hnew ⊢
      cases q
      · by_cases he : s[n].toNat = b
        · have t1 : ((s[n].toNat : Int) == (b : Int)) = true := by simp [he]
          rw [decide_eq_true he] at hnew
          have HN := Lib.hid hnew
          have HE := Lib.hid he
          clear hnew he
          go_wp2
          go_round
          case rel => exact ⟨n + 1, by omega, by go_num, by rw [HN.out]; rfl⟩
          case measure => simp [intOf]; omega
        · have t1 : ((s[n].toNat : Int) == (b : Int)) = false := by simp; omega
          rw [decide_eq_false he] at hnew
          have HN := Lib.hid hnew
          have HE := Lib.hid he
          clear hnew he
          go_wp2
          go_round
          case rel => exact ⟨n + 1, by omega, by go_num, by rw [HN.out]; rfl⟩
          case measure => simp [intOf]; omega
      · rw [Bool.true_or] at hnew
        have HN := Lib.hid hnew
        clear hnew
        go_wp2
        go_round
        case rel => exact ⟨n + 1, by omega, by go_num, by rw [HN.out]⟩
        case measure => simp [intOf]; omega
    · obtain rfl : n = s.size := by omega
      have hall : s.data.toList.take s.size = s.data.toList := List.take_of_length_le (by simp)
      rw [hall, show ofT s.data.toList = ofS s from rfl]
      clear hall
      go_wp2_with (fail)
      refine (of_s s hl _).mono ?_
      rintro e w2 ⟨rfl, hb⟩
      have hz := z_begin (ofS s) (two_keep hb hS) _ rfl _ rfl
      have e1 := run_same (same_ss s)
      have e2 := run_same (same_list X)
      have e3 := run_same (same_not X)
      have e4 := run_same (same_or X Y)
      have e5 := run_same (same_minus X Y)
      have e6 := fun w => run_eql_set w X Y
      have e7 := list_eq X Y
      have e8 := fun w => Go.run_string_add_sum (P := Tryd.prog) w s s (by omega)
      clear hS a0 a1 a2 a3 b0 b1 b2 b3 hL
      go_wp2_with (fail)
      generalize w2.heap.size = zb at hz ⊢
      generalize w2.alloc (.cells (setC (ofS s)) 26) = w3 at hz ⊢
      generalize ofS s = Z at hz e1 ⊢
      generalize sameS X Y = q at e6 e7
      go_region_held3 (fun w' => w'.cell? ⟨w.heap.size, 0, none⟩ = some (.int .u64 (word X 0 : Nat)) ∧ w'.cell? ⟨w.heap.size, 1, none⟩ = some (.int .u64 (word X 1 : Nat)) ∧ w'.cell? ⟨w.heap.size, 2, none⟩ = some (.int .u64 (word X 2 : Nat)) ∧ w'.cell? ⟨w.heap.size, 3, none⟩ = some (.int .u64 (word X 3 : Nat)) ∧ w'.cell? ⟨w.heap.size + 1, 0, none⟩ = some (.int .u64 (word Y 0 : Nat)) ∧ w'.cell? ⟨w.heap.size + 1, 1, none⟩ = some (.int .u64 (word Y 1 : Nat)) ∧ w'.cell? ⟨w.heap.size + 1, 2, none⟩ = some (.int .u64 (word Y 2 : Nat)) ∧ w'.cell? ⟨w.heap.size + 1, 3, none⟩ = some (.int .u64 (word Y 3 : Nat)) ∧ w'.cell? ⟨zb, 0, none⟩ = some (.int .u64 (word Z 0 : Nat)) ∧ w'.cell? ⟨zb, 1, none⟩ = some (.int .u64 (word Z 1 : Nat)) ∧ w'.cell? ⟨zb, 2, none⟩ = some (.int .u64 (word Z 2 : Nat)) ∧ w'.cell? ⟨zb, 3, none⟩ = some (.int .u64 (word Z 3 : Nat)) ∧ Lies w w')
        (first | (with_reducible assumption) | exact z_drew (by assumption) | exact z_keep hb (by assumption))
        (first
          | (go_at_call 13; refine (has_any _ b hb8 _).mono ?_; rintro e w' ⟨rfl, hb⟩)
          | (go_at_call_of 12 (s ++ s); refine (of_ss s hl _).mono ?_; rintro e w' ⟨rfl, hb⟩)
          | (go_at_call_of 12 (listS X); refine (of_list X _).mono ?_; rintro e w' ⟨rfl, hb⟩)
          | (go_at_call 18; refine (list_L (w := w) _ ?_).mono ?_; (first | (go_split_ands; assumption) | (go_split_ands; exact Lies.drew (by assumption))); rintro e w' ⟨rfl, hb⟩)
          | (go_at_call 15; refine (not_o _ _).mono ?_; rintro e w' ⟨rfl, hb⟩)
          | (go_at_call 30; refine (or_o _ _ _).mono ?_; rintro e w' ⟨rfl, hb⟩)
          | (go_at_call 32; refine (and_o _ _ _).mono ?_; rintro e w' ⟨rfl, hb⟩)
          | (go_at_call 34; refine (minus_o _ _ _).mono ?_; rintro e w' ⟨rfl, hb⟩))
      have hlow := (z_low (by assumption) : Below w.heap.size w w')
      go_wp2
      go_ret
      exact ⟨by simp, hlow⟩
end Go.Proofs.YtgekfdmamingjaaDoor

/- bonsailaw02.NameNames, walked. -/
import Derived.Test.YtlekhoicdmgbcaaDoorN7
import Derived.Test.YtlekhoicdmgbcaaDoorNr3
import Derived.Lib.SlBytesConst
namespace Go.Proofs.YtlekhoicdmgbcaaDoor
open Go.RowKit Nm

/-- So many of a text. -/
def copyB (s : ByteArray) : Nat → ByteArray
  | 0 => ⟨#[]⟩
  | n + 1 => copyB s n ++ s
theorem copyB_size (s : ByteArray) : ∀ n, (copyB s n).size = n * s.size
  | 0 => by
    rw [Nat.zero_mul]
    rfl
  | n + 1 => by
    show (copyB s n ++ s).size = _
    rw [ByteArray.size_append, copyB_size s n, Nat.add_mul, Nat.one_mul]

set_option maxRecDepth 100000 in
set_option maxHeartbeats 1000000 in
theorem copies_any (s : ByteArray) (hs : s.size ≤ 1000) (m : Nat) (hm : m ≤ 1000) (w : World) :
    Calls Tryd.prog 12 #[.string s, .int .i64 m] w fun e w' => e = .returned (.string (copyB s m)) ∧ w' = w := by
  have hmI : (m : Int) ≤ 1000 := by omega
  go_enter Tryd.func12, Tryd.ntmps12
  go_wp2_with (fail)
  go_loopw [5, 6] (fun v5 i wr => ∃ n : Nat, v5 = .string (copyB s n) ∧ i = .int .i64 n ∧ n ≤ m ∧ wr = w) (fun _ i _ => m - (intOf i).toNat)
  case atStart => exact ⟨0, rfl, rfl, by omega, rfl⟩
  case round =>
    obtain ⟨n, rfl, rfl, hn, rfl⟩ := hrel
    by_cases hlt : n < m
    · have hti : (n : Int) < m := by omega
      have hn1 : wrap64 ((n : Int) + 1) = (n : Int) + 1 := by unfold wrap64; omega
      have hsz := copyB_size s n
      have hp : n * s.size ≤ 1000 * 1000 := Nat.mul_le_mul (by omega) hs
      have hadd : ∀ W, (Op.stringOp .add (copyB s n) s).run Tryd.prog W = .ok (.string (copyB s (n + 1))) W := fun W => run_string_add_sum _ _ _ (by omega)
      clear hsz hp
      go_wp2_with (fail)
      go_roundw
      case rel => exact ⟨n + 1, rfl, by go_num, by omega, trivial⟩
      case measure => simp [intOf]; omega
    · obtain rfl : n = m := by omega
      have hti : ¬ (n : Int) < n := by omega
      go_wp2_with (fail)
      go_ret
      exact ⟨rfl, rfl⟩

theorem copies_at (s : ByteArray) (hs : s.size ≤ 1000) (m : Nat) (i : Int) (hi : i = m) (hm : m ≤ 1000) (r : ByteArray) (hr : copyB s m = r) (w : World) :
    Calls Tryd.prog 12 #[.string s, .int .i64 i] w fun e w' => e = .returned (.string r) ∧ w' = w := by
  subst hi hr
  exact copies_any s hs m hm w

theorem y1 : mayB (copyB ⟨#[97]⟩ 32) = true := by decide +kernel
theorem y2 : mayB (copyB ⟨#[97]⟩ 33) = false := by decide +kernel
theorem y3 : takeS ⟨#[]⟩ = ⟨#[]⟩ := by decide +kernel
theorem y4 : takeS ⟨#[57, 97]⟩ = ⟨#[]⟩ := by decide +kernel
theorem y5 : takeS ⟨#[97, 57, 128]⟩ = ⟨#[97, 57]⟩ := by decide +kernel
theorem y6 : showB 0 = ⟨#[48]⟩ := by decide +kernel
theorem y7 : showB (-9223372036854775808) = ⟨#[45, 57, 50, 50, 51, 51, 55, 50, 48, 51, 54, 56, 53, 52, 55, 55, 53, 56, 48, 56]⟩ := by decide +kernel
theorem y8 : Lib.compareBytes [97] [97, 98] = -1 := by decide +kernel
theorem y9 : Lib.compareBytes [98] [97, 98] = 1 := by decide +kernel
theorem y10 : Lib.compareBytes [] [] = 0 := by decide +kernel
theorem f_b32 : FreeAns (copyB ⟨#[98]⟩ 32) [copyB ⟨#[98]⟩ 32] ⟨#[]⟩ := by
  refine ⟨1, fun j hj => ?_, Or.inr ⟨rfl, by decide +kernel⟩⟩
  obtain rfl : j = 0 := by omega
  exact ⟨by rw [cand_zero]; decide +kernel, by rw [cand_zero]; simp⟩
theorem f_1 : FreeAns ⟨#[49]⟩ [] ⟨#[]⟩ := ⟨0, fun j hj => absurd hj (by omega), Or.inr ⟨rfl, by decide +kernel⟩⟩
theorem f_x : FreeAns ⟨#[120]⟩ [] ⟨#[120]⟩ := ⟨0, fun j hj => absurd hj (by omega), Or.inl ⟨rfl, by decide +kernel, by simp⟩⟩
theorem f_c31 : FreeAns (copyB ⟨#[99]⟩ 31) [copyB ⟨#[99]⟩ 31] (copyB ⟨#[99]⟩ 31 ++ ⟨#[50]⟩) := by
  have e : cand (copyB ⟨#[99]⟩ 31) 1 = copyB ⟨#[99]⟩ 31 ++ ⟨#[50]⟩ := by decide +kernel
  refine ⟨1, fun j hj => ?_, Or.inl ⟨e.symm, by decide +kernel, ?_⟩⟩
  · obtain rfl : j = 0 := by omega
    exact ⟨by rw [cand_zero]; decide +kernel, by rw [cand_zero]; simp⟩
  · rw [e]
    intro h
    have := congrArg ByteArray.size (List.mem_singleton.1 h)
    rw [ByteArray.size_append] at this
    have h1 : (⟨#[50]⟩ : ByteArray).size = 1 := rfl
    omega

/-- Bytes that are no letters, nor names. -/
def oddB : List Nat := [64, 91, 96, 123, 47, 58, 94, 0, 128, 255, 45, 48, 57]
theorem odd_all : ∀ b ∈ oddB, b < 256 ∧ isLet b = false ∧ mayB ⟨#[UInt8.ofNat b]⟩ = false := by decide +kernel

abbrev oddC : Array Value := #[.int .u8 64, .int .u8 91, .int .u8 96, .int .u8 123, .int .u8 47, .int .u8 58, .int .u8 94, .int .u8 0, .int .u8 128, .int .u8 255, .int .u8 45, .int .u8 48, .int .u8 57]
theorem odd_at (n : Nat) (h : n < 13) : ∃ b : Nat, oddC[n]? = some (.int .u8 b) ∧ b < 256 ∧ isLet b = false ∧ mayB ⟨#[UInt8.ofNat b]⟩ = false := by
  have hl : n < oddB.length := h
  have e : oddC = (oddB.map fun b => Value.int .u8 (b : Nat)).toArray := rfl
  refine ⟨oddB[n], ?_, odd_all _ (List.getElem_mem hl)⟩
  rw [e]
  simp [hl]
abbrev numC : Array Value :=
  #[.string ⟨#[48]⟩, .int .i64 0, .int .i64 0, .int .i64 0,
    .string ⟨#[48]⟩, .int .i64 (-1), .int .i64 0, .int .i64 40,
    .string ⟨#[]⟩, .int .i64 5, .int .i64 0, .int .i64 4,
    .string ⟨#[48, 48]⟩, .int .i64 5, .int .i64 0, .int .i64 4,
    .string ⟨#[45, 49]⟩, .int .i64 5, .int .i64 0, .int .i64 4,
    .string ⟨#[49, 32]⟩, .int .i64 5, .int .i64 0, .int .i64 4,
    .string ⟨#[57, 50, 50, 51, 51, 55, 50, 48, 51, 54, 56, 53, 52, 55, 55, 53, 56, 48, 55]⟩, .int .i64 9223372036854775807, .int .i64 9223372036854775807, .int .i64 0,
    .string ⟨#[57, 50, 50, 51, 51, 55, 50, 48, 51, 54, 56, 53, 52, 55, 55, 53, 56, 48, 56]⟩, .int .i64 9223372036854775807, .int .i64 0, .int .i64 40,
    .string ⟨#[57, 57, 57, 57, 57, 57, 57, 57, 57, 57, 57, 57, 57, 57, 57, 57, 57, 57, 57, 57, 120]⟩, .int .i64 9, .int .i64 0, .int .i64 4,
    .string ⟨#[57, 57]⟩, .int .i64 99, .int .i64 99, .int .i64 0,
    .string ⟨#[49, 48, 48]⟩, .int .i64 99, .int .i64 0, .int .i64 40]
theorem num_row (n : Nat) (h : n < 11) : ∃ (s : ByteArray) (m v e : Int), numC[n * 4]? = some (.string s) ∧ numC[n * 4 + 1]? = some (.int .i64 m) ∧ numC[n * 4 + 2]? = some (.int .i64 v) ∧ numC[n * 4 + 3]? = some (.int .i64 e) ∧
    s.size < 9223372036854775807 ∧ -9223372036854775808 ≤ m ∧ m ≤ 9223372036854775807 ∧ numV s.data.toList m = v ∧ numE s.data.toList m = e := by
  match n, h with
  | 0, _ => exact ⟨_, _, _, _, rfl, rfl, rfl, rfl, by decide, by decide, by decide, by decide +kernel, by decide +kernel⟩
  | 1, _ => exact ⟨_, _, _, _, rfl, rfl, rfl, rfl, by decide, by decide, by decide, by decide +kernel, by decide +kernel⟩
  | 2, _ => exact ⟨_, _, _, _, rfl, rfl, rfl, rfl, by decide, by decide, by decide, by decide +kernel, by decide +kernel⟩
  | 3, _ => exact ⟨_, _, _, _, rfl, rfl, rfl, rfl, by decide, by decide, by decide, by decide +kernel, by decide +kernel⟩
  | 4, _ => exact ⟨_, _, _, _, rfl, rfl, rfl, rfl, by decide, by decide, by decide, by decide +kernel, by decide +kernel⟩
  | 5, _ => exact ⟨_, _, _, _, rfl, rfl, rfl, rfl, by decide, by decide, by decide, by decide +kernel, by decide +kernel⟩
  | 6, _ => exact ⟨_, _, _, _, rfl, rfl, rfl, rfl, by decide, by decide, by decide, by decide +kernel, by decide +kernel⟩
  | 7, _ => exact ⟨_, _, _, _, rfl, rfl, rfl, rfl, by decide, by decide, by decide, by decide +kernel, by decide +kernel⟩
  | 8, _ => exact ⟨_, _, _, _, rfl, rfl, rfl, rfl, by decide, by decide, by decide, by decide +kernel, by decide +kernel⟩
  | 9, _ => exact ⟨_, _, _, _, rfl, rfl, rfl, rfl, by decide, by decide, by decide, by decide +kernel, by decide +kernel⟩
  | 10, _ => exact ⟨_, _, _, _, rfl, rfl, rfl, rfl, by decide, by decide, by decide, by decide +kernel, by decide +kernel⟩
theorem cell_marked {W : World} {g i : Nat} {t : TypeId} {cs : Array Value} {m : Nat × Nat} (h : W.heap[g]? = some (.cells cs t m)) : W.cell? ⟨g, i, none⟩ = cs[i]? := by
  simp [World.cell?, h]

theorem compare_at (a b : ByteArray) (r : Int) (h : Lib.compareBytes a.data.toList b.data.toList = r) (w : World) :
    Calls Tryd.prog 17 #[.string a, .string b] w fun e w' => e = .returned (.int .i64 r) ∧ w' = w := by
  subst h
  exact compare_any a b w

theorem strs_nil (W : World) : Strs W (.slice none 0 0) [] := Or.inl ⟨rfl, rfl⟩
theorem strs_one (W : World) (x : ByteArray) : Strs (W.alloc (.cells #[.string x] 9)) (.slice (some ⟨W.heap.size, 0, none⟩) 1 1) [x] := by
  have h : Cl (W.alloc (.cells #[.string x] 9)) W.heap.size 9 #[.string x] := Cl.new _ _ _
  refine .inr (.inr ⟨W.heap.size, 0, 1, rfl, h.lt, fun j hj => ?_⟩)
  rw [h.cell]
  match j, hj with
  | 0, _ => rfl

set_option maxRecDepth 100000 in
set_option maxHeartbeats 4000000 in
theorem nameNames_walk (w : World) (hT : Tens w) (hg : 1 < w.heap.size) :
    Calls Tryd.prog 3 #[] w fun e w' => e = .returned (.bool true) ∧ Below w.heap.size w w' := by
  have L0 := Lie.start hT hg
  clear hT
  obtain ⟨a32, ha32⟩ : ∃ x, copyB ⟨#[97]⟩ 32 = x := ⟨_, rfl⟩
  obtain ⟨a33, ha33⟩ : ∃ x, copyB ⟨#[97]⟩ 33 = x := ⟨_, rfl⟩
  have y1 := y1
  have y2 := y2
  rw [ha32] at y1
  rw [ha33] at y2
  have kc := fun (w : World) (C : Array Value) (n c : Nat) => Lib.run_convert_bytes_const (P := Tryd.prog) w 26 5 C n c Tryd.underlying26 Tryd.underlying5
  have z1 : a32.size < 9223372036854775807 := by rw [← ha32, copyB_size]; decide
  have z2 : a33.size < 9223372036854775807 := by rw [← ha33, copyB_size]; decide
  go_enter Tryd.func3, Tryd.ntmps3
  go_wp2_with (first
    | (go_at_call 10; refine (works_any _ L0.tab L0.pos).mono ?_; rintro e w1 ⟨rfl, hb1⟩; replace L0 := L0.step hb1; clear hb1)
    | (go_at_call_of 12 (Value.int .i64 32); refine (copies_at _ (by decide) 32 _ rfl (by decide) a32 ha32 _).mono ?_; rintro e w' ⟨rfl, rfl⟩)
    | (go_at_call_of 12 (Value.int .i64 33); refine (copies_at _ (by decide) 33 _ rfl (by decide) a33 ha33 _).mono ?_; rintro e w' ⟨rfl, rfl⟩)
    | (go_at_call_of 11 (Value.string a32); refine (may_at _ z1 true y1 _).mono ?_; rintro e w' ⟨rfl, rfl⟩)
    | (go_at_call_of 11 (Value.string a33); refine (may_at _ z2 false y2 _).mono ?_; rintro e w' ⟨rfl, rfl⟩)
    | (go_at_call_of 13 (Value.string ⟨#[]⟩); refine (take_at _ (by decide) _ y3 _).mono ?_; rintro e w1 ⟨rfl, hb1⟩; replace L0 := L0.step hb1; clear hb1)
    | (go_at_call_of 13 (Value.string ⟨#[57, 97]⟩); refine (take_at _ (by decide) _ y4 _).mono ?_; rintro e w1 ⟨rfl, hb1⟩; replace L0 := L0.step hb1; clear hb1)
    | (go_at_call_of 13 (Value.string ⟨#[97, 57, 128]⟩); refine (take_at _ (by decide) _ y5 _).mono ?_; rintro e w1 ⟨rfl, hb1⟩; replace L0 := L0.step hb1; clear hb1))
  obtain ⟨g, hgs⟩ : ∃ g, g = w1.heap.size := ⟨_, rfl⟩
  have hC0 : (w1.alloc (.cells oddC 5 (13, 14))).heap[g]? = some (.cells oddC 5 (13, 14)) := by rw [hgs]; exact heap_alloc_new _ _
  have LA := L0.alloc (.cells oddC 5 (13, 14))
  rw [← hgs]
  clear hgs y1 y2 z1 z2 ha32 ha33
  go_loopw [2, 36] (fun _ i wr => ∃ n : Nat, i = .int .i64 n ∧ n ≤ 13 ∧ Lie w wr ∧ wr.heap[g]? = some (.cells oddC 5 (13, 14))) (fun _ i _ => 13 - (intOf i).toNat)
  case atStart => exact ⟨0, rfl, by omega, LA, hC0⟩
  case round =>
    obtain ⟨n, rfl, hn, LR, hC⟩ := hrel
    clear LA hC0 L0
    by_cases hlt : n < 13
    · obtain ⟨b, hb0, hb, hbl, hbm⟩ := odd_at n hlt
      have hcell : wr.cell? ⟨g, n, none⟩ = some (.int .u8 b) := (cell_marked hC).trans hb0
      have hti : (n : Int) < 13 := by omega
      have hle := fun w => letter_any b hb w
      rw [hbl] at hle
      have hma := fun w => may_at ⟨#[UInt8.ofNat b]⟩ (by show 1 < _; omega) false hbm w
      have hcv := conv_one b hb wr
      have HC := Lib.hid hC
      clear hb0 hbl hbm hC
      go_wp2_with (first
        | (go_at_call 14; refine (hle _).mono ?_; rintro e w' ⟨rfl, rfl⟩)
        | (go_at_call 11; refine (hma _).mono ?_; rintro e w' ⟨rfl, rfl⟩))
      refine ⟨⟨n + 1, by go_num, by omega, LR.alloc _, (Below.heap_alloc _ _ g (lt_of_block HC.out)).trans HC.out⟩, ?_⟩
      simp only [intOf]
      omega
    · have hti : ¬ (n : Int) < 13 := by omega
      clear hC
      go_wp2_with (fail)
      obtain ⟨g2, hgs⟩ : ∃ g2, g2 = wr.heap.size := ⟨_, rfl⟩
      have hC0 : Cl (wr.alloc (.cells numC 29)) g2 29 numC := Cl.new' hgs _ _
      have LA := LR.alloc (.cells numC 29)
      rw [← hgs]
      clear hgs LR hti
      go_loopw [4, 5, 6, 62] (fun _ _ _ i wq => ∃ n : Nat, i = .int .i64 n ∧ n ≤ 11 ∧ Lie w wq ∧ Cl wq g2 29 numC) (fun _ _ _ i _ => 11 - (intOf i).toNat)
      case atStart => exact ⟨0, rfl, by omega, LA, hC0⟩
      case round =>
        obtain ⟨n, rfl, hn, LR, hC⟩ := hrel
        clear LA hC0
        by_cases hlt : n < 11
        · obtain ⟨s, m, v, e, c0, c1, c2, c3, r1, r2, r3, r4, r5⟩ := num_row n hlt
          have d0 : wr.cell? ⟨g2, n * 4, none⟩ = some (.string s) := (hC.cell _).trans c0
          have d1 : wr.cell? ⟨g2, n * 4 + 1, none⟩ = some (.int .i64 m) := (hC.cell _).trans c1
          have d2 : wr.cell? ⟨g2, n * 4 + 2, none⟩ = some (.int .i64 v) := (hC.cell _).trans c2
          have d3 : wr.cell? ⟨g2, n * 4 + 3, none⟩ = some (.int .i64 e) := (hC.cell _).trans c3
          have hti : (n : Int) < 11 := by omega
          have hnu := fun w => num_at s r1 m v e r2 r3 r4 r5 w
          have HC := Lib.hid hC
          clear c0 c1 c2 c3 r1 r2 r3 r4 r5 hC
          go_wp2_with (first
            | (go_at_call 15; refine (hnu _).mono ?_; rintro e w' ⟨rfl, rfl⟩))
          refine ⟨⟨n + 1, by go_num, by omega, LR.alloc _, HC.out.alloc _⟩, ?_⟩
          simp only [intOf]
          omega
        · have hti2 : ¬ (n : Int) < 11 := by omega
          clear hC hn hlt
          obtain ⟨b32, hb32⟩ : ∃ x, copyB ⟨#[98]⟩ 32 = x := ⟨_, rfl⟩
          obtain ⟨c31, hc31⟩ : ∃ x, copyB ⟨#[99]⟩ 31 = x := ⟨_, rfl⟩
          obtain ⟨c312, hc312⟩ : ∃ x, c31 ++ ⟨#[50]⟩ = x := ⟨_, rfl⟩
          have fb := f_b32
          have fc := f_c31
          rw [hb32] at fb
          rw [hc31, hc312] at fc
          have zb : b32.size = 32 := by rw [← hb32, copyB_size]; rfl
          have zc : c31.size = 31 := by rw [← hc31, copyB_size]; rfl
          have hub : ∀ u ∈ [b32], u.size ≤ maxLen := fun u h => by rw [List.mem_singleton.1 h, zb]; decide
          have huc : ∀ u ∈ [c31], u.size ≤ maxLen := fun u h => by rw [List.mem_singleton.1 h, zc]; decide
          have zb2 : b32.size ≤ 281474976710656 := by rw [zb]; decide
          have zc2 : c31.size ≤ 281474976710656 := by rw [zc]; decide
          have hadd : ∀ W, (Op.stringOp .add c31 ⟨#[50]⟩).run Tryd.prog W = .ok (.string c312) W := fun W => by rw [← hc312]; exact run_string_add_sum _ _ _ (by rw [zc]; decide)
          clear zb zc hc312
          go_wp2_with (first
            | (go_at_call_of 12 (Value.int .i64 32); refine (copies_at _ (by decide) 32 _ rfl (by decide) b32 hb32 _).mono ?_; rintro e w' ⟨rfl, rfl⟩)
            | (go_at_call_of 12 (Value.int .i64 31); refine (copies_at _ (by decide) 31 _ rfl (by decide) c31 hc31 _).mono ?_; rintro e w' ⟨rfl, rfl⟩)
            | (go_at_call_of 16 (Value.int .i64 0); refine (show_at _ (by decide) (by decide) _ y6 _ LR.tab).mono ?_; rintro e w1 ⟨rfl, hb1⟩; replace LR := LR.step hb1; clear hb1)
            | (go_at_call 16; refine (show_at (-9223372036854775808) (by decide) (by decide) _ y7 _ LR.tab).mono ?_; rintro e w1 ⟨rfl, hb1⟩; replace LR := LR.step hb1; clear hb1)
            | (go_at_call_of 17 (Value.string ⟨#[97]⟩); refine (compare_at ⟨#[97]⟩ ⟨#[97, 98]⟩ (-1) y8 _).mono ?_; rintro e w' ⟨rfl, rfl⟩)
            | (go_at_call_of 17 (Value.string ⟨#[98]⟩); refine (compare_at ⟨#[98]⟩ ⟨#[97, 98]⟩ 1 y9 _).mono ?_; rintro e w' ⟨rfl, rfl⟩)
            | (go_at_call_of 17 (Value.string ⟨#[]⟩); refine (compare_at ⟨#[]⟩ ⟨#[]⟩ 0 y10 _).mono ?_; rintro e w' ⟨rfl, rfl⟩)
            | (go_at_call_of 18 (Value.string b32); refine (free_at b32 zb2 [b32] hub (by simp [maxLen]) _ fb _ _ (strs_one _ b32) (LR.alloc _).tab (LR.alloc _).pos).mono ?_; rintro e w3 ⟨rfl, hb3⟩; replace LR := (LR.alloc _).step hb3; clear hb3)
            | (go_at_call_of 18 (Value.string ⟨#[49]⟩); refine (free_at ⟨#[49]⟩ (by decide) [] (by simp) (by decide) _ f_1 _ _ (strs_nil _) LR.tab LR.pos).mono ?_; rintro e w3 ⟨rfl, hb3⟩; replace LR := LR.step hb3; clear hb3)
            | (go_at_call_of 18 (Value.string c31); refine (free_at c31 zc2 [c31] huc (by simp [maxLen]) _ fc _ _ (strs_one _ c31) (LR.alloc _).tab (LR.alloc _).pos).mono ?_; rintro e w3 ⟨rfl, hb3⟩; replace LR := (LR.alloc _).step hb3; clear hb3)
            | (go_at_call_of 18 (Value.string ⟨#[120]⟩); refine (free_at ⟨#[120]⟩ (by decide) [] (by simp) (by decide) _ f_x _ _ (strs_nil _) LR.tab LR.pos).mono ?_; rintro e w3 ⟨rfl, hb3⟩; replace LR := LR.step hb3; clear hb3))
          all_goals go_ret
          all_goals exact ⟨rfl, LR.low⟩
end Go.Proofs.YtlekhoicdmgbcaaDoor

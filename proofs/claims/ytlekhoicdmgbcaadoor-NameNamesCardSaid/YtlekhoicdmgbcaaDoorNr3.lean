/- The document's own answers (bonsairef02): Show. -/
import Derived.Test.YtlekhoicdmgbcaaDoorN3
import Derived.Test.YtlekhoicdmgbcaaDoorNcl
import Derived.Test.YtlekhoicdmgbcaaDoorNm3
import Derived.Laws.BytesArg
namespace Go.Proofs.YtlekhoicdmgbcaaDoor
open Go.RowKit Nm

theorem conv_one (x : Nat) (hx : x < 256) (W : World) : (convert 26 9 (.slice (some ⟨W.heap.size, 0, none⟩) 1 1)).run Tryd.prog (W.alloc (.cells #[.int .u8 x] 5)) = .ok (.string ⟨#[UInt8.ofNat x]⟩) (W.alloc (.cells #[.int .u8 x] 5)) := by
  have hc : Cl (W.alloc (.cells #[.int .u8 x] 5)) W.heap.size 5 #[.int .u8 x] := Cl.new _ _ _
  refine run_convert_bytes_back _ _ _ _ _ _ [UInt8.ofNat x] Tryd.underlying26 Tryd.underlying5 Tryd.underlying9 (fun j hj => ?_)
  have hj0 : j = 0 := by simpa using hj
  subst hj0
  have := hc.cell 0
  rw [show (⟨W.heap.size, 0, none⟩ : Addr).add 0 = ⟨W.heap.size, 0, none⟩ by simp [Addr.add], this]
  simp [UInt8.toNat_ofNat', Nat.mod_eq_of_lt hx]

theorem tmod_nat (u : Nat) : Int.tmod (u : Int) 10 = ((u % 10 : Nat) : Int) := by
  rw [Int.tmod_eq_emod_of_nonneg (by omega)]
  omega
theorem tdiv_nat (u : Nat) : Int.tdiv (u : Int) 10 = ((u / 10 : Nat) : Int) := by
  rw [Int.tdiv_eq_ediv_of_nonneg (by omega)]
  omega
theorem u64_nat {m : Nat} (h : m < 18446744073709551616) : IntKind.u64.wrap ((m : Nat) : Int) = ((m : Nat) : Int) := IntWalk.u64_in _ (by omega)
theorem u8_nat {m : Nat} (h : m < 256) : IntKind.u8.wrap ((m : Nat) : Int) = ((m : Nat) : Int) := IntWalk.u8_in _ (by omega)
theorem list_app (a b : ByteArray) : (a ++ b).data.toList = a.data.toList ++ b.data.toList := by
  rw [ByteArray.data_append, Array.toList_append]

set_option maxRecDepth 100000 in
set_option maxHeartbeats 2000000 in
theorem rshow_any (n : Int) (h0 : -9223372036854775808 ≤ n) (h1 : n ≤ 9223372036854775807) (w : World) :
    Calls Tryd.prog 23 #[.int .i64 n] w fun e w' => e = .returned (.string (showB n)) ∧ Below w.heap.size w w' := by
  obtain ⟨r, hr⟩ : ∃ r, r = showB n := ⟨_, rfl⟩
  rw [← hr]
  have HR := Lib.hid hr
  clear hr
  by_cases hn : n < 0
  · obtain ⟨u, hun⟩ : ∃ u : Nat, n = -(u : Int) := ⟨n.natAbs, by omega⟩
    have hu : u < 18446744073709551616 := by omega
    have hu1 : 1 ≤ u := by omega
    have hsh : (showB n).data.toList = [45] ++ Lib.decDigits u := by
      unfold showB
      rw [hun, Lib.itoa_neg u hu1]
      rfl
    have hw : IntKind.u64.wrap (-IntKind.u64.wrap n) = (u : Int) := by rw [IntKind.wrap_u64, IntKind.wrap_u64]; omega
    have hw2 : True := trivial
    clear hun hu1
    go_enter Tryd.func23, Tryd.ntmps23
    go_wp2_with (fail)
    clear hw hw2
    go_loopw [3, 5] (fun v3 v5 wr => ∃ (k : Nat) (t : ByteArray), v3 = .int .u64 k ∧ v5 = .string t ∧ k < 18446744073709551616 ∧ Hid (Lib.decDigits u = Lib.decDigits k ++ t.data.toList) ∧ Below w.heap.size w wr) (fun v3 _ _ => (intOf v3).toNat)
    case atStart => exact ⟨u, ⟨#[]⟩, rfl, rfl, hu, Lib.hid (by simp), Below.refl _ _⟩
    case round =>
      obtain ⟨k, t, rfl, rfl, hk, HD, hB⟩ := hrel
      have htz : t.size ≤ 20 := by
        have h2 := congrArg List.length HD.out
        rw [Lib.decDigits_length, List.length_append] at h2
        have h3 := Lib.nDigits_le20 u hu
        have h4 : t.data.toList.length = t.size := by simp
        omega
      by_cases hk9 : 9 < k
      · have hk9' : 9 < (k : Int) := by omega
        have HB := Lib.hid (dec_big (u := k) (by omega))
        have hq := tdiv_nat k
        have hm := tmod_nat k
        have hq2 := u64_nat (m := k / 10) (by omega)
        have hm2 := u64_nat (m := k % 10) (by omega)
        obtain ⟨q, hqq⟩ : ∃ q, q = k / 10 := ⟨_, rfl⟩
        obtain ⟨m, hmm⟩ : ∃ m, m = k % 10 := ⟨_, rfl⟩
        rw [← hqq] at hq hq2
        rw [← hmm] at hm hm2
        have hm10 : m < 10 := by omega
        have hqk : q < k := by omega
        obtain ⟨x, hx⟩ : ∃ x, x = 48 + m := ⟨_, rfl⟩
        have hx1 : IntKind.u64.wrap (48 + (m : Int)) = (x : Int) := by
          rw [show (48 + (m : Int)) = ((x : Nat) : Int) by omega]
          exact u64_nat (by omega)
        have hx2 : IntKind.u8.wrap (x : Int) = (x : Int) := u8_nat (by omega)
        have hcv := conv_one x (by omega) wr
        have hsz : (⟨#[UInt8.ofNat x]⟩ : ByteArray).size + t.size ≤ 9223372036854775807 := by
          show 1 + t.size ≤ _
          omega
        have HD2 : Hid (Lib.decDigits u = Lib.decDigits q ++ ((⟨#[UInt8.ofNat x]⟩ : ByteArray) ++ t).data.toList) := Lib.hid (by
          rw [HD.out, HB.out, list_app, ← hqq, ← hmm, ← hx, List.append_assoc])
        obtain ⟨t2, ht2⟩ : ∃ t2, t2 = (⟨#[UInt8.ofNat x]⟩ : ByteArray) ++ t := ⟨_, rfl⟩
        have hadd : ∀ W, (Op.stringOp .add (⟨#[UInt8.ofNat x]⟩ : ByteArray) t).run Tryd.prog W = .ok (.string t2) W := fun W => by rw [ht2]; exact run_string_add_sum _ _ _ hsz
        rw [← ht2] at HD2
        have hq64 : q < 18446744073709551616 := by omega
        clear hqq hmm hx ht2 hsz hm10 htz
        go_wp2_with (fail)
        go_roundw
        case rel => exact ⟨q, t2, rfl, rfl, hq64, HD2, hB.alloc hB.size _⟩
        case measure => simp only [intOf]; omega
      · have hk9' : ¬ 9 < (k : Int) := by omega
        obtain ⟨x, hx⟩ : ∃ x, x = 48 + k := ⟨_, rfl⟩
        have hx1 : IntKind.u64.wrap (48 + (k : Int)) = (x : Int) := by
          rw [show (48 + (k : Int)) = ((x : Nat) : Int) by omega]
          exact u64_nat (by omega)
        have hx2 : IntKind.u8.wrap (x : Int) = (x : Int) := u8_nat (by omega)
        have hcv := conv_one x (by omega) wr
        have hres : (((⟨#[45]⟩ : ByteArray) ++ ⟨#[UInt8.ofNat x]⟩) ++ t) = r := by
          rw [HR.out]
          apply ByteArray.ext
          apply Array.toList_inj.1
          rw [list_app, list_app, hsh, HD.out, Lib.decDigits_one (by omega), ← hx, List.append_assoc]
        have hadd1 : ∀ W, (Op.stringOp .add (⟨#[45]⟩ : ByteArray) ⟨#[UInt8.ofNat x]⟩).run Tryd.prog W = .ok (.string ((⟨#[45]⟩ : ByteArray) ++ ⟨#[UInt8.ofNat x]⟩)) W := fun W => run_string_add_sum _ _ _ (by
          show 1 + 1 ≤ _
          omega)
        obtain ⟨t1, ht1⟩ : ∃ t1, t1 = (⟨#[45]⟩ : ByteArray) ++ ⟨#[UInt8.ofNat x]⟩ := ⟨_, rfl⟩
        have hz1 : t1.size ≤ 2 := by rw [ht1]; show 1 + 1 ≤ 2; omega
        rw [← ht1] at hadd1 hres
        have hadd2 : ∀ W, (Op.stringOp .add t1 t).run Tryd.prog W = .ok (.string r) W := fun W => by rw [← hres]; exact run_string_add_sum _ _ _ (by omega)
        clear hx ht1 hz1 hres htz
        go_wp2_with (fail)
        go_ret
        exact ⟨rfl, hB.alloc hB.size _⟩
  · obtain ⟨u, rfl⟩ : ∃ u : Nat, n = (u : Int) := ⟨n.toNat, by omega⟩
    have hu : u < 18446744073709551616 := by omega
    have hsh : (showB u).data.toList = [] ++ Lib.decDigits u := by
      unfold showB
      rw [Lib.itoa_nonneg]
      rfl
    have hw : IntKind.u64.wrap (u : Int) = (u : Int) := u64_nat hu
    have hw2 : True := trivial
    go_enter Tryd.func23, Tryd.ntmps23
    go_wp2_with (fail)
    clear hw hw2
    go_loopw [3, 5] (fun v3 v5 wr => ∃ (k : Nat) (t : ByteArray), v3 = .int .u64 k ∧ v5 = .string t ∧ k < 18446744073709551616 ∧ Hid (Lib.decDigits u = Lib.decDigits k ++ t.data.toList) ∧ Below w.heap.size w wr) (fun v3 _ _ => (intOf v3).toNat)
    case atStart => exact ⟨u, ⟨#[]⟩, rfl, rfl, hu, Lib.hid (by simp), Below.refl _ _⟩
    case round =>
      obtain ⟨k, t, rfl, rfl, hk, HD, hB⟩ := hrel
      have htz : t.size ≤ 20 := by
        have h2 := congrArg List.length HD.out
        rw [Lib.decDigits_length, List.length_append] at h2
        have h3 := Lib.nDigits_le20 u hu
        have h4 : t.data.toList.length = t.size := by simp
        omega
      by_cases hk9 : 9 < k
      · have hk9' : 9 < (k : Int) := by omega
        have HB := Lib.hid (dec_big (u := k) (by omega))
        have hq := tdiv_nat k
        have hm := tmod_nat k
        have hq2 := u64_nat (m := k / 10) (by omega)
        have hm2 := u64_nat (m := k % 10) (by omega)
        obtain ⟨q, hqq⟩ : ∃ q, q = k / 10 := ⟨_, rfl⟩
        obtain ⟨m, hmm⟩ : ∃ m, m = k % 10 := ⟨_, rfl⟩
        rw [← hqq] at hq hq2
        rw [← hmm] at hm hm2
        have hm10 : m < 10 := by omega
        have hqk : q < k := by omega
        obtain ⟨x, hx⟩ : ∃ x, x = 48 + m := ⟨_, rfl⟩
        have hx1 : IntKind.u64.wrap (48 + (m : Int)) = (x : Int) := by
          rw [show (48 + (m : Int)) = ((x : Nat) : Int) by omega]
          exact u64_nat (by omega)
        have hx2 : IntKind.u8.wrap (x : Int) = (x : Int) := u8_nat (by omega)
        have hcv := conv_one x (by omega) wr
        have hsz : (⟨#[UInt8.ofNat x]⟩ : ByteArray).size + t.size ≤ 9223372036854775807 := by
          show 1 + t.size ≤ _
          omega
        have HD2 : Hid (Lib.decDigits u = Lib.decDigits q ++ ((⟨#[UInt8.ofNat x]⟩ : ByteArray) ++ t).data.toList) := Lib.hid (by
          rw [HD.out, HB.out, list_app, ← hqq, ← hmm, ← hx, List.append_assoc])
        obtain ⟨t2, ht2⟩ : ∃ t2, t2 = (⟨#[UInt8.ofNat x]⟩ : ByteArray) ++ t := ⟨_, rfl⟩
        have hadd : ∀ W, (Op.stringOp .add (⟨#[UInt8.ofNat x]⟩ : ByteArray) t).run Tryd.prog W = .ok (.string t2) W := fun W => by rw [ht2]; exact run_string_add_sum _ _ _ hsz
        rw [← ht2] at HD2
        have hq64 : q < 18446744073709551616 := by omega
        clear hqq hmm hx ht2 hsz hm10 htz
        go_wp2_with (fail)
        go_roundw
        case rel => exact ⟨q, t2, rfl, rfl, hq64, HD2, hB.alloc hB.size _⟩
        case measure => simp only [intOf]; omega
      · have hk9' : ¬ 9 < (k : Int) := by omega
        obtain ⟨x, hx⟩ : ∃ x, x = 48 + k := ⟨_, rfl⟩
        have hx1 : IntKind.u64.wrap (48 + (k : Int)) = (x : Int) := by
          rw [show (48 + (k : Int)) = ((x : Nat) : Int) by omega]
          exact u64_nat (by omega)
        have hx2 : IntKind.u8.wrap (x : Int) = (x : Int) := u8_nat (by omega)
        have hcv := conv_one x (by omega) wr
        have hres : (((⟨#[]⟩ : ByteArray) ++ ⟨#[UInt8.ofNat x]⟩) ++ t) = r := by
          rw [HR.out]
          apply ByteArray.ext
          apply Array.toList_inj.1
          rw [list_app, list_app, hsh, HD.out, Lib.decDigits_one (by omega), ← hx, List.append_assoc]
        have hadd1 : ∀ W, (Op.stringOp .add (⟨#[]⟩ : ByteArray) ⟨#[UInt8.ofNat x]⟩).run Tryd.prog W = .ok (.string ((⟨#[]⟩ : ByteArray) ++ ⟨#[UInt8.ofNat x]⟩)) W := fun W => run_string_add_sum _ _ _ (by
          show 0 + 1 ≤ _
          omega)
        obtain ⟨t1, ht1⟩ : ∃ t1, t1 = (⟨#[]⟩ : ByteArray) ++ ⟨#[UInt8.ofNat x]⟩ := ⟨_, rfl⟩
        have hz1 : t1.size ≤ 2 := by rw [ht1]; show 0 + 1 ≤ 2; omega
        rw [← ht1] at hadd1 hres
        have hadd2 : ∀ W, (Op.stringOp .add t1 t).run Tryd.prog W = .ok (.string r) W := fun W => by rw [← hres]; exact run_string_add_sum _ _ _ (by omega)
        clear hx ht1 hz1 hres htz
        go_wp2_with (fail)
        go_ret
        exact ⟨rfl, hB.alloc hB.size _⟩
end Go.Proofs.YtlekhoicdmgbcaaDoor

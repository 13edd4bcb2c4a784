/- The document's own answers (bonsairef02): Free. -/
import Derived.Test.YtlekhoicdmgbcaaDoorNr1
import Derived.Test.YtlekhoicdmgbcaaDoorNr3
import Derived.Test.YtlekhoicdmgbcaaDoorN7
namespace Go.Proofs.YtlekhoicdmgbcaaDoor
open Go.RowKit Nm

theorem mem_take_succ (us : List ByteArray) (n : Nat) (h : n < us.length) (x : ByteArray) : x ∈ us.take (n + 1) ↔ x ∈ us.take n ∨ us[n] = x := by
  rw [List.take_add_one, List.getElem?_eq_getElem h, List.mem_append]
  simp [eq_comm]

set_option maxRecDepth 100000 in
set_option maxHeartbeats 2000000 in
theorem rfree_any (stem : ByteArray) (hs : stem.size ≤ 200) (us : List ByteArray) (hl : us.length ≤ 300) (v : Value) (w : World) (hv : Strs w v us) :
    Calls Tryd.prog 25 #[.string stem, v] w fun e w' => ∃ r, e = .returned (.string r) ∧ FreeAns stem us r ∧ Below w.heap.size w w' := by
  have hlen := strs_len hv
  obtain ⟨ad, had⟩ := strs_at hv
  have HAD := Lib.hid had
  have hll : (us.length : Int) ≤ 300 := by omega
  clear had hv
  cases hm0 : mayB stem with
  | false =>
    have hma := fun w => rmay_any stem (by omega) w
    rw [hm0] at hma
    go_enter Tryd.func25, Tryd.ntmps25
    go_wp2_with (first | (go_at_call 21; refine (hma _).mono ?_; rintro e w' ⟨rfl, rfl⟩))
    go_ret
    exact ⟨⟨#[]⟩, rfl, ⟨0, fun j hj => absurd hj (by omega), .inr ⟨rfl, hm0⟩⟩, Below.refl _ _⟩
  | true =>
    have hma := fun w => rmay_any stem (by omega) w
    rw [hm0] at hma
    have HM0 := Lib.hid hm0
    clear hm0
    go_enter Tryd.func25, Tryd.ntmps25
    go_wp2_with (first | (go_at_call 21; refine (hma _).mono ?_; rintro e w' ⟨rfl, rfl⟩))
    clear hma
    go_loopw [5, 6, 7, 8] (fun v5 v6 _ _ wr => ∃ k : Nat, v5 = .string (cand stem k) ∧ v6 = .int .i64 (wrap64 ((k : Int) + 2)) ∧ k < 9223372036854775808 ∧ Hid (∀ j, j < k → mayB (cand stem j) = true ∧ cand stem j ∈ us) ∧ Below w'.heap.size w' wr) (fun _ v6 _ _ _ => left v6)
    case atStart => exact ⟨0, rfl, by unfold wrap64; simp, by omega, Lib.hid (fun j hj => absurd hj (by omega)), Below.refl _ _⟩
    case round =>
      obtain ⟨k, rfl, rfl, hk, HJ, hB⟩ := hrel
      have hcs := cand_size stem k
      cases hm : mayB (cand stem k) with
      | false =>
        have hmc := fun w => rmay_any (cand stem k) (by omega) w
        rw [hm] at hmc
        have HM := Lib.hid hm
        clear hm hcs
        go_wp2_with (first | (go_at_call 21; refine (hmc _).mono ?_; rintro e w2 ⟨rfl, rfl⟩))
        go_ret
        exact ⟨⟨#[]⟩, rfl, ⟨k, HJ.out, .inr ⟨rfl, HM.out⟩⟩, hB⟩
      | true =>
        have hk1 := cand_lt hk hm
        have hmc := fun w => rmay_any (cand stem k) (by omega) w
        rw [hm] at hmc
        have HM := Lib.hid hm
        have HK := Lib.hid hk1
        obtain ⟨c, hc⟩ : ∃ c, c = cand stem k := ⟨_, rfl⟩
        rw [← hc] at hmc ⊢
        have HC := Lib.hid hc
        clear hm hcs hk1 hk hc
        go_wp2_with (first | (go_at_call 21; refine (hmc _).mono ?_; rintro e w2 ⟨rfl, rfl⟩))
        go_loopw [7, 8] (fun v7 v8 wq => ∃ (n : Nat) (f : Bool), v7 = .bool f ∧ v8 = .int .i64 n ∧ n ≤ us.length ∧ Hid (f = true ↔ c ∈ us.take n) ∧ wq = w2) (fun _ v8 _ => us.length - (intOf v8).toNat)
        case atStart => exact ⟨0, false, rfl, rfl, by omega, Lib.hid (by simp), rfl⟩
        case round =>
          obtain ⟨n, f, rfl, rfl, hn, HF, rfl⟩ := hrel
          by_cases hlt : n < us.length
          · obtain ⟨hix, hbl, hcl⟩ := HAD.out n hlt
            have hcl2 : wr.cell? (ad n) = some (.string us[n]) := (hB.cell hbl).trans hcl
            have hti : (n : Int) < us.length := by omega
            have hn1 : wrap64 ((n : Int) + 1) = (n : Int) + 1 := by unfold wrap64; omega
            have hmt := mem_take_succ us n hlt c
            clear hcl hbl
            cases f with
            | true =>
              have HF2 : Hid (true = true ↔ c ∈ us.take (n + 1)) := Lib.hid (by rw [hmt]; exact ⟨fun _ => .inl (HF.out.1 rfl), fun _ => rfl⟩)
              clear hmt
              go_wp2_with (fail)
              go_roundw
              case rel => exact ⟨n + 1, true, rfl, by go_num, by omega, HF2, trivial⟩
              case measure => simp [intOf]; omega
            | false =>
              have hno : c ∉ us.take n := fun h => by cases HF.out.2 h
              have hbe : ((us[n].toList == c.toList) = true ↔ us[n] = c) := by
                rw [beq_iff_eq, ByteArray.toList_eq, ByteArray.toList_eq]
                exact ⟨fun h => ByteArray.ext (Array.toList_inj.1 h), fun h => by rw [h]⟩
              cases hb : (us[n].toList == c.toList) with
              | true =>
                have HF2 : Hid (true = true ↔ c ∈ us.take (n + 1)) := Lib.hid (by rw [hmt]; exact ⟨fun _ => .inr (hbe.1 hb), fun _ => rfl⟩)
                clear hmt hno hbe
                go_wp2_with (fail)
                go_roundw
                case rel => exact ⟨n + 1, true, by first | rfl | rw [hb], by go_num, by omega, HF2, trivial⟩
                case measure => simp [intOf]; omega
              | false =>
                have hno2 : c ∉ us.take (n + 1) := by
                  rw [hmt]
                  rintro (h | h)
                  · exact hno h
                  · rw [hbe.2 h] at hb
                    cases hb
                have HF2 : Hid (false = true ↔ c ∈ us.take (n + 1)) := Lib.hid ⟨fun h => Bool.noConfusion h, fun h => absurd h hno2⟩
                clear hno2
                clear hmt hno hbe
                go_wp2_with (fail)
                go_roundw
                case rel => exact ⟨n + 1, false, by first | rfl | rw [hb], by go_num, by omega, HF2, trivial⟩
                case measure => simp [intOf]; omega
          · obtain rfl : n = us.length := by omega
            have hti : ¬ (us.length : Int) < us.length := by omega
            have hf := HF.out
            rw [List.take_length] at hf
            cases f with
            | false =>
              have hno : c ∉ us := fun h => by cases hf.2 h
              have HNO := Lib.hid hno
              clear hf hno HF
              go_wp2_with (fail)
              go_ret
              exact ⟨c, rfl, ⟨k, HJ.out, .inl ⟨HC.out, HM.out, by rw [← HC.out]; exact HNO.out⟩⟩, hB⟩
            | true =>
              have hin := hf.1 rfl
              have HJ2 : Hid (∀ j, j < k + 1 → mayB (cand stem j) = true ∧ cand stem j ∈ us) := Lib.hid (by
                intro j hj
                rcases Nat.lt_or_ge j k with h | h
                · exact HJ.out j h
                · obtain rfl : j = k := by omega
                  exact ⟨HM.out, by rw [← HC.out]; exact hin⟩)
              obtain ⟨wb0, wb1⟩ := wrap_b ((k : Int) + 2)
              have hsh := fun w => rshow_any (wrap64 ((k : Int) + 2)) wb0 wb1 w
              have hsum : stem.size + (showB (wrap64 ((k : Int) + 2))).size ≤ 9223372036854775807 := by have := showB_le ((k : Int) + 2); omega
              have hadd : ∀ W, (Op.stringOp .add stem (showB (wrap64 ((k : Int) + 2)))).run Tryd.prog W = .ok (.string (cand stem (k + 1))) W := fun W => by rw [cand_succ]; exact run_string_add_sum _ _ _ hsum
              have hwn := wrap_step k
              have HSH := Lib.hid hsh
              clear hf hin HF wb0 wb1 hsh hsum
              go_wp2_with (first | (go_at_call 23; refine (HSH.out _).mono ?_; rintro e w3 ⟨rfl, hb3⟩))
              refine ⟨⟨k + 1, rfl, by rw [wrap_step], HK.out, HJ2, hB.trans (hb3.mono hB.size)⟩, ?_⟩
              have hm := wrap_meas k HK.out
              rw [hwn, show ((k + 1 : Nat) : Int) = (k : Int) + 1 by omega]
              exact hm
end Go.Proofs.YtlekhoicdmgbcaaDoor

/- bonsailaw02.NameFree, walked. -/
import Derived.Test.YtlekhoicdmgbcaaDoorNr4
import Derived.BigQuiet
namespace Go.Proofs.YtlekhoicdmgbcaaDoor
open Go.RowKit Nm

theorem bdN {B : Nat} {a w : World} {n : Nat} (h : Below B a w) : Below B a (w.drewN n) := ⟨h.os, h.tape, h.output, h.size, h.block⟩

set_option maxRecDepth 100000 in
set_option maxHeartbeats 2000000 in
theorem nameFree_walk (stem : ByteArray) (v : Value) (us : List ByteArray) (hu : ∀ u ∈ us, u.size ≤ maxLen) (w : World) (hv : Strs w v us) (hT : Tens w) (hg : 1 < w.heap.size) :
    Calls Tryd.prog 5 #[.string stem, v] w fun e w' => e = .returned (.bool true) ∧ Below w.heap.size w w' := by
  have L0 := Lie.start hT hg
  have hlen := strs_len hv
  clear hT
  by_cases hl : stem.size ≤ 200
  · by_cases hn : us.length ≤ 300
    · have hls : (stem.size : Int) ≤ 200 := by omega
      have hns : (us.length : Int) ≤ 300 := by omega
      have hml : us.length < maxLen := by unfold maxLen; omega
      obtain ⟨ad, had⟩ := strs_at hv
      have HAD := Lib.hid had
      have HV := Lib.hid hv
      clear had hv
      go_enter Tryd.func5, Tryd.ntmps5
      go_wp2_with (first
        | (at_builtin; refine wpList_copy _ rfl _ _ rfl w.heap.size v us rfl (heap_alloc_new w _) rfl (HV.out.below ((Below.refl w.heap.size w).alloc (Nat.le_refl _) _) (Nat.le_refl _)) hn ?_; intro v1 w1 hown1 hgrow1; have hs1 := strs_of_row hown1; have hlen1 := strs_len hs1; have L1 := (L0.alloc (.cells #[] 9)).grown hg hgrow1 (fun k e => by cases e; exact Nat.le_refl _); clear hown1 hgrow1)
        | (go_at_call 18; refine (free_any stem (by omega) us hu hml v1 _ hs1 L1.tab L1.pos).mono ?_; rintro e w2 ⟨r, rfl, hr, hb2⟩; have L2 := L1.step hb2)
        | (go_at_call 25; refine (rfree_any stem hl us hn v _ (L2.strs HV.out)).mono ?_; rintro e w3 ⟨r2, rfl, hr2, hb3⟩; obtain rfl := hr.one hr2; have L3 := L2.step hb3))
      obtain ⟨ad1, had1⟩ := strs_at hs1
      have HAD1 := Lib.hid had1
      clear had1 hr hr2
      have hbb : Below w1.heap.size w1 w3 := hb2.trans (hb3.mono hb2.size)
      go_loopw [6] (fun i wr => ∃ n : Nat, i = .int .i64 n ∧ n ≤ us.length ∧ Lie w wr ∧ Below w1.heap.size w1 wr) (fun i _ => us.length - (intOf i).toNat)
      case atStart => exact ⟨0, rfl, by omega, L3, hbb⟩
      case round =>
        obtain ⟨n, rfl, hnl, LR, hbr⟩ := hrel
        clear L0 L1 L2 L3 hbb hb2 hb3
        by_cases hlt : n < us.length
        · obtain ⟨hix, hbl, hcl⟩ := HAD.out n hlt
          obtain ⟨hix1, hbl1, hcl1⟩ := HAD1.out n hlt
          have hc0 : wr.cell? (ad n) = some (.string us[n]) := (LR.low.cell hbl).trans hcl
          have hc1 : wr.cell? (ad1 n) = some (.string us[n]) := (hbr.cell hbl1).trans hcl1
          have hti : (n : Int) < us.length := by omega
          have hn1 : wrap64 ((n : Int) + 1) = (n : Int) + 1 := by unfold wrap64; omega
          clear hcl hbl hcl1 hbl1
          go_wp2_with (fail)
          go_quiet (fail)
          go_wp2_with (fail)
          go_roundw
          case rel => exact ⟨n + 1, by go_num, by omega, ⟨LR.tab, LR.pos, bdN LR.low⟩, bdN hbr⟩
          case measure => simp [intOf]; omega
        · obtain rfl : n = us.length := by omega
          have hti : ¬ (us.length : Int) < us.length := by omega
          go_wp2_with (first
            | (go_at_call 10; refine (works_any _ LR.tab LR.pos).mono ?_; rintro e w1 ⟨rfl, hb1⟩; replace LR := LR.step hb1; clear hb1))
          go_ret
          exact ⟨rfl, LR.low⟩
    · have hls : (stem.size : Int) ≤ 200 := by omega
      have hns : ¬ (us.length : Int) ≤ 300 := by omega
      go_enter Tryd.func5, Tryd.ntmps5
      go_wp2_with (go_at_call 10; refine (works_any _ L0.tab L0.pos).mono ?_; rintro e w1 ⟨rfl, hb1⟩; replace L0 := L0.step hb1; clear hb1)
      all_goals go_ret
      all_goals exact ⟨rfl, L0.low⟩
  · have hls : ¬ (stem.size : Int) ≤ 200 := by omega
    go_enter Tryd.func5, Tryd.ntmps5
    go_wp2_with (go_at_call 10; refine (works_any _ L0.tab L0.pos).mono ?_; rintro e w1 ⟨rfl, hb1⟩; replace L0 := L0.step hb1; clear hb1)
    all_goals go_ret
    all_goals exact ⟨rfl, L0.low⟩
end Go.Proofs.YtlekhoicdmgbcaaDoor

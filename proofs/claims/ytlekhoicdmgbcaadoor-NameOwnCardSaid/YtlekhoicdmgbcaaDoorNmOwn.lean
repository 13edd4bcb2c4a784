/- bonsailaw02.NameOwn, walked. -/
import Derived.Test.YtlekhoicdmgbcaaDoorN7
import Derived.Test.YtlekhoicdmgbcaaDoorNm4
namespace Go.Proofs.YtlekhoicdmgbcaaDoor
open Go.RowKit Nm

set_option maxRecDepth 100000 in
set_option maxHeartbeats 2000000 in
theorem nameOwn_walk (stem : ByteArray) (v : Value) (us : List ByteArray) (hu : ∀ u ∈ us, u.size ≤ maxLen) (w : World) (hv : Strs w v us) (hT : Tens w) (hg : 1 < w.heap.size) :
    Calls Tryd.prog 9 #[.string stem, v] w fun e w' => e = .returned (.bool true) ∧ Below w.heap.size w w' := by
  have L0 := Lie.start hT hg
  have hlen := strs_len hv
  clear hT
  by_cases hl : stem.size ≤ 200
  · by_cases hn : us.length ≤ 300
    · have hls : (stem.size : Int) ≤ 200 := by omega
      have hns : (us.length : Int) ≤ 300 := by omega
      have hml : us.length < maxLen := by unfold maxLen; omega
      have hfa := fun W hv hT hg => free_any stem (by omega) us hu hml v W hv hT hg
      have hma := fun w => may_any stem (by omega) w
      by_cases hex : ∃ r, FreeAns stem us r
      · obtain ⟨r, hr⟩ := hex
        have hfr := fun W hv hT hg => free_at stem (by omega) us hu hml r hr v W hv hT hg
        clear hfa
        by_cases hz : r.size = 0
        · obtain rfl := size_eq r hz
          have hc : mayB stem = false ∨ (mayB stem = true ∧ 28 < (stem.size : Int)) ∨ (mayB stem = true ∧ (stem.size : Int) ≤ 28 ∧ 3 < (us.length : Int)) := by
            cases hm : mayB stem with
            | false => exact .inl rfl
            | true =>
              by_cases h28 : stem.size ≤ 28
              · have := own_none hr hm h28
                exact .inr (.inr ⟨rfl, by omega, by omega⟩)
              · exact .inr (.inl ⟨rfl, by omega⟩)
          have HR := Lib.hid hr
          have HV := Lib.hid hv
          clear hr hv
          rcases hc with hc | ⟨hc, hc2⟩ | ⟨hc, hc2, hc3⟩
          all_goals
            rw [hc] at hma
            go_enter Tryd.func9, Tryd.ntmps9
            go_wp2_with (first
              | (go_at_call 10; refine (works_any _ L0.tab L0.pos).mono ?_; rintro e w1 ⟨rfl, hb1⟩; replace L0 := L0.step hb1; clear hb1)
              | (go_at_call 18; refine (hfr _ (L0.strs HV.out) L0.tab L0.pos).mono ?_; rintro e w1 ⟨rfl, hb1⟩; replace L0 := L0.step hb1; clear hb1)
              | (go_at_call 11; refine (hma _).mono ?_; rintro e w' ⟨rfl, rfl⟩))
            all_goals go_ret
            all_goals exact ⟨rfl, L0.low⟩
        · obtain ⟨m1, m2, m3, m4⟩ := own_some hr (fun e => hz (by rw [e]; rfl))
          have h1 := size_ne r hz
          have h1' : r.toList.isEmpty = false := by simpa using h1
          obtain ⟨ad, had⟩ := strs_at hv
          have HAD := Lib.hid had
          have HR := Lib.hid hr
          have HV := Lib.hid hv
          clear hr hv had
          go_enter Tryd.func9, Tryd.ntmps9
          go_wp2_with (first
            | (go_at_call 10; refine (works_any _ L0.tab L0.pos).mono ?_; rintro e w1 ⟨rfl, hb1⟩; replace L0 := L0.step hb1; clear hb1)
            | (go_at_call 18; refine (hfr _ (L0.strs HV.out) L0.tab L0.pos).mono ?_; rintro e w1 ⟨rfl, hb1⟩; replace L0 := L0.step hb1; clear hb1))
          go_loopw [6, 7] (fun f i wr => ∃ n : Nat, f = .bool false ∧ i = .int .i64 n ∧ n ≤ us.length ∧ Lie w wr) (fun _ i _ => us.length - (intOf i).toNat)
          case atStart => exact ⟨0, rfl, rfl, by omega, L0⟩
          case round =>
            obtain ⟨n, rfl, rfl, hnl, LR⟩ := hrel
            clear L0
            by_cases hlt : n < us.length
            · obtain ⟨hix, hbl, hcl⟩ := HAD.out n hlt
              have hcl2 : wr.cell? (ad n) = some (.string us[n]) := (LR.low.cell hbl).trans hcl
              have hti : (n : Int) < us.length := by omega
              have hn1 : wrap64 ((n : Int) + 1) = (n : Int) + 1 := by unfold wrap64; omega
              have hne : (us[n].toList == r.toList) = false := by
                rw [beq_eq_false_iff_ne, ByteArray.toList_eq, ByteArray.toList_eq]
                intro e
                exact m2 (by rw [← ByteArray.ext (Array.toList_inj.1 e)]; exact List.getElem_mem hlt)
              clear hcl hbl
              go_wp2_with (fail)
              go_roundw
              case rel => exact ⟨n + 1, rfl, by go_num, by omega, LR⟩
              case measure => simp [intOf]; omega
            · obtain rfl : n = us.length := by omega
              have hti : ¬ (us.length : Int) < us.length := by omega
              obtain ⟨i0, hi, hz0, hz1, hz2⟩ := info_parts infoStr
              go_wp2_with (first
                | (at_builtin; refine wpList_copy _ rfl _ _ rfl wr.heap.size v us rfl (heap_alloc_new wr _) rfl ((LR.strs HV.out).below ((Below.refl wr.heap.size wr).alloc (Nat.le_refl _) _) (Nat.le_refl _)) hn ?_; intro v1 w1 hown1 hgrow1)
                | (at_builtin; refine wpList_append_own _ rfl _ _ 36 rfl wr.heap.size 9 i0 (.string ⟨#[]⟩) 1 16 Tryd.underlying36 hi hz0 hz1 hz2 rfl (by decide) _ _ _ rfl (hown1.alloc _) ⟨w1.heap.size, 0, none⟩ 1 1 [.string r] rfl rfl (cell_one_new _ _ _) (by simp [Value.oneCell']) (by unfold maxLen; omega) (by omega) (by have := hgrow1.size; simp at this ⊢; omega) ?_; intro v2 w2 hown2 hgrow2 _))
              have L1 := (LR.alloc (.cells #[] 9)).grown hg hgrow1 (fun k e => by cases e; exact LR.low.size)
              have L2 := (L1.alloc (.cells #[.string r] 9)).grown hg hgrow2 (fun k e => Nat.le_trans LR.low.size (hown1.lt k e).1)
              have hs2 : Strs w2 v2 (us ++ [r]) := strs_of_row (by simpa [strV] using hown2)
              have hrs := may_size m1
              have hmr := fun w => may_at r (by omega) true m1 w
              have m3' : (stem.size : Int) ≤ (r.size : Int) := by omega
              refine (free_any stem (by omega) (us ++ [r]) (by
                intro u h
                rcases List.mem_append.1 h with h | h
                · exact hu u h
                · rw [List.mem_singleton.1 h]
                  unfold maxLen
                  omega) (by simp; unfold maxLen; omega) v2 w2 hs2 L2.tab L2.pos).mono ?_
              rintro e w3 ⟨r2, rfl, hr2, hb3⟩
              have L3 := L2.step hb3
              have hne2 : (r2.toList == r.toList) = false := by
                rw [beq_eq_false_iff_ne, ByteArray.toList_eq, ByteArray.toList_eq]
                intro e
                exact next_ne (fun e => hz (by rw [e]; rfl)) hr2 (ByteArray.ext (Array.toList_inj.1 e))
              clear hti hown1 hown2 hgrow1 hgrow2 L1 L2 hs2 hr2 hrs
              go_wp2_with (first | (go_at_call 11; refine (hmr _).mono ?_; rintro e w' ⟨rfl, rfl⟩))
              all_goals go_ret
              all_goals exact ⟨rfl, L3.low⟩
      · go_enter Tryd.func9, Tryd.ntmps9
        go_wp2_with (first
          | (go_at_call 10; refine (works_any _ L0.tab L0.pos).mono ?_; rintro e w1 ⟨rfl, hb1⟩; replace L0 := L0.step hb1; clear hb1))
        go_at_call 18
        refine (hfa _ (L0.strs hv) L0.tab L0.pos).mono ?_
        rintro e w1 ⟨r, rfl, hr, hb1⟩
        exact absurd ⟨r, hr⟩ hex
    · have hls : (stem.size : Int) ≤ 200 := by omega
      have hns : ¬ (us.length : Int) ≤ 300 := by omega
      go_enter Tryd.func9, Tryd.ntmps9
      go_wp2_with (go_at_call 10; refine (works_any _ L0.tab L0.pos).mono ?_; rintro e w1 ⟨rfl, hb1⟩; replace L0 := L0.step hb1; clear hb1)
      all_goals go_ret
      all_goals exact ⟨rfl, L0.low⟩
  · have hls : ¬ (stem.size : Int) ≤ 200 := by omega
    go_enter Tryd.func9, Tryd.ntmps9
    go_wp2_with (go_at_call 10; refine (works_any _ L0.tab L0.pos).mono ?_; rintro e w1 ⟨rfl, hb1⟩; replace L0 := L0.step hb1; clear hb1)
    all_goals go_ret
    all_goals exact ⟨rfl, L0.low⟩
end Go.Proofs.YtlekhoicdmgbcaaDoor

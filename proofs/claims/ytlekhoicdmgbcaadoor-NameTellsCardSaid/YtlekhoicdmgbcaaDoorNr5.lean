/- The document's own answers (bonsairef02): Num. -/
import Derived.Test.YtlekhoicdmgbcaaDoorNr2
namespace Go.Proofs.YtlekhoicdmgbcaaDoor
open Go.RowKit Nm

set_option maxRecDepth 100000 in
set_option maxHeartbeats 4000000 in
theorem rnum_any (s : ByteArray) (hs : s.size < 9223372036854775807) (most : Int) (hm0 : -9223372036854775808 ≤ most) (hm1 : most ≤ 9223372036854775807) (w : World) :
    Calls Tryd.prog 19 #[.string s, .int .i64 most] w fun e w' => e = .returned (.tuple #[.int .i64 (numV s.data.toList most), .int .i64 (numE s.data.toList most)]) ∧ w' = w := by
  by_cases hz : s.size = 0
  · obtain rfl := size_eq s hz
    go_enter Tryd.func19, Tryd.ntmps19
    go_wp2_with (fail)
    go_ret2
    exact ⟨rfl, rfl⟩
  · have h1 := size_ne s hz
    have h1' : s.toList.isEmpty = false := by simpa using h1
    have hpos : 0 < s.size := by omega
    by_cases hl : s[0].toNat = 48 ∧ 1 < s.size
    · obtain ⟨l0, l1⟩ := hl
      have hf := form_lead s l1 l0
      have e1 : numV s.data.toList most = 0 := by simp [numV, hf]
      have e2 : numE s.data.toList most = 4 := by simp [numE, hf]
      rw [e1, e2]
      clear e1 e2 hf
      have l0' : (s[0].toNat : Int) = 48 := by omega
      have l1' : 1 < (s.size : Int) := by omega
      go_enter Tryd.func19, Tryd.ntmps19
      go_wp2_with (fail)
      go_ret2
      exact ⟨rfl, rfl⟩
    · have HL := Lib.hid hl
      obtain ⟨V, hV⟩ : ∃ V, V = numV s.data.toList most := ⟨_, rfl⟩
      obtain ⟨E, hE⟩ : ∃ E, E = numE s.data.toList most := ⟨_, rfl⟩
      rw [← hV, ← hE]
      have HV := Lib.hid hV
      have HE := Lib.hid hE
      clear hV hE
      have key : ∀ K : Prop, ((s[0].toNat : Int) = 48 → (s.size : Int) ≤ 1 → K) → (¬ (s[0].toNat : Int) = 48 → K) → K := by
        intro K k1 k2
        by_cases c : s[0].toNat = 48
        · exact k1 (by omega) (by have := fun h => hl ⟨c, h⟩; omega)
        · exact k2 (by omega)
      clear hl
      refine key _ (fun l0' l1' => ?_) (fun l0' => ?_)
      all_goals
        go_enter Tryd.func19, Tryd.ntmps19
        go_wp2_with (fail)
        go_loopw [6] (fun i wr => ∃ n : Nat, i = .int .i64 n ∧ n ≤ s.size ∧ Hid (digs (s.data.toList.take n) = true) ∧ wr = w) (fun i _ => s.size - (intOf i).toNat)
        case atStart => exact ⟨0, rfl, by omega, Lib.hid rfl, rfl⟩
        case round =>
          obtain ⟨n, rfl, hn, HD, rfl⟩ := hrel
          by_cases hlt : n < s.size
          · have hn1 : wrap64 ((n : Int) + 1) = (n : Int) + 1 := by unfold wrap64; omega
            rcases hd : isDig s[n].toNat with _ | _
            · have hf := form_bad s n hlt hd
              have hv := HV.out
              have he := HE.out
              simp [numV, hf] at hv
              simp [numE, hf] at he
              clear HV HE hf
              subst V E
              go_wp2_with (first | (go_at_call 32; refine (rdigit_s s n hlt _).mono ?_; rintro e w' ⟨rfl, rfl⟩; rw [hd]))
              go_ret2
              exact ⟨rfl, rfl⟩
            · have hdg := digs_step s n hlt
              rw [HD.out, hd] at hdg
              have HD2 := Lib.hid hdg
              clear hdg
              go_wp2_with (first | (go_at_call 32; refine (rdigit_s s n hlt _).mono ?_; rintro e w' ⟨rfl, rfl⟩; rw [hd]))
              go_roundw
              case rel => exact ⟨n + 1, by go_num, by omega, HD2, trivial⟩
              case measure => simp [intOf]; omega
          · obtain rfl : n = s.size := by omega
            have hdl : digs s.data.toList = true := by have := HD.out; rwa [take_all] at this
            have hf := form_ok s (by omega) HL.out hdl
            have HDL := Lib.hid hdl
            have hv := HV.out
            have he := HE.out
            simp only [numV, hf, Bool.true_and] at hv
            simp only [numE, hf, if_true] at he
            have HV2 := Lib.hid hv
            have HE2 := Lib.hid he
            clear hdl hf hv he HV HE HD
            go_wp2_with (fail)
            go_loopw [7, 8, 9] (fun v7 i _ wq => ∃ (n : Nat) (x : Int), v7 = .int .i64 x ∧ i = .int .i64 n ∧ n ≤ s.size ∧ Hid (x = (val (s.data.toList.take n) : Nat)) ∧ Hid (0 < n → fits (s.data.toList.take n) most = true) ∧ wq = wr) (fun _ i _ _ => s.size - (intOf i).toNat)
            case atStart => exact ⟨0, 0, rfl, rfl, by omega, Lib.hid rfl, Lib.hid (fun h => absurd h (by omega)), rfl⟩
            case round =>
              obtain ⟨n, x, rfl, rfl, hn, HX, HF, rfl⟩ := hrel
              by_cases hlt : n < s.size
              · have hn1 : wrap64 ((n : Int) + 1) = (n : Int) + 1 := by unfold wrap64; omega
                have hd : isDig s[n].toNat = true := by
                  have h := HDL.out
                  unfold digs at h
                  exact List.all_eq_true.1 h s[n] (List.getElem_mem (l := s.data.toList) (n := n) (by simpa using hlt))
                obtain ⟨b0, b1⟩ := isDig_iff.1 hd
                obtain ⟨d, hdd⟩ : ∃ d, d = s[n].toNat - 48 := ⟨_, rfl⟩
                obtain ⟨di, hdi⟩ : ∃ di : Int, di = (d : Nat) := ⟨_, rfl⟩
                have hwd := wrap_dig _ b0 b1
                rw [← hdd, ← hdi] at hwd
                have hd9 : d ≤ 9 := by omega
                have hwd2 : wrap64 di = di := by unfold wrap64; omega
                have hvs := val_step s n hlt
                rw [← hdd] at hvs
                have hx := HX.out
                by_cases hneg : most < 0
                · have hno : fits s.data.toList most = false := by
                    unfold fits
                    rw [decide_eq_false (by omega), Bool.false_and]
                  have hv := HV2.out
                  have he := HE2.out
                  rw [hno] at hv he
                  simp at hv he
                  clear HV2 HE2 hno HX HF
                  subst V E
                  clear hvs hx hdi hdd hd9 hs hm0 hm1 b0 b1
                  go_wp2_with (fail)
                  go_ret2
                  exact ⟨rfl, rfl⟩
                · have hm : 0 ≤ most := by omega
                  have hfg := fits_go s n most hlt hm
                  rw [← hdd] at hfg
                  have hwm : wrap64 (most - di) = most - di := by unfold wrap64; omega
                  obtain ⟨q, hq⟩ : ∃ q, q = (most - di).tdiv 10 := ⟨_, rfl⟩
                  have hqb : (most < di → q = 0) ∧ (di ≤ most → 10 * q ≤ most - di ∧ most - di < 10 * q + 10 ∧ 0 ≤ q) := by
                    constructor
                    · intro h
                      obtain ⟨y, hy⟩ : ∃ y : Nat, most - di = -(y : Int) := ⟨(most - di).natAbs, by omega⟩
                      rw [hq, hy, Int.neg_tdiv, Int.tdiv_eq_ediv_of_nonneg (by omega)]
                      omega
                    · intro h
                      have := tdiv_ten (most - di) (by omega)
                      rw [← hq] at this
                      exact this
                  have hwq : wrap64 q = q := by unfold wrap64; omega
                  have hq' := hq.symm
                  have hno2 : ∀ hf : fits (s.data.toList.take (n + 1)) most = false, V = 0 ∧ E = 40 := by
                    intro hf
                    have hno := fits_all s most _ (n + 1) rfl hf
                    have hv := HV2.out
                    have he := HE2.out
                    rw [hno] at hv he
                    simp at hv he
                    exact ⟨hv, he⟩
                  have hnn : ¬ most < 0 := hneg
                  by_cases c1 : q < x
                  · obtain ⟨rfl, rfl⟩ := hno2 (by
                      rw [hfg, decide_eq_false_iff_not]
                      by_cases c : di ≤ most
                      · have := hqb.2 c
                        omega
                      · omega)
                    clear HV2 HE2 HX HF hvs hx hdi hdd hd9 hs hm0 hm1 b0 b1 hno2 hqb hfg hq hm
                    go_wp2_with (fail)
                    go_ret2
                    exact ⟨rfl, rfl⟩
                  · by_cases c2 : most < di
                    · obtain ⟨rfl, rfl⟩ := hno2 (by
                        rw [hfg, decide_eq_false_iff_not]
                        omega)
                      clear HV2 HE2 HX HF hvs hx hdi hdd hd9 hs hm0 hm1 b0 b1 hno2 hqb hfg hq hm
                      go_wp2_with (fail)
                      go_ret2
                      exact ⟨rfl, rfl⟩
                    · have hqq := hqb.2 (by omega)
                      have hyes : fits (s.data.toList.take (n + 1)) most = true := by
                        rw [hfg, decide_eq_true_iff]
                        omega
                      have hx10 : wrap64 (10 * x) = 10 * x := by unfold wrap64; omega
                      have hxd : wrap64 (10 * x + di) = 10 * x + di := by unfold wrap64; omega
                      have HX2 : Hid (10 * x + di = (val (s.data.toList.take (n + 1)) : Nat)) := Lib.hid (by rw [hvs]; omega)
                      have HF2 := Lib.hid hyes
                      clear HX HF hvs hx hdi hdd hd9 hs hm0 hm1 b0 b1 hno2 hqb hfg hq hm hqq hyes
                      go_wp2_with (fail)
                      go_roundw
                      case rel => exact ⟨n + 1, 10 * x + di, by first | rfl | rw [hxd], by go_num, hlt, HX2, Lib.hid (fun _ => HF2.out), trivial⟩
                      case measure => first | exact meas_step hlt | (rw [hn1]; exact meas_step hlt)
              · obtain rfl : n = s.size := by omega
                have hf := HF.out (by omega)
                rw [take_all] at hf
                have hx := HX.out
                rw [take_all] at hx
                have hv := HV2.out
                have he := HE2.out
                rw [hf] at hv he
                simp at hv he
                rw [← hx] at hv
                clear HV2 HE2 HX HF hf hx
                subst V E
                go_wp2_with (fail)
                go_ret2
                exact ⟨rfl, rfl⟩
end Go.Proofs.YtlekhoicdmgbcaaDoor

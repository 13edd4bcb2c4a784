/- Package name: Num. -/
import Derived.WalkMore
import Derived.ScopeJumps
import Derived.Test.YtjeogbdeagkomaaDoorVN1
namespace Go.Proofs.YtjeogbdeagkomaaDoor
open Go.RowKit Nm

@[go_sem] theorem jump_normal (l : Nat) (J : Act → World → Prop) (Q : Exit → Act → World → Prop) (a : Act) (w : World) : Exit.jump l J Q .normal a w = Q .normal a w := rfl
@[go_sem] theorem jump_exit (l : Nat) (J : Act → World → Prop) (Q : Exit → Act → World → Prop) (a : Act) (w : World) (id : Nat) : Exit.jump l J Q (.exit id) a w = Q (.exit id) a w := rfl
@[go_sem] theorem jump_ret (l : Nat) (J : Act → World → Prop) (Q : Exit → Act → World → Prop) (a : Act) (w : World) : Exit.jump l J Q .ret a w = Q .ret a w := rfl
@[go_sem] theorem jump_goto (l : Nat) (J : Act → World → Prop) (Q : Exit → Act → World → Prop) (a : Act) (w : World) : Exit.jump l J Q (.goto l) a w = J a w := by
  simp [Exit.jump]

theorem meas_step {m n : Nat} (h : n < m) : m - (intOf (.int .i64 ((n : Int) + 1))).toNat < m - (intOf (.int .i64 (n : Int))).toNat := by
  simp only [intOf]
  omega
theorem wrap_dig (b : Nat) (h1 : 48 ≤ b) (h2 : b ≤ 57) : IntKind.u8.wrap ((b : Int) - 48) = ((b - 48 : Nat) : Int) := by
  rw [IntWalk.u8_in] <;> omega

set_option maxRecDepth 100000 in
set_option maxHeartbeats 4000000 in
theorem num_any (s : ByteArray) (hs : s.size < 9223372036854775807) (most : Int) (hm0 : -9223372036854775808 ≤ most) (hm1 : most ≤ 9223372036854775807) (w : World) :
    Calls Tryd.prog 167 #[.string s, .int .i64 most] w fun e w' => e = .returned (.tuple #[.int .i64 (numV s.data.toList most), .int .i64 (numE s.data.toList most)]) ∧ w' = w := by
  obtain ⟨V, hV⟩ : ∃ V, V = numV s.data.toList most := ⟨_, rfl⟩
  obtain ⟨E, hE⟩ : ∃ E, E = numE s.data.toList most := ⟨_, rfl⟩
  rw [← hV, ← hE]
  have HV := Lib.hid hV
  have HE := Lib.hid hE
  clear hV hE
  go_enter Tryd.func167, Tryd.ntmps167
  go_wp2_with (fail)
  refine wp_scope_jumps 0 (fun a w' => a.tmps.size = 63 ∧ a.defers = [] ∧ w' = w ∧ Hid (form s.data.toList = false)) (fun _ _ => 0) rfl ?first ?pass
  case pass =>
    rintro a w' ⟨h1, h2, rfl, h3⟩
    obtain ⟨⟨l⟩, d⟩ := a
    simp only at h1 h2
    subst h2
    have hv := HV.out
    have he := HE.out
    have hf := h3.out
    simp [numV, hf] at hv
    simp [numE, hf] at he
    subst hv he
    clear hf h3 HV HE
    iterate 63 (rcases l with _ | ⟨_, l⟩; · simp at h1)
    obtain rfl : l = [] := by
      cases l with
      | nil => rfl
      | cons _ _ => simp at h1
    clear h1
    go_wp2
    rw [jump_ret]
    go_ret2
    exact ⟨rfl, rfl⟩
  case first =>
    by_cases hz : s.size = 0
    · obtain rfl := size_eq s hz
      go_wp2
      all_goals (try go_step3)
      all_goals go_wp2
      exact Lib.hid rfl
    · have h1 := size_ne s hz
      have h1' : s.toList.isEmpty = false := by simpa using h1
      have hpos : 0 < s.size := by omega
      by_cases hl : s[0].toNat = 48 ∧ 1 < s.size
      · obtain ⟨l0, l1⟩ := hl
        have hf := Lib.hid (form_lead s l1 l0)
        have l0' : (s[0].toNat : Int) = 48 := by omega
        have l1' : 1 < (s.size : Int) := by omega
        go_wp2
        all_goals (try go_step3)
        all_goals go_wp2
        rw [jump_goto]
        exact ⟨rfl, rfl, rfl, hf⟩
      · have HL := Lib.hid hl
        have key : ∀ K : Prop, ((s[0].toNat : Int) = 48 → (s.size : Int) ≤ 1 → K) → ((s[0].toNat : Int) ≠ 48 → K) → K := by
          intro K k1 k2
          by_cases c : s[0].toNat = 48
          · exact k1 (by omega) (by have := fun h => hl ⟨c, h⟩; omega)
          · exact k2 (by omega)
        clear hl
        refine key _ (fun l0' l1' => ?_) (fun l0' => ?_)
        all_goals go_wp2_with (fail)
        all_goals
          go_loopw [6, 7, 8, 9, 26] (fun v6 v7 _ _ i wr => ∃ (n : Nat) (f : Bool) (x : Int), v6 = .int .i64 x ∧ v7 = .bool f ∧ i = .int .i64 n ∧ n ≤ s.size ∧ Hid (digs (s.data.toList.take n) = true) ∧ Hid (f = fits (s.data.toList.take n) most) ∧ Hid (f = true → x = (val (s.data.toList.take n) : Nat)) ∧ wr = w) (fun _ _ _ _ i _ => s.size - (intOf i).toNat)
          case atStart => exact ⟨0, decide (0 ≤ most), 0, rfl, rfl, rfl, by omega, Lib.hid rfl, Lib.hid (fits_nil _).symm, Lib.hid (fun _ => rfl), rfl⟩
          case round =>
            obtain ⟨n, f, x, rfl, rfl, rfl, hn, HD, HF, HX, rfl⟩ := hrel
            by_cases hlt : n < s.size
            · have hn1 : wrap64 ((n : Int) + 1) = (n : Int) + 1 := by unfold wrap64; omega
              rcases hd : isDig s[n].toNat with _ | _
              · have hf := Lib.hid (form_bad s n hlt hd)
                go_wp2_with (first | (go_at_call 130; refine (digit_s s n hlt _).mono ?_; rintro e w' ⟨rfl, rfl⟩; rw [hd]))
                all_goals (try go_step3)
                all_goals go_wp2
                rw [jump_goto]
                exact ⟨rfl, rfl, rfl, hf⟩
              · obtain ⟨b0, b1⟩ := isDig_iff.1 hd
                obtain ⟨d, hdd⟩ : ∃ d, d = s[n].toNat - 48 := ⟨_, rfl⟩
                have hwd := wrap_dig _ b0 b1
                rw [← hdd] at hwd
                have hd9 : d ≤ 9 := by omega
                have hwd2 : wrap64 (d : Int) = (d : Int) := by unfold wrap64; omega
                have HDD := Lib.hid hdd
                have hdg := digs_step s n hlt
                rw [HD.out, hd] at hdg
                have HD2 := Lib.hid hdg
                clear hdg hdd b0 b1
                rcases f with _ | _
                · have HF2 := Lib.hid (fits_no s n most hlt HF.out.symm).symm
                  go_wp2_with (first | (go_at_call 130; refine (digit_s s n hlt _).mono ?_; rintro e w' ⟨rfl, rfl⟩; rw [hd]))
                  go_roundw
                  case rel => exact ⟨n + 1, false, x, rfl, rfl, by go_num, hlt, HD2, HF2, Lib.hid (fun h => by cases h), trivial⟩
                  case measure => first | exact meas_step hlt | (rw [hn1]; exact meas_step hlt)
                · obtain ⟨v, hv⟩ : ∃ v : Int, v = (val (s.data.toList.take n) : Nat) := ⟨_, rfl⟩
                  obtain ⟨di, hdi⟩ : ∃ di : Int, di = (d : Nat) := ⟨_, rfl⟩
                  obtain ⟨m0, m1⟩ := fits_yes HF.out.symm
                  have hx := HX.out rfl
                  have hfg := fits_go s n most hlt m0
                  have hvs := val_step s n hlt
                  rw [← HDD.out] at hfg hvs
                  rw [← hdi] at hwd hwd2
                  rw [← hv] at hx m1
                  subst hx
                  obtain ⟨q, hq⟩ : ∃ q, q = most.tdiv 10 := ⟨_, rfl⟩
                  obtain ⟨q0, q1, q2⟩ := tdiv_ten most m0
                  rw [← hq] at q0 q1 q2
                  have hq' := hq.symm
                  have hwq : wrap64 q = q := by unfold wrap64; omega
                  have hwm : wrap64 (most - di) = most - di := by unfold wrap64; omega
                  by_cases c1 : x ≤ q
                  · have hwv : wrap64 (x * 10) = x * 10 := by unfold wrap64; omega
                    by_cases c2 : x * 10 ≤ most - di
                    · have hwn : wrap64 (x * 10 + di) = x * 10 + di := by unfold wrap64; omega
                      have HF2 : Hid (true = fits (s.data.toList.take (n + 1)) most) := Lib.hid (by rw [hfg]; symm; rw [decide_eq_true_iff]; omega)
                      have HX2 : Hid (x * 10 + di = (val (s.data.toList.take (n + 1)) : Nat)) := Lib.hid (by rw [hvs]; omega)
                      clear hq hfg hvs m0 m1 q0 q1 q2 hd9 hv hdi hs hm0 hm1
                      go_wp2_with (first | (go_at_call 130; refine (digit_s s n hlt _).mono ?_; rintro e w' ⟨rfl, rfl⟩; rw [hd]))
                      go_roundw
                      case rel => exact ⟨n + 1, true, x * 10 + di, by rw [hwn], rfl, by go_num, hlt, HD2, HF2, Lib.hid (fun _ => HX2.out), trivial⟩
                      case measure => first | exact meas_step hlt | (rw [hn1]; exact meas_step hlt)
                    · have HF2 : Hid (false = fits (s.data.toList.take (n + 1)) most) := Lib.hid (by rw [hfg]; symm; rw [decide_eq_false_iff_not]; omega)
                      have c2d : decide (x * 10 ≤ most - di) = false := decide_eq_false c2
                      clear hq hfg hvs m0 m1 q0 q1 q2 hd9 hv hdi hs hm0 hm1
                      go_wp2_with (first | (go_at_call 130; refine (digit_s s n hlt _).mono ?_; rintro e w' ⟨rfl, rfl⟩; rw [hd]))
                      go_roundw
                      case rel => exact ⟨n + 1, false, x, rfl, rfl, by go_num, hlt, HD2, HF2, Lib.hid (fun h => by cases h), trivial⟩
                      case measure => first | exact meas_step hlt | (rw [hn1]; exact meas_step hlt)
                  · have HF2 : Hid (false = fits (s.data.toList.take (n + 1)) most) := Lib.hid (by rw [hfg]; symm; rw [decide_eq_false_iff_not]; omega)
                    clear hq hfg hvs m0 m1 q0 q1 q2 hd9 hv hdi hs hm0 hm1
                    go_wp2_with (first | (go_at_call 130; refine (digit_s s n hlt _).mono ?_; rintro e w' ⟨rfl, rfl⟩; rw [hd]))
                    go_roundw
                    case rel => exact ⟨n + 1, false, x, rfl, rfl, by go_num, hlt, HD2, HF2, Lib.hid (fun h => by cases h), trivial⟩
                    case measure => first | exact meas_step hlt | (rw [hn1]; exact meas_step hlt)
            · obtain rfl : n = s.size := by omega
              have hf := form_ok s (by omega) HL.out (by have := HD.out; rwa [take_all] at this)
              have e1 := HF.out
              have e2 := HX.out
              rw [take_all] at e1 e2
              have hV := HV.out
              have hE := HE.out
              unfold numV at hV
              unfold numE at hE
              rw [hf, ← e1] at hV
              rw [hf, ← e1] at hE
              rcases f with _ | _
              · simp at hV hE
                clear e1 e2 hf HV HE
                subst V E
                go_wp2
                try rw [jump_ret]
                go_ret2
                exact ⟨rfl, rfl⟩
              · have e3 := e2 rfl
                rw [← e3] at hV
                simp at hV hE
                clear e1 e2 e3 hf HV HE
                subst V E
                go_wp2
                try rw [jump_ret]
                go_ret2
                exact ⟨rfl, rfl⟩
end Go.Proofs.YtjeogbdeagkomaaDoor

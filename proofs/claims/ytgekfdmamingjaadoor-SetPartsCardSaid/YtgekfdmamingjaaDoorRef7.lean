/- The document's own answers (bonsairef01): Runs. -/
import Derived.Test.YtgekfdmamingjaaDoorRef6
import Derived.Test.YtgekfdmamingjaaDoorRefRM
import Derived.Test.YtgekfdmamingjaaDoorRuns
namespace Go.Proofs.YtgekfdmamingjaaDoor
open Go.RowKit Bset

set_option maxRecDepth 100000 in
set_option maxHeartbeats 8000000 in
theorem rruns_any (S : Nat → Bool) (w : World) :
    Calls Tryd.prog 29 #[setV S] w fun e w' => ∃ v, e = .returned v ∧ w'.ownsRow (w.heap.size + 1) 40 2 v (runsOf S).length (runC (runsOf S)) ∧ Below w.heap.size w w' := by
  obtain ⟨i0, hi, hz0, hz1, hz2⟩ := info_parts infoRun
  have x0 := Cl.new w 26 (setC S)
  have hB0 : Below w.heap.size w (w.alloc (.cells (setC S) 26)) := (Below.refl _ w).alloc (Nat.le_refl _) _
  go_enter Tryd.func29, Tryd.ntmps29
  go_wp2_with (fail)
  go_loopw [3, 4] (fun v i wr => ∃ n pre post, i = .int .i64 (n : Nat) ∧ n ≤ 256 ∧ Hid (RunInv S n pre post) ∧ Cl wr w.heap.size 26 (setC S) ∧ wr.ownsRow (w.heap.size + 1) 40 2 v pre.length (runC pre) ∧ Below w.heap.size w wr) (fun _ i _ => 256 - (intOf i).toNat)
  case atStart => exact ⟨0, [], runsOf S, rfl, by omega, Lib.hid (RunInv.begin S), x0, World.ownsRow_nil _ _ _ _, hB0⟩
  case round =>
    obtain ⟨n, pre, post, rfl, h1, HI, hx, hown, hB⟩ := hrel
    clear x0 hB0
    by_cases hlt : n < 256
    · have hn8 : IntKind.u8.wrap (n : Int) = (n : Int) := IntWalk.u8_in _ (by omega)
      have hni : (n : Int) < 256 := by omega
      have hinv := HI.out
      have x00 := hx.word 0 (by omega)
      have x01 := hx.word 1 (by omega)
      have x02 := hx.word 2 (by omega)
      have x03 := hx.word 3 (by omega)
      clear HI
      rcases hS : S n with _ | _
      · have HI2 := Lib.hid (hinv.skip hlt (.inl hS))
        clear hinv
        go_wp2_with (go_at_call 25; refine (rhas_any _ _ (by omega) _).mono ?_; rintro e w' ⟨rfl, hb⟩; replace hx := hx.below hb hx.lt; replace hown := ownsRow_below hown hb; replace hB := hB.trans (hb.mono hB.size); clear hb; replace x00 := hx.word 0 (by omega); replace x01 := hx.word 1 (by omega); replace x02 := hx.word 2 (by omega); replace x03 := hx.word 3 (by omega))
        go_roundw
        case rel => exact ⟨n + 1, pre, post, by go_num, by omega, HI2, hx, hown, hB⟩
        case measure => simp [intOf]; omega
      · by_cases hn0 : n = 0
        · have p0 : ¬ (0 : Int) < (n : Int) := by omega
          have p1 : ¬ 0 < n := by omega
          have hor : n = 0 ∨ S (n - 1) = false := .inl hn0
          clear hn0
          obtain ⟨c, post', rfl, c1, c2, c3, c4, hinv2⟩ := hinv.start hlt hS hor
          have hpl := hinv.len_lt
          have HI2 := Lib.hid hinv2
          have C3 := Lib.hid c3
          have C4 := Lib.hid c4
          clear hinv hinv2 c3 c4
          generalize hL : pre.length = L at hown hpl
          have HL := Lib.hid hL
          clear hL
          go_wp2_with (go_at_call 25; refine (rhas_any _ _ (by omega) _).mono ?_; rintro e w' ⟨rfl, hb⟩; replace hx := hx.below hb hx.lt; replace hown := ownsRow_below hown hb; replace hB := hB.trans (hb.mono hB.size); clear hb; replace x00 := hx.word 0 (by omega); replace x01 := hx.word 1 (by omega); replace x02 := hx.word 2 (by omega); replace x03 := hx.word 3 (by omega))
          go_loopw [5] (fun tv wr2 => ∃ t : Nat, tv = .int .i64 t ∧ n ≤ t ∧ t ≤ c ∧ Cl wr2 w.heap.size 26 (setC S) ∧ wr2.ownsRow (w.heap.size + 1) 40 2 u3 L (runC pre) ∧ Below w.heap.size w wr2) (fun tv _ => c - (intOf tv).toNat)
          case atStart => exact ⟨n, rfl, Nat.le_refl _, c1, hx, hown, hB⟩
          case round =>
            clear hx hown hB x00 x01 x02 x03
            obtain ⟨t, rfl, ht1, ht2, hx, hown, hB⟩ := hrel
            have x00 := hx.word 0 (by omega)
            have x01 := hx.word 1 (by omega)
            have x02 := hx.word 2 (by omega)
            have x03 := hx.word 3 (by omega)
            obtain ⟨t2, ht2'⟩ : ∃ t2, t2 = t + 1 := ⟨_, rfl⟩
            by_cases htc : t < c
            · have hS2 : S t2 = true := C3.out t2 (by omega) (by omega)
              have w8 : IntKind.u8.wrap ((t : Int) + 1) = (t2 : Int) := by rw [IntWalk.u8_in _ (by omega)]; omega
              have w64 : IntKind.i64.wrap ((t : Int) + 1) = (t : Int) + 1 := IntWalk.i64_in _ (by omega)
              have h255 : (t : Int) < 255 := by omega
              have HT2 := Lib.hid ht2'
              have h2lt : t2 < 256 := by omega
              clear ht2'
              go_wp2_with (go_at_call 25; refine (rhas_any _ _ h2lt _).mono ?_; rintro e w' ⟨rfl, hb⟩; replace hx := hx.below hb hx.lt; replace hown := ownsRow_below hown hb; replace hB := hB.trans (hb.mono hB.size); clear hb)
              go_roundw
              case rel => exact ⟨t2, by rw [HT2.out]; go_num, by have := HT2.out; omega, by have := HT2.out; omega, hx, hown, hB⟩
              case measure => have := HT2.out; simp [intOf]; omega
            · obtain rfl : t = c := by omega
              have t8 : IntKind.u8.wrap (t : Int) = (t : Int) := IntWalk.u8_in _ (by omega)
              rcases C4.out with hc5 | hc5
              · have h255 : ¬ (t : Int) < 255 := by omega
                have hc6 := Lib.hid hc5
                have ht2b := Lib.hid ht2'
                clear hc5 ht2'
                go_wp2_with (first
                  | (at_builtin; refine wpList_append_own _ rfl _ _ 36 rfl (w.heap.size + 1) 40 i0 (.agg #[.int .u8 0, .int .u8 0]) 2 2 Tryd.underlying36 hi hz0 hz1 hz2 rfl (by decide) _ _ _ rfl (hown.alloc _) ⟨_, 0, none⟩ 1 1 [.int .u8 n, .int .u8 t] rfl rfl (cell_two_new _ _ _ _) (by simp [Value.oneCell']) (by unfold maxLen; omega) (by omega) (by have := hx.lt; simp; omega) ?_; intro v' w1 hown' hgrow _))
                go_roundw
                case rel =>
                  have hlt1 := hx.lt
                  refine ⟨n + 1, pre ++ [(n, t)], post', by go_num, by omega, HI2, ?_, ?_, ?_⟩
                  · exact (hgrow.block w.heap.size (by simp; omega) (fun e => by have := (hown.lt w.heap.size e.symm).1; omega)).trans (hx.alloc _)
                  · rw [List.length_append, HL.out, runC_snoc]
                    exact hown'
                  · exact (hB.alloc hB.size _).grown hgrow (by simp; omega) (fun j hj => by have := (hown.lt j hj).1; omega)
                case measure => simp [intOf]; omega
              · by_cases ht255 : t < 255
                · have w8 : IntKind.u8.wrap ((t : Int) + 1) = (t2 : Int) := by rw [IntWalk.u8_in _ (by omega)]; omega
                  have w64 : IntKind.i64.wrap ((t : Int) + 1) = (t : Int) + 1 := IntWalk.i64_in _ (by omega)
                  rw [← ht2'] at hc5
                  have h2lt : t2 < 256 := by omega
                  have h255 : (t : Int) < 255 := by omega
                  have ht2b := Lib.hid ht2'
                  clear ht2'
                  go_wp2_with (first
                    | (go_at_call 25; refine (rhas_any _ _ h2lt _).mono ?_; rintro e w' ⟨rfl, hb⟩; replace hx := hx.below hb hx.lt; replace hown := ownsRow_below hown hb; replace hB := hB.trans (hb.mono hB.size); clear hb)
                    | (at_builtin; refine wpList_append_own _ rfl _ _ 36 rfl (w.heap.size + 1) 40 i0 (.agg #[.int .u8 0, .int .u8 0]) 2 2 Tryd.underlying36 hi hz0 hz1 hz2 rfl (by decide) _ _ _ rfl (hown.alloc _) ⟨_, 0, none⟩ 1 1 [.int .u8 n, .int .u8 t] rfl rfl (cell_two_new _ _ _ _) (by simp [Value.oneCell']) (by unfold maxLen; omega) (by omega) (by have := hx.lt; simp; omega) ?_; intro v' w1 hown' hgrow _))
                  go_roundw
                  case rel =>
                    have hlt1 := hx.lt
                    refine ⟨n + 1, pre ++ [(n, t)], post', by go_num, by omega, HI2, ?_, ?_, ?_⟩
                    · exact (hgrow.block w.heap.size (by simp; omega) (fun e => by have := (hown.lt w.heap.size e.symm).1; omega)).trans (hx.alloc _)
                    · rw [List.length_append, HL.out, runC_snoc]
                      exact hown'
                    · exact (hB.alloc hB.size _).grown hgrow (by simp; omega) (fun j hj => by have := (hown.lt j hj).1; omega)
                  case measure => simp [intOf]; omega
                · have h255 : ¬ (t : Int) < 255 := by omega
                  have hc6 := Lib.hid hc5
                  have ht2b := Lib.hid ht2'
                  clear hc5 ht2'
                  go_wp2_with (first
                    | (at_builtin; refine wpList_append_own _ rfl _ _ 36 rfl (w.heap.size + 1) 40 i0 (.agg #[.int .u8 0, .int .u8 0]) 2 2 Tryd.underlying36 hi hz0 hz1 hz2 rfl (by decide) _ _ _ rfl (hown.alloc _) ⟨_, 0, none⟩ 1 1 [.int .u8 n, .int .u8 t] rfl rfl (cell_two_new _ _ _ _) (by simp [Value.oneCell']) (by unfold maxLen; omega) (by omega) (by have := hx.lt; simp; omega) ?_; intro v' w1 hown' hgrow _))
                  go_roundw
                  case rel =>
                    have hlt1 := hx.lt
                    refine ⟨n + 1, pre ++ [(n, t)], post', by go_num, by omega, HI2, ?_, ?_, ?_⟩
                    · exact (hgrow.block w.heap.size (by simp; omega) (fun e => by have := (hown.lt w.heap.size e.symm).1; omega)).trans (hx.alloc _)
                    · rw [List.length_append, HL.out, runC_snoc]
                      exact hown'
                    · exact (hB.alloc hB.size _).grown hgrow (by simp; omega) (fun j hj => by have := (hown.lt j hj).1; omega)
                  case measure => simp [intOf]; omega
        · have p0 : (0 : Int) < (n : Int) := by omega
          have p1 : 0 < n := by omega
          obtain ⟨j, hj⟩ : ∃ j, j = n - 1 := ⟨_, rfl⟩
          have hj8 : IntKind.u8.wrap ((n : Int) - 1) = (j : Int) := by rw [IntWalk.u8_in _ (by omega)]; omega
          have hj64 : IntKind.i64.wrap ((n : Int) - 1) = (n : Int) - 1 := IntWalk.i64_in _ (by omega)
          have hjlt : j < 256 := by omega
          rcases hSj : S j with _ | _
          · have hor : n = 0 ∨ S (n - 1) = false := .inr (by rw [← hj]; exact hSj)
            have HJ := Lib.hid hj
            clear hj hn0
            obtain ⟨c, post', rfl, c1, c2, c3, c4, hinv2⟩ := hinv.start hlt hS hor
            have hpl := hinv.len_lt
            have HI2 := Lib.hid hinv2
            have C3 := Lib.hid c3
            have C4 := Lib.hid c4
            clear hinv hinv2 c3 c4
            generalize hL : pre.length = L at hown hpl
            have HL := Lib.hid hL
            clear hL
            go_wp2_with (go_at_call 25; refine (rhas_any _ _ (by omega) _).mono ?_; rintro e w' ⟨rfl, hb⟩; replace hx := hx.below hb hx.lt; replace hown := ownsRow_below hown hb; replace hB := hB.trans (hb.mono hB.size); clear hb; replace x00 := hx.word 0 (by omega); replace x01 := hx.word 1 (by omega); replace x02 := hx.word 2 (by omega); replace x03 := hx.word 3 (by omega))
            go_loopw [5] (fun tv wr2 => ∃ t : Nat, tv = .int .i64 t ∧ n ≤ t ∧ t ≤ c ∧ Cl wr2 w.heap.size 26 (setC S) ∧ wr2.ownsRow (w.heap.size + 1) 40 2 u3 L (runC pre) ∧ Below w.heap.size w wr2) (fun tv _ => c - (intOf tv).toNat)
            case atStart => exact ⟨n, rfl, Nat.le_refl _, c1, hx, hown, hB⟩
            case round =>
              clear hx hown hB x00 x01 x02 x03
              obtain ⟨t, rfl, ht1, ht2, hx, hown, hB⟩ := hrel
              have x00 := hx.word 0 (by omega)
              have x01 := hx.word 1 (by omega)
              have x02 := hx.word 2 (by omega)
              have x03 := hx.word 3 (by omega)
              obtain ⟨t2, ht2'⟩ : ∃ t2, t2 = t + 1 := ⟨_, rfl⟩
              by_cases htc : t < c
              · have hS2 : S t2 = true := C3.out t2 (by omega) (by omega)
                have w8 : IntKind.u8.wrap ((t : Int) + 1) = (t2 : Int) := by rw [IntWalk.u8_in _ (by omega)]; omega
                have w64 : IntKind.i64.wrap ((t : Int) + 1) = (t : Int) + 1 := IntWalk.i64_in _ (by omega)
                have h255 : (t : Int) < 255 := by omega
                have HT2 := Lib.hid ht2'
                have h2lt : t2 < 256 := by omega
                clear ht2'
                go_wp2_with (go_at_call 25; refine (rhas_any _ _ h2lt _).mono ?_; rintro e w' ⟨rfl, hb⟩; replace hx := hx.below hb hx.lt; replace hown := ownsRow_below hown hb; replace hB := hB.trans (hb.mono hB.size); clear hb)
                go_roundw
                case rel => exact ⟨t2, by rw [HT2.out]; go_num, by have := HT2.out; omega, by have := HT2.out; omega, hx, hown, hB⟩
                case measure => have := HT2.out; simp [intOf]; omega
              · obtain rfl : t = c := by omega
                have t8 : IntKind.u8.wrap (t : Int) = (t : Int) := IntWalk.u8_in _ (by omega)
                rcases C4.out with hc5 | hc5
                · have h255 : ¬ (t : Int) < 255 := by omega
                  have hc6 := Lib.hid hc5
                  have ht2b := Lib.hid ht2'
                  clear hc5 ht2'
                  go_wp2_with (first
                    | (at_builtin; refine wpList_append_own _ rfl _ _ 36 rfl (w.heap.size + 1) 40 i0 (.agg #[.int .u8 0, .int .u8 0]) 2 2 Tryd.underlying36 hi hz0 hz1 hz2 rfl (by decide) _ _ _ rfl (hown.alloc _) ⟨_, 0, none⟩ 1 1 [.int .u8 n, .int .u8 t] rfl rfl (cell_two_new _ _ _ _) (by simp [Value.oneCell']) (by unfold maxLen; omega) (by omega) (by have := hx.lt; simp; omega) ?_; intro v' w1 hown' hgrow _))
                  go_roundw
                  case rel =>
                    have hlt1 := hx.lt
                    refine ⟨n + 1, pre ++ [(n, t)], post', by go_num, by omega, HI2, ?_, ?_, ?_⟩
                    · exact (hgrow.block w.heap.size (by simp; omega) (fun e => by have := (hown.lt w.heap.size e.symm).1; omega)).trans (hx.alloc _)
                    · rw [List.length_append, HL.out, runC_snoc]
                      exact hown'
                    · exact (hB.alloc hB.size _).grown hgrow (by simp; omega) (fun j hj => by have := (hown.lt j hj).1; omega)
                  case measure => simp [intOf]; omega
                · by_cases ht255 : t < 255
                  · have w8 : IntKind.u8.wrap ((t : Int) + 1) = (t2 : Int) := by rw [IntWalk.u8_in _ (by omega)]; omega
                    have w64 : IntKind.i64.wrap ((t : Int) + 1) = (t : Int) + 1 := IntWalk.i64_in _ (by omega)
                    rw [← ht2'] at hc5
                    have h2lt : t2 < 256 := by omega
                    have h255 : (t : Int) < 255 := by omega
                    have ht2b := Lib.hid ht2'
                    clear ht2'
                    go_wp2_with (first
                      | (go_at_call 25; refine (rhas_any _ _ h2lt _).mono ?_; rintro e w' ⟨rfl, hb⟩; replace hx := hx.below hb hx.lt; replace hown := ownsRow_below hown hb; replace hB := hB.trans (hb.mono hB.size); clear hb)
                      | (at_builtin; refine wpList_append_own _ rfl _ _ 36 rfl (w.heap.size + 1) 40 i0 (.agg #[.int .u8 0, .int .u8 0]) 2 2 Tryd.underlying36 hi hz0 hz1 hz2 rfl (by decide) _ _ _ rfl (hown.alloc _) ⟨_, 0, none⟩ 1 1 [.int .u8 n, .int .u8 t] rfl rfl (cell_two_new _ _ _ _) (by simp [Value.oneCell']) (by unfold maxLen; omega) (by omega) (by have := hx.lt; simp; omega) ?_; intro v' w1 hown' hgrow _))
                    go_roundw
                    case rel =>
                      have hlt1 := hx.lt
                      refine ⟨n + 1, pre ++ [(n, t)], post', by go_num, by omega, HI2, ?_, ?_, ?_⟩
                      · exact (hgrow.block w.heap.size (by simp; omega) (fun e => by have := (hown.lt w.heap.size e.symm).1; omega)).trans (hx.alloc _)
                      · rw [List.length_append, HL.out, runC_snoc]
                        exact hown'
                      · exact (hB.alloc hB.size _).grown hgrow (by simp; omega) (fun j hj => by have := (hown.lt j hj).1; omega)
                    case measure => simp [intOf]; omega
                  · have h255 : ¬ (t : Int) < 255 := by omega
                    have hc6 := Lib.hid hc5
                    have ht2b := Lib.hid ht2'
                    clear hc5 ht2'
                    go_wp2_with (first
                      | (at_builtin; refine wpList_append_own _ rfl _ _ 36 rfl (w.heap.size + 1) 40 i0 (.agg #[.int .u8 0, .int .u8 0]) 2 2 Tryd.underlying36 hi hz0 hz1 hz2 rfl (by decide) _ _ _ rfl (hown.alloc _) ⟨_, 0, none⟩ 1 1 [.int .u8 n, .int .u8 t] rfl rfl (cell_two_new _ _ _ _) (by simp [Value.oneCell']) (by unfold maxLen; omega) (by omega) (by have := hx.lt; simp; omega) ?_; intro v' w1 hown' hgrow _))
                    go_roundw
                    case rel =>
                      have hlt1 := hx.lt
                      refine ⟨n + 1, pre ++ [(n, t)], post', by go_num, by omega, HI2, ?_, ?_, ?_⟩
                      · exact (hgrow.block w.heap.size (by simp; omega) (fun e => by have := (hown.lt w.heap.size e.symm).1; omega)).trans (hx.alloc _)
                      · rw [List.length_append, HL.out, runC_snoc]
                        exact hown'
                      · exact (hB.alloc hB.size _).grown hgrow (by simp; omega) (fun j hj => by have := (hown.lt j hj).1; omega)
                    case measure => simp [intOf]; omega
          · have HI2 := Lib.hid (hinv.skip hlt (.inr ⟨p1, by rw [← hj]; exact hSj⟩))
            have HJ := Lib.hid hj
            clear hinv hj hn0
            go_wp2_with (go_at_call 25; refine (rhas_any _ _ (by omega) _).mono ?_; rintro e w' ⟨rfl, hb⟩; replace hx := hx.below hb hx.lt; replace hown := ownsRow_below hown hb; replace hB := hB.trans (hb.mono hB.size); clear hb; replace x00 := hx.word 0 (by omega); replace x01 := hx.word 1 (by omega); replace x02 := hx.word 2 (by omega); replace x03 := hx.word 3 (by omega))
            go_roundw
            case rel => exact ⟨n + 1, pre, post, by go_num, by omega, HI2, hx, hown, hB⟩
            case measure => simp [intOf]; omega
    · obtain rfl : n = 256 := by omega
      have hst := HI.out.stop
      have HST := Lib.hid hst
      clear hst HI
      go_wp2
      go_ret
      exact ⟨_, rfl, by rw [← HST.out]; exact hown, hB⟩
end Go.Proofs.YtgekfdmamingjaaDoor

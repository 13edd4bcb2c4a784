/- bonsailaw02.NameBack, walked. -/
import Derived.Test.YtlekhoicdmgbcaaDoorN6
import Derived.Test.YtlekhoicdmgbcaaDoorNm3
namespace Go.Proofs.YtlekhoicdmgbcaaDoor
open Go.RowKit Nm

theorem back_cases (n most : Int) : (0 ≤ n ∧ n ≤ most ∧ numV (showB n).data.toList most = n ∧ numE (showB n).data.toList most = 0) ∨ (0 ≤ n ∧ most < n ∧ numV (showB n).data.toList most = 0 ∧ numE (showB n).data.toList most = 40) ∨
    (n < 0 ∧ numV (showB n).data.toList most = 0 ∧ numE (showB n).data.toList most = 4) := by
  by_cases h : 0 ≤ n
  · obtain ⟨h1, h2⟩ := back_pos n most h
    by_cases c : n ≤ most
    · rw [if_pos c] at h1 h2
      exact .inl ⟨h, c, h1, h2⟩
    · rw [if_neg c] at h1 h2
      exact .inr (.inl ⟨h, by omega, h1, h2⟩)
  · obtain ⟨h1, h2⟩ := back_neg n most (by omega)
    exact .inr (.inr ⟨by omega, h1, h2⟩)

set_option maxRecDepth 100000 in
set_option maxHeartbeats 2000000 in
theorem nameBack_walk (n most : Int) (hn0 : -9223372036854775808 ≤ n) (hn1 : n ≤ 9223372036854775807) (hm0 : -9223372036854775808 ≤ most) (hm1 : most ≤ 9223372036854775807) (s : ByteArray) (w : World) (hT : Tens w) (hg : 1 < w.heap.size) :
    Calls Tryd.prog 6 #[.int .i64 n, .int .i64 most, .string s] w fun e w' => e = .returned (.bool true) ∧ Below w.heap.size w w' := by
  have L0 := Lie.start hT hg
  clear hT hg
  by_cases hl : s.size ≤ 5000
  · have hls : (s.size : Int) ≤ 5000 := by omega
    have hsh := fun w ht => show_any n hn0 hn1 w ht
    have hsz : (showB n).size < 9223372036854775807 := by
      have := Lib.itoa_length_le n hn0 hn1
      rw [showB_size]
      omega
    obtain ⟨t, ht⟩ : ∃ t, t = showB n := ⟨_, rfl⟩
    have hbk := back_cases n most
    rw [← ht] at hsh hsz hbk
    have hnt := fun v e hv he w => num_at t hsz most v e hm0 hm1 hv he w
    have hns := fun v e hv he w => num_at s (by omega) most v e hm0 hm1 hv he w
    obtain ⟨y, hy⟩ : ∃ y, y = numV s.data.toList most := ⟨_, rfl⟩
    obtain ⟨f, hf⟩ : ∃ f, f = numE s.data.toList most := ⟨_, rfl⟩
    have hrd := back_read s most
    have hs2 := fun w => hns y f hy.symm hf.symm w
    rw [← hy, ← hf] at hrd
    rcases hbk with ⟨c1, c2, v1, v2⟩ | ⟨c1, c2, v1, v2⟩ | ⟨c1, v1, v2⟩
    · have ht2 := fun w => hnt n 0 v1 v2 w
      rcases hrd with ⟨r1, rfl⟩ | ⟨rfl, r2, r3, r4⟩
      · clear hnt hns hsz hl ht hy hf v1 v2 hn0 hn1 hm0 hm1
        go_enter Tryd.func6, Tryd.ntmps6
        go_wp2_with (first
          | (go_at_call 10; refine (works_any _ L0.tab L0.pos).mono ?_; rintro e w1 ⟨rfl, hb1⟩; replace L0 := L0.step hb1; clear hb1)
          | (go_at_call_of 16 (Value.int .i64 n); refine (hsh _ L0.tab).mono ?_; rintro e w1 ⟨rfl, hb1⟩; replace L0 := L0.step hb1; clear hb1 hsh)
          | (go_at_call_of 15 (Value.string t); refine (ht2 _).mono ?_; rintro e w' ⟨rfl, rfl⟩)
          | (go_at_call 15; refine (hs2 _).mono ?_; rintro e w' ⟨rfl, rfl⟩))
        all_goals go_ret
        all_goals exact ⟨rfl, L0.low⟩
      · have hshy := fun w ht => show_at y (by omega) (by omega) s r2 w ht
        clear hnt hns hsz hl ht hy hf v1 v2 hn0 hn1 hm0 hm1 r2
        go_enter Tryd.func6, Tryd.ntmps6
        go_wp2_with (first
          | (go_at_call 10; refine (works_any _ L0.tab L0.pos).mono ?_; rintro e w1 ⟨rfl, hb1⟩; replace L0 := L0.step hb1; clear hb1)
          | (go_at_call_of 16 (Value.int .i64 n); refine (hsh _ L0.tab).mono ?_; rintro e w1 ⟨rfl, hb1⟩; replace L0 := L0.step hb1; clear hb1 hsh)
          | (go_at_call_of 15 (Value.string t); refine (ht2 _).mono ?_; rintro e w' ⟨rfl, rfl⟩)
          | (go_at_call 15; refine (hs2 _).mono ?_; rintro e w' ⟨rfl, rfl⟩)
          | (go_at_call 16; refine (hshy _ L0.tab).mono ?_; rintro e w1 ⟨rfl, hb1⟩; replace L0 := L0.step hb1; clear hb1))
        all_goals go_ret
        all_goals exact ⟨rfl, L0.low⟩
    · have ht2 := fun w => hnt 0 40 v1 v2 w
      rcases hrd with ⟨r1, rfl⟩ | ⟨rfl, r2, r3, r4⟩
      · clear hnt hns hsz hl ht hy hf v1 v2 hn0 hn1 hm0 hm1
        go_enter Tryd.func6, Tryd.ntmps6
        go_wp2_with (first
          | (go_at_call 10; refine (works_any _ L0.tab L0.pos).mono ?_; rintro e w1 ⟨rfl, hb1⟩; replace L0 := L0.step hb1; clear hb1)
          | (go_at_call_of 16 (Value.int .i64 n); refine (hsh _ L0.tab).mono ?_; rintro e w1 ⟨rfl, hb1⟩; replace L0 := L0.step hb1; clear hb1 hsh)
          | (go_at_call_of 15 (Value.string t); refine (ht2 _).mono ?_; rintro e w' ⟨rfl, rfl⟩)
          | (go_at_call 15; refine (hs2 _).mono ?_; rintro e w' ⟨rfl, rfl⟩))
        all_goals go_ret
        all_goals exact ⟨rfl, L0.low⟩
      · have hshy := fun w ht => show_at y (by omega) (by omega) s r2 w ht
        clear hnt hns hsz hl ht hy hf v1 v2 hn0 hn1 hm0 hm1 r2
        go_enter Tryd.func6, Tryd.ntmps6
        go_wp2_with (first
          | (go_at_call 10; refine (works_any _ L0.tab L0.pos).mono ?_; rintro e w1 ⟨rfl, hb1⟩; replace L0 := L0.step hb1; clear hb1)
          | (go_at_call_of 16 (Value.int .i64 n); refine (hsh _ L0.tab).mono ?_; rintro e w1 ⟨rfl, hb1⟩; replace L0 := L0.step hb1; clear hb1 hsh)
          | (go_at_call_of 15 (Value.string t); refine (ht2 _).mono ?_; rintro e w' ⟨rfl, rfl⟩)
          | (go_at_call 15; refine (hs2 _).mono ?_; rintro e w' ⟨rfl, rfl⟩)
          | (go_at_call 16; refine (hshy _ L0.tab).mono ?_; rintro e w1 ⟨rfl, hb1⟩; replace L0 := L0.step hb1; clear hb1))
        all_goals go_ret
        all_goals exact ⟨rfl, L0.low⟩
    · have ht2 := fun w => hnt 0 4 v1 v2 w
      rcases hrd with ⟨r1, rfl⟩ | ⟨rfl, r2, r3, r4⟩
      · clear hnt hns hsz hl ht hy hf v1 v2 hn0 hn1 hm0 hm1
        go_enter Tryd.func6, Tryd.ntmps6
        go_wp2_with (first
          | (go_at_call 10; refine (works_any _ L0.tab L0.pos).mono ?_; rintro e w1 ⟨rfl, hb1⟩; replace L0 := L0.step hb1; clear hb1)
          | (go_at_call_of 16 (Value.int .i64 n); refine (hsh _ L0.tab).mono ?_; rintro e w1 ⟨rfl, hb1⟩; replace L0 := L0.step hb1; clear hb1 hsh)
          | (go_at_call_of 15 (Value.string t); refine (ht2 _).mono ?_; rintro e w' ⟨rfl, rfl⟩)
          | (go_at_call 15; refine (hs2 _).mono ?_; rintro e w' ⟨rfl, rfl⟩))
        all_goals go_ret
        all_goals exact ⟨rfl, L0.low⟩
      · have hshy := fun w ht => show_at y (by omega) (by omega) s r2 w ht
        clear hnt hns hsz hl ht hy hf v1 v2 hn0 hn1 hm0 hm1 r2
        go_enter Tryd.func6, Tryd.ntmps6
        go_wp2_with (first
          | (go_at_call 10; refine (works_any _ L0.tab L0.pos).mono ?_; rintro e w1 ⟨rfl, hb1⟩; replace L0 := L0.step hb1; clear hb1)
          | (go_at_call_of 16 (Value.int .i64 n); refine (hsh _ L0.tab).mono ?_; rintro e w1 ⟨rfl, hb1⟩; replace L0 := L0.step hb1; clear hb1 hsh)
          | (go_at_call_of 15 (Value.string t); refine (ht2 _).mono ?_; rintro e w' ⟨rfl, rfl⟩)
          | (go_at_call 15; refine (hs2 _).mono ?_; rintro e w' ⟨rfl, rfl⟩)
          | (go_at_call 16; refine (hshy _ L0.tab).mono ?_; rintro e w1 ⟨rfl, hb1⟩; replace L0 := L0.step hb1; clear hb1))
        all_goals go_ret
        all_goals exact ⟨rfl, L0.low⟩
  · clear hn0 hn1 hm0 hm1
    go_enter Tryd.func6, Tryd.ntmps6
    go_wp2_with (go_at_call 10; refine (works_any _ L0.tab L0.pos).mono ?_; rintro e w1 ⟨rfl, hb1⟩; replace L0 := L0.step hb1; clear hb1)
    all_goals go_ret
    all_goals exact ⟨rfl, L0.low⟩
end Go.Proofs.YtlekhoicdmgbcaaDoor

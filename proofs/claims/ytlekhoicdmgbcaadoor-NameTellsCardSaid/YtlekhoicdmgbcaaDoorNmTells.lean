/- bonsailaw02.NameTells, walked. -/
import Derived.Test.YtlekhoicdmgbcaaDoorN6
import Derived.Test.YtlekhoicdmgbcaaDoorNr5
import Derived.Test.YtlekhoicdmgbcaaDoorNr3
namespace Go.Proofs.YtlekhoicdmgbcaaDoor
open Go.RowKit Nm

set_option maxRecDepth 100000 in
set_option maxHeartbeats 4000000 in
theorem nameTells_walk (b : Nat) (hb : b < 256) (s t : ByteArray) (n most : Int) (hn0 : -9223372036854775808 ≤ n) (hn1 : n ≤ 9223372036854775807) (hm0 : -9223372036854775808 ≤ most) (hm1 : most ≤ 9223372036854775807) (w : World) (hT : Tens w) (hg : 1 < w.heap.size) :
    Calls Tryd.prog 4 #[.int .u8 b, .string s, .string t, .int .i64 n, .int .i64 most] w fun e w' => e = .returned (.bool true) ∧ Below w.heap.size w w' := by
  have L0 := Lie.start hT hg
  clear hT hg
  by_cases hs : s.size ≤ 5000
  · by_cases ht : t.size ≤ 5000
    · have hsI : (s.size : Int) ≤ 5000 := by omega
      have htI : (t.size : Int) ≤ 5000 := by omega
      obtain ⟨x, hx⟩ : ∃ x, x = numV s.data.toList most := ⟨_, rfl⟩
      obtain ⟨f, hf⟩ : ∃ f, f = numE s.data.toList most := ⟨_, rfl⟩
      obtain ⟨l, hl⟩ : ∃ l, l = isLet b := ⟨_, rfl⟩
      obtain ⟨m, hm⟩ : ∃ m, m = mayB s := ⟨_, rfl⟩
      obtain ⟨k, hk⟩ : ∃ k, k = takeS s := ⟨_, rfl⟩
      obtain ⟨r, hr⟩ : ∃ r, r = showB n := ⟨_, rfl⟩
      obtain ⟨c, hc⟩ : ∃ c, c = Lib.compareBytes s.data.toList t.data.toList := ⟨_, rfl⟩
      have k1 := fun w => num_any s (by omega) most hm0 hm1 w
      have k2 := fun w => rnum_any s (by omega) most hm0 hm1 w
      have k3 := fun w => letter_any b hb w
      have k4 := fun w => rletter_any b hb w
      have k5 := fun w => may_any s (by omega) w
      have k6 := fun w => rmay_any s (by omega) w
      have k7 := fun w => take_any s (by omega) w
      have k8 := fun w => rtake_any s (by omega) w
      have k9 := fun w ht => show_any n hn0 hn1 w ht
      have k10 := fun w => rshow_any n hn0 hn1 w
      have k11 := fun w => compare_any s t w
      have k12 := fun w => rcompare_any s t hs ht w
      rw [← hx, ← hf] at k1 k2
      rw [← hl] at k3 k4
      rw [← hm] at k5 k6
      rw [← hk] at k7 k8
      rw [← hr] at k9 k10
      rw [← hc] at k11 k12
      clear hx hf hl hm hk hr hc hn0 hn1 hm0 hm1 hs ht
      go_enter Tryd.func4, Tryd.ntmps4
      go_wp2_with (first
        | (go_at_call 15; refine (k1 _).mono ?_; rintro e w1 ⟨rfl, rfl⟩)
        | (go_at_call 19; refine (k2 _).mono ?_; rintro e w1 ⟨rfl, rfl⟩)
        | (go_at_call 14; refine (k3 _).mono ?_; rintro e w1 ⟨rfl, rfl⟩)
        | (go_at_call 20; refine (k4 _).mono ?_; rintro e w1 ⟨rfl, rfl⟩)
        | (go_at_call 11; refine (k5 _).mono ?_; rintro e w1 ⟨rfl, rfl⟩)
        | (go_at_call 21; refine (k6 _).mono ?_; rintro e w1 ⟨rfl, rfl⟩)
        | (go_at_call 13; refine (k7 _).mono ?_; rintro e w1 ⟨rfl, hb1⟩; replace L0 := L0.step hb1; clear hb1)
        | (go_at_call 22; refine (k8 _).mono ?_; rintro e w1 ⟨rfl, rfl⟩)
        | (go_at_call 16; refine (k9 _ L0.tab).mono ?_; rintro e w1 ⟨rfl, hb1⟩; replace L0 := L0.step hb1; clear hb1)
        | (go_at_call 23; refine (k10 _).mono ?_; rintro e w1 ⟨rfl, hb1⟩; replace L0 := L0.step hb1; clear hb1)
        | (go_at_call 17; refine (k11 _).mono ?_; rintro e w1 ⟨rfl, rfl⟩)
        | (go_at_call 24; refine (k12 _).mono ?_; rintro e w1 ⟨rfl, hb1⟩; replace L0 := L0.step hb1; clear hb1)
        | (go_at_call 10; refine (works_any _ L0.tab L0.pos).mono ?_; rintro e w1 ⟨rfl, hb1⟩; replace L0 := L0.step hb1; clear hb1))
      all_goals go_ret
      all_goals exact ⟨rfl, L0.low⟩
    · have hsI : (s.size : Int) ≤ 5000 := by omega
      have htI : ¬ (t.size : Int) ≤ 5000 := by omega
      clear hn0 hn1 hm0 hm1 hs ht
      go_enter Tryd.func4, Tryd.ntmps4
      go_wp2_with (go_at_call 10; refine (works_any _ L0.tab L0.pos).mono ?_; rintro e w1 ⟨rfl, hb1⟩; replace L0 := L0.step hb1; clear hb1)
      all_goals go_ret
      all_goals exact ⟨rfl, L0.low⟩
  · have hsI : ¬ (s.size : Int) ≤ 5000 := by omega
    clear hn0 hn1 hm0 hm1 hs
    go_enter Tryd.func4, Tryd.ntmps4
    go_wp2_with (go_at_call 10; refine (works_any _ L0.tab L0.pos).mono ?_; rintro e w1 ⟨rfl, hb1⟩; replace L0 := L0.step hb1; clear hb1)
    all_goals go_ret
    all_goals exact ⟨rfl, L0.low⟩
end Go.Proofs.YtlekhoicdmgbcaaDoor

/- bonsailaw02.NameTaken, walked. -/
import Derived.Test.YtlekhoicdmgbcaaDoorN6
import Derived.Test.YtlekhoicdmgbcaaDoorNm2
namespace Go.Proofs.YtlekhoicdmgbcaaDoor
open Go.RowKit Nm

set_option maxRecDepth 100000 in
set_option maxHeartbeats 2000000 in
theorem nameTaken_walk (s : ByteArray) (w : World) (hT : Tens w) (hg : 1 < w.heap.size) :
    Calls Tryd.prog 7 #[.string s] w fun e w' => e = .returned (.bool true) ∧ Below w.heap.size w w' := by
  have L0 := Lie.start hT hg
  by_cases hl : s.size ≤ 5000
  · obtain ⟨t, ht⟩ : ∃ t, t = takeS s := ⟨_, rfl⟩
    obtain ⟨n, hn⟩ : ∃ n, n = taken s.data.toList := ⟨_, rfl⟩
    have hta := fun w => take_any s (by omega) w
    rw [← ht] at hta
    have htn : t.size = n := by rw [ht, takeS_size, hn]
    have hns : n ≤ s.size := by rw [← htn, ht]; exact takeS_le s
    have hex : s.extract 0 n = t := by rw [ht, hn]; rfl
    have hma := fun w => may_any t (by omega) w
    have hmt := may_take s
    rw [← hn, hex] at hmt
    rw [hmt] at hma
    have hst : ∀ h : n < s.size, isLet s[n].toNat = false ∧ (0 < n → isDig s[n].toNat = false) := by
      intro h
      have := taken_stop s.data.toList s[n] (by rw [← hn, List.getElem?_eq_getElem (by simpa using h)]; rfl)
      rw [← hn] at this
      exact this
    have hlet : ∀ (h : n < s.size) w, Calls Tryd.prog 14 #[.int .u8 s[n].toNat] w fun e w' => e = .returned (.bool false) ∧ w' = w := by
      intro h w
      have := letter_s s n h w
      rw [(hst h).1] at this
      exact this
    have HN := Lib.hid hn
    have HT := Lib.hid ht
    clear hn ht hmt hT hg
    by_cases h0 : n = 0
    · subst h0
      obtain rfl := size_eq t htn
      by_cases hz : s.size = 0
      · obtain rfl := size_eq s hz
        clear hst hlet hl hex HN HT
        go_enter Tryd.func7, Tryd.ntmps7
        go_wp2_with (first
          | (go_at_call 10; refine (works_any _ L0.tab L0.pos).mono ?_; rintro e w1 ⟨rfl, hb1⟩; replace L0 := L0.step hb1; clear hb1)
          | (go_at_call 13; refine (hta _).mono ?_; rintro e w1 ⟨rfl, hb1⟩; replace L0 := L0.step hb1; clear hb1)
          | (go_at_call 11; refine (hma _).mono ?_; rintro e w' ⟨rfl, rfl⟩))
        go_ret
        exact ⟨rfl, L0.low⟩
      · have hlet0 := hlet (by omega)
        have h1 := size_ne s hz
        have h1' : s.toList.isEmpty = false := by simpa using h1
        have hp : 0 < s.size := by omega
        have hls : (s.size : Int) ≤ 5000 := by omega
        clear hst hlet HN HT
        go_enter Tryd.func7, Tryd.ntmps7
        go_wp2_with (first
          | (go_at_call 10; refine (works_any _ L0.tab L0.pos).mono ?_; rintro e w1 ⟨rfl, hb1⟩; replace L0 := L0.step hb1; clear hb1)
          | (go_at_call 13; refine (hta _).mono ?_; rintro e w1 ⟨rfl, hb1⟩; replace L0 := L0.step hb1; clear hb1)
          | (go_at_call 11; refine (hma _).mono ?_; rintro e w' ⟨rfl, rfl⟩)
          | (go_at_call 14; refine (hlet0 _).mono ?_; rintro e w' ⟨rfl, rfl⟩))
        all_goals go_ret
        all_goals exact ⟨rfl, L0.low⟩
    · have k1 := size_ne t (by omega)
      have k1' : t.toList.isEmpty = false := by simpa using k1
      have hls : (s.size : Int) ≤ 5000 := by omega
      rw [show decide (n ≠ 0) = true from decide_eq_true h0, Bool.true_and] at hma
      have hn0 : 0 < (n : Int) := by omega
      have hn0' : 0 < n := by omega
      have hnl : ¬ s.size < n := by omega
      by_cases hns2 : n < s.size
      · obtain ⟨q1, q2⟩ := hst hns2
        have hletn := hlet hns2
        have hd := q2 (by omega)
        have q3 : (s[n].toNat : Int) < 48 ∨ ¬ ((s[n].toNat : Int) < 48) ∧ 57 < (s[n].toNat : Int) := by
          unfold isDig at hd
          simp at hd
          omega
        have hne : ¬ (n : Int) = s.size := by omega
        clear hst hlet HN HT q1 q2 hd
        by_cases c : n ≤ 32
        · have hcI : (n : Int) ≤ 32 := by omega
          have hcb : decide ((n : Int) ≤ 32) = true := decide_eq_true hcI
          rw [decide_eq_true c] at hma
          rcases q3 with q3 | ⟨q3, q4⟩
          · go_enter Tryd.func7, Tryd.ntmps7
            go_wp2_with (first
              | (go_at_call 10; refine (works_any _ L0.tab L0.pos).mono ?_; rintro e w1 ⟨rfl, hb1⟩; replace L0 := L0.step hb1; clear hb1)
              | (go_at_call 13; refine (hta _).mono ?_; rintro e w1 ⟨rfl, hb1⟩; replace L0 := L0.step hb1; clear hb1)
              | (go_at_call 11; refine (hma _).mono ?_; rintro e w' ⟨rfl, rfl⟩)
              | (go_at_call 14; refine (hletn _).mono ?_; rintro e w' ⟨rfl, rfl⟩))
            all_goals go_ret
            all_goals exact ⟨rfl, L0.low⟩
          · go_enter Tryd.func7, Tryd.ntmps7
            go_wp2_with (first
              | (go_at_call 10; refine (works_any _ L0.tab L0.pos).mono ?_; rintro e w1 ⟨rfl, hb1⟩; replace L0 := L0.step hb1; clear hb1)
              | (go_at_call 13; refine (hta _).mono ?_; rintro e w1 ⟨rfl, hb1⟩; replace L0 := L0.step hb1; clear hb1)
              | (go_at_call 11; refine (hma _).mono ?_; rintro e w' ⟨rfl, rfl⟩)
              | (go_at_call 14; refine (hletn _).mono ?_; rintro e w' ⟨rfl, rfl⟩))
            all_goals go_ret
            all_goals exact ⟨rfl, L0.low⟩
        · have hcI : ¬ (n : Int) ≤ 32 := by omega
          have hcb : decide ((n : Int) ≤ 32) = false := decide_eq_false hcI
          rw [decide_eq_false c] at hma
          rcases q3 with q3 | ⟨q3, q4⟩
          · go_enter Tryd.func7, Tryd.ntmps7
            go_wp2_with (first
              | (go_at_call 10; refine (works_any _ L0.tab L0.pos).mono ?_; rintro e w1 ⟨rfl, hb1⟩; replace L0 := L0.step hb1; clear hb1)
              | (go_at_call 13; refine (hta _).mono ?_; rintro e w1 ⟨rfl, hb1⟩; replace L0 := L0.step hb1; clear hb1)
              | (go_at_call 11; refine (hma _).mono ?_; rintro e w' ⟨rfl, rfl⟩)
              | (go_at_call 14; refine (hletn _).mono ?_; rintro e w' ⟨rfl, rfl⟩))
            all_goals go_ret
            all_goals exact ⟨rfl, L0.low⟩
          · go_enter Tryd.func7, Tryd.ntmps7
            go_wp2_with (first
              | (go_at_call 10; refine (works_any _ L0.tab L0.pos).mono ?_; rintro e w1 ⟨rfl, hb1⟩; replace L0 := L0.step hb1; clear hb1)
              | (go_at_call 13; refine (hta _).mono ?_; rintro e w1 ⟨rfl, hb1⟩; replace L0 := L0.step hb1; clear hb1)
              | (go_at_call 11; refine (hma _).mono ?_; rintro e w' ⟨rfl, rfl⟩)
              | (go_at_call 14; refine (hletn _).mono ?_; rintro e w' ⟨rfl, rfl⟩))
            all_goals go_ret
            all_goals exact ⟨rfl, L0.low⟩
      · obtain rfl : n = s.size := by omega
        have hletn : True := trivial
        clear hst hlet HN HT
        by_cases c : s.size ≤ 32
        · have hcI : (s.size : Int) ≤ 32 := by omega
          have hcb : decide ((s.size : Int) ≤ 32) = true := decide_eq_true hcI
          rw [decide_eq_true c] at hma
          go_enter Tryd.func7, Tryd.ntmps7
          go_wp2_with (first
            | (go_at_call 10; refine (works_any _ L0.tab L0.pos).mono ?_; rintro e w1 ⟨rfl, hb1⟩; replace L0 := L0.step hb1; clear hb1)
            | (go_at_call 13; refine (hta _).mono ?_; rintro e w1 ⟨rfl, hb1⟩; replace L0 := L0.step hb1; clear hb1)
            | (go_at_call 11; refine (hma _).mono ?_; rintro e w' ⟨rfl, rfl⟩)
            | (go_at_call 14; refine (hletn _).mono ?_; rintro e w' ⟨rfl, rfl⟩))
          all_goals go_ret
          all_goals exact ⟨rfl, L0.low⟩
        · have hcI : ¬ (s.size : Int) ≤ 32 := by omega
          have hcb : decide ((s.size : Int) ≤ 32) = false := decide_eq_false hcI
          rw [decide_eq_false c] at hma
          go_enter Tryd.func7, Tryd.ntmps7
          go_wp2_with (first
            | (go_at_call 10; refine (works_any _ L0.tab L0.pos).mono ?_; rintro e w1 ⟨rfl, hb1⟩; replace L0 := L0.step hb1; clear hb1)
            | (go_at_call 13; refine (hta _).mono ?_; rintro e w1 ⟨rfl, hb1⟩; replace L0 := L0.step hb1; clear hb1)
            | (go_at_call 11; refine (hma _).mono ?_; rintro e w' ⟨rfl, rfl⟩)
            | (go_at_call 14; refine (hletn _).mono ?_; rintro e w' ⟨rfl, rfl⟩))
          all_goals go_ret
          all_goals exact ⟨rfl, L0.low⟩
  · go_enter Tryd.func7, Tryd.ntmps7
    go_wp2_with (go_at_call 10; refine (works_any _ L0.tab L0.pos).mono ?_; rintro e w1 ⟨rfl, hb1⟩; replace L0 := L0.step hb1; clear hb1)
    all_goals go_ret
    all_goals exact ⟨rfl, L0.low⟩
end Go.Proofs.YtlekhoicdmgbcaaDoor

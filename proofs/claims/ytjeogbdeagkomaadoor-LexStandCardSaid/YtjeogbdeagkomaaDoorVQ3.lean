/- Package quote: a part; what stands behind the parts. -/
import Derived.Test.YtjeogbdeagkomaaDoorVQ2
namespace Go.Proofs.YtjeogbdeagkomaaDoor
open Go.RowKit Go.Maps Bset Qm

/-- A part, as it is told. -/
abbrev partV (lo hi e : Nat) : Value := .agg #[.int .u8 (lo : Nat), .int .u8 (hi : Nat), .int .i64 (e : Nat)]
abbrev partT (k : Nat) (r : Nat × Nat × Nat × Bool) : Value := .tuple #[partV r.1 r.2.1 (k + r.2.2.1), .bool r.2.2.2]

theorem pt_a {p : Sp} {l : List UInt8} (h : ¬ ((rd p l).2.2 = true ∧ p.rng = true ∧ (l.drop (rd p l).2.1).head? = some 45)) : pt p l = ((rd p l).1, (rd p l).1, (rd p l).2.1, (rd p l).2.2) := by
  unfold pt
  rw [if_neg h]
theorem pt_b {p : Sp} {l : List UInt8} (h : (rd p l).2.2 = true ∧ p.rng = true ∧ (l.drop (rd p l).2.1).head? = some 45) (h2 : (rd p (l.drop ((rd p l).2.1 + 1))).2.2 = true ∧ (rd p (l.drop ((rd p l).2.1 + 1))).1 < (rd p l).1) : pt p l = (0, 0, 0, false) := by
  unfold pt
  rw [if_pos h, if_pos h2]
theorem pt_c {p : Sp} {l : List UInt8} (h : (rd p l).2.2 = true ∧ p.rng = true ∧ (l.drop (rd p l).2.1).head? = some 45) (h2 : ¬ ((rd p (l.drop ((rd p l).2.1 + 1))).2.2 = true ∧ (rd p (l.drop ((rd p l).2.1 + 1))).1 < (rd p l).1)) :
    pt p l = ((rd p l).1, (rd p (l.drop ((rd p l).2.1 + 1))).1, (rd p l).2.1 + 1 + (rd p (l.drop ((rd p l).2.1 + 1))).2.1, (rd p (l.drop ((rd p l).2.1 + 1))).2.2) := by
  unfold pt
  rw [if_pos h, if_neg h2]

theorem head_at (s : ByteArray) (j : Nat) (h : j < s.size) : (s.data.toList.drop j).head? = some s[j] := by rw [drop_at s j h]; rfl

set_option maxHeartbeats 4000000 in
set_option maxRecDepth 100000 in
theorem part_any (p : Sp) (bb ba : Nat) (s : ByteArray) (hs : s.size ≤ maxLen) (k : Nat) (hk : k ≤ s.size) (w : World) (h : Spell w p bb ba) :
    Calls Tryd.prog 192 #[spV p bb ba, .string s, .int .i64 k] w fun e w' => e = .returned (partT k (pt p (s.data.toList.drop k))) ∧ Below w.heap.size w w' := by
  have hs2 := hs
  unfold maxLen at hs
  obtain ⟨W0, hW0⟩ : ∃ W0, (w.alloc (.cells (spC p bb ba) 126)).alloc (.cells #[.int .u8 0, .int .u8 0, .int .i64 0] 197) = W0 := ⟨_, rfl⟩
  have b0 : Cl W0 w.heap.size 126 (spC p bb ba) := by rw [← hW0]; exact (Cl.new w _ _).alloc _
  have b1 : Cl W0 (w.heap.size + 1) 197 #[.int .u8 0, .int .u8 0, .int .i64 0] := by rw [← hW0]; exact Cl.new' (by simp) _ _
  have hB0 : Below w.heap.size w W0 := by rw [← hW0]; exact ((Below.refl _ w).alloc (Nat.le_refl _) _).alloc (by simp) _
  have hS0 : Spell W0 p bb ba := by rw [← hW0]; exact (h.alloc _).alloc _
  have hr := fun W hW => read_any p bb ba s hs2 k hk W hW
  have hle := rd_le p h.isp (s.data.toList.drop k)
  rw [List.length_drop] at hle
  have hl : s.data.toList.length = s.size := by simp
  rw [hl] at hle
  have pa := pt_a (p := p) (l := s.data.toList.drop k)
  have pb := pt_b (p := p) (l := s.data.toList.drop k)
  have pc := pt_c (p := p) (l := s.data.toList.drop k)
  rw [List.drop_drop, List.drop_drop] at pb pc
  rw [List.drop_drop] at pa
  have c0 := b0.cell 0
  have c1 := b0.cell 1
  have c2 := b0.cell 2
  have c3 := b0.cell 3
  have c4 := b0.cell 4
  have c5 := b0.cell 5
  have c6 := b0.cell 6
  have c7 := b0.cell 7
  obtain ⟨lo, n, ok, ha⟩ : ∃ lo n ok, rd p (s.data.toList.drop k) = (lo, n, ok) := ⟨_, _, _, rfl⟩
  rw [ha] at hr hle pa pb pc
  simp only at hle pa pb pc
  by_cases hq : ok = true ∧ p.rng = true ∧ (s.data.toList.drop (k + n)).head? = some 45
  · obtain ⟨rfl, hrng, h45⟩ := hq
    obtain rfl : p = cls := by
      rcases h.isp with rfl | rfl
      · cases hrng
      · rfl
    obtain ⟨hl1, -⟩ := hle
    have hlt : k + n < s.size := by
      rcases Nat.lt_or_ge (k + n) s.size with h2 | h2
      · exact h2
      · rw [drop_end s (k + n) h2] at h45
        cases h45
    have e45 : s[k + n] = 45 := by
      rw [head_at s (k + n) hlt] at h45
      exact Option.some.inj h45
    have t3 : ((k : Int) + (n : Int) == (s.size : Int)) = false := by simp; omega
    have n0 : (0 : Int) ≤ (k : Int) + (n : Int) := by omega
    have n1 : (k : Int) + (n : Int) < (s.size : Int) := by omega
    have t4 : ((s[k + n].toNat : Int) != 45) = false := by rw [e45]; rfl
    have hr2 := fun W hW => read_any cls bb ba s hs2 (k + n + 1) (by omega) W hW
    have hle2 := rd_le cls h.isp (s.data.toList.drop (k + n + 1))
    rw [List.length_drop, hl] at hle2
    rw [show k + (n + 1) = k + n + 1 by omega] at pb pc
    obtain ⟨hi, m, ok2, ha2⟩ : ∃ hi m ok2, rd cls (s.data.toList.drop (k + n + 1)) = (hi, m, ok2) := ⟨_, _, _, rfl⟩
    rw [ha2] at hr2 hle2 pb pc
    simp only at hle2 pb pc
    have ec : (((k + n + 1 : Nat) : Int)) = (k : Int) + (n : Int) + 1 := by omega
    rw [ec] at hr2
    replace pb := pb ⟨trivial, hrng, h45⟩
    replace pc := pc ⟨trivial, hrng, h45⟩
    obtain ⟨hl2, -⟩ := hle2
    have hm : k + n + 1 + m ≤ s.size := by omega
    clear hrng pa h45 e45 ha ha2 ec hl1 hl2
    cases ok2 with
    | false =>
      have hp := pc (fun h => by cases h.1)
      have HP := Lib.hid hp
      clear pb pc hp
      go_enter Tryd.func192, Tryd.ntmps192
      go_wp2_with (first | (go_at_call 202; refine (hr _ hS0).mono ?_; rintro e w1 ⟨rfl, hb1⟩; have k0 := b0.below hb1 b0.lt; have k1 := b1.below hb1 b1.lt; have d0 := k1.cell 0; have d1 := k1.cell 1; have d2 := k1.cell 2; have f0 := k1.free 0; have f1 := k1.free 1; have f2 := k1.free 2; have e6 : w1.cell? ⟨w.heap.size, 6, none⟩ = some (.bool true) := k0.cell 6; have hB1 := hB0.trans (hb1.mono hB0.size); have hS1 := hS0.below hb1; have x0 := k0.cell 0; have x1 := k0.cell 1; have x2 := k0.cell 2; have x3 := k0.cell 3; have x4 := k0.cell 4; have x5 := k0.cell 5; have x7 := k0.cell 7; clear d0 d1 d2 f0 f1 f2 hr) | (go_at_call 202; refine (hr2 _ hS1).mono ?_; rintro e w2 ⟨rfl, hb2⟩; have k2 := k1.below hb2 k1.lt; have d0 := k2.cell 0; have d1 := k2.cell 1; have d2 := k2.cell 2; have f0 := k2.free 0; have f1 := k2.free 1; have f2 := k2.free 2; have hB2 := hB1.trans (hb2.mono hB1.size)))
      exact bodyPost_ret (v := partT k (lo, hi, n + 1 + m, false)) (by simp [results, Tryd.results192, go_sem, d0, d1, d2]; omega) rfl ⟨ret_tup (by rw [HP.out]), ((hB2.setCell (p := ⟨w.heap.size + 1, 0, none⟩) (by simp) _).setCell (p := ⟨w.heap.size + 1, 1, none⟩) (by simp) _).setCell (p := ⟨w.heap.size + 1, 2, none⟩) (by simp) _⟩
    | true =>
      by_cases hlo : hi < lo
      · have hp := pb ⟨rfl, hlo⟩
        have HP := Lib.hid hp
        have t5 : decide ((hi : Int) < (lo : Int)) = true := by simp; omega
        clear pb pc hp
        go_enter Tryd.func192, Tryd.ntmps192
        go_wp2_with (first | (go_at_call 202; refine (hr _ hS0).mono ?_; rintro e w1 ⟨rfl, hb1⟩; have k0 := b0.below hb1 b0.lt; have k1 := b1.below hb1 b1.lt; have d0 := k1.cell 0; have d1 := k1.cell 1; have d2 := k1.cell 2; have f0 := k1.free 0; have f1 := k1.free 1; have f2 := k1.free 2; have e6 : w1.cell? ⟨w.heap.size, 6, none⟩ = some (.bool true) := k0.cell 6; have hB1 := hB0.trans (hb1.mono hB0.size); have hS1 := hS0.below hb1; have x0 := k0.cell 0; have x1 := k0.cell 1; have x2 := k0.cell 2; have x3 := k0.cell 3; have x4 := k0.cell 4; have x5 := k0.cell 5; have x7 := k0.cell 7; clear d0 d1 d2 f0 f1 f2 hr) | (go_at_call 202; refine (hr2 _ hS1).mono ?_; rintro e w2 ⟨rfl, hb2⟩; have k2 := k1.below hb2 k1.lt; have d0 := k2.cell 0; have d1 := k2.cell 1; have d2 := k2.cell 2; have f0 := k2.free 0; have f1 := k2.free 1; have f2 := k2.free 2; have hB2 := hB1.trans (hb2.mono hB1.size)))
        exact bodyPost_ret (v := partT k (0, 0, 0, false)) (by simp [results, Tryd.results192, go_sem, d0, d1, d2]) rfl ⟨ret_tup (by rw [HP.out]), ((hB2.setCell (p := ⟨w.heap.size + 1, 0, none⟩) (by simp) _).setCell (p := ⟨w.heap.size + 1, 1, none⟩) (by simp) _).setCell (p := ⟨w.heap.size + 1, 2, none⟩) (by simp) _⟩
      · have hp := pc (fun h => hlo h.2)
        have HP := Lib.hid hp
        have t5 : decide ((hi : Int) < (lo : Int)) = false := by simp; omega
        clear pb pc hp
        go_enter Tryd.func192, Tryd.ntmps192
        go_wp2_with (first | (go_at_call 202; refine (hr _ hS0).mono ?_; rintro e w1 ⟨rfl, hb1⟩; have k0 := b0.below hb1 b0.lt; have k1 := b1.below hb1 b1.lt; have d0 := k1.cell 0; have d1 := k1.cell 1; have d2 := k1.cell 2; have f0 := k1.free 0; have f1 := k1.free 1; have f2 := k1.free 2; have e6 : w1.cell? ⟨w.heap.size, 6, none⟩ = some (.bool true) := k0.cell 6; have hB1 := hB0.trans (hb1.mono hB0.size); have hS1 := hS0.below hb1; have x0 := k0.cell 0; have x1 := k0.cell 1; have x2 := k0.cell 2; have x3 := k0.cell 3; have x4 := k0.cell 4; have x5 := k0.cell 5; have x7 := k0.cell 7; clear d0 d1 d2 f0 f1 f2 hr) | (go_at_call 202; refine (hr2 _ hS1).mono ?_; rintro e w2 ⟨rfl, hb2⟩; have k2 := k1.below hb2 k1.lt; have d0 := k2.cell 0; have d1 := k2.cell 1; have d2 := k2.cell 2; have f0 := k2.free 0; have f1 := k2.free 1; have f2 := k2.free 2; have hB2 := hB1.trans (hb2.mono hB1.size)))
        exact bodyPost_ret (v := partT k (lo, hi, n + 1 + m, true)) (by simp [results, Tryd.results192, go_sem, d0, d1, d2]; omega) rfl ⟨ret_tup (by rw [HP.out]), ((hB2.setCell (p := ⟨w.heap.size + 1, 0, none⟩) (by simp) _).setCell (p := ⟨w.heap.size + 1, 1, none⟩) (by simp) _).setCell (p := ⟨w.heap.size + 1, 2, none⟩) (by simp) _⟩
  · have hp := pa hq
    have HP := Lib.hid hp
    clear pa pb pc hp
    cases ok with
    | false =>
      clear hq hle ha
      go_enter Tryd.func192, Tryd.ntmps192
      go_wp2_with (go_at_call 202; refine (hr _ hS0).mono ?_; rintro e w1 ⟨rfl, hb1⟩; have k0 := b0.below hb1 b0.lt; have k1 := b1.below hb1 b1.lt; have d0 := k1.cell 0; have d1 := k1.cell 1; have d2 := k1.cell 2; have f0 := k1.free 0; have f1 := k1.free 1; have f2 := k1.free 2; have e6 : w1.cell? ⟨w.heap.size, 6, none⟩ = some (.bool p.rng) := k0.cell 6; have hB1 := hB0.trans (hb1.mono hB0.size))
      exact bodyPost_ret (v := partT k (lo, lo, n, false)) (by simp [results, Tryd.results192, go_sem, d0, d1, d2]) rfl ⟨ret_tup (by rw [HP.out]), ((hB1.setCell (p := ⟨w.heap.size + 1, 0, none⟩) (by simp) _).setCell (p := ⟨w.heap.size + 1, 1, none⟩) (by simp) _).setCell (p := ⟨w.heap.size + 1, 2, none⟩) (by simp) _⟩
    | true =>
      obtain ⟨hl1, -⟩ := hle
      cases hrng : p.rng with
      | false =>
        have HR := Lib.hid hrng
        clear hq ha hrng
        go_enter Tryd.func192, Tryd.ntmps192
        go_wp2_with (go_at_call 202; refine (hr _ hS0).mono ?_; rintro e w1 ⟨rfl, hb1⟩; have k0 := b0.below hb1 b0.lt; have k1 := b1.below hb1 b1.lt; have d0 := k1.cell 0; have d1 := k1.cell 1; have d2 := k1.cell 2; have f0 := k1.free 0; have f1 := k1.free 1; have f2 := k1.free 2; have e6 : w1.cell? ⟨w.heap.size, 6, none⟩ = some (.bool p.rng) := k0.cell 6; have hB1 := hB0.trans (hb1.mono hB0.size); rw [HR.out] at e6)
        exact bodyPost_ret (v := partT k (lo, lo, n, true)) (by simp [results, Tryd.results192, go_sem, d0, d1, d2]) rfl ⟨ret_tup (by rw [HP.out]), ((hB1.setCell (p := ⟨w.heap.size + 1, 0, none⟩) (by simp) _).setCell (p := ⟨w.heap.size + 1, 1, none⟩) (by simp) _).setCell (p := ⟨w.heap.size + 1, 2, none⟩) (by simp) _⟩
      | true =>
        have HR := Lib.hid hrng
        have h45 : ¬ (s.data.toList.drop (k + n)).head? = some 45 := fun h => hq ⟨rfl, hrng, h⟩
        clear hq hrng ha
        by_cases hlt : k + n < s.size
        · rw [head_at s (k + n) hlt] at h45
          have e45 : s[k + n].toNat ≠ 45 := fun h => h45 (by congr 1; exact UInt8.toNat_inj.1 (by rw [h]; rfl))
          have t3 : ((k : Int) + (n : Int) == (s.size : Int)) = false := by simp; omega
          have n0 : (0 : Int) ≤ (k : Int) + (n : Int) := by omega
          have n1 : (k : Int) + (n : Int) < (s.size : Int) := by omega
          have t4 : ((s[k + n].toNat : Int) != 45) = true := by simp; omega
          clear h45 e45
          go_enter Tryd.func192, Tryd.ntmps192
          go_wp2_with (go_at_call 202; refine (hr _ hS0).mono ?_; rintro e w1 ⟨rfl, hb1⟩; have k0 := b0.below hb1 b0.lt; have k1 := b1.below hb1 b1.lt; have d0 := k1.cell 0; have d1 := k1.cell 1; have d2 := k1.cell 2; have f0 := k1.free 0; have f1 := k1.free 1; have f2 := k1.free 2; have e6 : w1.cell? ⟨w.heap.size, 6, none⟩ = some (.bool p.rng) := k0.cell 6; have hB1 := hB0.trans (hb1.mono hB0.size); rw [HR.out] at e6)
          exact bodyPost_ret (v := partT k (lo, lo, n, true)) (by simp [results, Tryd.results192, go_sem, d0, d1, d2]) rfl ⟨ret_tup (by rw [HP.out]), ((hB1.setCell (p := ⟨w.heap.size + 1, 0, none⟩) (by simp) _).setCell (p := ⟨w.heap.size + 1, 1, none⟩) (by simp) _).setCell (p := ⟨w.heap.size + 1, 2, none⟩) (by simp) _⟩
        · have t3 : ((k : Int) + (n : Int) == (s.size : Int)) = true := by simp; omega
          clear h45
          go_enter Tryd.func192, Tryd.ntmps192
          go_wp2_with (go_at_call 202; refine (hr _ hS0).mono ?_; rintro e w1 ⟨rfl, hb1⟩; have k0 := b0.below hb1 b0.lt; have k1 := b1.below hb1 b1.lt; have d0 := k1.cell 0; have d1 := k1.cell 1; have d2 := k1.cell 2; have f0 := k1.free 0; have f1 := k1.free 1; have f2 := k1.free 2; have e6 : w1.cell? ⟨w.heap.size, 6, none⟩ = some (.bool p.rng) := k0.cell 6; have hB1 := hB0.trans (hb1.mono hB0.size); rw [HR.out] at e6)
          exact bodyPost_ret (v := partT k (lo, lo, n, true)) (by simp [results, Tryd.results192, go_sem, d0, d1, d2]) rfl ⟨ret_tup (by rw [HP.out]), ((hB1.setCell (p := ⟨w.heap.size + 1, 0, none⟩) (by simp) _).setCell (p := ⟨w.heap.size + 1, 1, none⟩) (by simp) _).setCell (p := ⟨w.heap.size + 1, 2, none⟩) (by simp) _⟩
end Go.Proofs.YtjeogbdeagkomaaDoor

/- Package lex: May, counts. Printed by l9gen.py. -/
import Derived.Test.YtjeogbdeagkomaaDoorVL9
import Derived.Deep.RegionHeld3
namespace Go.Proofs.YtjeogbdeagkomaaDoor
open Go.RowKit Nm Bset Lm

theorem keep14 {g : Nat} {klo khi : Int} {W : World} (h : W.cell? ⟨g, 8, none⟩ = some (.int .i64 klo) ∧ W.cell? ⟨g, 9, none⟩ = some (.int .i64 khi) ∧ (∃ v, W.cell? ⟨g + 1, 8, none⟩ = some v) ∧ (∃ v, W.cell? ⟨g + 1, 9, none⟩ = some v) ∧ W.frozen? ⟨g + 1, 8, none⟩ = false ∧ W.frozen? ⟨g + 1, 9, none⟩ = false) (j : Nat) (u : Value) (_hj : j = 8 ∨ j = 9) : (W.setCell ⟨g + 1, j, none⟩ u).cell? ⟨g, 8, none⟩ = some (.int .i64 klo) ∧ (W.setCell ⟨g + 1, j, none⟩ u).cell? ⟨g, 9, none⟩ = some (.int .i64 khi) ∧ (∃ v, (W.setCell ⟨g + 1, j, none⟩ u).cell? ⟨g + 1, 8, none⟩ = some v) ∧ (∃ v, (W.setCell ⟨g + 1, j, none⟩ u).cell? ⟨g + 1, 9, none⟩ = some v) ∧ (W.setCell ⟨g + 1, j, none⟩ u).frozen? ⟨g + 1, 8, none⟩ = false ∧ (W.setCell ⟨g + 1, j, none⟩ u).frozen? ⟨g + 1, 9, none⟩ = false := by
  obtain ⟨h1, h2, ⟨v3, h3⟩, ⟨v4, h4⟩, h5, h6⟩ := h
  have c3 := cell?_setCell_some (w := W) (p := ⟨g + 1, j, none⟩) (x := u) h3
  have c4 := cell?_setCell_some (w := W) (p := ⟨g + 1, j, none⟩) (x := u) h4
  have n : g ≠ g + 1 := by omega
  refine ⟨?_, ?_, c3, c4, ?_, ?_⟩
  · exact (World.cell?_setCell_far W _ _ u (fun e => n e.symm)).trans h1
  · exact (World.cell?_setCell_far W _ _ u (fun e => n e.symm)).trans h2
  · rw [World.frozen?_setCell]
    exact h5
  · rw [World.frozen?_setCell]
    exact h6

set_option maxRecDepth 100000 in
set_option maxHeartbeats 4000000 in
theorem lmay_count (ki kl : Int) (kt : ByteArray) (ks : Nat → Bool) (klo khi : Int) (_hs : kt.size < 9223372036854775807) (w : World) :
    Calls Tryd.prog 60 #[lwV ⟨14, ki, kl, kt, ks, klo, khi⟩] w fun e w' => e = .returned (.bool (mayW ⟨14, ki, kl, kt, ks, klo, khi⟩)) ∧ Below w.heap.size w w' := by
  obtain ⟨q0, q1, q2, q3⟩ := word_nul
  obtain ⟨g, hg⟩ : ∃ g, g = w.heap.size := ⟨_, rfl⟩
  have hal := fun W => alone_any ⟨14, ki, kl, kt, ks, klo, khi⟩ W
  have hm := fun W => (counts_any klo khi W).mono fun _ _ h => (⟨h.1, h.2.symm⟩ : _ ∧ W = _)
  have he := fun W => run_eql_word ⟨14, 0, 0, kt, ks, klo, khi⟩ ⟨14, 0, 0, ⟨#[]⟩, nul, klo, khi⟩ W
  have hmay : mayW ⟨14, ki, kl, kt, ks, klo, khi⟩ = (Lm.counts klo khi && sameW ⟨14, 0, 0, kt, ks, klo, khi⟩ ⟨14, 0, 0, ⟨#[]⟩, nul, klo, khi⟩) := rfl
  rw [hmay]
  have c0 : ((0 : Nat) : Int) = 0 := rfl
  have c1 : ((14 : Nat) : Int) = 14 := rfl
  simp only [lwV, lwC, q0, q1, q2, q3, c0, c1] at he
  simp only [lwV, lwC, c1] at hal
  have HE := Lib.hid he
  have HA := Lib.hid hal
  generalize sameW ⟨14, 0, 0, kt, ks, klo, khi⟩ ⟨14, 0, 0, ⟨#[]⟩, nul, klo, khi⟩ = sm at *
  have HM := Lib.hid hm
  generalize Lm.counts klo khi = mb at *
  clear he hal hmay hm
  go_enter Tryd.func60, Tryd.ntmps60
  go_upto_region 7 with fail
  obtain ⟨W1, hW1⟩ : ∃ W1, (w.alloc (.cells (lwC ⟨14, ki, kl, kt, ks, klo, khi⟩) 64)).alloc (.cells #[.int .u8 14, .int .i64 0, .int .i64 0, .string ⟨#[]⟩, .int .u64 0, .int .u64 0, .int .u64 0, .int .u64 0, .int .i64 0, .int .i64 0] 64) = W1 := ⟨_, rfl⟩
  have s0 : Cl W1 g 64 (lwC ⟨14, ki, kl, kt, ks, klo, khi⟩) := by rw [← hW1, hg]; exact (Cl.new _ _ _).alloc _
  have s1 : Cl W1 (g + 1) 64 #[.int .u8 14, .int .i64 0, .int .i64 0, .string ⟨#[]⟩, .int .u64 0, .int .u64 0, .int .u64 0, .int .u64 0, .int .i64 0, .int .i64 0] := by rw [← hW1, hg]; exact Cl.new' (by simp) _ _
  have b1 : Below w.heap.size w W1 := by rw [← hW1]; exact ((Below.refl _ w).alloc (Nat.le_refl _) _).alloc (by simp) _
  change Code.wp _ _ _ _ ((w.alloc (.cells (lwC ⟨14, ki, kl, kt, ks, klo, khi⟩) 64)).alloc (.cells #[.int .u8 14, .int .i64 0, .int .i64 0, .string ⟨#[]⟩, .int .u64 0, .int .u64 0, .int .u64 0, .int .u64 0, .int .i64 0, .int .i64 0] 64))
  rw [hW1, ← hg]
  obtain ⟨⟨x0, x1, x2, x3, x4, x5, x6, x7, x8, x9⟩, xf⟩ := s0.ten
  obtain ⟨⟨y0, y1, y2, y3, y4, y5, y6, y7, y8, y9⟩, yf⟩ := s1.ten
  have HG := Lib.hid hg
  clear hW1 hg
  refine wp_region_held_drew (S := (fun w' => w'.cell? ⟨g, 8, none⟩ = some (.int .i64 klo) ∧ w'.cell? ⟨g, 9, none⟩ = some (.int .i64 khi) ∧ (∃ v, w'.cell? ⟨g + 1, 8, none⟩ = some v) ∧ (∃ v, w'.cell? ⟨g + 1, 9, none⟩ = some v) ∧ w'.frozen? ⟨g + 1, 8, none⟩ = false ∧ w'.frozen? ⟨g + 1, 9, none⟩ = false)) (by kernel_rfl) (⟨x8, x9, ⟨_, y8⟩, ⟨_, y9⟩, yf 8, yf 9⟩) (fun hHeld => ?_)
  refine wpAnyH_take (i := 0) (v := ?r1v0) rfl (by kernel_rfl) (by kernel_rfl) (by kernel_rfl) (fun _ _ _ h => h) (Or.inl ⟨by rfl, ?r1y0⟩) (by assumption) ?r1t0
  case r1y0 => (intro w hSw; (try dsimp only at hSw); (try simp only [List.getElem_toArray, List.getElem_cons_zero]); go_simp; try with_reducible rfl)
  try simp only [Act.put, List.getElem_toArray, List.getElem_cons_zero, List.setIfInBounds_toArray, List.set_cons_zero, List.set_cons_succ]
  refine wpAnyH_take (i := 1) (v := ?r1v1) rfl (by kernel_rfl) (by kernel_rfl) (by kernel_rfl) (fun _ _ _ h => h) (Or.inl ⟨by rfl, ?r1y1⟩) (by assumption) ?r1t1
  case r1y1 => (intro w hSw; (try dsimp only at hSw); (try simp only [List.getElem_toArray, List.getElem_cons_zero, List.getElem_cons_succ]); go_simp; try with_reducible rfl)
  try simp only [Act.put, List.getElem_toArray, List.getElem_cons_zero, List.getElem_cons_succ, List.setIfInBounds_toArray, List.set_cons_zero, List.set_cons_succ]
  refine wpAnyH_take (i := 2) (v := ?r1v2) rfl (by kernel_rfl) (by kernel_rfl) (by kernel_rfl) (fun _ _ _ h => h) (Or.inl ⟨by rfl, ?r1y2⟩) (by assumption) ?r1t2
  case r1y2 => (intro w hSw; (try dsimp only at hSw); (try simp only [List.getElem_toArray, List.getElem_cons_zero, List.getElem_cons_succ]); go_simp; try with_reducible rfl)
  try simp only [Act.put, List.getElem_toArray, List.getElem_cons_zero, List.getElem_cons_succ, List.setIfInBounds_toArray, List.set_cons_zero, List.set_cons_succ]
  refine wpAnyH_take (i := 3) (v := ?r1v3) rfl (by kernel_rfl) (by kernel_rfl) (by kernel_rfl) (fun _ _ _ h => h) (Or.inl ⟨by rfl, ?r1y3⟩) (by assumption) ?r1t3
  case r1y3 => (intro w hSw; (try dsimp only at hSw); (try simp only [List.getElem_toArray, List.getElem_cons_zero, List.getElem_cons_succ]); go_simp; try with_reducible rfl)
  try simp only [Act.put, List.getElem_toArray, List.getElem_cons_zero, List.getElem_cons_succ, List.setIfInBounds_toArray, List.set_cons_zero, List.set_cons_succ]
  refine wpAnyH_take (i := 4) (v := ?r1v4) rfl (by kernel_rfl) (by kernel_rfl) (by kernel_rfl) (fun _ _ _ h => h) (Or.inl ⟨by rfl, ?r1y4⟩) (by assumption) ?r1t4
  case r1y4 => (intro w hSw; (try dsimp only at hSw); (try simp only [List.getElem_toArray, List.getElem_cons_zero, List.getElem_cons_succ]); go_simp; try with_reducible rfl)
  try simp only [Act.put, List.getElem_toArray, List.getElem_cons_zero, List.getElem_cons_succ, List.setIfInBounds_toArray, List.set_cons_zero, List.set_cons_succ]
  refine wpAnyH_take (i := 5) (v := ?r1v5) rfl (by kernel_rfl) (by kernel_rfl) (by kernel_rfl) (fun _ _ _ h => h) (Or.inl ⟨by rfl, ?r1y5⟩) (by assumption) ?r1t5
  case r1y5 => (intro w hSw; (try dsimp only at hSw); (try simp only [List.getElem_toArray, List.getElem_cons_zero, List.getElem_cons_succ]); go_simp; try with_reducible rfl)
  try simp only [Act.put, List.getElem_toArray, List.getElem_cons_zero, List.getElem_cons_succ, List.setIfInBounds_toArray, List.set_cons_zero, List.set_cons_succ]
  refine wpAnyH_take (i := 6) (v := ?r1v6) rfl (by kernel_rfl) (by kernel_rfl) (by kernel_rfl) (fun _ _ _ h => h) (Or.inl ⟨by rfl, ?r1y6⟩) (by assumption) ?r1t6
  case r1y6 => (intro w hSw; (try dsimp only at hSw); (try simp only [List.getElem_toArray, List.getElem_cons_zero, List.getElem_cons_succ]); go_simp; try with_reducible rfl)
  try simp only [Act.put, List.getElem_toArray, List.getElem_cons_zero, List.getElem_cons_succ, List.setIfInBounds_toArray, List.set_cons_zero, List.set_cons_succ]
  refine wpAnyH_take (i := 7) (v := ?r1v7) rfl (by kernel_rfl) (by kernel_rfl) (by kernel_rfl) (fun _ _ _ h => h) (Or.inl ⟨by rfl, ?r1y7⟩) (by assumption) ?r1t7
  case r1y7 => (intro w hSw; (try dsimp only at hSw); (try simp only [List.getElem_toArray, List.getElem_cons_zero, List.getElem_cons_succ]); go_simp; try with_reducible rfl)
  try simp only [Act.put, List.getElem_toArray, List.getElem_cons_zero, List.getElem_cons_succ, List.setIfInBounds_toArray, List.set_cons_zero, List.set_cons_succ]
  refine wpAnyH_take (i := 9) (v := ?r1v8) rfl (by kernel_rfl) (by kernel_rfl) (by kernel_rfl) (fun _ _ _ h => h) (Or.inl ⟨by rfl, ?r1y8⟩) (by assumption) ?r1t8
  case r1y8 => (intro w hSw; (try dsimp only at hSw); (try simp only [List.getElem_toArray, List.getElem_cons_zero, List.getElem_cons_succ]); go_simp; try with_reducible rfl)
  try simp only [Act.put, List.getElem_toArray, List.getElem_cons_zero, List.getElem_cons_succ, List.setIfInBounds_toArray, List.set_cons_zero, List.set_cons_succ]
  refine wpAnyH_ready (rs := [8]) (by kernel_rfl) (by simp) ?_
  refine AllReadyH.cons rfl (fun K hK => ?_) AllReadyH.nil
  try simp only [List.getElem_toArray, List.getElem_cons_zero, List.getElem_cons_succ]
  go_simp
  go_at_call 95; refine (HM.out _).mono ?_; rintro e w2 ⟨rfl, rfl⟩
  try go_simp
  refine hK.out _ _ ?r1S9 (fun hHeld2 => ?_)
  case r1S9 => (try dsimp only); (first | exact hHeld | exact keep14 hHeld 8 _ (.inl rfl) | exact keep14 hHeld 9 _ (.inr rfl))
  clear hHeld hK K
  have hHeld := hHeld2
  clear hHeld2
  try simp only [Act.put, List.getElem_toArray, List.getElem_cons_zero, List.getElem_cons_succ, List.setIfInBounds_toArray, List.set_cons_zero, List.set_cons_succ]
  refine wpAnyH_ready (rs := [10]) (by kernel_rfl) (by simp) ?_
  refine AllReadyH.cons rfl (fun K hK => ?_) AllReadyH.nil
  try simp only [List.getElem_toArray, List.getElem_cons_zero, List.getElem_cons_succ]
  go_simp
  refine hK.out _ _ ?r1S10 (fun hHeld2 => ?_)
  case r1S10 => (try dsimp only); (first | exact hHeld | exact keep14 hHeld 8 _ (.inl rfl) | exact keep14 hHeld 9 _ (.inr rfl))
  clear hHeld hK K
  have hHeld := hHeld2
  clear hHeld2
  try simp only [Act.put, List.getElem_toArray, List.getElem_cons_zero, List.getElem_cons_succ, List.setIfInBounds_toArray, List.set_cons_zero, List.set_cons_succ]
  refine wpAnyH_take (i := 11) (v := ?r1v11) rfl (by kernel_rfl) (by kernel_rfl) (by kernel_rfl) (fun _ _ _ h => h) (Or.inl ⟨by rfl, ?r1y11⟩) (by assumption) ?r1t11
  case r1y11 => (intro w hSw; (try dsimp only at hSw); (try simp only [List.getElem_toArray, List.getElem_cons_zero, List.getElem_cons_succ]); go_simp; try with_reducible rfl)
  try simp only [Act.put, List.getElem_toArray, List.getElem_cons_zero, List.getElem_cons_succ, List.setIfInBounds_toArray, List.set_cons_zero, List.set_cons_succ]
  refine wpAnyH_ready (rs := [12]) (by kernel_rfl) (by simp) ?_
  refine AllReadyH.cons rfl (fun K hK => ?_) AllReadyH.nil
  try simp only [List.getElem_toArray, List.getElem_cons_zero, List.getElem_cons_succ]
  go_simp
  refine hK.out _ _ ?r1S12 (fun hHeld2 => ?_)
  case r1S12 => (try dsimp only); (first | exact hHeld | exact keep14 hHeld 8 _ (.inl rfl) | exact keep14 hHeld 9 _ (.inr rfl))
  clear hHeld hK K
  have hHeld := hHeld2
  clear hHeld2
  try simp only [Act.put, List.getElem_toArray, List.getElem_cons_zero, List.getElem_cons_succ, List.setIfInBounds_toArray, List.set_cons_zero, List.set_cons_succ]
  refine wpAnyH_take (i := 13) (v := ?r1v13) rfl (by kernel_rfl) (by kernel_rfl) (by kernel_rfl) (fun _ _ _ h => h) (Or.inl ⟨by rfl, ?r1y13⟩) (by assumption) ?r1t13
  case r1y13 => (intro w hSw; (try dsimp only at hSw); (try simp only [List.getElem_toArray, List.getElem_cons_zero, List.getElem_cons_succ]); go_simp; try with_reducible rfl)
  try simp only [Act.put, List.getElem_toArray, List.getElem_cons_zero, List.getElem_cons_succ, List.setIfInBounds_toArray, List.set_cons_zero, List.set_cons_succ]
  refine wpAnyH_done (by kernel_rfl) ?_ _
  go_upto_region 12 with fail
  clear HM
  clear x0 x1 x2 x3 x4 x5 x6 x7 x8 x9 xf y0 y1 y2 y3 y4 y5 y6 y7 y8 y9 yf
  have p1 := s1.put 8 (.int .i64 klo)
  have r1 := s0.other (p := ⟨g + 1, 8, none⟩) (by simp) (.int .i64 klo)
  have b_1 := b1.setCell (p := ⟨g + 1, 8, none⟩) (by have := HG.out; simp; omega) (.int .i64 klo)
  have p2 := p1.put 9 (.int .i64 khi)
  have r2 := r1.other (p := ⟨g + 1, 9, none⟩) (by simp) (.int .i64 khi)
  have b_2 := b_1.setCell (p := ⟨g + 1, 9, none⟩) (by have := HG.out; simp; omega) (.int .i64 khi)
  have s2 := p2.drew
  have s3 := r2.drew
  have b2 := b_2.drew
  clear s0 s1 b1 p1 r1 b_1 p2 r2 b_2
  generalize ((W1.setCell ⟨g + 1, 8, none⟩ (.int .i64 klo)).setCell ⟨g + 1, 9, none⟩ (.int .i64 khi)).drew = W2 at *
  obtain ⟨⟨x0, x1, x2, x3, x4, x5, x6, x7, x8, x9⟩, xf⟩ := s3.ten
  obtain ⟨⟨y0, y1, y2, y3, y4, y5, y6, y7, y8, y9⟩, yf⟩ := s2.ten
  have he := HE.out
  cases mb with
  | false =>
    go_quiet (fail)
    go_wp2
    go_ret
    exact ⟨rfl, below_drewN b2 _⟩
  | true =>
    go_region_with (go_at_call 96; refine (HA.out _).mono ?_; rintro e w3 ⟨rfl, hb3⟩; obtain ⟨⟨x0, x1, x2, x3, x4, x5, x6, x7, x8, x9⟩, xf⟩ := (s3.drew.below hb3 s3.lt).ten; obtain ⟨⟨y0, y1, y2, y3, y4, y5, y6, y7, y8, y9⟩, yf⟩ := (s2.drew.below hb3 s2.lt).ten)
    all_goals
      go_wp2
      go_ret
      exact ⟨rfl, (b2.drew.trans (hb3.mono b2.size))⟩
end Go.Proofs.YtjeogbdeagkomaaDoor

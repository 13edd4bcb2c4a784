/- The statements' awake. -/
import Derived.Test.YtpkjfdgjmcphmaaDoorVEr
import Derived.Deep.RegionHeld3
namespace Go.Proofs.YtpkjfdgjmcphmaaDoor
open Go.RowKit Bset Tm

set_option maxRecDepth 100000 in
set_option maxHeartbeats 8000000 in
theorem awake5_any (w : World) (hE : Env w) :
    Calls Tryd.prog 44 #[] w fun e w' => e = .returned (.bool true) ∧ Below w.heap.size w w' := by
  have h := Bq.start w
  have k1 := okl_few [txR 97, txR 98, txR 99] (by decide +kernel)
  have k2 := okl_few [txR 98, txR 99] (by decide +kernel)
  have k3 := okl_few [txR 97, .mk noHd [], .mk (hdK 4) [txR 98, txR 99]] (by decide +kernel)
  have k4 := okl_few [] (by decide +kernel)
  have k5 := okl_few [.mk noHd []] (by decide +kernel)
  have k6 := okl_few [ruR 120, ruR 121] (by decide +kernel)
  have k7 := okl_few [.mk (hdK 5) [ruR 120, ruR 121], ruR 122] (by decide +kernel)
  have k8 := okl_few [ruR 120, ruR 121, ruR 122] (by decide +kernel)
  have k9 := okl_few [] (by decide +kernel)
  have k10 := okl_few [txR 98, txR 99] (by decide +kernel)
  go_enter Tryd.func44, Tryd.ntmps44
  go_wp2_with (first
    | (go_at_call 86; refine (text_ar _ _).mono ?_; rintro e w1 ⟨v, rfl, hm, hb⟩
       obtain ⟨p, c, rfl, h'⟩ := h.got hb hm
       replace h := h'
       clear hm hb h')
    | (go_at_call 85; refine (of_ar 4 (.inl rfl) _ [txR 97, txR 98, txR 99] (by decide) _ (trees_three h.f2 h.f1 h.f0) k1.1 k1.2 (hE.below (h.alloc _).b)).mono ?_; rintro e w1 ⟨v, rfl, hm, hb⟩
       obtain ⟨p, c, rfl, h'⟩ := (h.alloc _).got hb hm
       replace h := (h'.box h'.f0).none
       clear hm hb h' k1))
  generalize hg1 : w1.heap.size = g1 at *
  clear hg1
  generalize w1.alloc _ = W1 at *
  go_wp2_with (go_at_call 67; refine (rule_ar _ _).mono ?_; rintro e w2 ⟨v, rfl, hm, hb⟩
               obtain ⟨p, c, rfl, h'⟩ := h.got hb hm
               replace h := h'
               clear hm hb h')
  replace h := h.box h.f2
  replace h := h.box h.f1
  replace h := (h.box h.f0).none
  simp only [World.size_alloc] at h
  generalize hg2 : w2.heap.size = g2 at *
  clear hg2
  generalize ((w2.alloc _).alloc _).alloc _ = W2 at *
  go_wp2_with (first
    | (go_at_call 86; refine (text_ar _ _).mono ?_; rintro e w3 ⟨v, rfl, hm, hb⟩
       obtain ⟨p, c, rfl, h'⟩ := h.got hb hm
       replace h := h'
       clear hm hb h')
    | (go_at_call 17; refine (empty_ar _).mono ?_; rintro e w3 ⟨v, rfl, hm, hb⟩
       obtain ⟨p, c, rfl, h'⟩ := h.got hb hm
       replace h := h'
       clear hm hb h')
    | (go_at_call 85; refine (of_ar 4 (.inl rfl) _ [txR 98, txR 99] (by decide) _ (trees_two h.f1 h.f0) k2.1 k2.2 (hE.below (h.alloc _).b)).mono ?_; rintro e w3 ⟨v, rfl, hm, hb⟩
       obtain ⟨p, c, rfl, h'⟩ := (h.alloc _).got hb hm
       replace h := h'
       clear hm hb h' k2)
    | (go_at_call 46; refine (seq_ar _ [txR 97, .mk noHd [], .mk (hdK 4) [txR 98, txR 99]] _ (trees_three h.f4 h.f3 h.f0) k3.1 k3.2 (hE.below (h.alloc _).b)).mono ?_; rintro e wa ⟨v, rfl, hm, hb⟩; rw [aw1] at hm
       obtain ⟨p, c, rfl, h'⟩ := (h.alloc _).got hb hm
       replace h := (h'.box h'.f0).none
       clear hm hb h' k3)
    | (go_at_call 46; refine (seq_ar _ [] _ ⟨none, 0, rfl, .inl rfl⟩ k4.1 k4.2 (hE.below h.b)).mono ?_; rintro e wb ⟨v, rfl, hm, hb⟩; rw [aw2] at hm
       obtain ⟨p, c, rfl, h'⟩ := h.got hb hm
       replace h := (h'.box h'.f0).none
       clear hm hb h' k4)
    | (go_at_call 46; refine (seq_ar _ [.mk noHd []] _ (trees_one' h.f0) k5.1 k5.2 (hE.below (h.alloc _).b)).mono ?_; rintro e wc ⟨v, rfl, hm, hb⟩; rw [aw3] at hm
       obtain ⟨p, c, rfl, h'⟩ := (h.alloc _).got hb hm
       replace h := (h'.box h'.f0).none
       clear hm hb h' k5))
  generalize hgc : wc.heap.size = gc at *
  clear hgc
  generalize wc.alloc _ = W5 at *
  obtain ⟨vx, x0, x1, tx⟩ : ∃ v, W5.cell? ⟨g2, 0, none⟩ = some v ∧ W5.cell? ⟨g2, 1, none⟩ = some (.int .i64 (arOf (ruR 120)).root) ∧ Tree W5 (treeV v (arOf (ruR 120)).root) (arOf (ruR 120)) := by
    have hc := h.c _ (.tail _ (.tail _ (.tail _ (.tail _ (.tail _ (.head _))))))
    exact ⟨_, hc.1.two.1.1, hc.1.two.1.2, hc.2⟩
  obtain ⟨vy, y0, y1, ty⟩ : ∃ v, W5.cell? ⟨g2 + 1, 0, none⟩ = some v ∧ W5.cell? ⟨g2 + 1, 1, none⟩ = some (.int .i64 (arOf (ruR 121)).root) ∧ Tree W5 (treeV v (arOf (ruR 121)).root) (arOf (ruR 121)) := by
    have hc := h.c _ (.tail _ (.tail _ (.tail _ (.tail _ (.head _)))))
    exact ⟨_, hc.1.two.1.1, hc.1.two.1.2, hc.2⟩
  obtain ⟨vz, z0, z1, tz⟩ : ∃ v, W5.cell? ⟨g2 + 1 + 1, 0, none⟩ = some v ∧ W5.cell? ⟨g2 + 1 + 1, 1, none⟩ = some (.int .i64 (arOf (ruR 122)).root) ∧ Tree W5 (treeV v (arOf (ruR 122)).root) (arOf (ruR 122)) := by
    have hc := h.c _ (.tail _ (.tail _ (.tail _ (.head _))))
    exact ⟨_, hc.1.two.1.1, hc.1.two.1.2, hc.2⟩
  have hE5 := hE.below h.b
  refine wp_region_mono [Mop.val [] [] (fun _ => .agg #[vx, (.int .i64 (arOf (ruR 120)).root)]), Mop.val [] [] (fun _ => .agg #[vy, (.int .i64 (arOf (ruR 121)).root)]), ⟨[0, 1], [0, 1], none, fun _ lo hi u w => u = .slice (some ⟨lo, 0, none⟩) 2 2 ∧ hi = lo + 1 ∧ Cl w lo 26 #[vx, (.int .i64 (arOf (ruR 120)).root), vy, (.int .i64 (arOf (ruR 121)).root)]⟩, ⟨[2], [2], none, fun _ lo hi u w => TreeAt lo hi w u (arOf xyR)⟩, Mop.val [] [] (fun _ => .agg #[vz, (.int .i64 (arOf (ruR 122)).root)]), ⟨[3, 4], [3, 4], none, fun x lo hi u w => u = .slice (some ⟨lo, 0, none⟩) 2 2 ∧ hi = lo + 1 ∧ ∃ nv, x 3 = treeV nv (arOf xyR).root ∧ Cl w lo 26 #[nv, .int .i64 (arOf xyR).root, vz, (.int .i64 (arOf (ruR 122)).root)]⟩, ⟨[5, 3], [5, 3], none, fun _ lo hi u w => ∃ v, u = .tuple #[v, .bool true] ∧ TreeAt lo hi w v (arOf xyzR)⟩, Mop.val [6] [] (fun x => x 6), ⟨[7, 6], [7, 6], none, fun x _ _ u _ => x 6 = .tuple #[u, .bool true]⟩, ⟨[7, 6], [7, 6], none, fun _ _ _ u _ => u = .bool true⟩, ⟨[], [], none, fun _ lo hi u w => u = .pointer (some ⟨lo, 0, none⟩) ∧ hi = lo + 1 ∧ Cl w lo 26 #[.slice none 0 0, .int .i64 0]⟩, ⟨[10, 8, 6], [10, 8, 6], some 10, fun x lo hi _ w => x 10 = .pointer (some ⟨lo, 0, none⟩) ∧ hi = lo + 1 ∧ ∃ nv, x 8 = treeV nv (arOf xyzR).root ∧ Cl w lo 26 #[nv, .int .i64 (arOf xyzR).root]⟩, ⟨[9], [9], none, fun _ _ _ u _ => u = .bool true⟩] [([], [], none), ([], [], none), ([0, 1], [0, 1], none), ([2], [2], none), ([], [], none), ([3, 4], [3, 4], none), ([5, 3], [5, 3], none), ([6], [], none), ([7, 6], [7, 6], none), ([7, 6], [7, 6], none), ([], [], none), ([10, 8, 6], [10, 8, 6], some 10), ([9], [9], none)] [0, 1, 2, 3, 4, 5, 6, 7, 8, 9, 11, 12] [0, 1, 2, 3, 4, 5, 6, 7, 8, 9, 10, 11, 12] (by kernel_rfl) (by kernel_rfl) rfl (by kernel_rfl) ⟨?s0, ?s1, ?s2, ?s3, ?s4, ?s5, ?s6, ?s7, ?s8, ?s9, ?s10, ?s11, ?s12, trivial⟩ ?good ?fin
  case s0 =>
    refine MStep.mk rfl (fun x lo hi w hb hf K hK => ?_)
    simp only [putAll, Mop.val, List.getElem_toArray, List.getElem_cons_zero, Act.put, List.setIfInBounds_toArray, List.set_cons_zero, List.set_cons_succ] at hK ⊢
    have k0 := (hb.cell (p := ⟨g2, 0, none⟩) (cell_lt x0)).trans x0
    have k1 := (hb.cell (p := ⟨g2, 1, none⟩) (cell_lt x1)).trans x1
    go_simp
    exact hK.out _ _ (Mop.done_make rfl (Below.refl _ _) rfl)
  case s1 =>
    refine MStep.mk rfl (fun x lo hi w hb hf K hK => ?_)
    simp only [putAll, Mop.val, List.getElem_toArray, List.getElem_cons_zero, List.getElem_cons_succ, Act.put, List.setIfInBounds_toArray, List.set_cons_zero, List.set_cons_succ] at hK ⊢
    have k0 := (hb.cell (p := ⟨g2 + 1, 0, none⟩) (cell_lt y0)).trans y0
    have k1 := (hb.cell (p := ⟨g2 + 1, 1, none⟩) (cell_lt y1)).trans y1
    go_simp
    exact hK.out _ _ (Mop.done_make rfl (Below.refl _ _) rfl)
  case s2 =>
    refine MStep.mk rfl (fun x lo hi w hb hf K hK => ?_)
    simp only [putAll, mdst, List.getElem_toArray, List.getElem_cons_zero, List.getElem_cons_succ, List.getElem?_toArray, List.getElem?_cons_zero, List.getElem?_cons_succ, Option.bind_some, Act.put, List.setIfInBounds_toArray, List.set_cons_zero, List.set_cons_succ] at hK ⊢
    obtain ⟨f0, f1, _⟩ := hf
    replace f0 : x 0 = _ := f0
    replace f1 : x 1 = _ := f1
    simp only [f0, f1] at hK ⊢
    go_simp
    exact hK.out _ _ (Mop.done_make rfl ((Below.refl _ _).alloc (Nat.le_refl _) _) ⟨rfl, by rw [World.size_alloc], Cl.new _ _ _⟩)
  case s3 =>
    refine MStep.mk rfl (fun x lo hi w hb hf K hK => ?_)
    simp only [putAll, mdst, List.getElem_toArray, List.getElem_cons_zero, List.getElem_cons_succ, List.getElem?_toArray, List.getElem?_cons_zero, List.getElem?_cons_succ, Option.bind_some, Act.put, List.setIfInBounds_toArray, List.set_cons_zero, List.set_cons_succ] at hK ⊢
    obtain ⟨f2, _⟩ := hf
    obtain ⟨e2, -, c2⟩ : x 2 = .slice (some ⟨lo 2, 0, none⟩) 2 2 ∧ _ ∧ Cl w (lo 2) _ _ := f2
    simp only [e2] at hK ⊢
    go_simp
    refine (of_ar 5 (.inr rfl) _ [ruR 120, ruR 121] (by decide) _ (trees_in2 c2 (tx.below hb) (ty.below hb)) k6.1 k6.2 (hE5.below hb)).mono ?_
    rintro e w' ⟨v, rfl, hm, hb'⟩
    try go_simp
    exact hK.out _ _ (Mop.done_make rfl hb' (TreeAt.of hm))
  case s4 =>
    refine MStep.mk rfl (fun x lo hi w hb hf K hK => ?_)
    simp only [putAll, Mop.val, List.getElem_toArray, List.getElem_cons_zero, List.getElem_cons_succ, Act.put, List.setIfInBounds_toArray, List.set_cons_zero, List.set_cons_succ] at hK ⊢
    have k0 := (hb.cell (p := ⟨g2 + 1 + 1, 0, none⟩) (cell_lt z0)).trans z0
    have k1 := (hb.cell (p := ⟨g2 + 1 + 1, 1, none⟩) (cell_lt z1)).trans z1
    go_simp
    exact hK.out _ _ (Mop.done_make rfl (Below.refl _ _) rfl)
  case s5 =>
    refine MStep.mk rfl (fun x lo hi w hb hf K hK => ?_)
    simp only [putAll, mdst, List.getElem_toArray, List.getElem_cons_zero, List.getElem_cons_succ, List.getElem?_toArray, List.getElem?_cons_zero, List.getElem?_cons_succ, Option.bind_some, Act.put, List.setIfInBounds_toArray, List.set_cons_zero, List.set_cons_succ] at hK ⊢
    obtain ⟨f3, f4, _⟩ := hf
    replace f3 : TreeAt (lo 3) (hi 3) w (x 3) (arOf xyR) := f3
    replace f4 : x 4 = _ := f4
    obtain ⟨p, c, e3, t3⟩ := f3.tree
    simp only [e3, f4] at hK ⊢
    go_simp
    exact hK.out _ _ (Mop.done_make rfl ((Below.refl _ _).alloc (Nat.le_refl _) _) ⟨rfl, by rw [World.size_alloc], _, e3, Cl.new _ _ _⟩)
  case s6 =>
    refine MStep.mk rfl (fun x lo hi w hb hf K hK => ?_)
    simp only [putAll, mdst, List.getElem_toArray, List.getElem_cons_zero, List.getElem_cons_succ, List.getElem?_toArray, List.getElem?_cons_zero, List.getElem?_cons_succ, Option.bind_some, Act.put, List.setIfInBounds_toArray, List.set_cons_zero, List.set_cons_succ] at hK ⊢
    obtain ⟨f5, f3, _⟩ := hf
    replace f3 : TreeAt (lo 3) (hi 3) w (x 3) (arOf xyR) := f3
    obtain ⟨e5, -, nv, e3, c5⟩ : x 5 = .slice (some ⟨lo 5, 0, none⟩) 2 2 ∧ _ ∧ ∃ nv, x 3 = treeV nv _ ∧ Cl w (lo 5) _ _ := f5
    obtain ⟨p, c, e3', t3⟩ := f3.tree
    obtain rfl : nv = _ := by simpa using e3.symm.trans e3'
    simp only [e5, e3'] at hK ⊢
    go_simp
    refine (cho_ar _ [.mk (hdK 5) [ruR 120, ruR 121], ruR 122] _ (trees_in2 c5 t3 (tz.below hb)) k7.1 k7.2 (hE5.below hb)).mono ?_
    rintro e w' ⟨v, rfl, hm, hb'⟩
    rw [aw4] at hm
    try go_simp
    exact hK.out _ _ (Mop.done_make rfl hb' ⟨_, rfl, TreeAt.of hm⟩)
  case s7 =>
    refine MStep.mk rfl (fun x lo hi w hb hf K hK => ?_)
    simp only [putAll, mdst, Mop.val, List.getElem_toArray, List.getElem_cons_zero, List.getElem_cons_succ, List.getElem?_toArray, List.getElem?_cons_zero, List.getElem?_cons_succ, Option.bind_some, Act.put, List.setIfInBounds_toArray, List.set_cons_zero, List.set_cons_succ] at hK ⊢
    go_simp
    exact hK.out _ _ (Mop.done_make rfl (Below.refl _ _) rfl)
  case s8 =>
    refine MStep.mk rfl (fun x lo hi w hb hf K hK => ?_)
    simp only [putAll, mdst, List.getElem_toArray, List.getElem_cons_zero, List.getElem_cons_succ, List.getElem?_toArray, List.getElem?_cons_zero, List.getElem?_cons_succ, Option.bind_some, Act.put, List.setIfInBounds_toArray, List.set_cons_zero, List.set_cons_succ] at hK ⊢
    obtain ⟨f7, f6, _⟩ := hf
    obtain ⟨v, e6, t6⟩ : ∃ v, x 6 = .tuple #[v, .bool true] ∧ TreeAt (lo 6) (hi 6) w v (arOf xyzR) := f6
    replace f7 : x 7 = x 6 := f7
    simp only [f7, e6] at hK ⊢
    go_simp
    exact hK.out _ _ (Mop.done_make rfl (Below.refl _ _) e6)
  case s9 =>
    refine MStep.mk rfl (fun x lo hi w hb hf K hK => ?_)
    simp only [putAll, mdst, List.getElem_toArray, List.getElem_cons_zero, List.getElem_cons_succ, List.getElem?_toArray, List.getElem?_cons_zero, List.getElem?_cons_succ, Option.bind_some, Act.put, List.setIfInBounds_toArray, List.set_cons_zero, List.set_cons_succ] at hK ⊢
    obtain ⟨f7, f6, _⟩ := hf
    obtain ⟨v, e6, t6⟩ : ∃ v, x 6 = .tuple #[v, .bool true] ∧ TreeAt (lo 6) (hi 6) w v (arOf xyzR) := f6
    replace f7 : x 7 = x 6 := f7
    simp only [f7, e6] at hK ⊢
    go_simp
    exact hK.out _ _ (Mop.done_make rfl (Below.refl _ _) rfl)
  case s10 =>
    refine MStep.mk rfl (fun x lo hi w hb hf K hK => ?_)
    simp only [putAll, List.getElem_toArray, List.getElem_cons_zero, List.getElem_cons_succ, Act.put, List.setIfInBounds_toArray, List.set_cons_zero, List.set_cons_succ] at hK ⊢
    go_simp
    exact hK.out _ _ (Mop.done_make rfl ((Below.refl _ _).alloc (Nat.le_refl _) _) ⟨rfl, by rw [World.size_alloc], Cl.new _ _ _⟩)
  case s11 =>
    refine MStep.mk rfl (fun x lo hi w hb hf K hK => ?_)
    simp only [putAll, mdst, List.getElem_toArray, List.getElem_cons_zero, List.getElem_cons_succ, List.getElem?_toArray, List.getElem?_cons_zero, List.getElem?_cons_succ, Option.bind_some, Act.put, List.setIfInBounds_toArray, List.set_cons_zero, List.set_cons_succ] at hK ⊢
    obtain ⟨f10, f8, f6, _⟩ := hf
    obtain ⟨e10, z10, c10⟩ : x 10 = .pointer (some ⟨lo 10, 0, none⟩) ∧ hi 10 = lo 10 + 1 ∧ Cl w (lo 10) _ _ := f10
    obtain ⟨v, e6, t6⟩ : ∃ v, x 6 = .tuple #[v, .bool true] ∧ TreeAt (lo 6) (hi 6) w v (arOf xyzR) := f6
    replace f8 : x 6 = .tuple #[x 8, .bool true] := f8
    obtain ⟨p, c, rfl, t8⟩ := t6.tree
    have e8 : x 8 = _ := (by simpa using f8.symm.trans e6 : x 8 = treeV (.slice p _ c) _)
    clear f8
    obtain ⟨⟨i0, i1⟩, jf⟩ := c10.two
    simp only [e10, e8, e6] at hK ⊢
    go_simp
    refine hK.out undef _ (Mop.done_write rfl ?_ ⟨e10, z10, _, e8, ?_⟩)
    · rw [z10]; exact Writes.put2 _ _
    · exact (c10.put 0 _).put 1 _
  case s12 =>
    refine MStep.mk rfl (fun x lo hi w hb hf K hK => ?_)
    simp only [putAll, mdst, List.getElem_toArray, List.getElem_cons_zero, List.getElem_cons_succ, List.getElem?_toArray, List.getElem?_cons_zero, List.getElem?_cons_succ, Option.bind_some, Act.put, List.setIfInBounds_toArray, List.set_cons_zero, List.set_cons_succ] at hK ⊢
    obtain ⟨f9, _⟩ := hf
    replace f9 : x 9 = .bool true := f9
    simp only [f9] at hK ⊢
    go_simp
    exact hK.out _ _ (Mop.done_make rfl (Below.refl _ _) rfl)
  case good => exact ⟨Mop.Good.val (fun _ _ _ => rfl), Mop.Good.val (fun _ _ _ => rfl), ⟨fun _ _ _ _ _ _ _ h => h, fun x lo hi u w w' h hl => ⟨h.1, h.2.1, h.2.2.like hl (Nat.le_refl _) (by have := h.2.1; omega)⟩⟩, ⟨fun _ _ _ _ _ _ _ h => h, fun x lo hi u w w' h hl => TreeAt.like h hl⟩, Mop.Good.val (fun _ _ _ => rfl), ⟨fun x y h lo hi u w hu => (by have e := h 3 (by simp); dsimp only at hu ⊢; rw [← e]; exact hu), fun x lo hi u w w' ⟨h1, h2, nv, h3, h4⟩ hl => ⟨h1, h2, nv, h3, h4.like hl (Nat.le_refl _) (by omega)⟩⟩, ⟨fun _ _ _ _ _ _ _ h => h, fun x lo hi u w w' ⟨v, h1, h2⟩ hl => ⟨v, h1, h2.like hl⟩⟩, Mop.Good.val (fun x y h => h 6 (by simp)), ⟨fun x y h lo hi u w hu => (by have e := h 6 (by simp); dsimp only at hu ⊢; rw [← e]; exact hu), fun _ _ _ _ _ _ h _ => h⟩, ⟨fun _ _ _ _ _ _ _ h => h, fun _ _ _ _ _ _ h _ => h⟩, ⟨fun _ _ _ _ _ _ _ h => h, fun x lo hi u w w' h hl => ⟨h.1, h.2.1, h.2.2.like hl (Nat.le_refl _) (by have := h.2.1; omega)⟩⟩, ⟨fun x y h lo hi u w hu => (by have e := h 10 (by simp); have e2 := h 8 (by simp); dsimp only at hu ⊢; rw [← e, ← e2]; exact hu), fun x lo hi u w w' ⟨h1, h2, nv, h3, h4⟩ hl => ⟨h1, h2, nv, h3, h4.like hl (Nat.le_refl _) (by omega)⟩⟩, ⟨fun _ _ _ _ _ _ _ h => h, fun _ _ _ _ _ _ h _ => h⟩, trivial⟩
  case fin =>
    intro x lo hi w6 hb hf
    obtain ⟨-, -, -, -, -, -, f6, -, f8, -, f11, f12, -⟩ := hf
    obtain ⟨v, e6, t6⟩ : ∃ v, x 6 = .tuple #[v, .bool true] ∧ TreeAt (lo 6) (hi 6) w6 v (arOf xyzR) := f6
    replace f8 : x 6 = .tuple #[x 8, .bool true] := f8
    replace f12 : x 12 = .bool true := f12
    obtain ⟨e10, -, nv, e8, c11⟩ : x 10 = .pointer (some ⟨lo 11, 0, none⟩) ∧ _ ∧ ∃ nv, x 8 = treeV nv _ ∧ Cl w6 (lo 11) _ _ := f11
    obtain ⟨p, c, e8', t8⟩ := t6.tree
    obtain rfl : x 8 = v := by simpa using f8.symm.trans e6
    obtain rfl : nv = _ := by simpa using e8.symm.trans e8'
    simp only [putAll, mdst, List.getElem?_toArray, List.getElem?_cons_zero, List.getElem?_cons_succ, Option.bind_some, Act.put, List.setIfInBounds_toArray, List.set_cons_zero, List.set_cons_succ, e10, f12]
    have h := (h.below hb).add c11 t8
    generalize lo 11 = g3 at *
    clear e10 f12 f8 e6 e8 e8' t6 t8 c11 x0 x1 y0 y1 z0 z1 tx ty tz hE5 k6 k7 hb
    have s7 : True := trivial
    have s8 : True := trivial
    have s9 : True := trivial
    have s10 : True := trivial
    have s11 : True := trivial
    have s12 : True := trivial
    have s13 : True := trivial
    go_wp2_with (first
      | (have := s7; go_at_call 48; refine (cho_ar _ [] _ ⟨none, 0, rfl, .inl rfl⟩ k9.1 k9.2 (hE.below h.b)).mono ?_; rintro e ue ⟨v, rfl, hm, hb⟩; rw [aw5] at hm; obtain ⟨p, c, rfl, h'⟩ := h.got hb hm; clear h; have h := (h'.box h'.f0).none; clear hm hb h' s7; obtain ⟨⟨qabc0, qabc1⟩, -⟩ := (h.c _ (.tail _ (.tail _ (.tail _ (.tail _ (.tail _ (.tail _ (.tail _ (.tail _ (.head _)))))))))).1.two)
      | (have := s8; go_at_call 65; refine (head_abc _ _ (h.c _ (.tail _ (.tail _ (.tail _ (.tail _ (.tail _ (.tail _ (.tail _ (.tail _ (.head _)))))))))).2 (hE.below h.b)).mono ?_; rintro e uf ⟨v, rfl, hm, hb⟩; obtain ⟨p, c, rfl, h'⟩ := h.got hb hm; clear h qabc0 qabc1; have h := (h'.box h'.f0).none; clear hm hb h' s8; obtain ⟨⟨qabc0, qabc1⟩, -⟩ := (h.c _ (.tail _ (.tail _ (.tail _ (.tail _ (.tail _ (.tail _ (.tail _ (.tail _ (.tail _ (.head _))))))))))).1.two)
      | (have := s9; go_at_call 66; refine (tail_abc _ _ (h.c _ (.tail _ (.tail _ (.tail _ (.tail _ (.tail _ (.tail _ (.tail _ (.tail _ (.tail _ (.head _))))))))))).2 (hE.below h.b)).mono ?_; rintro e ug ⟨v, rfl, hm, hb⟩; obtain ⟨p, c, rfl, h'⟩ := h.got hb hm; clear h qabc0 qabc1; have h := (h'.box h'.f0).none; clear hm hb h' s9; obtain ⟨⟨qx0, qx1⟩, -⟩ := (h.c _ (.tail _ (.tail _ (.tail _ (.tail _ (.tail _ (.tail _ (.tail _ (.tail _ (.tail _ (.head _))))))))))).1.two)
      | (have := s10; go_at_call 52; refine (rep_x _ _ (h.c _ (.tail _ (.tail _ (.tail _ (.tail _ (.tail _ (.tail _ (.tail _ (.tail _ (.tail _ (.head _))))))))))).2 (hE.below h.b)).mono ?_; rintro e urep ⟨v, rfl, hm, hb⟩; obtain ⟨p, c, rfl, h'⟩ := h.got hb hm; clear h qx0 qx1; have h := (h'.box h'.f0).none; clear hm hb h' s10; obtain ⟨⟨qrep0, qrep1⟩, -⟩ := (h.c _ (.head _)).1.two)
      | (have := s11; go_at_call 65; refine (head_rep _ _ (h.c _ (.head _)).2 (hE.below h.b)).mono ?_; rintro e uh ⟨v, rfl, hm, hb⟩; obtain ⟨p, c, rfl, h'⟩ := h.got hb hm; clear h qrep0 qrep1; have h := (h'.box h'.f0).none; clear hm hb h' s11; obtain ⟨⟨qrep0, qrep1⟩, -⟩ := (h.c _ (.tail _ (.head _))).1.two)
      | (have := s12; go_at_call 66; refine (tail_rep _ _ (h.c _ (.tail _ (.head _))).2 (hE.below h.b)).mono ?_; rintro e ui ⟨v, rfl, hm, hb⟩; obtain ⟨p, c, rfl, h'⟩ := h.got hb hm; clear h qrep0 qrep1; have h := (h'.box h'.f0).none; clear hm hb h' s12; obtain ⟨⟨qx0, qx1⟩, -⟩ := (h.c _ (.tail _ (.tail _ (.tail _ (.tail _ (.tail _ (.tail _ (.tail _ (.tail _ (.tail _ (.tail _ (.tail _ (.tail _ (.head _)))))))))))))).1.two)
      | (have := s13; go_at_call 52; refine (rep_no _ _ (h.c _ (.tail _ (.tail _ (.tail _ (.tail _ (.tail _ (.tail _ (.tail _ (.tail _ (.tail _ (.tail _ (.tail _ (.tail _ (.head _)))))))))))))).2 (hE.below h.b)).mono ?_; rintro e uno ⟨v, rfl, hm, hb⟩; obtain ⟨p, c, rfl, h'⟩ := h.got hb hm; clear h qx0 qx1; have h := (h'.box h'.f0).none; clear hm hb h' s13; obtain ⟨⟨qa0, qa1⟩, -⟩ := (h.c _ (.tail _ (.tail _ (.tail _ (.tail _ (.tail _ (.tail _ (.tail _ (.tail _ (.tail _ (.tail _ (.head _)))))))))))).1.two; obtain ⟨⟨qabc0, qabc1⟩, -⟩ := (h.c _ (.tail _ (.tail _ (.tail _ (.tail _ (.tail _ (.tail _ (.tail _ (.tail _ (.tail _ (.tail _ (.tail _ (.tail _ (.tail _ (.tail _ (.head _)))))))))))))))).1.two))
    generalize uno.alloc _ = V at *
    clear this
    obtain ⟨v_abc, qabc0, qabc1, t_abc⟩ : ∃ v, V.cell? ⟨g1, 0, none⟩ = some v ∧ V.cell? ⟨g1, 1, none⟩ = some (.int .i64 (arOf abcR).root) ∧ Tree V (treeV v (arOf abcR).root) (arOf abcR) := ⟨_, (h.c _ (.tail _ (.tail _ (.tail _ (.tail _ (.tail _ (.tail _ (.tail _ (.tail _ (.tail _ (.tail _ (.tail _ (.tail _ (.tail _ (.tail _ (.head _)))))))))))))))).1.two.1.1, (h.c _ (.tail _ (.tail _ (.tail _ (.tail _ (.tail _ (.tail _ (.tail _ (.tail _ (.tail _ (.tail _ (.tail _ (.tail _ (.tail _ (.tail _ (.head _)))))))))))))))).1.two.1.2, (h.c _ (.tail _ (.tail _ (.tail _ (.tail _ (.tail _ (.tail _ (.tail _ (.tail _ (.tail _ (.tail _ (.tail _ (.tail _ (.tail _ (.tail _ (.head _)))))))))))))))).2⟩
    obtain ⟨v_a, qa0, qa1, t_a⟩ : ∃ v, V.cell? ⟨wa.heap.size, 0, none⟩ = some v ∧ V.cell? ⟨wa.heap.size, 1, none⟩ = some (.int .i64 (arOf abcR).root) ∧ Tree V (treeV v (arOf abcR).root) (arOf abcR) := ⟨_, (h.c _ (.tail _ (.tail _ (.tail _ (.tail _ (.tail _ (.tail _ (.tail _ (.tail _ (.tail _ (.tail _ (.head _)))))))))))).1.two.1.1, (h.c _ (.tail _ (.tail _ (.tail _ (.tail _ (.tail _ (.tail _ (.tail _ (.tail _ (.tail _ (.tail _ (.head _)))))))))))).1.two.1.2, (h.c _ (.tail _ (.tail _ (.tail _ (.tail _ (.tail _ (.tail _ (.tail _ (.tail _ (.tail _ (.tail _ (.head _)))))))))))).2⟩
    obtain ⟨v_b, qb0, qb1, t_b⟩ : ∃ v, V.cell? ⟨wb.heap.size, 0, none⟩ = some v ∧ V.cell? ⟨wb.heap.size, 1, none⟩ = some (.int .i64 (arOf emR).root) ∧ Tree V (treeV v (arOf emR).root) (arOf emR) := ⟨_, (h.c _ (.tail _ (.tail _ (.tail _ (.tail _ (.tail _ (.tail _ (.tail _ (.tail _ (.tail _ (.head _))))))))))).1.two.1.1, (h.c _ (.tail _ (.tail _ (.tail _ (.tail _ (.tail _ (.tail _ (.tail _ (.tail _ (.tail _ (.head _))))))))))).1.two.1.2, (h.c _ (.tail _ (.tail _ (.tail _ (.tail _ (.tail _ (.tail _ (.tail _ (.tail _ (.tail _ (.head _))))))))))).2⟩
    obtain ⟨v_c, qc0, qc1, t_c⟩ : ∃ v, V.cell? ⟨gc, 0, none⟩ = some v ∧ V.cell? ⟨gc, 1, none⟩ = some (.int .i64 (arOf emR).root) ∧ Tree V (treeV v (arOf emR).root) (arOf emR) := ⟨_, (h.c _ (.tail _ (.tail _ (.tail _ (.tail _ (.tail _ (.tail _ (.tail _ (.tail _ (.head _)))))))))).1.two.1.1, (h.c _ (.tail _ (.tail _ (.tail _ (.tail _ (.tail _ (.tail _ (.tail _ (.tail _ (.head _)))))))))).1.two.1.2, (h.c _ (.tail _ (.tail _ (.tail _ (.tail _ (.tail _ (.tail _ (.tail _ (.tail _ (.head _)))))))))).2⟩
    obtain ⟨v_x, qx0, qx1, t_x⟩ : ∃ v, V.cell? ⟨g2, 0, none⟩ = some v ∧ V.cell? ⟨g2, 1, none⟩ = some (.int .i64 (arOf (ruR 120)).root) ∧ Tree V (treeV v (arOf (ruR 120)).root) (arOf (ruR 120)) := ⟨_, (h.c _ (.tail _ (.tail _ (.tail _ (.tail _ (.tail _ (.tail _ (.tail _ (.tail _ (.tail _ (.tail _ (.tail _ (.tail _ (.tail _ (.head _))))))))))))))).1.two.1.1, (h.c _ (.tail _ (.tail _ (.tail _ (.tail _ (.tail _ (.tail _ (.tail _ (.tail _ (.tail _ (.tail _ (.tail _ (.tail _ (.tail _ (.head _))))))))))))))).1.two.1.2, (h.c _ (.tail _ (.tail _ (.tail _ (.tail _ (.tail _ (.tail _ (.tail _ (.tail _ (.tail _ (.tail _ (.tail _ (.tail _ (.tail _ (.head _))))))))))))))).2⟩
    obtain ⟨v_y, qy0, qy1, t_y⟩ : ∃ v, V.cell? ⟨g2 + 1, 0, none⟩ = some v ∧ V.cell? ⟨g2 + 1, 1, none⟩ = some (.int .i64 (arOf (ruR 121)).root) ∧ Tree V (treeV v (arOf (ruR 121)).root) (arOf (ruR 121)) := ⟨_, (h.c _ (.tail _ (.tail _ (.tail _ (.tail _ (.tail _ (.tail _ (.tail _ (.tail _ (.tail _ (.tail _ (.tail _ (.tail _ (.head _)))))))))))))).1.two.1.1, (h.c _ (.tail _ (.tail _ (.tail _ (.tail _ (.tail _ (.tail _ (.tail _ (.tail _ (.tail _ (.tail _ (.tail _ (.tail _ (.head _)))))))))))))).1.two.1.2, (h.c _ (.tail _ (.tail _ (.tail _ (.tail _ (.tail _ (.tail _ (.tail _ (.tail _ (.tail _ (.tail _ (.tail _ (.tail _ (.head _)))))))))))))).2⟩
    obtain ⟨v_z, qz0, qz1, t_z⟩ : ∃ v, V.cell? ⟨g2 + 1 + 1, 0, none⟩ = some v ∧ V.cell? ⟨g2 + 1 + 1, 1, none⟩ = some (.int .i64 (arOf (ruR 122)).root) ∧ Tree V (treeV v (arOf (ruR 122)).root) (arOf (ruR 122)) := ⟨_, (h.c _ (.tail _ (.tail _ (.tail _ (.tail _ (.tail _ (.tail _ (.tail _ (.tail _ (.tail _ (.tail _ (.tail _ (.head _))))))))))))).1.two.1.1, (h.c _ (.tail _ (.tail _ (.tail _ (.tail _ (.tail _ (.tail _ (.tail _ (.tail _ (.tail _ (.tail _ (.tail _ (.head _))))))))))))).1.two.1.2, (h.c _ (.tail _ (.tail _ (.tail _ (.tail _ (.tail _ (.tail _ (.tail _ (.tail _ (.tail _ (.tail _ (.tail _ (.head _))))))))))))).2⟩
    obtain ⟨v_d, qd0, qd1, t_d⟩ : ∃ v, V.cell? ⟨g3, 0, none⟩ = some v ∧ V.cell? ⟨g3, 1, none⟩ = some (.int .i64 (arOf xyzR).root) ∧ Tree V (treeV v (arOf xyzR).root) (arOf xyzR) := ⟨_, (h.c _ (.tail _ (.tail _ (.tail _ (.tail _ (.tail _ (.tail _ (.tail _ (.head _))))))))).1.two.1.1, (h.c _ (.tail _ (.tail _ (.tail _ (.tail _ (.tail _ (.tail _ (.tail _ (.head _))))))))).1.two.1.2, (h.c _ (.tail _ (.tail _ (.tail _ (.tail _ (.tail _ (.tail _ (.tail _ (.head _))))))))).2⟩
    obtain ⟨v_e, qe0, qe1, t_e⟩ : ∃ v, V.cell? ⟨ue.heap.size, 0, none⟩ = some v ∧ V.cell? ⟨ue.heap.size, 1, none⟩ = some (.int .i64 (arOf (.mk (hdK 1) [])).root) ∧ Tree V (treeV v (arOf (.mk (hdK 1) [])).root) (arOf (.mk (hdK 1) [])) := ⟨_, (h.c _ (.tail _ (.tail _ (.tail _ (.tail _ (.tail _ (.tail _ (.head _)))))))).1.two.1.1, (h.c _ (.tail _ (.tail _ (.tail _ (.tail _ (.tail _ (.tail _ (.head _)))))))).1.two.1.2, (h.c _ (.tail _ (.tail _ (.tail _ (.tail _ (.tail _ (.tail _ (.head _)))))))).2⟩
    obtain ⟨v_f, qf0, qf1, t_f⟩ : ∃ v, V.cell? ⟨uf.heap.size, 0, none⟩ = some v ∧ V.cell? ⟨uf.heap.size, 1, none⟩ = some (.int .i64 (arOf (txR 97)).root) ∧ Tree V (treeV v (arOf (txR 97)).root) (arOf (txR 97)) := ⟨_, (h.c _ (.tail _ (.tail _ (.tail _ (.tail _ (.tail _ (.head _))))))).1.two.1.1, (h.c _ (.tail _ (.tail _ (.tail _ (.tail _ (.tail _ (.head _))))))).1.two.1.2, (h.c _ (.tail _ (.tail _ (.tail _ (.tail _ (.tail _ (.head _))))))).2⟩
    obtain ⟨v_g, qg0, qg1, t_g⟩ : ∃ v, V.cell? ⟨ug.heap.size, 0, none⟩ = some v ∧ V.cell? ⟨ug.heap.size, 1, none⟩ = some (.int .i64 (arOf bcR).root) ∧ Tree V (treeV v (arOf bcR).root) (arOf bcR) := ⟨_, (h.c _ (.tail _ (.tail _ (.tail _ (.tail _ (.head _)))))).1.two.1.1, (h.c _ (.tail _ (.tail _ (.tail _ (.tail _ (.head _)))))).1.two.1.2, (h.c _ (.tail _ (.tail _ (.tail _ (.tail _ (.head _)))))).2⟩
    obtain ⟨v_rep, qrep0, qrep1, t_rep⟩ : ∃ v, V.cell? ⟨urep.heap.size, 0, none⟩ = some v ∧ V.cell? ⟨urep.heap.size, 1, none⟩ = some (.int .i64 (arOf repR).root) ∧ Tree V (treeV v (arOf repR).root) (arOf repR) := ⟨_, (h.c _ (.tail _ (.tail _ (.tail _ (.head _))))).1.two.1.1, (h.c _ (.tail _ (.tail _ (.tail _ (.head _))))).1.two.1.2, (h.c _ (.tail _ (.tail _ (.tail _ (.head _))))).2⟩
    obtain ⟨v_h, qh0, qh1, t_h⟩ : ∃ v, V.cell? ⟨uh.heap.size, 0, none⟩ = some v ∧ V.cell? ⟨uh.heap.size, 1, none⟩ = some (.int .i64 (arOf repR).root) ∧ Tree V (treeV v (arOf repR).root) (arOf repR) := ⟨_, (h.c _ (.tail _ (.tail _ (.head _)))).1.two.1.1, (h.c _ (.tail _ (.tail _ (.head _)))).1.two.1.2, (h.c _ (.tail _ (.tail _ (.head _)))).2⟩
    obtain ⟨v_i, qi0, qi1, t_i⟩ : ∃ v, V.cell? ⟨ui.heap.size, 0, none⟩ = some v ∧ V.cell? ⟨ui.heap.size, 1, none⟩ = some (.int .i64 (arOf emR).root) ∧ Tree V (treeV v (arOf emR).root) (arOf emR) := ⟨_, (h.c _ (.tail _ (.head _))).1.two.1.1, (h.c _ (.tail _ (.head _))).1.two.1.2, (h.c _ (.tail _ (.head _))).2⟩
    have hEV := hE.below h.b
    have hbV := h.b
    clear h
    simp only [List.append_eq, List.cons_append, List.nil_append]
    refine wp_region_mono [Mop.val [] [] (fun _ => .agg #[v_a, .int .i64 (arOf abcR).root]), Mop.val [] [] (fun _ => .bool true), Mop.val [] [] (fun _ => .agg #[v_abc, .int .i64 (arOf abcR).root]), Mop.val [0, 1, 2] [0, 1, 2] (fun _ => .bool true), Mop.val [3] [3] (fun _ => .bool true), Mop.val [4] [4] (fun _ => .agg #[v_b, .int .i64 (arOf emR).root]), Mop.val [4] [4] (fun _ => .bool true), ⟨[4], [4], none, fun _ lo hi u w => TreeAt lo hi w u (arOf emR)⟩, Mop.val [4, 5, 6, 7] [4, 5, 6, 7] (fun _ => .bool true), Mop.val [4, 8] [4, 8] (fun _ => .bool true), Mop.val [9] [9] (fun _ => .bool true), Mop.val [10] [10] (fun _ => .agg #[v_c, .int .i64 (arOf emR).root]), Mop.val [10] [10] (fun _ => .bool true), ⟨[10], [10], none, fun _ lo hi u w => TreeAt lo hi w u (arOf emR)⟩, Mop.val [10, 11, 12, 13] [10, 11, 12, 13] (fun _ => .bool true), Mop.val [10, 14] [10, 14] (fun _ => .bool true), Mop.val [15] [15] (fun _ => .bool true), Mop.val [16] [16] (fun _ => .agg #[v_d, .int .i64 (arOf xyzR).root]), Mop.val [16] [16] (fun _ => .bool true), Mop.val [16] [16] (fun _ => .agg #[v_x, .int .i64 (arOf (ruR 120)).root]), Mop.val [16] [16] (fun _ => .agg #[v_y, .int .i64 (arOf (ruR 121)).root]), Mop.val [16] [16] (fun _ => .agg #[v_z, .int .i64 (arOf (ruR 122)).root]), ⟨[16, 19, 20, 21], [16, 19, 20, 21], none, fun x lo hi u w => u = .slice (some ⟨lo, 0, none⟩) 3 3 ∧ hi = lo + 1 ∧ Cl w (lo) 26 #[v_x, .int .i64 (arOf (ruR 120)).root, v_y, .int .i64 (arOf (ruR 121)).root, v_z, .int .i64 (arOf (ruR 122)).root]⟩, ⟨[16, 22], [16, 22], none, fun _ lo hi u w => TreeAt lo hi w u (arOf xyzR)⟩, Mop.val [16, 17, 18, 23] [16, 17, 18, 23] (fun _ => .bool true), Mop.val [16, 24] [16, 24] (fun _ => .bool true), Mop.val [25] [25] (fun _ => .bool true), Mop.val [26] [26] (fun _ => .agg #[v_e, .int .i64 (arOf (.mk (hdK 1) [])).root]), Mop.val [26] [26] (fun _ => .bool true), Mop.val [26] [26] (fun _ => .agg #[.int .u64 0, .int .u64 0, .int .u64 0, .int .u64 0]), ⟨[26, 29], [26, 29], none, fun _ lo hi u w => TreeAt lo hi w u (arOf (.mk (hdK 1) []))⟩, Mop.val [26, 27, 28, 30] [26, 27, 28, 30] (fun _ => .bool true), Mop.val [26, 31] [26, 31] (fun _ => .bool true), Mop.val [32] [32] (fun _ => .bool true), Mop.val [33] [33] (fun _ => .agg #[v_f, .int .i64 (arOf (txR 97)).root]), Mop.val [33] [33] (fun _ => .bool true), ⟨[33], [33], none, fun _ lo hi u w => TreeAt lo hi w u (arOf (txR 97))⟩, Mop.val [33, 34, 35, 36] [33, 34, 35, 36] (fun _ => .bool true), Mop.val [33, 37] [33, 37] (fun _ => .bool true), Mop.val [38] [38] (fun _ => .bool true), Mop.val [39] [39] (fun _ => .agg #[v_g, .int .i64 (arOf bcR).root]), Mop.val [39] [39] (fun _ => .bool true), ⟨[39], [39], none, fun _ lo hi u w => TreeAt lo hi w u (arOf (txR 98))⟩, ⟨[39], [39], none, fun _ lo hi u w => TreeAt lo hi w u (arOf (txR 99))⟩, ⟨[39, 42, 43], [39, 42, 43], none, fun x lo hi u w => u = .slice (some ⟨lo, 0, none⟩) 2 2 ∧ hi = lo + 1 ∧ ∃ n42, x 42 = treeV n42 (arOf (txR 98)).root ∧ ∃ n43, x 43 = treeV n43 (arOf (txR 99)).root ∧ Cl w (lo) 26 #[n42, .int .i64 (arOf (txR 98)).root, n43, .int .i64 (arOf (txR 99)).root]⟩, ⟨[39, 44, 42, 43], [39, 44, 42, 43], none, fun _ lo hi u w => TreeAt lo hi w u (arOf bcR)⟩, Mop.val [39, 40, 41, 45] [39, 40, 41, 45] (fun _ => .bool true), Mop.val [39, 46] [39, 46] (fun _ => .bool true), Mop.val [47] [47] (fun _ => .bool true), Mop.val [48] [48] (fun _ => .bool true), Mop.val [48, 49] [48, 49] (fun _ => .bool true), Mop.val [50] [50] (fun _ => .bool true), Mop.val [51] [51] (fun _ => .agg #[v_h, .int .i64 (arOf repR).root]), Mop.val [51] [51] (fun _ => .bool true), Mop.val [51] [51] (fun _ => .agg #[v_rep, .int .i64 (arOf repR).root]), Mop.val [51, 52, 53, 54] [51, 52, 53, 54] (fun _ => .bool true), Mop.val [51, 55] [51, 55] (fun _ => .bool true), Mop.val [56] [56] (fun _ => .bool true), Mop.val [57] [57] (fun _ => .agg #[v_i, .int .i64 (arOf emR).root]), Mop.val [57] [57] (fun _ => .bool true), ⟨[57], [57], none, fun _ lo hi u w => TreeAt lo hi w u (arOf emR)⟩, Mop.val [57, 58, 59, 60] [57, 58, 59, 60] (fun _ => .bool true), Mop.val [57, 61] [57, 61] (fun _ => .bool true), Mop.val [62] [62] (fun _ => .bool true), Mop.val [63] [63] (fun _ => .bool false), Mop.val [63, 64] [63, 64] (fun _ => .bool true), Mop.val [63, 65] [63, 65] (fun _ => .bool true), Mop.val [66] [66] (fun _ => .bool true)] [([], [], none), ([], [], none), ([], [], none), ([0, 1, 2], [0, 1, 2], none), ([3], [3], none), ([4], [4], none), ([4], [4], none), ([4], [4], none), ([4, 5, 6, 7], [4, 5, 6, 7], none), ([4, 8], [4, 8], none), ([9], [9], none), ([10], [10], none), ([10], [10], none), ([10], [10], none), ([10, 11, 12, 13], [10, 11, 12, 13], none), ([10, 14], [10, 14], none), ([15], [15], none), ([16], [16], none), ([16], [16], none), ([16], [16], none), ([16], [16], none), ([16], [16], none), ([16, 19, 20, 21], [16, 19, 20, 21], none), ([16, 22], [16, 22], none), ([16, 17, 18, 23], [16, 17, 18, 23], none), ([16, 24], [16, 24], none), ([25], [25], none), ([26], [26], none), ([26], [26], none), ([26], [26], none), ([26, 29], [26, 29], none), ([26, 27, 28, 30], [26, 27, 28, 30], none), ([26, 31], [26, 31], none), ([32], [32], none), ([33], [33], none), ([33], [33], none), ([33], [33], none), ([33, 34, 35, 36], [33, 34, 35, 36], none), ([33, 37], [33, 37], none), ([38], [38], none), ([39], [39], none), ([39], [39], none), ([39], [39], none), ([39], [39], none), ([39, 42, 43], [39, 42, 43], none), ([39, 44, 42, 43], [39, 44, 42, 43], none), ([39, 40, 41, 45], [39, 40, 41, 45], none), ([39, 46], [39, 46], none), ([47], [47], none), ([48], [48], none), ([48, 49], [48, 49], none), ([50], [50], none), ([51], [51], none), ([51], [51], none), ([51], [51], none), ([51, 52, 53, 54], [51, 52, 53, 54], none), ([51, 55], [51, 55], none), ([56], [56], none), ([57], [57], none), ([57], [57], none), ([57], [57], none), ([57, 58, 59, 60], [57, 58, 59, 60], none), ([57, 61], [57, 61], none), ([62], [62], none), ([63], [63], none), ([63, 64], [63, 64], none), ([63, 65], [63, 65], none), ([66], [66], none)] [0, 1, 2, 3, 4, 5, 6, 7, 8, 9, 10, 11, 12, 13, 14, 15, 16, 17, 18, 19, 20, 21, 22, 23, 24, 25, 26, 27, 28, 29, 30, 31, 32, 33, 34, 35, 36, 37, 38, 39, 40, 41, 42, 43, 44, 45, 46, 47, 48, 49, 50, 51, 52, 53, 54, 55, 56, 57, 58, 59, 60, 61, 62, 63, 64, 65, 66, 67] [0, 1, 2, 3, 4, 5, 6, 7, 8, 9, 10, 11, 12, 13, 14, 15, 16, 17, 18, 19, 20, 21, 22, 23, 24, 25, 26, 27, 28, 29, 30, 31, 32, 33, 34, 35, 36, 37, 38, 39, 40, 41, 42, 43, 44, 45, 46, 47, 48, 49, 50, 51, 52, 53, 54, 55, 56, 57, 58, 59, 60, 61, 62, 63, 64, 65, 66, 67] (by kernel_rfl) (by kernel_rfl) rfl (by kernel_rfl) ⟨?zs0, ?zs1, ?zs2, ?zs3, ?zs4, ?zs5, ?zs6, ?zs7, ?zs8, ?zs9, ?zs10, ?zs11, ?zs12, ?zs13, ?zs14, ?zs15, ?zs16, ?zs17, ?zs18, ?zs19, ?zs20, ?zs21, ?zs22, ?zs23, ?zs24, ?zs25, ?zs26, ?zs27, ?zs28, ?zs29, ?zs30, ?zs31, ?zs32, ?zs33, ?zs34, ?zs35, ?zs36, ?zs37, ?zs38, ?zs39, ?zs40, ?zs41, ?zs42, ?zs43, ?zs44, ?zs45, ?zs46, ?zs47, ?zs48, ?zs49, ?zs50, ?zs51, ?zs52, ?zs53, ?zs54, ?zs55, ?zs56, ?zs57, ?zs58, ?zs59, ?zs60, ?zs61, ?zs62, ?zs63, ?zs64, ?zs65, ?zs66, ?zs67, trivial⟩ ?zgood ?zfin
    case zs0 =>
      refine MStep.mk rfl (fun x lo hi w hb hf K hK => ?_)
      simp only [putAll, Mop.val, List.getElem_toArray, List.getElem_cons_zero, Act.put, List.setIfInBounds_toArray, List.set_cons_zero, List.set_cons_succ] at hK ⊢
      have c0 := (hb.cell (p := ⟨wa.heap.size, 0, none⟩) (cell_lt qa0)).trans qa0
      have c1 := (hb.cell (p := ⟨wa.heap.size, 1, none⟩) (cell_lt qa1)).trans qa1
      go_simp
      exact hK.out _ _ (Mop.done_make rfl (Below.refl _ _) rfl)
    case zs1 =>
      refine MStep.mk rfl (fun x lo hi w hb hf K hK => ?_)
      simp only [putAll, Mop.val, List.getElem_toArray, List.getElem_cons_zero, List.getElem_cons_succ, Act.put, List.setIfInBounds_toArray, List.set_cons_zero, List.set_cons_succ] at hK ⊢
      go_simp
      exact hK.out _ _ (Mop.done_make rfl (Below.refl _ _) rfl)
    case zs2 =>
      refine MStep.mk rfl (fun x lo hi w hb hf K hK => ?_)
      simp only [putAll, Mop.val, List.getElem_toArray, List.getElem_cons_zero, List.getElem_cons_succ, Act.put, List.setIfInBounds_toArray, List.set_cons_zero, List.set_cons_succ] at hK ⊢
      have c0 := (hb.cell (p := ⟨g1, 0, none⟩) (cell_lt qabc0)).trans qabc0
      have c1 := (hb.cell (p := ⟨g1, 1, none⟩) (cell_lt qabc1)).trans qabc1
      go_simp
      exact hK.out _ _ (Mop.done_make rfl (Below.refl _ _) rfl)
    case zs3 =>
      refine MStep.mk rfl (fun x lo hi w hb hf K hK => ?_)
      simp only [putAll, mdst, Mop.val, List.getElem_toArray, List.getElem_cons_zero, List.getElem_cons_succ, List.getElem?_toArray, List.getElem?_cons_zero, List.getElem?_cons_succ, Option.bind_some, Act.put, List.setIfInBounds_toArray, List.set_cons_zero, List.set_cons_succ] at hK ⊢
      obtain ⟨f0, f1, f2, _⟩ := hf
      replace f0 : x 0 = .agg #[v_a, .int .i64 (arOf abcR).root] := f0
      replace f1 : x 1 = .bool true := f1
      replace f2 : x 2 = .agg #[v_abc, .int .i64 (arOf abcR).root] := f2
      simp only [f0, f1, f2] at hK ⊢
      go_simp
      refine (is_same _ _ _ abcR (by decide +kernel) (t_a.below hb) (t_abc.below hb)).mono ?_
      rintro e w' ⟨rfl, hb'⟩
      try go_simp
      exact hK.out _ _ (Mop.done_make rfl hb' rfl)
    case zs4 =>
      refine MStep.mk rfl (fun x lo hi w hb hf K hK => ?_)
      simp only [putAll, mdst, Mop.val, List.getElem_toArray, List.getElem_cons_zero, List.getElem_cons_succ, List.getElem?_toArray, List.getElem?_cons_zero, List.getElem?_cons_succ, Option.bind_some, Act.put, List.setIfInBounds_toArray, List.set_cons_zero, List.set_cons_succ] at hK ⊢
      obtain ⟨f3, _⟩ := hf
      replace f3 : x 3 = .bool true := f3
      simp only [f3] at hK ⊢
      go_simp
      exact hK.out _ _ (Mop.done_make rfl (Below.refl _ _) rfl)
    case zs5 =>
      refine MStep.mk rfl (fun x lo hi w hb hf K hK => ?_)
      simp only [putAll, mdst, Mop.val, List.getElem_toArray, List.getElem_cons_zero, List.getElem_cons_succ, List.getElem?_toArray, List.getElem?_cons_zero, List.getElem?_cons_succ, Option.bind_some, Act.put, List.setIfInBounds_toArray, List.set_cons_zero, List.set_cons_succ] at hK ⊢
      obtain ⟨f4, _⟩ := hf
      replace f4 : x 4 = .bool true := f4
      have c0 := (hb.cell (p := ⟨wb.heap.size, 0, none⟩) (cell_lt qb0)).trans qb0
      have c1 := (hb.cell (p := ⟨wb.heap.size, 1, none⟩) (cell_lt qb1)).trans qb1
      simp only [f4] at hK ⊢
      go_simp
      exact hK.out _ _ (Mop.done_make rfl (Below.refl _ _) rfl)
    case zs6 =>
      refine MStep.mk rfl (fun x lo hi w hb hf K hK => ?_)
      simp only [putAll, mdst, Mop.val, List.getElem_toArray, List.getElem_cons_zero, List.getElem_cons_succ, List.getElem?_toArray, List.getElem?_cons_zero, List.getElem?_cons_succ, Option.bind_some, Act.put, List.setIfInBounds_toArray, List.set_cons_zero, List.set_cons_succ] at hK ⊢
      obtain ⟨f4, _⟩ := hf
      replace f4 : x 4 = .bool true := f4
      simp only [f4] at hK ⊢
      go_simp
      exact hK.out _ _ (Mop.done_make rfl (Below.refl _ _) rfl)
    case zs7 =>
      refine MStep.mk rfl (fun x lo hi w hb hf K hK => ?_)
      simp only [putAll, mdst, List.getElem_toArray, List.getElem_cons_zero, List.getElem_cons_succ, List.getElem?_toArray, List.getElem?_cons_zero, List.getElem?_cons_succ, Option.bind_some, Act.put, List.setIfInBounds_toArray, List.set_cons_zero, List.set_cons_succ] at hK ⊢
      obtain ⟨f4, _⟩ := hf
      replace f4 : x 4 = .bool true := f4
      simp only [f4] at hK ⊢
      go_simp
      refine (empty_ar _).mono ?_
      rintro e w' ⟨v, rfl, hm, hb'⟩
      try go_simp
      exact hK.out _ _ (Mop.done_make rfl hb' (TreeAt.of hm))
    case zs8 =>
      refine MStep.mk rfl (fun x lo hi w hb hf K hK => ?_)
      simp only [putAll, mdst, Mop.val, List.getElem_toArray, List.getElem_cons_zero, List.getElem_cons_succ, List.getElem?_toArray, List.getElem?_cons_zero, List.getElem?_cons_succ, Option.bind_some, Act.put, List.setIfInBounds_toArray, List.set_cons_zero, List.set_cons_succ] at hK ⊢
      obtain ⟨f4, f5, f6, f7, _⟩ := hf
      replace f4 : x 4 = .bool true := f4
      replace f5 : x 5 = .agg #[v_b, .int .i64 (arOf emR).root] := f5
      replace f6 : x 6 = .bool true := f6
      replace f7 : TreeAt (lo 7) (hi 7) w (x 7) (arOf emR) := f7
      obtain ⟨p7, c7, e7, t7⟩ := f7.tree
      simp only [f4, f5, f6, e7] at hK ⊢
      go_simp
      refine (is_same _ _ _ emR (by decide +kernel) (t_b.below hb) t7).mono ?_
      rintro e w' ⟨rfl, hb'⟩
      try go_simp
      exact hK.out _ _ (Mop.done_make rfl hb' rfl)
    case zs9 =>
      refine MStep.mk rfl (fun x lo hi w hb hf K hK => ?_)
      simp only [putAll, mdst, Mop.val, List.getElem_toArray, List.getElem_cons_zero, List.getElem_cons_succ, List.getElem?_toArray, List.getElem?_cons_zero, List.getElem?_cons_succ, Option.bind_some, Act.put, List.setIfInBounds_toArray, List.set_cons_zero, List.set_cons_succ] at hK ⊢
      obtain ⟨f4, f8, _⟩ := hf
      replace f4 : x 4 = .bool true := f4
      replace f8 : x 8 = .bool true := f8
      simp only [f4, f8] at hK ⊢
      go_simp
      exact hK.out _ _ (Mop.done_make rfl (Below.refl _ _) rfl)
    case zs10 =>
      refine MStep.mk rfl (fun x lo hi w hb hf K hK => ?_)
      simp only [putAll, mdst, Mop.val, List.getElem_toArray, List.getElem_cons_zero, List.getElem_cons_succ, List.getElem?_toArray, List.getElem?_cons_zero, List.getElem?_cons_succ, Option.bind_some, Act.put, List.setIfInBounds_toArray, List.set_cons_zero, List.set_cons_succ] at hK ⊢
      obtain ⟨f9, _⟩ := hf
      replace f9 : x 9 = .bool true := f9
      simp only [f9] at hK ⊢
      go_simp
      exact hK.out _ _ (Mop.done_make rfl (Below.refl _ _) rfl)
    case zs11 =>
      refine MStep.mk rfl (fun x lo hi w hb hf K hK => ?_)
      simp only [putAll, mdst, Mop.val, List.getElem_toArray, List.getElem_cons_zero, List.getElem_cons_succ, List.getElem?_toArray, List.getElem?_cons_zero, List.getElem?_cons_succ, Option.bind_some, Act.put, List.setIfInBounds_toArray, List.set_cons_zero, List.set_cons_succ] at hK ⊢
      obtain ⟨f10, _⟩ := hf
      replace f10 : x 10 = .bool true := f10
      have c0 := (hb.cell (p := ⟨gc, 0, none⟩) (cell_lt qc0)).trans qc0
      have c1 := (hb.cell (p := ⟨gc, 1, none⟩) (cell_lt qc1)).trans qc1
      simp only [f10] at hK ⊢
      go_simp
      exact hK.out _ _ (Mop.done_make rfl (Below.refl _ _) rfl)
    case zs12 =>
      refine MStep.mk rfl (fun x lo hi w hb hf K hK => ?_)
      simp only [putAll, mdst, Mop.val, List.getElem_toArray, List.getElem_cons_zero, List.getElem_cons_succ, List.getElem?_toArray, List.getElem?_cons_zero, List.getElem?_cons_succ, Option.bind_some, Act.put, List.setIfInBounds_toArray, List.set_cons_zero, List.set_cons_succ] at hK ⊢
      obtain ⟨f10, _⟩ := hf
      replace f10 : x 10 = .bool true := f10
      simp only [f10] at hK ⊢
      go_simp
      exact hK.out _ _ (Mop.done_make rfl (Below.refl _ _) rfl)
    case zs13 =>
      refine MStep.mk rfl (fun x lo hi w hb hf K hK => ?_)
      simp only [putAll, mdst, List.getElem_toArray, List.getElem_cons_zero, List.getElem_cons_succ, List.getElem?_toArray, List.getElem?_cons_zero, List.getElem?_cons_succ, Option.bind_some, Act.put, List.setIfInBounds_toArray, List.set_cons_zero, List.set_cons_succ] at hK ⊢
      obtain ⟨f10, _⟩ := hf
      replace f10 : x 10 = .bool true := f10
      simp only [f10] at hK ⊢
      go_simp
      refine (empty_ar _).mono ?_
      rintro e w' ⟨v, rfl, hm, hb'⟩
      try go_simp
      exact hK.out _ _ (Mop.done_make rfl hb' (TreeAt.of hm))
    case zs14 =>
      refine MStep.mk rfl (fun x lo hi w hb hf K hK => ?_)
      simp only [putAll, mdst, Mop.val, List.getElem_toArray, List.getElem_cons_zero, List.getElem_cons_succ, List.getElem?_toArray, List.getElem?_cons_zero, List.getElem?_cons_succ, Option.bind_some, Act.put, List.setIfInBounds_toArray, List.set_cons_zero, List.set_cons_succ] at hK ⊢
      obtain ⟨f10, f11, f12, f13, _⟩ := hf
      replace f10 : x 10 = .bool true := f10
      replace f11 : x 11 = .agg #[v_c, .int .i64 (arOf emR).root] := f11
      replace f12 : x 12 = .bool true := f12
      replace f13 : TreeAt (lo 13) (hi 13) w (x 13) (arOf emR) := f13
      obtain ⟨p13, c13, e13, t13⟩ := f13.tree
      simp only [f10, f11, f12, e13] at hK ⊢
      go_simp
      refine (is_same _ _ _ emR (by decide +kernel) (t_c.below hb) t13).mono ?_
      rintro e w' ⟨rfl, hb'⟩
      try go_simp
      exact hK.out _ _ (Mop.done_make rfl hb' rfl)
    case zs15 =>
      refine MStep.mk rfl (fun x lo hi w hb hf K hK => ?_)
      simp only [putAll, mdst, Mop.val, List.getElem_toArray, List.getElem_cons_zero, List.getElem_cons_succ, List.getElem?_toArray, List.getElem?_cons_zero, List.getElem?_cons_succ, Option.bind_some, Act.put, List.setIfInBounds_toArray, List.set_cons_zero, List.set_cons_succ] at hK ⊢
      obtain ⟨f10, f14, _⟩ := hf
      replace f10 : x 10 = .bool true := f10
      replace f14 : x 14 = .bool true := f14
      simp only [f10, f14] at hK ⊢
      go_simp
      exact hK.out _ _ (Mop.done_make rfl (Below.refl _ _) rfl)
    case zs16 =>
      refine MStep.mk rfl (fun x lo hi w hb hf K hK => ?_)
      simp only [putAll, mdst, Mop.val, List.getElem_toArray, List.getElem_cons_zero, List.getElem_cons_succ, List.getElem?_toArray, List.getElem?_cons_zero, List.getElem?_cons_succ, Option.bind_some, Act.put, List.setIfInBounds_toArray, List.set_cons_zero, List.set_cons_succ] at hK ⊢
      obtain ⟨f15, _⟩ := hf
      replace f15 : x 15 = .bool true := f15
      simp only [f15] at hK ⊢
      go_simp
      exact hK.out _ _ (Mop.done_make rfl (Below.refl _ _) rfl)
    case zs17 =>
      refine MStep.mk rfl (fun x lo hi w hb hf K hK => ?_)
      simp only [putAll, mdst, Mop.val, List.getElem_toArray, List.getElem_cons_zero, List.getElem_cons_succ, List.getElem?_toArray, List.getElem?_cons_zero, List.getElem?_cons_succ, Option.bind_some, Act.put, List.setIfInBounds_toArray, List.set_cons_zero, List.set_cons_succ] at hK ⊢
      obtain ⟨f16, _⟩ := hf
      replace f16 : x 16 = .bool true := f16
      have c0 := (hb.cell (p := ⟨g3, 0, none⟩) (cell_lt qd0)).trans qd0
      have c1 := (hb.cell (p := ⟨g3, 1, none⟩) (cell_lt qd1)).trans qd1
      simp only [f16] at hK ⊢
      go_simp
      exact hK.out _ _ (Mop.done_make rfl (Below.refl _ _) rfl)
    case zs18 =>
      refine MStep.mk rfl (fun x lo hi w hb hf K hK => ?_)
      simp only [putAll, mdst, Mop.val, List.getElem_toArray, List.getElem_cons_zero, List.getElem_cons_succ, List.getElem?_toArray, List.getElem?_cons_zero, List.getElem?_cons_succ, Option.bind_some, Act.put, List.setIfInBounds_toArray, List.set_cons_zero, List.set_cons_succ] at hK ⊢
      obtain ⟨f16, _⟩ := hf
      replace f16 : x 16 = .bool true := f16
      simp only [f16] at hK ⊢
      go_simp
      exact hK.out _ _ (Mop.done_make rfl (Below.refl _ _) rfl)
    case zs19 =>
      refine MStep.mk rfl (fun x lo hi w hb hf K hK => ?_)
      simp only [putAll, mdst, Mop.val, List.getElem_toArray, List.getElem_cons_zero, List.getElem_cons_succ, List.getElem?_toArray, List.getElem?_cons_zero, List.getElem?_cons_succ, Option.bind_some, Act.put, List.setIfInBounds_toArray, List.set_cons_zero, List.set_cons_succ] at hK ⊢
      obtain ⟨f16, _⟩ := hf
      replace f16 : x 16 = .bool true := f16
      have c0 := (hb.cell (p := ⟨g2, 0, none⟩) (cell_lt qx0)).trans qx0
      have c1 := (hb.cell (p := ⟨g2, 1, none⟩) (cell_lt qx1)).trans qx1
      simp only [f16] at hK ⊢
      go_simp
      exact hK.out _ _ (Mop.done_make rfl (Below.refl _ _) rfl)
    case zs20 =>
      refine MStep.mk rfl (fun x lo hi w hb hf K hK => ?_)
      simp only [putAll, mdst, Mop.val, List.getElem_toArray, List.getElem_cons_zero, List.getElem_cons_succ, List.getElem?_toArray, List.getElem?_cons_zero, List.getElem?_cons_succ, Option.bind_some, Act.put, List.setIfInBounds_toArray, List.set_cons_zero, List.set_cons_succ] at hK ⊢
      obtain ⟨f16, _⟩ := hf
      replace f16 : x 16 = .bool true := f16
      have c0 := (hb.cell (p := ⟨g2 + 1, 0, none⟩) (cell_lt qy0)).trans qy0
      have c1 := (hb.cell (p := ⟨g2 + 1, 1, none⟩) (cell_lt qy1)).trans qy1
      simp only [f16] at hK ⊢
      go_simp
      exact hK.out _ _ (Mop.done_make rfl (Below.refl _ _) rfl)
    case zs21 =>
      refine MStep.mk rfl (fun x lo hi w hb hf K hK => ?_)
      simp only [putAll, mdst, Mop.val, List.getElem_toArray, List.getElem_cons_zero, List.getElem_cons_succ, List.getElem?_toArray, List.getElem?_cons_zero, List.getElem?_cons_succ, Option.bind_some, Act.put, List.setIfInBounds_toArray, List.set_cons_zero, List.set_cons_succ] at hK ⊢
      obtain ⟨f16, _⟩ := hf
      replace f16 : x 16 = .bool true := f16
      have c0 := (hb.cell (p := ⟨g2 + 1 + 1, 0, none⟩) (cell_lt qz0)).trans qz0
      have c1 := (hb.cell (p := ⟨g2 + 1 + 1, 1, none⟩) (cell_lt qz1)).trans qz1
      simp only [f16] at hK ⊢
      go_simp
      exact hK.out _ _ (Mop.done_make rfl (Below.refl _ _) rfl)
    case zs22 =>
      refine MStep.mk rfl (fun x lo hi w hb hf K hK => ?_)
      simp only [putAll, mdst, List.getElem_toArray, List.getElem_cons_zero, List.getElem_cons_succ, List.getElem?_toArray, List.getElem?_cons_zero, List.getElem?_cons_succ, Option.bind_some, Act.put, List.setIfInBounds_toArray, List.set_cons_zero, List.set_cons_succ] at hK ⊢
      obtain ⟨f16, f19, f20, f21, _⟩ := hf
      replace f16 : x 16 = .bool true := f16
      replace f19 : x 19 = .agg #[v_x, .int .i64 (arOf (ruR 120)).root] := f19
      replace f20 : x 20 = .agg #[v_y, .int .i64 (arOf (ruR 121)).root] := f20
      replace f21 : x 21 = .agg #[v_z, .int .i64 (arOf (ruR 122)).root] := f21
      simp only [f16, f19, f20, f21] at hK ⊢
      go_simp
      exact hK.out _ _ (Mop.done_make rfl ((Below.refl _ _).alloc (Nat.le_refl _) _) ⟨rfl, by rw [World.size_alloc], Cl.new _ _ _⟩)
    case zs23 =>
      refine MStep.mk rfl (fun x lo hi w hb hf K hK => ?_)
      simp only [putAll, mdst, List.getElem_toArray, List.getElem_cons_zero, List.getElem_cons_succ, List.getElem?_toArray, List.getElem?_cons_zero, List.getElem?_cons_succ, Option.bind_some, Act.put, List.setIfInBounds_toArray, List.set_cons_zero, List.set_cons_succ] at hK ⊢
      obtain ⟨f16, f22, _⟩ := hf
      replace f16 : x 16 = .bool true := f16
      obtain ⟨e22, -, c22⟩ : x 22 = .slice (some ⟨lo 22, 0, none⟩) 3 3 ∧ hi 22 = lo 22 + 1 ∧ Cl w (lo 22) 26 #[v_x, .int .i64 (arOf (ruR 120)).root, v_y, .int .i64 (arOf (ruR 121)).root, v_z, .int .i64 (arOf (ruR 122)).root] := f22
      simp only [f16, e22] at hK ⊢
      go_simp
      refine (of_ar 5 (.inr rfl) _ [ruR 120, ruR 121, ruR 122] (by decide) _ (trees_in3 c22 (t_x.below hb) (t_y.below hb) (t_z.below hb)) k8.1 k8.2 (hEV.below hb)).mono ?_
      rintro e w' ⟨v, rfl, hm, hb'⟩
      try go_simp
      exact hK.out _ _ (Mop.done_make rfl hb' (TreeAt.of hm))
    case zs24 =>
      refine MStep.mk rfl (fun x lo hi w hb hf K hK => ?_)
      simp only [putAll, mdst, Mop.val, List.getElem_toArray, List.getElem_cons_zero, List.getElem_cons_succ, List.getElem?_toArray, List.getElem?_cons_zero, List.getElem?_cons_succ, Option.bind_some, Act.put, List.setIfInBounds_toArray, List.set_cons_zero, List.set_cons_succ] at hK ⊢
      obtain ⟨f16, f17, f18, f23, _⟩ := hf
      replace f16 : x 16 = .bool true := f16
      replace f17 : x 17 = .agg #[v_d, .int .i64 (arOf xyzR).root] := f17
      replace f18 : x 18 = .bool true := f18
      replace f23 : TreeAt (lo 23) (hi 23) w (x 23) (arOf xyzR) := f23
      obtain ⟨p23, c23, e23, t23⟩ := f23.tree
      simp only [f16, f17, f18, e23] at hK ⊢
      go_simp
      refine (is_same _ _ _ xyzR (by decide +kernel) (t_d.below hb) t23).mono ?_
      rintro e w' ⟨rfl, hb'⟩
      try go_simp
      exact hK.out _ _ (Mop.done_make rfl hb' rfl)
    case zs25 =>
      refine MStep.mk rfl (fun x lo hi w hb hf K hK => ?_)
      simp only [putAll, mdst, Mop.val, List.getElem_toArray, List.getElem_cons_zero, List.getElem_cons_succ, List.getElem?_toArray, List.getElem?_cons_zero, List.getElem?_cons_succ, Option.bind_some, Act.put, List.setIfInBounds_toArray, List.set_cons_zero, List.set_cons_succ] at hK ⊢
      obtain ⟨f16, f24, _⟩ := hf
      replace f16 : x 16 = .bool true := f16
      replace f24 : x 24 = .bool true := f24
      simp only [f16, f24] at hK ⊢
      go_simp
      exact hK.out _ _ (Mop.done_make rfl (Below.refl _ _) rfl)
    case zs26 =>
      refine MStep.mk rfl (fun x lo hi w hb hf K hK => ?_)
      simp only [putAll, mdst, Mop.val, List.getElem_toArray, List.getElem_cons_zero, List.getElem_cons_succ, List.getElem?_toArray, List.getElem?_cons_zero, List.getElem?_cons_succ, Option.bind_some, Act.put, List.setIfInBounds_toArray, List.set_cons_zero, List.set_cons_succ] at hK ⊢
      obtain ⟨f25, _⟩ := hf
      replace f25 : x 25 = .bool true := f25
      simp only [f25] at hK ⊢
      go_simp
      exact hK.out _ _ (Mop.done_make rfl (Below.refl _ _) rfl)
    case zs27 =>
      refine MStep.mk rfl (fun x lo hi w hb hf K hK => ?_)
      simp only [putAll, mdst, Mop.val, List.getElem_toArray, List.getElem_cons_zero, List.getElem_cons_succ, List.getElem?_toArray, List.getElem?_cons_zero, List.getElem?_cons_succ, Option.bind_some, Act.put, List.setIfInBounds_toArray, List.set_cons_zero, List.set_cons_succ] at hK ⊢
      obtain ⟨f26, _⟩ := hf
      replace f26 : x 26 = .bool true := f26
      have c0 := (hb.cell (p := ⟨ue.heap.size, 0, none⟩) (cell_lt qe0)).trans qe0
      have c1 := (hb.cell (p := ⟨ue.heap.size, 1, none⟩) (cell_lt qe1)).trans qe1
      simp only [f26] at hK ⊢
      go_simp
      exact hK.out _ _ (Mop.done_make rfl (Below.refl _ _) rfl)
    case zs28 =>
      refine MStep.mk rfl (fun x lo hi w hb hf K hK => ?_)
      simp only [putAll, mdst, Mop.val, List.getElem_toArray, List.getElem_cons_zero, List.getElem_cons_succ, List.getElem?_toArray, List.getElem?_cons_zero, List.getElem?_cons_succ, Option.bind_some, Act.put, List.setIfInBounds_toArray, List.set_cons_zero, List.set_cons_succ] at hK ⊢
      obtain ⟨f26, _⟩ := hf
      replace f26 : x 26 = .bool true := f26
      simp only [f26] at hK ⊢
      go_simp
      exact hK.out _ _ (Mop.done_make rfl (Below.refl _ _) rfl)
    case zs29 =>
      refine MStep.mk rfl (fun x lo hi w hb hf K hK => ?_)
      simp only [putAll, mdst, Mop.val, List.getElem_toArray, List.getElem_cons_zero, List.getElem_cons_succ, List.getElem?_toArray, List.getElem?_cons_zero, List.getElem?_cons_succ, Option.bind_some, Act.put, List.setIfInBounds_toArray, List.set_cons_zero, List.set_cons_succ] at hK ⊢
      obtain ⟨f26, _⟩ := hf
      replace f26 : x 26 = .bool true := f26
      simp only [f26] at hK ⊢
      go_simp
      exact hK.out _ _ (Mop.done_make rfl (Below.refl _ _) rfl)
    case zs30 =>
      refine MStep.mk rfl (fun x lo hi w hb hf K hK => ?_)
      simp only [putAll, mdst, List.getElem_toArray, List.getElem_cons_zero, List.getElem_cons_succ, List.getElem?_toArray, List.getElem?_cons_zero, List.getElem?_cons_succ, Option.bind_some, Act.put, List.setIfInBounds_toArray, List.set_cons_zero, List.set_cons_succ] at hK ⊢
      obtain ⟨f26, f29, _⟩ := hf
      replace f26 : x 26 = .bool true := f26
      replace f29 : x 29 = .agg #[.int .u64 0, .int .u64 0, .int .u64 0, .int .u64 0] := f29
      simp only [f26, f29] at hK ⊢
      go_simp
      refine (set_ar _).mono ?_
      rintro e w' ⟨v, rfl, hm, hb'⟩
      try go_simp
      exact hK.out _ _ (Mop.done_make rfl hb' (TreeAt.of hm))
    case zs31 =>
      refine MStep.mk rfl (fun x lo hi w hb hf K hK => ?_)
      simp only [putAll, mdst, Mop.val, List.getElem_toArray, List.getElem_cons_zero, List.getElem_cons_succ, List.getElem?_toArray, List.getElem?_cons_zero, List.getElem?_cons_succ, Option.bind_some, Act.put, List.setIfInBounds_toArray, List.set_cons_zero, List.set_cons_succ] at hK ⊢
      obtain ⟨f26, f27, f28, f30, _⟩ := hf
      replace f26 : x 26 = .bool true := f26
      replace f27 : x 27 = .agg #[v_e, .int .i64 (arOf (.mk (hdK 1) [])).root] := f27
      replace f28 : x 28 = .bool true := f28
      replace f30 : TreeAt (lo 30) (hi 30) w (x 30) (arOf (.mk (hdK 1) [])) := f30
      obtain ⟨p30, c30, e30, t30⟩ := f30.tree
      simp only [f26, f27, f28, e30] at hK ⊢
      go_simp
      refine (is_same _ _ _ (.mk (hdK 1) []) (by decide +kernel) (t_e.below hb) t30).mono ?_
      rintro e w' ⟨rfl, hb'⟩
      try go_simp
      exact hK.out _ _ (Mop.done_make rfl hb' rfl)
    case zs32 =>
      refine MStep.mk rfl (fun x lo hi w hb hf K hK => ?_)
      simp only [putAll, mdst, Mop.val, List.getElem_toArray, List.getElem_cons_zero, List.getElem_cons_succ, List.getElem?_toArray, List.getElem?_cons_zero, List.getElem?_cons_succ, Option.bind_some, Act.put, List.setIfInBounds_toArray, List.set_cons_zero, List.set_cons_succ] at hK ⊢
      obtain ⟨f26, f31, _⟩ := hf
      replace f26 : x 26 = .bool true := f26
      replace f31 : x 31 = .bool true := f31
      simp only [f26, f31] at hK ⊢
      go_simp
      exact hK.out _ _ (Mop.done_make rfl (Below.refl _ _) rfl)
    case zs33 =>
      refine MStep.mk rfl (fun x lo hi w hb hf K hK => ?_)
      simp only [putAll, mdst, Mop.val, List.getElem_toArray, List.getElem_cons_zero, List.getElem_cons_succ, List.getElem?_toArray, List.getElem?_cons_zero, List.getElem?_cons_succ, Option.bind_some, Act.put, List.setIfInBounds_toArray, List.set_cons_zero, List.set_cons_succ] at hK ⊢
      obtain ⟨f32, _⟩ := hf
      replace f32 : x 32 = .bool true := f32
      simp only [f32] at hK ⊢
      go_simp
      exact hK.out _ _ (Mop.done_make rfl (Below.refl _ _) rfl)
    case zs34 =>
      refine MStep.mk rfl (fun x lo hi w hb hf K hK => ?_)
      simp only [putAll, mdst, Mop.val, List.getElem_toArray, List.getElem_cons_zero, List.getElem_cons_succ, List.getElem?_toArray, List.getElem?_cons_zero, List.getElem?_cons_succ, Option.bind_some, Act.put, List.setIfInBounds_toArray, List.set_cons_zero, List.set_cons_succ] at hK ⊢
      obtain ⟨f33, _⟩ := hf
      replace f33 : x 33 = .bool true := f33
      have c0 := (hb.cell (p := ⟨uf.heap.size, 0, none⟩) (cell_lt qf0)).trans qf0
      have c1 := (hb.cell (p := ⟨uf.heap.size, 1, none⟩) (cell_lt qf1)).trans qf1
      simp only [f33] at hK ⊢
      go_simp
      exact hK.out _ _ (Mop.done_make rfl (Below.refl _ _) rfl)
    case zs35 =>
      refine MStep.mk rfl (fun x lo hi w hb hf K hK => ?_)
      simp only [putAll, mdst, Mop.val, List.getElem_toArray, List.getElem_cons_zero, List.getElem_cons_succ, List.getElem?_toArray, List.getElem?_cons_zero, List.getElem?_cons_succ, Option.bind_some, Act.put, List.setIfInBounds_toArray, List.set_cons_zero, List.set_cons_succ] at hK ⊢
      obtain ⟨f33, _⟩ := hf
      replace f33 : x 33 = .bool true := f33
      simp only [f33] at hK ⊢
      go_simp
      exact hK.out _ _ (Mop.done_make rfl (Below.refl _ _) rfl)
    case zs36 =>
      refine MStep.mk rfl (fun x lo hi w hb hf K hK => ?_)
      simp only [putAll, mdst, List.getElem_toArray, List.getElem_cons_zero, List.getElem_cons_succ, List.getElem?_toArray, List.getElem?_cons_zero, List.getElem?_cons_succ, Option.bind_some, Act.put, List.setIfInBounds_toArray, List.set_cons_zero, List.set_cons_succ] at hK ⊢
      obtain ⟨f33, _⟩ := hf
      replace f33 : x 33 = .bool true := f33
      simp only [f33] at hK ⊢
      go_simp
      refine (text_ar _ _).mono ?_
      rintro e w' ⟨v, rfl, hm, hb'⟩
      try go_simp
      exact hK.out _ _ (Mop.done_make rfl hb' (TreeAt.of hm))
    case zs37 =>
      refine MStep.mk rfl (fun x lo hi w hb hf K hK => ?_)
      simp only [putAll, mdst, Mop.val, List.getElem_toArray, List.getElem_cons_zero, List.getElem_cons_succ, List.getElem?_toArray, List.getElem?_cons_zero, List.getElem?_cons_succ, Option.bind_some, Act.put, List.setIfInBounds_toArray, List.set_cons_zero, List.set_cons_succ] at hK ⊢
      obtain ⟨f33, f34, f35, f36, _⟩ := hf
      replace f33 : x 33 = .bool true := f33
      replace f34 : x 34 = .agg #[v_f, .int .i64 (arOf (txR 97)).root] := f34
      replace f35 : x 35 = .bool true := f35
      replace f36 : TreeAt (lo 36) (hi 36) w (x 36) (arOf (txR 97)) := f36
      obtain ⟨p36, c36, e36, t36⟩ := f36.tree
      simp only [f33, f34, f35, e36] at hK ⊢
      go_simp
      refine (is_same _ _ _ (txR 97) (by decide +kernel) (t_f.below hb) t36).mono ?_
      rintro e w' ⟨rfl, hb'⟩
      try go_simp
      exact hK.out _ _ (Mop.done_make rfl hb' rfl)
    case zs38 =>
      refine MStep.mk rfl (fun x lo hi w hb hf K hK => ?_)
      simp only [putAll, mdst, Mop.val, List.getElem_toArray, List.getElem_cons_zero, List.getElem_cons_succ, List.getElem?_toArray, List.getElem?_cons_zero, List.getElem?_cons_succ, Option.bind_some, Act.put, List.setIfInBounds_toArray, List.set_cons_zero, List.set_cons_succ] at hK ⊢
      obtain ⟨f33, f37, _⟩ := hf
      replace f33 : x 33 = .bool true := f33
      replace f37 : x 37 = .bool true := f37
      simp only [f33, f37] at hK ⊢
      go_simp
      exact hK.out _ _ (Mop.done_make rfl (Below.refl _ _) rfl)
    case zs39 =>
      refine MStep.mk rfl (fun x lo hi w hb hf K hK => ?_)
      simp only [putAll, mdst, Mop.val, List.getElem_toArray, List.getElem_cons_zero, List.getElem_cons_succ, List.getElem?_toArray, List.getElem?_cons_zero, List.getElem?_cons_succ, Option.bind_some, Act.put, List.setIfInBounds_toArray, List.set_cons_zero, List.set_cons_succ] at hK ⊢
      obtain ⟨f38, _⟩ := hf
      replace f38 : x 38 = .bool true := f38
      simp only [f38] at hK ⊢
      go_simp
      exact hK.out _ _ (Mop.done_make rfl (Below.refl _ _) rfl)
    case zs40 =>
      refine MStep.mk rfl (fun x lo hi w hb hf K hK => ?_)
      simp only [putAll, mdst, Mop.val, List.getElem_toArray, List.getElem_cons_zero, List.getElem_cons_succ, List.getElem?_toArray, List.getElem?_cons_zero, List.getElem?_cons_succ, Option.bind_some, Act.put, List.setIfInBounds_toArray, List.set_cons_zero, List.set_cons_succ] at hK ⊢
      obtain ⟨f39, _⟩ := hf
      replace f39 : x 39 = .bool true := f39
      have c0 := (hb.cell (p := ⟨ug.heap.size, 0, none⟩) (cell_lt qg0)).trans qg0
      have c1 := (hb.cell (p := ⟨ug.heap.size, 1, none⟩) (cell_lt qg1)).trans qg1
      simp only [f39] at hK ⊢
      go_simp
      exact hK.out _ _ (Mop.done_make rfl (Below.refl _ _) rfl)
    case zs41 =>
      refine MStep.mk rfl (fun x lo hi w hb hf K hK => ?_)
      simp only [putAll, mdst, Mop.val, List.getElem_toArray, List.getElem_cons_zero, List.getElem_cons_succ, List.getElem?_toArray, List.getElem?_cons_zero, List.getElem?_cons_succ, Option.bind_some, Act.put, List.setIfInBounds_toArray, List.set_cons_zero, List.set_cons_succ] at hK ⊢
      obtain ⟨f39, _⟩ := hf
      replace f39 : x 39 = .bool true := f39
      simp only [f39] at hK ⊢
      go_simp
      exact hK.out _ _ (Mop.done_make rfl (Below.refl _ _) rfl)
    case zs42 =>
      refine MStep.mk rfl (fun x lo hi w hb hf K hK => ?_)
      simp only [putAll, mdst, List.getElem_toArray, List.getElem_cons_zero, List.getElem_cons_succ, List.getElem?_toArray, List.getElem?_cons_zero, List.getElem?_cons_succ, Option.bind_some, Act.put, List.setIfInBounds_toArray, List.set_cons_zero, List.set_cons_succ] at hK ⊢
      obtain ⟨f39, _⟩ := hf
      replace f39 : x 39 = .bool true := f39
      simp only [f39] at hK ⊢
      go_simp
      refine (text_ar _ _).mono ?_
      rintro e w' ⟨v, rfl, hm, hb'⟩
      try go_simp
      exact hK.out _ _ (Mop.done_make rfl hb' (TreeAt.of hm))
    case zs43 =>
      refine MStep.mk rfl (fun x lo hi w hb hf K hK => ?_)
      simp only [putAll, mdst, List.getElem_toArray, List.getElem_cons_zero, List.getElem_cons_succ, List.getElem?_toArray, List.getElem?_cons_zero, List.getElem?_cons_succ, Option.bind_some, Act.put, List.setIfInBounds_toArray, List.set_cons_zero, List.set_cons_succ] at hK ⊢
      obtain ⟨f39, _⟩ := hf
      replace f39 : x 39 = .bool true := f39
      simp only [f39] at hK ⊢
      go_simp
      refine (text_ar _ _).mono ?_
      rintro e w' ⟨v, rfl, hm, hb'⟩
      try go_simp
      exact hK.out _ _ (Mop.done_make rfl hb' (TreeAt.of hm))
    case zs44 =>
      refine MStep.mk rfl (fun x lo hi w hb hf K hK => ?_)
      simp only [putAll, mdst, List.getElem_toArray, List.getElem_cons_zero, List.getElem_cons_succ, List.getElem?_toArray, List.getElem?_cons_zero, List.getElem?_cons_succ, Option.bind_some, Act.put, List.setIfInBounds_toArray, List.set_cons_zero, List.set_cons_succ] at hK ⊢
      obtain ⟨f39, f42, f43, _⟩ := hf
      replace f39 : x 39 = .bool true := f39
      replace f42 : TreeAt (lo 42) (hi 42) w (x 42) (arOf (txR 98)) := f42
      obtain ⟨p42, c42, e42, t42⟩ := f42.tree
      replace f43 : TreeAt (lo 43) (hi 43) w (x 43) (arOf (txR 99)) := f43
      obtain ⟨p43, c43, e43, t43⟩ := f43.tree
      simp only [f39, e42, e43] at hK ⊢
      go_simp
      exact hK.out _ _ (Mop.done_make rfl ((Below.refl _ _).alloc (Nat.le_refl _) _) ⟨rfl, by rw [World.size_alloc], _, e42, _, e43, Cl.new _ _ _⟩)
    case zs45 =>
      refine MStep.mk rfl (fun x lo hi w hb hf K hK => ?_)
      simp only [putAll, mdst, List.getElem_toArray, List.getElem_cons_zero, List.getElem_cons_succ, List.getElem?_toArray, List.getElem?_cons_zero, List.getElem?_cons_succ, Option.bind_some, Act.put, List.setIfInBounds_toArray, List.set_cons_zero, List.set_cons_succ] at hK ⊢
      obtain ⟨f39, f44, f42, f43, _⟩ := hf
      replace f39 : x 39 = .bool true := f39
      obtain ⟨e44, -, n42, hn42, n43, hn43, c44⟩ : x 44 = .slice (some ⟨lo 44, 0, none⟩) 2 2 ∧ hi 44 = lo 44 + 1 ∧ ∃ n42, x 42 = treeV n42 (arOf (txR 98)).root ∧ ∃ n43, x 43 = treeV n43 (arOf (txR 99)).root ∧ Cl w (lo 44) 26 #[n42, .int .i64 (arOf (txR 98)).root, n43, .int .i64 (arOf (txR 99)).root] := f44
      replace f42 : TreeAt (lo 42) (hi 42) w (x 42) (arOf (txR 98)) := f42
      obtain ⟨p42, c42, e42, t42⟩ := f42.tree
      replace f43 : TreeAt (lo 43) (hi 43) w (x 43) (arOf (txR 99)) := f43
      obtain ⟨p43, c43, e43, t43⟩ := f43.tree
      simp only [f39, e44, e42, e43] at hK ⊢
      go_simp
      refine (of_ar 4 (.inl rfl) _ [txR 98, txR 99] (by decide) _ (trees_in2x c44 hn42 e42 t42 hn43 e43 t43) k10.1 k10.2 (hEV.below hb)).mono ?_
      rintro e w' ⟨v, rfl, hm, hb'⟩
      try go_simp
      exact hK.out _ _ (Mop.done_make rfl hb' (TreeAt.of hm))
    case zs46 =>
      refine MStep.mk rfl (fun x lo hi w hb hf K hK => ?_)
      simp only [putAll, mdst, Mop.val, List.getElem_toArray, List.getElem_cons_zero, List.getElem_cons_succ, List.getElem?_toArray, List.getElem?_cons_zero, List.getElem?_cons_succ, Option.bind_some, Act.put, List.setIfInBounds_toArray, List.set_cons_zero, List.set_cons_succ] at hK ⊢
      obtain ⟨f39, f40, f41, f45, _⟩ := hf
      replace f39 : x 39 = .bool true := f39
      replace f40 : x 40 = .agg #[v_g, .int .i64 (arOf bcR).root] := f40
      replace f41 : x 41 = .bool true := f41
      replace f45 : TreeAt (lo 45) (hi 45) w (x 45) (arOf bcR) := f45
      obtain ⟨p45, c45, e45, t45⟩ := f45.tree
      simp only [f39, f40, f41, e45] at hK ⊢
      go_simp
      refine (is_same _ _ _ bcR (by decide +kernel) (t_g.below hb) t45).mono ?_
      rintro e w' ⟨rfl, hb'⟩
      try go_simp
      exact hK.out _ _ (Mop.done_make rfl hb' rfl)
    case zs47 =>
      refine MStep.mk rfl (fun x lo hi w hb hf K hK => ?_)
      simp only [putAll, mdst, Mop.val, List.getElem_toArray, List.getElem_cons_zero, List.getElem_cons_succ, List.getElem?_toArray, List.getElem?_cons_zero, List.getElem?_cons_succ, Option.bind_some, Act.put, List.setIfInBounds_toArray, List.set_cons_zero, List.set_cons_succ] at hK ⊢
      obtain ⟨f39, f46, _⟩ := hf
      replace f39 : x 39 = .bool true := f39
      replace f46 : x 46 = .bool true := f46
      simp only [f39, f46] at hK ⊢
      go_simp
      exact hK.out _ _ (Mop.done_make rfl (Below.refl _ _) rfl)
    case zs48 =>
      refine MStep.mk rfl (fun x lo hi w hb hf K hK => ?_)
      simp only [putAll, mdst, Mop.val, List.getElem_toArray, List.getElem_cons_zero, List.getElem_cons_succ, List.getElem?_toArray, List.getElem?_cons_zero, List.getElem?_cons_succ, Option.bind_some, Act.put, List.setIfInBounds_toArray, List.set_cons_zero, List.set_cons_succ] at hK ⊢
      obtain ⟨f47, _⟩ := hf
      replace f47 : x 47 = .bool true := f47
      simp only [f47] at hK ⊢
      go_simp
      exact hK.out _ _ (Mop.done_make rfl (Below.refl _ _) rfl)
    case zs49 =>
      refine MStep.mk rfl (fun x lo hi w hb hf K hK => ?_)
      simp only [putAll, mdst, Mop.val, List.getElem_toArray, List.getElem_cons_zero, List.getElem_cons_succ, List.getElem?_toArray, List.getElem?_cons_zero, List.getElem?_cons_succ, Option.bind_some, Act.put, List.setIfInBounds_toArray, List.set_cons_zero, List.set_cons_succ] at hK ⊢
      obtain ⟨f48, _⟩ := hf
      replace f48 : x 48 = .bool true := f48
      simp only [f48] at hK ⊢
      go_simp
      exact hK.out _ _ (Mop.done_make rfl (Below.refl _ _) rfl)
    case zs50 =>
      refine MStep.mk rfl (fun x lo hi w hb hf K hK => ?_)
      simp only [putAll, mdst, Mop.val, List.getElem_toArray, List.getElem_cons_zero, List.getElem_cons_succ, List.getElem?_toArray, List.getElem?_cons_zero, List.getElem?_cons_succ, Option.bind_some, Act.put, List.setIfInBounds_toArray, List.set_cons_zero, List.set_cons_succ] at hK ⊢
      obtain ⟨f48, f49, _⟩ := hf
      replace f48 : x 48 = .bool true := f48
      replace f49 : x 49 = .bool true := f49
      simp only [f48, f49] at hK ⊢
      go_simp
      exact hK.out _ _ (Mop.done_make rfl (Below.refl _ _) rfl)
    case zs51 =>
      refine MStep.mk rfl (fun x lo hi w hb hf K hK => ?_)
      simp only [putAll, mdst, Mop.val, List.getElem_toArray, List.getElem_cons_zero, List.getElem_cons_succ, List.getElem?_toArray, List.getElem?_cons_zero, List.getElem?_cons_succ, Option.bind_some, Act.put, List.setIfInBounds_toArray, List.set_cons_zero, List.set_cons_succ] at hK ⊢
      obtain ⟨f50, _⟩ := hf
      replace f50 : x 50 = .bool true := f50
      simp only [f50] at hK ⊢
      go_simp
      exact hK.out _ _ (Mop.done_make rfl (Below.refl _ _) rfl)
    case zs52 =>
      refine MStep.mk rfl (fun x lo hi w hb hf K hK => ?_)
      simp only [putAll, mdst, Mop.val, List.getElem_toArray, List.getElem_cons_zero, List.getElem_cons_succ, List.getElem?_toArray, List.getElem?_cons_zero, List.getElem?_cons_succ, Option.bind_some, Act.put, List.setIfInBounds_toArray, List.set_cons_zero, List.set_cons_succ] at hK ⊢
      obtain ⟨f51, _⟩ := hf
      replace f51 : x 51 = .bool true := f51
      have c0 := (hb.cell (p := ⟨uh.heap.size, 0, none⟩) (cell_lt qh0)).trans qh0
      have c1 := (hb.cell (p := ⟨uh.heap.size, 1, none⟩) (cell_lt qh1)).trans qh1
      simp only [f51] at hK ⊢
      go_simp
      exact hK.out _ _ (Mop.done_make rfl (Below.refl _ _) rfl)
    case zs53 =>
      refine MStep.mk rfl (fun x lo hi w hb hf K hK => ?_)
      simp only [putAll, mdst, Mop.val, List.getElem_toArray, List.getElem_cons_zero, List.getElem_cons_succ, List.getElem?_toArray, List.getElem?_cons_zero, List.getElem?_cons_succ, Option.bind_some, Act.put, List.setIfInBounds_toArray, List.set_cons_zero, List.set_cons_succ] at hK ⊢
      obtain ⟨f51, _⟩ := hf
      replace f51 : x 51 = .bool true := f51
      simp only [f51] at hK ⊢
      go_simp
      exact hK.out _ _ (Mop.done_make rfl (Below.refl _ _) rfl)
    case zs54 =>
      refine MStep.mk rfl (fun x lo hi w hb hf K hK => ?_)
      simp only [putAll, mdst, Mop.val, List.getElem_toArray, List.getElem_cons_zero, List.getElem_cons_succ, List.getElem?_toArray, List.getElem?_cons_zero, List.getElem?_cons_succ, Option.bind_some, Act.put, List.setIfInBounds_toArray, List.set_cons_zero, List.set_cons_succ] at hK ⊢
      obtain ⟨f51, _⟩ := hf
      replace f51 : x 51 = .bool true := f51
      have c0 := (hb.cell (p := ⟨urep.heap.size, 0, none⟩) (cell_lt qrep0)).trans qrep0
      have c1 := (hb.cell (p := ⟨urep.heap.size, 1, none⟩) (cell_lt qrep1)).trans qrep1
      simp only [f51] at hK ⊢
      go_simp
      exact hK.out _ _ (Mop.done_make rfl (Below.refl _ _) rfl)
    case zs55 =>
      refine MStep.mk rfl (fun x lo hi w hb hf K hK => ?_)
      simp only [putAll, mdst, Mop.val, List.getElem_toArray, List.getElem_cons_zero, List.getElem_cons_succ, List.getElem?_toArray, List.getElem?_cons_zero, List.getElem?_cons_succ, Option.bind_some, Act.put, List.setIfInBounds_toArray, List.set_cons_zero, List.set_cons_succ] at hK ⊢
      obtain ⟨f51, f52, f53, f54, _⟩ := hf
      replace f51 : x 51 = .bool true := f51
      replace f52 : x 52 = .agg #[v_h, .int .i64 (arOf repR).root] := f52
      replace f53 : x 53 = .bool true := f53
      replace f54 : x 54 = .agg #[v_rep, .int .i64 (arOf repR).root] := f54
      simp only [f51, f52, f53, f54] at hK ⊢
      go_simp
      refine (is_same _ _ _ repR (by decide +kernel) (t_h.below hb) (t_rep.below hb)).mono ?_
      rintro e w' ⟨rfl, hb'⟩
      try go_simp
      exact hK.out _ _ (Mop.done_make rfl hb' rfl)
    case zs56 =>
      refine MStep.mk rfl (fun x lo hi w hb hf K hK => ?_)
      simp only [putAll, mdst, Mop.val, List.getElem_toArray, List.getElem_cons_zero, List.getElem_cons_succ, List.getElem?_toArray, List.getElem?_cons_zero, List.getElem?_cons_succ, Option.bind_some, Act.put, List.setIfInBounds_toArray, List.set_cons_zero, List.set_cons_succ] at hK ⊢
      obtain ⟨f51, f55, _⟩ := hf
      replace f51 : x 51 = .bool true := f51
      replace f55 : x 55 = .bool true := f55
      simp only [f51, f55] at hK ⊢
      go_simp
      exact hK.out _ _ (Mop.done_make rfl (Below.refl _ _) rfl)
    case zs57 =>
      refine MStep.mk rfl (fun x lo hi w hb hf K hK => ?_)
      simp only [putAll, mdst, Mop.val, List.getElem_toArray, List.getElem_cons_zero, List.getElem_cons_succ, List.getElem?_toArray, List.getElem?_cons_zero, List.getElem?_cons_succ, Option.bind_some, Act.put, List.setIfInBounds_toArray, List.set_cons_zero, List.set_cons_succ] at hK ⊢
      obtain ⟨f56, _⟩ := hf
      replace f56 : x 56 = .bool true := f56
      simp only [f56] at hK ⊢
      go_simp
      exact hK.out _ _ (Mop.done_make rfl (Below.refl _ _) rfl)
    case zs58 =>
      refine MStep.mk rfl (fun x lo hi w hb hf K hK => ?_)
      simp only [putAll, mdst, Mop.val, List.getElem_toArray, List.getElem_cons_zero, List.getElem_cons_succ, List.getElem?_toArray, List.getElem?_cons_zero, List.getElem?_cons_succ, Option.bind_some, Act.put, List.setIfInBounds_toArray, List.set_cons_zero, List.set_cons_succ] at hK ⊢
      obtain ⟨f57, _⟩ := hf
      replace f57 : x 57 = .bool true := f57
      have c0 := (hb.cell (p := ⟨ui.heap.size, 0, none⟩) (cell_lt qi0)).trans qi0
      have c1 := (hb.cell (p := ⟨ui.heap.size, 1, none⟩) (cell_lt qi1)).trans qi1
      simp only [f57] at hK ⊢
      go_simp
      exact hK.out _ _ (Mop.done_make rfl (Below.refl _ _) rfl)
    case zs59 =>
      refine MStep.mk rfl (fun x lo hi w hb hf K hK => ?_)
      simp only [putAll, mdst, Mop.val, List.getElem_toArray, List.getElem_cons_zero, List.getElem_cons_succ, List.getElem?_toArray, List.getElem?_cons_zero, List.getElem?_cons_succ, Option.bind_some, Act.put, List.setIfInBounds_toArray, List.set_cons_zero, List.set_cons_succ] at hK ⊢
      obtain ⟨f57, _⟩ := hf
      replace f57 : x 57 = .bool true := f57
      simp only [f57] at hK ⊢
      go_simp
      exact hK.out _ _ (Mop.done_make rfl (Below.refl _ _) rfl)
    case zs60 =>
      refine MStep.mk rfl (fun x lo hi w hb hf K hK => ?_)
      simp only [putAll, mdst, List.getElem_toArray, List.getElem_cons_zero, List.getElem_cons_succ, List.getElem?_toArray, List.getElem?_cons_zero, List.getElem?_cons_succ, Option.bind_some, Act.put, List.setIfInBounds_toArray, List.set_cons_zero, List.set_cons_succ] at hK ⊢
      obtain ⟨f57, _⟩ := hf
      replace f57 : x 57 = .bool true := f57
      simp only [f57] at hK ⊢
      go_simp
      refine (empty_ar _).mono ?_
      rintro e w' ⟨v, rfl, hm, hb'⟩
      try go_simp
      exact hK.out _ _ (Mop.done_make rfl hb' (TreeAt.of hm))
    case zs61 =>
      refine MStep.mk rfl (fun x lo hi w hb hf K hK => ?_)
      simp only [putAll, mdst, Mop.val, List.getElem_toArray, List.getElem_cons_zero, List.getElem_cons_succ, List.getElem?_toArray, List.getElem?_cons_zero, List.getElem?_cons_succ, Option.bind_some, Act.put, List.setIfInBounds_toArray, List.set_cons_zero, List.set_cons_succ] at hK ⊢
      obtain ⟨f57, f58, f59, f60, _⟩ := hf
      replace f57 : x 57 = .bool true := f57
      replace f58 : x 58 = .agg #[v_i, .int .i64 (arOf emR).root] := f58
      replace f59 : x 59 = .bool true := f59
      replace f60 : TreeAt (lo 60) (hi 60) w (x 60) (arOf emR) := f60
      obtain ⟨p60, c60, e60, t60⟩ := f60.tree
      simp only [f57, f58, f59, e60] at hK ⊢
      go_simp
      refine (is_same _ _ _ emR (by decide +kernel) (t_i.below hb) t60).mono ?_
      rintro e w' ⟨rfl, hb'⟩
      try go_simp
      exact hK.out _ _ (Mop.done_make rfl hb' rfl)
    case zs62 =>
      refine MStep.mk rfl (fun x lo hi w hb hf K hK => ?_)
      simp only [putAll, mdst, Mop.val, List.getElem_toArray, List.getElem_cons_zero, List.getElem_cons_succ, List.getElem?_toArray, List.getElem?_cons_zero, List.getElem?_cons_succ, Option.bind_some, Act.put, List.setIfInBounds_toArray, List.set_cons_zero, List.set_cons_succ] at hK ⊢
      obtain ⟨f57, f61, _⟩ := hf
      replace f57 : x 57 = .bool true := f57
      replace f61 : x 61 = .bool true := f61
      simp only [f57, f61] at hK ⊢
      go_simp
      exact hK.out _ _ (Mop.done_make rfl (Below.refl _ _) rfl)
    case zs63 =>
      refine MStep.mk rfl (fun x lo hi w hb hf K hK => ?_)
      simp only [putAll, mdst, Mop.val, List.getElem_toArray, List.getElem_cons_zero, List.getElem_cons_succ, List.getElem?_toArray, List.getElem?_cons_zero, List.getElem?_cons_succ, Option.bind_some, Act.put, List.setIfInBounds_toArray, List.set_cons_zero, List.set_cons_succ] at hK ⊢
      obtain ⟨f62, _⟩ := hf
      replace f62 : x 62 = .bool true := f62
      simp only [f62] at hK ⊢
      go_simp
      exact hK.out _ _ (Mop.done_make rfl (Below.refl _ _) rfl)
    case zs64 =>
      refine MStep.mk rfl (fun x lo hi w hb hf K hK => ?_)
      simp only [putAll, mdst, Mop.val, List.getElem_toArray, List.getElem_cons_zero, List.getElem_cons_succ, List.getElem?_toArray, List.getElem?_cons_zero, List.getElem?_cons_succ, Option.bind_some, Act.put, List.setIfInBounds_toArray, List.set_cons_zero, List.set_cons_succ] at hK ⊢
      obtain ⟨f63, _⟩ := hf
      replace f63 : x 63 = .bool true := f63
      simp only [f63] at hK ⊢
      go_simp
      exact hK.out _ _ (Mop.done_make rfl (Below.refl _ _) rfl)
    case zs65 =>
      refine MStep.mk rfl (fun x lo hi w hb hf K hK => ?_)
      simp only [putAll, mdst, Mop.val, List.getElem_toArray, List.getElem_cons_zero, List.getElem_cons_succ, List.getElem?_toArray, List.getElem?_cons_zero, List.getElem?_cons_succ, Option.bind_some, Act.put, List.setIfInBounds_toArray, List.set_cons_zero, List.set_cons_succ] at hK ⊢
      obtain ⟨f63, f64, _⟩ := hf
      replace f63 : x 63 = .bool true := f63
      replace f64 : x 64 = .bool false := f64
      simp only [f63, f64] at hK ⊢
      go_simp
      exact hK.out _ _ (Mop.done_make rfl (Below.refl _ _) rfl)
    case zs66 =>
      refine MStep.mk rfl (fun x lo hi w hb hf K hK => ?_)
      simp only [putAll, mdst, Mop.val, List.getElem_toArray, List.getElem_cons_zero, List.getElem_cons_succ, List.getElem?_toArray, List.getElem?_cons_zero, List.getElem?_cons_succ, Option.bind_some, Act.put, List.setIfInBounds_toArray, List.set_cons_zero, List.set_cons_succ] at hK ⊢
      obtain ⟨f63, f65, _⟩ := hf
      replace f63 : x 63 = .bool true := f63
      replace f65 : x 65 = .bool true := f65
      simp only [f63, f65] at hK ⊢
      go_simp
      exact hK.out _ _ (Mop.done_make rfl (Below.refl _ _) rfl)
    case zs67 =>
      refine MStep.mk rfl (fun x lo hi w hb hf K hK => ?_)
      simp only [putAll, mdst, Mop.val, List.getElem_toArray, List.getElem_cons_zero, List.getElem_cons_succ, List.getElem?_toArray, List.getElem?_cons_zero, List.getElem?_cons_succ, Option.bind_some, Act.put, List.setIfInBounds_toArray, List.set_cons_zero, List.set_cons_succ] at hK ⊢
      obtain ⟨f66, _⟩ := hf
      replace f66 : x 66 = .bool true := f66
      simp only [f66] at hK ⊢
      go_simp
      exact hK.out _ _ (Mop.done_make rfl (Below.refl _ _) rfl)
    case zgood => exact ⟨Mop.Good.val (fun _ _ _ => rfl), Mop.Good.val (fun _ _ _ => rfl), Mop.Good.val (fun _ _ _ => rfl), Mop.Good.val (fun _ _ _ => rfl), Mop.Good.val (fun _ _ _ => rfl), Mop.Good.val (fun _ _ _ => rfl), Mop.Good.val (fun _ _ _ => rfl), ⟨fun _ _ _ _ _ _ _ h => h, fun _ _ _ _ _ _ h hl => TreeAt.like h hl⟩, Mop.Good.val (fun _ _ _ => rfl), Mop.Good.val (fun _ _ _ => rfl), Mop.Good.val (fun _ _ _ => rfl), Mop.Good.val (fun _ _ _ => rfl), Mop.Good.val (fun _ _ _ => rfl), ⟨fun _ _ _ _ _ _ _ h => h, fun _ _ _ _ _ _ h hl => TreeAt.like h hl⟩, Mop.Good.val (fun _ _ _ => rfl), Mop.Good.val (fun _ _ _ => rfl), Mop.Good.val (fun _ _ _ => rfl), Mop.Good.val (fun _ _ _ => rfl), Mop.Good.val (fun _ _ _ => rfl), Mop.Good.val (fun _ _ _ => rfl), Mop.Good.val (fun _ _ _ => rfl), Mop.Good.val (fun _ _ _ => rfl), ⟨fun _ _ _ _ _ _ _ h => h, fun x lo hi u w w' ⟨h1, h2, h4⟩ hl => ⟨h1, h2, h4.like hl (Nat.le_refl _) (by omega)⟩⟩, ⟨fun _ _ _ _ _ _ _ h => h, fun _ _ _ _ _ _ h hl => TreeAt.like h hl⟩, Mop.Good.val (fun _ _ _ => rfl), Mop.Good.val (fun _ _ _ => rfl), Mop.Good.val (fun _ _ _ => rfl), Mop.Good.val (fun _ _ _ => rfl), Mop.Good.val (fun _ _ _ => rfl), Mop.Good.val (fun _ _ _ => rfl), ⟨fun _ _ _ _ _ _ _ h => h, fun _ _ _ _ _ _ h hl => TreeAt.like h hl⟩, Mop.Good.val (fun _ _ _ => rfl), Mop.Good.val (fun _ _ _ => rfl), Mop.Good.val (fun _ _ _ => rfl), Mop.Good.val (fun _ _ _ => rfl), Mop.Good.val (fun _ _ _ => rfl), ⟨fun _ _ _ _ _ _ _ h => h, fun _ _ _ _ _ _ h hl => TreeAt.like h hl⟩, Mop.Good.val (fun _ _ _ => rfl), Mop.Good.val (fun _ _ _ => rfl), Mop.Good.val (fun _ _ _ => rfl), Mop.Good.val (fun _ _ _ => rfl), Mop.Good.val (fun _ _ _ => rfl), ⟨fun _ _ _ _ _ _ _ h => h, fun _ _ _ _ _ _ h hl => TreeAt.like h hl⟩, ⟨fun _ _ _ _ _ _ _ h => h, fun _ _ _ _ _ _ h hl => TreeAt.like h hl⟩, ⟨fun x y h lo hi u w hu => (by have e42 := h 42 (by simp); have e43 := h 43 (by simp); dsimp only at hu ⊢; rw [← e42, ← e43]; exact hu), fun x lo hi u w w' ⟨h1, h2, n42, hn42, n43, hn43, h4⟩ hl => ⟨h1, h2, n42, hn42, n43, hn43, h4.like hl (Nat.le_refl _) (by omega)⟩⟩, ⟨fun _ _ _ _ _ _ _ h => h, fun _ _ _ _ _ _ h hl => TreeAt.like h hl⟩, Mop.Good.val (fun _ _ _ => rfl), Mop.Good.val (fun _ _ _ => rfl), Mop.Good.val (fun _ _ _ => rfl), Mop.Good.val (fun _ _ _ => rfl), Mop.Good.val (fun _ _ _ => rfl), Mop.Good.val (fun _ _ _ => rfl), Mop.Good.val (fun _ _ _ => rfl), Mop.Good.val (fun _ _ _ => rfl), Mop.Good.val (fun _ _ _ => rfl), Mop.Good.val (fun _ _ _ => rfl), Mop.Good.val (fun _ _ _ => rfl), Mop.Good.val (fun _ _ _ => rfl), Mop.Good.val (fun _ _ _ => rfl), Mop.Good.val (fun _ _ _ => rfl), ⟨fun _ _ _ _ _ _ _ h => h, fun _ _ _ _ _ _ h hl => TreeAt.like h hl⟩, Mop.Good.val (fun _ _ _ => rfl), Mop.Good.val (fun _ _ _ => rfl), Mop.Good.val (fun _ _ _ => rfl), Mop.Good.val (fun _ _ _ => rfl), Mop.Good.val (fun _ _ _ => rfl), Mop.Good.val (fun _ _ _ => rfl), Mop.Good.val (fun _ _ _ => rfl), trivial⟩
    case zfin =>
      intro x lo hi w' hb hf
      obtain ⟨-, -, -, -, -, -, -, -, -, -, -, -, -, -, -, -, -, -, -, -, -, -, -, -, -, -, -, -, -, -, -, -, -, -, -, -, -, -, -, -, -, -, -, -, -, -, -, -, -, -, -, -, -, -, -, -, -, -, -, -, -, -, -, -, -, -, -, f67, -⟩ := hf
      replace f67 : x 67 = .bool true := f67
      simp only [putAll, mdst, List.getElem?_toArray, List.getElem?_cons_zero, List.getElem?_cons_succ, Option.bind_some, Act.put, List.setIfInBounds_toArray, List.set_cons_zero, List.set_cons_succ, f67]
      have hbw := hbV.trans (hb.mono hbV.size)
      clear hb
      go_wp2
      go_ret
      exact ⟨rfl, hbw⟩
end Go.Proofs.YtpkjfdgjmcphmaaDoor

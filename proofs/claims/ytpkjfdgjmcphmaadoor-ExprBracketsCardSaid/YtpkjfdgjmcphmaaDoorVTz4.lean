/- bonsailaw04: works. -/
import Derived.Test.YtpkjfdgjmcphmaaDoorVTz4a
namespace Go.Proofs.YtpkjfdgjmcphmaaDoor
open Go.RowKit Bset Tm

set_option maxRecDepth 100000 in
set_option maxHeartbeats 8000000 in
theorem works_any (w : World) (hE : Env w) :
    Calls Tryd.prog 11 #[] w fun e w' => e = .returned (.bool true) ∧ Below w.heap.size w w' := by
  go_enter Tryd.func11, Tryd.ntmps11
  go_wp2_with (first
    | (go_at_call 15; refine (text_any ⟨#[97]⟩ (by decide) _).mono ?_; rintro e w1 ⟨v1, rfl, ⟨nv1, C1, rfl, hm1, hc1⟩, hb1⟩
       obtain ⟨p1, c1, rfl⟩ := own_slice hm1.row)
    | (go_at_call 67; refine (rule_any ⟨#[98]⟩ (by decide) _).mono ?_; rintro e w2 ⟨v2, rfl, ⟨nv2, C2, rfl, hm2, hc2⟩, hb2⟩
       obtain ⟨p2, c2, rfl⟩ := own_slice hm2.row
       have b2 := hb1.trans (hb2.mono hb1.size)
       have t1 : Tree w2 (treeV (.slice p1 C1.length c1) (leafT hA).root) (leafT hA) := MadeT.tree ⟨_, C1, rfl, hm1.below hb2, hc1⟩
       have t2 : Tree w2 (treeV (.slice p2 C2.length c2) (leafT hB).root) (leafT hB) := MadeT.tree ⟨_, C2, rfl, hm2, hc2⟩
       have htr := trees_two t1 t2
       have b3 := b2.alloc b2.size (.cells #[.slice p1 C1.length c1, .int .i64 (leafT hA).root, .slice p2 C2.length c2, .int .i64 (leafT hB).root] 26)
       have hof := fun (W : World) (h1 : Trees W (.slice (some ⟨w2.heap.size, 0, none⟩) 2 2) [leafT hA, leafT hB]) (h2 : Env W) => of_any (hdK 4) (.slice none 0 0) _ [leafT hA, leafT hB] W h1 (by simp [okP, ByteArray.size]) (fun t ht => okA_iff.2 (by
         rcases List.mem_cons.1 ht with rfl | ht
         · exact ab_ok.1
         · rw [List.mem_singleton.1 ht]
           exact ab_ok.2)) (by simp [total, leafT]) (by simp) h2
       simp only [nodeV_zero, ab_of.1, ab_of.2] at hof
       clear hb1 hb2 hm1 hm2 hc1 hc2 b2 t1 t2))
  refine (hof _ htr (hE.below b3)).mono ?_
  rintro e w3 ⟨v3, rfl, ⟨nv3, C3, rfl, hm3, hc3⟩, hb3⟩
  have b4 := b3.trans (hb3.mono b3.size)
  obtain ⟨g, cap, gk, ck, p0, e0, q1, e1, hv, hcn, hck0, hck1, hlt, hltk⟩ := three_made ⟨_, C3, rfl, hm3, hc3⟩
  rw [hv]
  have ht3 : Tree w3 (treeV (.slice (some ⟨g, 0, none⟩) 3 cap) 2) ⟨[⟨hA, []⟩, ⟨hB, []⟩, ⟨hdK 4, [0, 1]⟩], 2⟩ := by
    have := MadeT.tree ⟨_, C3, rfl, hm3, hc3⟩
    rwa [hv] at this
  clear hof htr hb3 b3 hv hm3 hc3
  have b5 := (Below.refl w3.heap.size w3).alloc (Nat.le_refl _) (.cells #[.slice (some ⟨g, 0, none⟩) 3 cap, .int .i64 2] 26)
  have hcA := fun j hj => (b5.cell (p := ⟨g, j, none⟩) hlt).trans (hcn j hj)
  have x0 := hcA 0 (by decide)
  have x1 := hcA 1 (by decide)
  have x2 := hcA 2 (by decide)
  have x3 := hcA 3 (by decide)
  have x4 := hcA 4 (by decide)
  have x5 := hcA 5 (by decide)
  have x6 := hcA 6 (by decide)
  have x7 := hcA 7 (by decide)
  have x8 := hcA 8 (by decide)
  have x9 := hcA 9 (by decide)
  have x10 := hcA 10 (by decide)
  have x11 := hcA 11 (by decide)
  have x12 := hcA 12 (by decide)
  have x13 := hcA 13 (by decide)
  have x14 := hcA 14 (by decide)
  have x15 := hcA 15 (by decide)
  have x16 := hcA 16 (by decide)
  have x17 := hcA 17 (by decide)
  have x18 := hcA 18 (by decide)
  have x19 := hcA 19 (by decide)
  have x20 := hcA 20 (by decide)
  have x21 := hcA 21 (by decide)
  have x22 := hcA 22 (by decide)
  have x23 := hcA 23 (by decide)
  have x24 := hcA 24 (by decide)
  have x25 := hcA 25 (by decide)
  have x26 := hcA 26 (by decide)
  have z0 := (b5.cell (p := ⟨gk, 0, none⟩) hltk).trans hck0
  have z1 := (b5.cell (p := ⟨gk, 1, none⟩) hltk).trans hck1
  simp only [cells27] at x0 x1 x2 x3 x4 x5 x6 x7 x8 x9 x10 x11 x12 x13 x14 x15 x16 x17 x18 x19 x20 x21 x22 x23 x24 x25 x26
  clear hcA
  go_wp2
  have hgb : g ≠ w3.heap.size := by omega
  have B5 := b4.alloc b4.size (.cells #[.slice (some ⟨g, 0, none⟩) 3 cap, .int .i64 2] 26)
  have K5 := Cl.new w3 26 #[.slice (some ⟨g, 0, none⟩) 3 cap, .int .i64 2]
  have T5 := ht3.below b5
  have hz5 : w3.heap.size < (w3.alloc (.cells #[.slice (some ⟨g, 0, none⟩) 3 cap, .int .i64 2] 26)).heap.size := K5.lt
  generalize w3.alloc _ = W5 at *
  generalize w3.heap.size = gS at *
  obtain ⟨⟨y0, y1⟩, yf⟩ := K5.two
  -- the orders
  refine wp_region_held_drew (S := (fun w' => w'.cell? ⟨g, 0, none⟩ = some (.int .u8 2) ∧ w'.cell? ⟨g, 1, none⟩ = some (.int .u64 0) ∧ w'.cell? ⟨g, 2, none⟩ = some (.int .u64 0) ∧ w'.cell? ⟨g, 3, none⟩ = some (.int .u64 0) ∧ w'.cell? ⟨g, 4, none⟩ = some (.int .u64 0) ∧ w'.cell? ⟨g, 5, none⟩ = some (.string ⟨#[97]⟩) ∧ w'.cell? ⟨g, 6, none⟩ = some (.int .i64 0) ∧ w'.cell? ⟨g, 7, none⟩ = some (.int .i64 0) ∧ w'.cell? ⟨g, 8, none⟩ = some (.slice p0 0 e0) ∧ w'.cell? ⟨g, 9, none⟩ = some (.int .u8 3) ∧ w'.cell? ⟨g, 10, none⟩ = some (.int .u64 0) ∧ w'.cell? ⟨g, 11, none⟩ = some (.int .u64 0) ∧ w'.cell? ⟨g, 12, none⟩ = some (.int .u64 0) ∧ w'.cell? ⟨g, 13, none⟩ = some (.int .u64 0) ∧ w'.cell? ⟨g, 14, none⟩ = some (.string ⟨#[98]⟩) ∧ w'.cell? ⟨g, 15, none⟩ = some (.int .i64 0) ∧ w'.cell? ⟨g, 16, none⟩ = some (.int .i64 0) ∧ w'.cell? ⟨g, 17, none⟩ = some (.slice q1 0 e1) ∧ w'.cell? ⟨gS, 0, none⟩ = some (.slice (some ⟨g, 0, none⟩) 3 cap) ∧ w'.cell? ⟨gS, 1, none⟩ = some (.int .i64 2))) (by kernel_rfl) (⟨x0, x1, x2, x3, x4, x5, x6, x7, x8, x9, x10, x11, x12, x13, x14, x15, x16, x17, y0, y1⟩) (fun hHeld => ?_)
  refine wpAnyH_take (i := 0) (v := ?t0v) rfl (by kernel_rfl) (by kernel_rfl) (by kernel_rfl) (fun _ _ _ h => h) (Or.inl ⟨by rfl, ?t0y⟩) (by assumption) ?t0t
  case t0y => (intro w hSw; (try dsimp only at hSw); (try simp only [List.getElem_toArray, List.getElem_cons_zero]); go_simp; try with_reducible rfl)
  try simp only [Act.put, List.getElem_toArray, List.getElem_cons_zero, List.setIfInBounds_toArray, List.set_cons_zero, List.set_cons_succ]
  refine wpAnyH_take (i := 1) (v := ?t1v) rfl (by kernel_rfl) (by kernel_rfl) (by kernel_rfl) (fun _ _ _ h => h) (Or.inl ⟨by rfl, ?t1y⟩) (by assumption) ?t1t
  case t1y => (intro w hSw; (try dsimp only at hSw); (try simp only [List.getElem_toArray, List.getElem_cons_zero, List.getElem_cons_succ]); go_simp; try with_reducible rfl)
  try simp only [Act.put, List.getElem_toArray, List.getElem_cons_zero, List.getElem_cons_succ, List.setIfInBounds_toArray, List.set_cons_zero, List.set_cons_succ]
  refine wpAnyH_take (i := 2) (v := ?t2v) rfl (by kernel_rfl) (by kernel_rfl) (by kernel_rfl) (fun _ _ _ h => h) (Or.inl ⟨by rfl, ?t2y⟩) (by assumption) ?t2t
  case t2y => (intro w hSw; (try dsimp only at hSw); (try simp only [List.getElem_toArray, List.getElem_cons_zero, List.getElem_cons_succ]); go_simp; try with_reducible rfl)
  try simp only [Act.put, List.getElem_toArray, List.getElem_cons_zero, List.getElem_cons_succ, List.setIfInBounds_toArray, List.set_cons_zero, List.set_cons_succ]
  refine wpAnyH_take (i := 3) (v := ?t3v) rfl (by kernel_rfl) (by kernel_rfl) (by kernel_rfl) (fun _ _ _ h => h) (Or.inl ⟨by rfl, ?t3y⟩) (by assumption) ?t3t
  case t3y => (intro w hSw; (try dsimp only at hSw); (try simp only [List.getElem_toArray, List.getElem_cons_zero, List.getElem_cons_succ]); go_simp; try with_reducible rfl)
  try simp only [Act.put, List.getElem_toArray, List.getElem_cons_zero, List.getElem_cons_succ, List.setIfInBounds_toArray, List.set_cons_zero, List.set_cons_succ]
  refine wpAnyH_take (i := 4) (v := ?t4v) rfl (by kernel_rfl) (by kernel_rfl) (by kernel_rfl) (fun _ _ _ h => h) (Or.inl ⟨by rfl, ?t4y⟩) (by assumption) ?t4t
  case t4y => (intro w hSw; (try dsimp only at hSw); (try simp only [List.getElem_toArray, List.getElem_cons_zero, List.getElem_cons_succ]); go_simp; try with_reducible rfl)
  try simp only [Act.put, List.getElem_toArray, List.getElem_cons_zero, List.getElem_cons_succ, List.setIfInBounds_toArray, List.set_cons_zero, List.set_cons_succ]
  refine wpAnyH_take (i := 5) (v := ?t5v) rfl (by kernel_rfl) (by kernel_rfl) (by kernel_rfl) (fun _ _ _ h => h) (Or.inl ⟨by rfl, ?t5y⟩) (by assumption) ?t5t
  case t5y => (intro w hSw; (try dsimp only at hSw); (try simp only [List.getElem_toArray, List.getElem_cons_zero, List.getElem_cons_succ]); go_simp; try with_reducible rfl)
  try simp only [Act.put, List.getElem_toArray, List.getElem_cons_zero, List.getElem_cons_succ, List.setIfInBounds_toArray, List.set_cons_zero, List.set_cons_succ]
  refine wpAnyH_take (i := 6) (v := ?t6v) rfl (by kernel_rfl) (by kernel_rfl) (by kernel_rfl) (fun _ _ _ h => h) (Or.inl ⟨by rfl, ?t6y⟩) (by assumption) ?t6t
  case t6y => (intro w hSw; (try dsimp only at hSw); (try simp only [List.getElem_toArray, List.getElem_cons_zero, List.getElem_cons_succ]); go_simp; try with_reducible rfl)
  try simp only [Act.put, List.getElem_toArray, List.getElem_cons_zero, List.getElem_cons_succ, List.setIfInBounds_toArray, List.set_cons_zero, List.set_cons_succ]
  refine wpAnyH_take (i := 7) (v := ?t7v) rfl (by kernel_rfl) (by kernel_rfl) (by kernel_rfl) (fun _ _ _ h => h) (Or.inl ⟨by rfl, ?t7y⟩) (by assumption) ?t7t
  case t7y => (intro w hSw; (try dsimp only at hSw); (try simp only [List.getElem_toArray, List.getElem_cons_zero, List.getElem_cons_succ]); go_simp; try with_reducible rfl)
  try simp only [Act.put, List.getElem_toArray, List.getElem_cons_zero, List.getElem_cons_succ, List.setIfInBounds_toArray, List.set_cons_zero, List.set_cons_succ]
  skip
  have d0 : W5.drew.cell? ⟨g, 0, none⟩ = _ := x0
  have d1 : W5.drew.cell? ⟨g, 1, none⟩ = _ := x1
  have d2 : W5.drew.cell? ⟨g, 2, none⟩ = _ := x2
  have d3 : W5.drew.cell? ⟨g, 3, none⟩ = _ := x3
  have d4 : W5.drew.cell? ⟨g, 4, none⟩ = _ := x4
  have d5 : W5.drew.cell? ⟨g, 5, none⟩ = _ := x5
  have d6 : W5.drew.cell? ⟨g, 6, none⟩ = _ := x6
  have d7 : W5.drew.cell? ⟨g, 7, none⟩ = _ := x7
  have d8 : W5.drew.cell? ⟨g, 8, none⟩ = _ := x8
  have d9 : W5.drew.cell? ⟨g, 9, none⟩ = _ := x9
  have d10 : W5.drew.cell? ⟨g, 10, none⟩ = _ := x10
  have d11 : W5.drew.cell? ⟨g, 11, none⟩ = _ := x11
  have d12 : W5.drew.cell? ⟨g, 12, none⟩ = _ := x12
  have d13 : W5.drew.cell? ⟨g, 13, none⟩ = _ := x13
  have d14 : W5.drew.cell? ⟨g, 14, none⟩ = _ := x14
  have d15 : W5.drew.cell? ⟨g, 15, none⟩ = _ := x15
  have d16 : W5.drew.cell? ⟨g, 16, none⟩ = _ := x16
  have d17 : W5.drew.cell? ⟨g, 17, none⟩ = _ := x17
  have d18 : W5.drew.cell? ⟨gS, 0, none⟩ = _ := y0
  have d19 : W5.drew.cell? ⟨gS, 1, none⟩ = _ := y1
  refine wpAnyH_ready (rs := [8, 12]) (by kernel_rfl) (by simp) ?_
  refine AllReadyH.cons rfl (fun K hK => ?oA) (AllReadyH.cons rfl (fun K hK => ?oB) AllReadyH.nil)
  case oA =>
    try simp only [List.getElem_toArray, List.getElem_cons_zero, List.getElem_cons_succ]
    go_simp
    refine hK.out _ _ ?oAa (fun hHeld2 => ?_)
    case oAa => (try dsimp only); ((refine ⟨?_, ?_, ?_, ?_, ?_, ?_, ?_, ?_, ?_, ?_, ?_, ?_, ?_, ?_, ?_, ?_, ?_, ?_, ?_, ?_⟩ <;> (repeat (first | assumption | apply cell_alloc))))
    clear hHeld hK K
    have hHeld := hHeld2
    clear hHeld2
    try simp only [Act.put, List.getElem_toArray, List.getElem_cons_zero, List.getElem_cons_succ, List.setIfInBounds_toArray, List.set_cons_zero, List.set_cons_succ]
    refine wpAnyH_take (i := 9) (v := ?oAtv) rfl (by kernel_rfl) (by kernel_rfl) (by kernel_rfl) (fun _ _ _ h => h) (Or.inl ⟨by rfl, ?oAty⟩) (by assumption) ?oAtt
    case oAty => (intro w hSw; (try dsimp only at hSw); (try simp only [List.getElem_toArray, List.getElem_cons_zero, List.getElem_cons_succ]); go_simp; try with_reducible rfl)
    try simp only [Act.put, List.getElem_toArray, List.getElem_cons_zero, List.getElem_cons_succ, List.setIfInBounds_toArray, List.set_cons_zero, List.set_cons_succ]
    refine wpAnyH_ready (rs := [10, 12]) (by kernel_rfl) (by simp) ?_
    refine AllReadyH.cons rfl (fun K hK => ?oA1) (AllReadyH.cons rfl (fun K hK => ?oA2) AllReadyH.nil)
    case oA1 =>
      try simp only [List.getElem_toArray, List.getElem_cons_zero, List.getElem_cons_succ]
      go_simp
      refine hK.out _ _ ?oA1a (fun hHeld2 => ?_)
      case oA1a => (try dsimp only); ((refine ⟨?_, ?_, ?_, ?_, ?_, ?_, ?_, ?_, ?_, ?_, ?_, ?_, ?_, ?_, ?_, ?_, ?_, ?_, ?_, ?_⟩ <;> (repeat (first | assumption | apply cell_alloc))))
      clear hHeld hK K
      have hHeld := hHeld2
      clear hHeld2
      try simp only [Act.put, List.getElem_toArray, List.getElem_cons_zero, List.getElem_cons_succ, List.setIfInBounds_toArray, List.set_cons_zero, List.set_cons_succ]
      refine wpAnyH_take (i := 11) (v := ?oA1tv) rfl (by kernel_rfl) (by kernel_rfl) (by kernel_rfl) (fun _ _ _ h => h) (Or.inl ⟨by rfl, ?oA1ty⟩) (by assumption) ?oA1tt
      case oA1ty => (intro w hSw; (try dsimp only at hSw); (try simp only [List.getElem_toArray, List.getElem_cons_zero, List.getElem_cons_succ]); go_simp; try with_reducible rfl)
      try simp only [Act.put, List.getElem_toArray, List.getElem_cons_zero, List.getElem_cons_succ, List.setIfInBounds_toArray, List.set_cons_zero, List.set_cons_succ]
      refine wpAnyH_ready (rs := [12]) (by kernel_rfl) (by simp) ?_
      refine AllReadyH.cons rfl (fun K hK => ?_) AllReadyH.nil
      try simp only [List.getElem_toArray, List.getElem_cons_zero, List.getElem_cons_succ]
      go_simp
      refine hK.out _ _ ?oA1b (fun hHeld2 => ?_)
      case oA1b => (try dsimp only); ((refine ⟨?_, ?_, ?_, ?_, ?_, ?_, ?_, ?_, ?_, ?_, ?_, ?_, ?_, ?_, ?_, ?_, ?_, ?_, ?_, ?_⟩ <;> (repeat (first | assumption | apply cell_alloc))))
      clear hHeld hK K
      have hHeld := hHeld2
      clear hHeld2
      try simp only [Act.put, List.getElem_toArray, List.getElem_cons_zero, List.getElem_cons_succ, List.setIfInBounds_toArray, List.set_cons_zero, List.set_cons_succ]
      refine wpAnyH_ready (rs := [13]) (by kernel_rfl) (by simp) ?_
      refine AllReadyH.cons rfl (fun K hK => ?_) AllReadyH.nil
      try simp only [List.getElem_toArray, List.getElem_cons_zero, List.getElem_cons_succ]
      go_simp
      refine hK.out _ _ ?oA1c (fun hHeld2 => ?_)
      case oA1c => (try dsimp only); ((refine ⟨?_, ?_, ?_, ?_, ?_, ?_, ?_, ?_, ?_, ?_, ?_, ?_, ?_, ?_, ?_, ?_, ?_, ?_, ?_, ?_⟩ <;> (repeat (first | assumption | apply cell_alloc))))
      clear hHeld hK K
      have hHeld := hHeld2
      clear hHeld2
      try simp only [Act.put, List.getElem_toArray, List.getElem_cons_zero, List.getElem_cons_succ, List.setIfInBounds_toArray, List.set_cons_zero, List.set_cons_succ]
      refine wpAnyH_done (by kernel_rfl) ?_ _
      generalize hW : World.drew _ = W
      have F := fin1 B5 K5 T5 hW
      clear hW hHeld d0 d1 d2 d3 d4 d5 d6 d7 d8 d9 d10 d11 d12 d13 d14 d15 d16 d17 d18 d19 x0 x1 x2 x3 x4 x5 x6 x7 x8 x9 x10 x11 x12 x13 x14 x15 x16 x17 x18 x19 x20 x21 x22 x23 x24 x25 x26 z0 z1 y0 y1 yf B5 K5 T5 hz5 hgb b4 hck0 hck1
      generalize W5.heap.size + 1 + 1 = gU at *
      generalize W5.heap.size + 1 = gV at *
      generalize W5.heap.size = gW at *
      obtain ⟨⟨y0, y1⟩, yf⟩ := F.t.two
      go_wp2_with (first
        | (go_at_call 23; refine (walk_turn _ _ F.turn (hE.below F.b)).mono ?_; rintro e W6 ⟨gr, cr, rfl, ⟨r0, r1, r2⟩, hb6⟩
           have S6 := F.s.below hb6 F.s.lt
           have U6 := F.t.below hb6 F.t.lt
           have B6 := F.b.trans (hb6.mono F.b.size)
           have A6 := F.ab.below hb6
           have N6 := F.turn.below hb6
           obtain ⟨⟨s0, s1⟩, sf⟩ := S6.two
           obtain ⟨⟨u0, u1⟩, uf⟩ := U6.two
           clear hb6 y0 y1 yf S6 U6 F)
        | (go_at_call 26; refine (same_any _ _ abT turnT _ A6 N6 ab_okA turn_okA (hE.below B6)).mono ?_; rintro e W7 ⟨rfl, hb7⟩; rw [turn_same]; have B7 := B6.trans (hb7.mono B6.size); clear hb7 r0 r1 r2 s0 s1 sf u0 u1 uf A6 N6 B6)
        | (go_at_call 13; refine (nots100 _ (hE.below (by assumption))).mono ?_; rintro e W8 ⟨p8, n8, c8, r8, rfl, ht8, hb8⟩; have B8 := Below.trans (by assumption) (hb8.mono (Below.size (by assumption))); clear hb8)
        | (go_at_call 18; refine (right_at' _ _ _ ht8 no100_okA (hE.below B8)).mono ?_; rintro e W9 ⟨rfl, hb9⟩; rw [no100_right]; have B9 := B8.trans (hb9.mono B8.size); clear hb9 B8 ht8)
        | (go_at_call 12; refine (may_t _ _ _ ht8 no100_okA (hE.below B8)).mono ?_; rintro e W10 ⟨rfl, hb10⟩; rw [no100_may]; have B10 := B8.trans (hb10.mono B8.size)))
      go_ret
      exact ⟨rfl, by assumption⟩
    case oA2 =>
      try simp only [List.getElem_toArray, List.getElem_cons_zero, List.getElem_cons_succ]
      go_simp
      refine hK.out _ _ ?oA2a (fun hHeld2 => ?_)
      case oA2a => (try dsimp only); ((refine ⟨?_, ?_, ?_, ?_, ?_, ?_, ?_, ?_, ?_, ?_, ?_, ?_, ?_, ?_, ?_, ?_, ?_, ?_, ?_, ?_⟩ <;> (repeat (first | assumption | apply cell_alloc))))
      clear hHeld hK K
      have hHeld := hHeld2
      clear hHeld2
      try simp only [Act.put, List.getElem_toArray, List.getElem_cons_zero, List.getElem_cons_succ, List.setIfInBounds_toArray, List.set_cons_zero, List.set_cons_succ]
      refine wpAnyH_ready (rs := [10]) (by kernel_rfl) (by simp) ?_
      refine AllReadyH.cons rfl (fun K hK => ?_) AllReadyH.nil
      try simp only [List.getElem_toArray, List.getElem_cons_zero, List.getElem_cons_succ]
      go_simp
      refine hK.out _ _ ?oA2b (fun hHeld2 => ?_)
      case oA2b => (try dsimp only); ((refine ⟨?_, ?_, ?_, ?_, ?_, ?_, ?_, ?_, ?_, ?_, ?_, ?_, ?_, ?_, ?_, ?_, ?_, ?_, ?_, ?_⟩ <;> (repeat (first | assumption | apply cell_alloc))))
      clear hHeld hK K
      have hHeld := hHeld2
      clear hHeld2
      try simp only [Act.put, List.getElem_toArray, List.getElem_cons_zero, List.getElem_cons_succ, List.setIfInBounds_toArray, List.set_cons_zero, List.set_cons_succ]
      refine wpAnyH_take (i := 11) (v := ?oA2tv) rfl (by kernel_rfl) (by kernel_rfl) (by kernel_rfl) (fun _ _ _ h => h) (Or.inl ⟨by rfl, ?oA2ty⟩) (by assumption) ?oA2tt
      case oA2ty => (intro w hSw; (try dsimp only at hSw); (try simp only [List.getElem_toArray, List.getElem_cons_zero, List.getElem_cons_succ]); go_simp; try with_reducible rfl)
      try simp only [Act.put, List.getElem_toArray, List.getElem_cons_zero, List.getElem_cons_succ, List.setIfInBounds_toArray, List.set_cons_zero, List.set_cons_succ]
      refine wpAnyH_ready (rs := [13]) (by kernel_rfl) (by simp) ?_
      refine AllReadyH.cons rfl (fun K hK => ?_) AllReadyH.nil
      try simp only [List.getElem_toArray, List.getElem_cons_zero, List.getElem_cons_succ]
      go_simp
      refine hK.out _ _ ?oA2c (fun hHeld2 => ?_)
      case oA2c => (try dsimp only); ((refine ⟨?_, ?_, ?_, ?_, ?_, ?_, ?_, ?_, ?_, ?_, ?_, ?_, ?_, ?_, ?_, ?_, ?_, ?_, ?_, ?_⟩ <;> (repeat (first | assumption | apply cell_alloc))))
      clear hHeld hK K
      have hHeld := hHeld2
      clear hHeld2
      try simp only [Act.put, List.getElem_toArray, List.getElem_cons_zero, List.getElem_cons_succ, List.setIfInBounds_toArray, List.set_cons_zero, List.set_cons_succ]
      refine wpAnyH_done (by kernel_rfl) ?_ _
      generalize hW : World.drew _ = W
      have F := fin2 B5 K5 T5 hW
      clear hW hHeld d0 d1 d2 d3 d4 d5 d6 d7 d8 d9 d10 d11 d12 d13 d14 d15 d16 d17 d18 d19 x0 x1 x2 x3 x4 x5 x6 x7 x8 x9 x10 x11 x12 x13 x14 x15 x16 x17 x18 x19 x20 x21 x22 x23 x24 x25 x26 z0 z1 y0 y1 yf B5 K5 T5 hz5 hgb b4 hck0 hck1
      generalize W5.heap.size + 1 + 1 = gU at *
      generalize W5.heap.size + 1 = gV at *
      generalize W5.heap.size = gW at *
      obtain ⟨⟨y0, y1⟩, yf⟩ := F.t.two
      go_wp2_with (first
        | (go_at_call 23; refine (walk_turn _ _ F.turn (hE.below F.b)).mono ?_; rintro e W6 ⟨gr, cr, rfl, ⟨r0, r1, r2⟩, hb6⟩
           have S6 := F.s.below hb6 F.s.lt
           have U6 := F.t.below hb6 F.t.lt
           have B6 := F.b.trans (hb6.mono F.b.size)
           have A6 := F.ab.below hb6
           have N6 := F.turn.below hb6
           obtain ⟨⟨s0, s1⟩, sf⟩ := S6.two
           obtain ⟨⟨u0, u1⟩, uf⟩ := U6.two
           clear hb6 y0 y1 yf S6 U6 F)
        | (go_at_call 26; refine (same_any _ _ abT turnT _ A6 N6 ab_okA turn_okA (hE.below B6)).mono ?_; rintro e W7 ⟨rfl, hb7⟩; rw [turn_same]; have B7 := B6.trans (hb7.mono B6.size); clear hb7 r0 r1 r2 s0 s1 sf u0 u1 uf A6 N6 B6)
        | (go_at_call 13; refine (nots100 _ (hE.below (by assumption))).mono ?_; rintro e W8 ⟨p8, n8, c8, r8, rfl, ht8, hb8⟩; have B8 := Below.trans (by assumption) (hb8.mono (Below.size (by assumption))); clear hb8)
        | (go_at_call 18; refine (right_at' _ _ _ ht8 no100_okA (hE.below B8)).mono ?_; rintro e W9 ⟨rfl, hb9⟩; rw [no100_right]; have B9 := B8.trans (hb9.mono B8.size); clear hb9 B8 ht8)
        | (go_at_call 12; refine (may_t _ _ _ ht8 no100_okA (hE.below B8)).mono ?_; rintro e W10 ⟨rfl, hb10⟩; rw [no100_may]; have B10 := B8.trans (hb10.mono B8.size)))
      go_ret
      exact ⟨rfl, by assumption⟩
  case oB =>
    try simp only [List.getElem_toArray, List.getElem_cons_zero, List.getElem_cons_succ]
    go_simp
    refine hK.out _ _ ?oBa (fun hHeld2 => ?_)
    case oBa => (try dsimp only); ((refine ⟨?_, ?_, ?_, ?_, ?_, ?_, ?_, ?_, ?_, ?_, ?_, ?_, ?_, ?_, ?_, ?_, ?_, ?_, ?_, ?_⟩ <;> (repeat (first | assumption | apply cell_alloc))))
    clear hHeld hK K
    have hHeld := hHeld2
    clear hHeld2
    try simp only [Act.put, List.getElem_toArray, List.getElem_cons_zero, List.getElem_cons_succ, List.setIfInBounds_toArray, List.set_cons_zero, List.set_cons_succ]
    refine wpAnyH_ready (rs := [8]) (by kernel_rfl) (by simp) ?_
    refine AllReadyH.cons rfl (fun K hK => ?_) AllReadyH.nil
    try simp only [List.getElem_toArray, List.getElem_cons_zero, List.getElem_cons_succ]
    go_simp
    refine hK.out _ _ ?oBb (fun hHeld2 => ?_)
    case oBb => (try dsimp only); ((refine ⟨?_, ?_, ?_, ?_, ?_, ?_, ?_, ?_, ?_, ?_, ?_, ?_, ?_, ?_, ?_, ?_, ?_, ?_, ?_, ?_⟩ <;> (repeat (first | assumption | apply cell_alloc))))
    clear hHeld hK K
    have hHeld := hHeld2
    clear hHeld2
    try simp only [Act.put, List.getElem_toArray, List.getElem_cons_zero, List.getElem_cons_succ, List.setIfInBounds_toArray, List.set_cons_zero, List.set_cons_succ]
    refine wpAnyH_take (i := 9) (v := ?oBtv) rfl (by kernel_rfl) (by kernel_rfl) (by kernel_rfl) (fun _ _ _ h => h) (Or.inl ⟨by rfl, ?oBty⟩) (by assumption) ?oBtt
    case oBty => (intro w hSw; (try dsimp only at hSw); (try simp only [List.getElem_toArray, List.getElem_cons_zero, List.getElem_cons_succ]); go_simp; try with_reducible rfl)
    try simp only [Act.put, List.getElem_toArray, List.getElem_cons_zero, List.getElem_cons_succ, List.setIfInBounds_toArray, List.set_cons_zero, List.set_cons_succ]
    refine wpAnyH_ready (rs := [10]) (by kernel_rfl) (by simp) ?_
    refine AllReadyH.cons rfl (fun K hK => ?_) AllReadyH.nil
    try simp only [List.getElem_toArray, List.getElem_cons_zero, List.getElem_cons_succ]
    go_simp
    refine hK.out _ _ ?oBc (fun hHeld2 => ?_)
    case oBc => (try dsimp only); ((refine ⟨?_, ?_, ?_, ?_, ?_, ?_, ?_, ?_, ?_, ?_, ?_, ?_, ?_, ?_, ?_, ?_, ?_, ?_, ?_, ?_⟩ <;> (repeat (first | assumption | apply cell_alloc))))
    clear hHeld hK K
    have hHeld := hHeld2
    clear hHeld2
    try simp only [Act.put, List.getElem_toArray, List.getElem_cons_zero, List.getElem_cons_succ, List.setIfInBounds_toArray, List.set_cons_zero, List.set_cons_succ]
    refine wpAnyH_take (i := 11) (v := ?oBuv) rfl (by kernel_rfl) (by kernel_rfl) (by kernel_rfl) (fun _ _ _ h => h) (Or.inl ⟨by rfl, ?oBuy⟩) (by assumption) ?oBut
    case oBuy => (intro w hSw; (try dsimp only at hSw); (try simp only [List.getElem_toArray, List.getElem_cons_zero, List.getElem_cons_succ]); go_simp; try with_reducible rfl)
    try simp only [Act.put, List.getElem_toArray, List.getElem_cons_zero, List.getElem_cons_succ, List.setIfInBounds_toArray, List.set_cons_zero, List.set_cons_succ]
    refine wpAnyH_ready (rs := [13]) (by kernel_rfl) (by simp) ?_
    refine AllReadyH.cons rfl (fun K hK => ?_) AllReadyH.nil
    try simp only [List.getElem_toArray, List.getElem_cons_zero, List.getElem_cons_succ]
    go_simp
    refine hK.out _ _ ?oBd (fun hHeld2 => ?_)
    case oBd => (try dsimp only); ((refine ⟨?_, ?_, ?_, ?_, ?_, ?_, ?_, ?_, ?_, ?_, ?_, ?_, ?_, ?_, ?_, ?_, ?_, ?_, ?_, ?_⟩ <;> (repeat (first | assumption | apply cell_alloc))))
    clear hHeld hK K
    have hHeld := hHeld2
    clear hHeld2
    try simp only [Act.put, List.getElem_toArray, List.getElem_cons_zero, List.getElem_cons_succ, List.setIfInBounds_toArray, List.set_cons_zero, List.set_cons_succ]
    refine wpAnyH_done (by kernel_rfl) ?_ _
    generalize hW : World.drew _ = W
    have F := fin3 B5 K5 T5 hW
    clear hW hHeld d0 d1 d2 d3 d4 d5 d6 d7 d8 d9 d10 d11 d12 d13 d14 d15 d16 d17 d18 d19 x0 x1 x2 x3 x4 x5 x6 x7 x8 x9 x10 x11 x12 x13 x14 x15 x16 x17 x18 x19 x20 x21 x22 x23 x24 x25 x26 z0 z1 y0 y1 yf B5 K5 T5 hz5 hgb b4 hck0 hck1
    generalize W5.heap.size + 1 + 1 = gU at *
    generalize W5.heap.size + 1 = gV at *
    generalize W5.heap.size = gW at *
    obtain ⟨⟨y0, y1⟩, yf⟩ := F.t.two
    go_wp2_with (first
      | (go_at_call 23; refine (walk_turn _ _ F.turn (hE.below F.b)).mono ?_; rintro e W6 ⟨gr, cr, rfl, ⟨r0, r1, r2⟩, hb6⟩
         have S6 := F.s.below hb6 F.s.lt
         have U6 := F.t.below hb6 F.t.lt
         have B6 := F.b.trans (hb6.mono F.b.size)
         have A6 := F.ab.below hb6
         have N6 := F.turn.below hb6
         obtain ⟨⟨s0, s1⟩, sf⟩ := S6.two
         obtain ⟨⟨u0, u1⟩, uf⟩ := U6.two
         clear hb6 y0 y1 yf S6 U6 F)
      | (go_at_call 26; refine (same_any _ _ abT turnT _ A6 N6 ab_okA turn_okA (hE.below B6)).mono ?_; rintro e W7 ⟨rfl, hb7⟩; rw [turn_same]; have B7 := B6.trans (hb7.mono B6.size); clear hb7 r0 r1 r2 s0 s1 sf u0 u1 uf A6 N6 B6)
      | (go_at_call 13; refine (nots100 _ (hE.below (by assumption))).mono ?_; rintro e W8 ⟨p8, n8, c8, r8, rfl, ht8, hb8⟩; have B8 := Below.trans (by assumption) (hb8.mono (Below.size (by assumption))); clear hb8)
      | (go_at_call 18; refine (right_at' _ _ _ ht8 no100_okA (hE.below B8)).mono ?_; rintro e W9 ⟨rfl, hb9⟩; rw [no100_right]; have B9 := B8.trans (hb9.mono B8.size); clear hb9 B8 ht8)
      | (go_at_call 12; refine (may_t _ _ _ ht8 no100_okA (hE.below B8)).mono ?_; rintro e W10 ⟨rfl, hb10⟩; rw [no100_may]; have B10 := B8.trans (hb10.mono B8.size)))
    go_ret
    exact ⟨rfl, by assumption⟩
end Go.Proofs.YtpkjfdgjmcphmaaDoor

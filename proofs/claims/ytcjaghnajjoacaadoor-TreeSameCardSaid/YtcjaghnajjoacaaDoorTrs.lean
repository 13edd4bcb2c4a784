/- bonsailaw04: TreeSame. -/
import Derived.Test.YtcjaghnajjoacaaDoorTrs0
namespace Go.Proofs.YtcjaghnajjoacaaDoor
open Go.RowKit Bset Tm

set_option maxRecDepth 100000 in
set_option maxHeartbeats 16000000 in
theorem treeSame_walk (va vb vc : Value) (a b c : Ar) (w : World) (ha : Tree w va a) (hb : Tree w vb b) (hc : Tree w vc c) (hwa : ∀ n ∈ a.nodes, okW n) (hwb : ∀ n ∈ b.nodes, okW n) (hwc : ∀ n ∈ c.nodes, okW n) (hE : Env w) :
    Calls Tryd.prog 7 #[va, vb, vc] w fun e w' => e = .returned (.bool true) ∧ Below w.heap.size w w' := by
  obtain ⟨nva, rfl, hna⟩ := ha
  obtain ⟨nvb, rfl, hnb⟩ := hb
  obtain ⟨nvc, rfl, hnc⟩ := hc
  obtain ⟨pa, ca, rfl⟩ := hna.len
  obtain ⟨pb, cb, rfl⟩ := hnb.len
  obtain ⟨pc, cc, rfl⟩ := hnc.len
  have bx : Bx w #[.slice pa a.nodes.length ca, .int .i64 a.root] #[.slice pb b.nodes.length cb, .int .i64 b.root] #[.slice pc c.nodes.length cc, .int .i64 c.root] (((w.alloc (.cells #[.slice pa a.nodes.length ca, .int .i64 a.root] 26)).alloc (.cells #[.slice pb b.nodes.length cb, .int .i64 b.root] 26)).alloc (.cells #[.slice pc c.nodes.length cc, .int .i64 c.root] 26)) := by
    refine ⟨(((Below.refl _ w).alloc (Nat.le_refl _) _).alloc (by simp) _).alloc (by simp; omega) _, ((Cl.new w _ _).alloc _).alloc _, Cl.alloc (Cl.new' (by simp) _ _) _, Cl.new' (by simp) _ _⟩
  go_enter Tryd.func7, Tryd.ntmps7
  go_wp2_with (go_at_call 8; refine (works_any _ (hE.below bx.b)).mono ?_; rintro e w1 ⟨rfl, hb1⟩
               have bx1 := bx.below hb1
               obtain ⟨⟨y0, y1⟩, yf⟩ := bx1.ka.two
               obtain ⟨⟨z0, z1⟩, zf⟩ := bx1.kb.two
               obtain ⟨⟨u0, u1⟩, uf⟩ := bx1.kc.two
               have hts := trees_three (T := a) (U := b) (V := c) ⟨_, rfl, hna.below bx1.b⟩ ⟨_, rfl, hnb.below bx1.b⟩ ⟨_, rfl, hnc.below bx1.b⟩
               have bx2 := bx1.alloc (.cells #[.slice pa a.nodes.length ca, .int .i64 a.root, .slice pb b.nodes.length cb, .int .i64 b.root, .slice pc c.nodes.length cc, .int .i64 c.root] 26)
               clear hb1 bx bx1)
  refine (long_any _ [a, b, c] _ hts).mono ?_
  rintro e w3 ⟨bl, rfl, hsm, hb3⟩
  have bx := bx2.below hb3
  clear hts y0 y1 yf z0 z1 zf u0 u1 uf hb3 bx2
  cases bl with
  | true =>
    go_wp2_with (go_at_call 8; refine (works_any _ (hE.below bx.b)).mono ?_; rintro e w4 ⟨rfl, hb4⟩; have b4 := (bx.below hb4).b)
    go_ret
    exact ⟨rfl, b4⟩
  | false =>
    have hsm' := small_ok (hsm rfl) (fun t ht => by
      simp only [List.mem_cons, List.not_mem_nil, or_false] at ht
      rcases ht with rfl | rfl | rfl
      · exact hwa
      · exact hwb
      · exact hwc)
    have hoka : OkA a.nodes := hsm' a (by simp)
    have hokb : OkA b.nodes := hsm' b (by simp)
    have hokc : OkA c.nodes := hsm' c (by simp)
    clear hsm hsm' hwa hwb hwc
    have hca := fun (W : World) (h1 : Tree W (treeV (.slice pa a.nodes.length ca) a.root) a) (h2 : Env W) => clean_at (treeV (.slice pa a.nodes.length ca) a.root) a W h1 hoka h2
    have hcb := fun (W : World) (h1 : Tree W (treeV (.slice pb b.nodes.length cb) b.root) b) (h2 : Env W) => clean_at (treeV (.slice pb b.nodes.length cb) b.root) b W h1 hokb h2
    have hra := fun (W : World) (h1 : Tree W (treeV (.slice pa a.nodes.length ca) a.root) a) (h2 : Env W) => right_at' (treeV (.slice pa a.nodes.length ca) a.root) a W h1 hoka h2
    have hrb := fun (W : World) (h1 : Tree W (treeV (.slice pb b.nodes.length cb) b.root) b) (h2 : Env W) => right_at' (treeV (.slice pb b.nodes.length cb) b.root) b W h1 hokb h2
    obtain ⟨ab, hab⟩ : ∃ x, sameT a b = x := ⟨_, rfl⟩
    obtain ⟨bc, hbc⟩ : ∃ x, sameT b c = x := ⟨_, rfl⟩
    obtain ⟨ac, hac⟩ : ∃ x, sameT a c = x := ⟨_, rfl⟩
    have hba := (same_comm a b).trans hab
    have hrx := fun (px : Option Addr) (cx : Nat) (W : World) (h1 : Tree W (treeV (.slice px (cleanT a).nodes.length cx) (cleanT a).root) (cleanT a)) (h2 : Env W) => right_at' (treeV (.slice px (cleanT a).nodes.length cx) (cleanT a).root) (cleanT a) W h1 (ok_clean hoka) h2
    simp only [clean_right] at hrx
    replace hrx := fun (W : World) {px : Option Addr} {cx : Nat} => hrx px cx W
    go_wp2
    refine (fun (tail : ∀ (gX gY : Nat) (px : Option Addr) (cx : Nat) (py : Option Addr) (cy : Nat) (W : World), T5 w #[.slice pa a.nodes.length ca, .int .i64 a.root] #[.slice pb b.nodes.length cb, .int .i64 b.root] #[.slice pc c.nodes.length cc, .int .i64 c.root] gX gY (.slice px (cleanT a).nodes.length cx) (.slice py (cleanT b).nodes.length cy) (cleanT a).root (cleanT b).root (cleanT a).nodes (cleanT b).nodes W → (?G : Nat → Nat → Option Addr → Nat → Option Addr → Nat → World → Prop) gX gY px cx py cy W) => ?main) ?tail
    case main =>
      refine wp_region_held_drew (S := (fun w' => w'.cell? ⟨w.heap.size, 0, none⟩ = some (.slice pa a.nodes.length ca) ∧ w'.cell? ⟨w.heap.size, 1, none⟩ = some (.int .i64 a.root) ∧ w'.cell? ⟨w.heap.size + 1, 0, none⟩ = some (.slice pb b.nodes.length cb) ∧ w'.cell? ⟨w.heap.size + 1, 1, none⟩ = some (.int .i64 b.root) ∧ w'.cell? ⟨w.heap.size + 1 + 1, 0, none⟩ = some (.slice pc c.nodes.length cc) ∧ w'.cell? ⟨w.heap.size + 1 + 1, 1, none⟩ = some (.int .i64 c.root))) (by kernel_rfl) (bx.S) (fun hHeld => ?_)
      refine wpAnyH_take (i := 0) (v := ?q0v) rfl (by kernel_rfl) (by kernel_rfl) (by kernel_rfl) (fun _ _ _ h => h) (Or.inl ⟨by rfl, ?q0y⟩) (by assumption) ?q0t
      case q0y => (intro w hSw; (try dsimp only at hSw); (try simp only [List.getElem_toArray, List.getElem_cons_zero]); go_simp; try with_reducible rfl)
      try simp only [Act.put, List.getElem_toArray, List.getElem_cons_zero, List.setIfInBounds_toArray, List.set_cons_zero, List.set_cons_succ]
      refine wpAnyH_take (i := 2) (v := ?q2v) rfl (by kernel_rfl) (by kernel_rfl) (by kernel_rfl) (fun _ _ _ h => h) (Or.inl ⟨by rfl, ?q2y⟩) (by assumption) ?q2t
      case q2y => (intro w hSw; (try dsimp only at hSw); (try simp only [List.getElem_toArray, List.getElem_cons_zero, List.getElem_cons_succ]); go_simp; try with_reducible rfl)
      try simp only [Act.put, List.getElem_toArray, List.getElem_cons_zero, List.getElem_cons_succ, List.setIfInBounds_toArray, List.set_cons_zero, List.set_cons_succ]
      have bx0 := bx.drew
      generalize w3.drew = W0 at *
      refine wpAnyH_ready (rs := [1, 4, 5]) (by kernel_rfl) (by simp) ?_
      refine (AllReadyH.cons rfl (fun K hK => ?o1b) (AllReadyH.cons rfl (fun K hK => ?o2b) (AllReadyH.cons rfl (fun K hK => ?o3b) AllReadyH.nil)))
      case o1b =>
        try simp only [List.getElem_toArray, List.getElem_cons_zero, List.getElem_cons_succ]
        go_simp
        refine (hca _ ⟨_, rfl, hna.below bx0.b⟩ (hE.below bx0.b)).mono ?_
        rintro e W1 ⟨px, cx, Cx, rfl, mx1, hhx, hb1⟩
        have bx1 := bx0.below hb1
        clear hb1
        try go_simp
        refine hK.out _ _ ?o4 (fun hHeld2 => ?_)
        case o4 => (try dsimp only); exact bx1.S
        clear hHeld hK K
        have hHeld := hHeld2
        clear hHeld2
        try simp only [Act.put, List.getElem_toArray, List.getElem_cons_zero, List.getElem_cons_succ, List.setIfInBounds_toArray, List.set_cons_zero, List.set_cons_succ]
        refine wpAnyH_ready (rs := [3, 4, 5]) (by kernel_rfl) (by simp) ?_
        refine (AllReadyH.cons rfl (fun K hK => ?o5b) (AllReadyH.cons rfl (fun K hK => ?o6b) (AllReadyH.cons rfl (fun K hK => ?o7b) AllReadyH.nil)))
        case o5b =>
          try simp only [List.getElem_toArray, List.getElem_cons_zero, List.getElem_cons_succ]
          go_simp
          refine (hcb _ ⟨_, rfl, hnb.below bx1.b⟩ (hE.below bx1.b)).mono ?_
          rintro e W2 ⟨py, cy, Cy, rfl, my2, hhy, hb2⟩
          have bx2 := bx1.below hb2
          have mx2 := mx1.below hb2
          clear hb2
          try go_simp
          refine hK.out _ _ ?o8 (fun hHeld2 => ?_)
          case o8 => (try dsimp only); exact bx2.S
          clear hHeld hK K
          have hHeld := hHeld2
          clear hHeld2
          try simp only [Act.put, List.getElem_toArray, List.getElem_cons_zero, List.getElem_cons_succ, List.setIfInBounds_toArray, List.set_cons_zero, List.set_cons_succ]
          refine wpAnyH_ready (rs := [4, 5]) (by kernel_rfl) (by simp) ?_
          refine (AllReadyH.cons rfl (fun K hK => ?o9b) (AllReadyH.cons rfl (fun K hK => ?o10b) AllReadyH.nil))
          case o9b =>
            try simp only [List.getElem_toArray, List.getElem_cons_zero, List.getElem_cons_succ]
            go_simp
            have bx3 := bx2.alloc zeroT
            have st3 := (Below.refl W2.heap.size W2).alloc (Nat.le_refl _) zeroT
            have kx3 := Cl.new W2 26 #[.slice none 0 0, .int .i64 0]
            have hgX := bx2.big
            have mx3 := mx2.below st3
            have my3 := my2.below st3
            clear st3
            generalize W2.alloc _ = W3 at *
            generalize W2.heap.size = gX at *
            try go_simp
            refine hK.out _ _ ?o11 (fun hHeld2 => ?_)
            case o11 => (try dsimp only); exact bx3.S
            clear hHeld hK K
            have hHeld := hHeld2
            clear hHeld2
            try simp only [Act.put, List.getElem_toArray, List.getElem_cons_zero, List.getElem_cons_succ, List.setIfInBounds_toArray, List.set_cons_zero, List.set_cons_succ]
            refine wpAnyH_ready (rs := [5]) (by kernel_rfl) (by simp) ?_
            refine (AllReadyH.cons rfl (fun K hK => ?o12b) AllReadyH.nil)
            case o12b =>
              try simp only [List.getElem_toArray, List.getElem_cons_zero, List.getElem_cons_succ]
              go_simp
              have bx4 := bx3.alloc zeroT
              have st4 := (Below.refl W3.heap.size W3).alloc (Nat.le_refl _) zeroT
              have ky4 := Cl.new W3 26 #[.slice none 0 0, .int .i64 0]
              have hgY := bx3.big
              have mx4 := mx3.below st4
              have my4 := my3.below st4
              have kx4 := kx3.alloc zeroT
              have hne : gX ≠ W3.heap.size := by have := kx3.lt; omega
              clear st4
              generalize W3.alloc _ = W4 at *
              generalize W3.heap.size = gY at *
              try go_simp
              refine hK.out _ _ ?o13 (fun hHeld2 => ?_)
              case o13 => (try dsimp only); exact bx4.S
              clear hHeld hK K
              have hHeld := hHeld2
              clear hHeld2
              try simp only [Act.put, List.getElem_toArray, List.getElem_cons_zero, List.getElem_cons_succ, List.setIfInBounds_toArray, List.set_cons_zero, List.set_cons_succ]
              refine wpAnyH_ready (rs := [6]) (by kernel_rfl) (by simp) ?_
              refine AllReadyH.cons rfl (fun K hK => ?_) AllReadyH.nil
              obtain ⟨⟨i0, i1⟩, jf⟩ := kx4.two
              try simp only [List.getElem_toArray, List.getElem_cons_zero, List.getElem_cons_succ]
              go_simp
              have bx5 := bx4.put hgX (.slice px (cleanT a).nodes.length cx) (.int .i64 (cleanT a).root)
              have kx5 : Cl ((W4.setCell ⟨gX, 0, none⟩ (.slice px (cleanT a).nodes.length cx)).setCell ⟨gX, 1, none⟩ (.int .i64 (cleanT a).root)) gX 26 #[.slice px (cleanT a).nodes.length cx, .int .i64 (cleanT a).root] := kx4.put2 (.slice px (cleanT a).nodes.length cx) (.int .i64 (cleanT a).root)
              have ky5 : Cl ((W4.setCell ⟨gX, 0, none⟩ (.slice px (cleanT a).nodes.length cx)).setCell ⟨gX, 1, none⟩ (.int .i64 (cleanT a).root)) gY 26 _ := (ky4.other (p := ⟨gX, 0, none⟩) (by simp; omega) (.slice px (cleanT a).nodes.length cx)).other (p := ⟨gX, 1, none⟩) (by simp; omega) (.int .i64 (cleanT a).root)
              have mx5 : Made _ ((W4.setCell ⟨gX, 0, none⟩ (.slice px (cleanT a).nodes.length cx)).setCell ⟨gX, 1, none⟩ (.int .i64 (cleanT a).root)) _ _ := mx4.ty kx4 (by decide) (by decide) (gb_put2 W4 gX (.slice px (cleanT a).nodes.length cx) (.int .i64 (cleanT a).root))
              have my5 : Made _ ((W4.setCell ⟨gX, 0, none⟩ (.slice px (cleanT a).nodes.length cx)).setCell ⟨gX, 1, none⟩ (.int .i64 (cleanT a).root)) _ _ := my4.ty kx4 (by decide) (by decide) (gb_put2 W4 gX (.slice px (cleanT a).nodes.length cx) (.int .i64 (cleanT a).root))
              clear i0 i1 jf
              generalize ((W4.setCell ⟨gX, 0, none⟩ (.slice px (cleanT a).nodes.length cx)).setCell ⟨gX, 1, none⟩ (.int .i64 (cleanT a).root)) = W5 at *
              try go_simp
              refine hK.out _ _ ?o14 (fun hHeld2 => ?_)
              case o14 => (try dsimp only); exact bx5.S
              clear hHeld hK K
              have hHeld := hHeld2
              clear hHeld2
              try simp only [Act.put, List.getElem_toArray, List.getElem_cons_zero, List.getElem_cons_succ, List.setIfInBounds_toArray, List.set_cons_zero, List.set_cons_succ]
              refine wpAnyH_ready (rs := [7]) (by kernel_rfl) (by simp) ?_
              refine AllReadyH.cons rfl (fun K hK => ?_) AllReadyH.nil
              obtain ⟨⟨i0, i1⟩, jf⟩ := ky5.two
              try simp only [List.getElem_toArray, List.getElem_cons_zero, List.getElem_cons_succ]
              go_simp
              have bx6 := bx5.put hgY (.slice py (cleanT b).nodes.length cy) (.int .i64 (cleanT b).root)
              have ky6 : Cl ((W5.setCell ⟨gY, 0, none⟩ (.slice py (cleanT b).nodes.length cy)).setCell ⟨gY, 1, none⟩ (.int .i64 (cleanT b).root)) gY 26 #[.slice py (cleanT b).nodes.length cy, .int .i64 (cleanT b).root] := ky5.put2 (.slice py (cleanT b).nodes.length cy) (.int .i64 (cleanT b).root)
              have kx6 : Cl ((W5.setCell ⟨gY, 0, none⟩ (.slice py (cleanT b).nodes.length cy)).setCell ⟨gY, 1, none⟩ (.int .i64 (cleanT b).root)) gX 26 _ := (kx5.other (p := ⟨gY, 0, none⟩) (by simp; omega) (.slice py (cleanT b).nodes.length cy)).other (p := ⟨gY, 1, none⟩) (by simp; omega) (.int .i64 (cleanT b).root)
              have mx6 : Made _ ((W5.setCell ⟨gY, 0, none⟩ (.slice py (cleanT b).nodes.length cy)).setCell ⟨gY, 1, none⟩ (.int .i64 (cleanT b).root)) _ _ := mx5.ty ky5 (by decide) (by decide) (gb_put2 W5 gY (.slice py (cleanT b).nodes.length cy) (.int .i64 (cleanT b).root))
              have my6 : Made _ ((W5.setCell ⟨gY, 0, none⟩ (.slice py (cleanT b).nodes.length cy)).setCell ⟨gY, 1, none⟩ (.int .i64 (cleanT b).root)) _ _ := my5.ty ky5 (by decide) (by decide) (gb_put2 W5 gY (.slice py (cleanT b).nodes.length cy) (.int .i64 (cleanT b).root))
              clear i0 i1 jf
              generalize ((W5.setCell ⟨gY, 0, none⟩ (.slice py (cleanT b).nodes.length cy)).setCell ⟨gY, 1, none⟩ (.int .i64 (cleanT b).root)) = W6 at *
              try go_simp
              refine hK.out _ _ ?o15 (fun hHeld2 => ?_)
              case o15 => (try dsimp only); exact bx6.S
              clear hHeld hK K
              have hHeld := hHeld2
              clear hHeld2
              try simp only [Act.put, List.getElem_toArray, List.getElem_cons_zero, List.getElem_cons_succ, List.setIfInBounds_toArray, List.set_cons_zero, List.set_cons_succ]
              refine wpAnyH_done (by kernel_rfl) ?_ _
              exact tail gX gY px cx py cy W6 ⟨bx6, kx6, ky6, hhx ▸ mx6.nodes, hhy ▸ my6.nodes⟩
          case o10b =>
            try simp only [List.getElem_toArray, List.getElem_cons_zero, List.getElem_cons_succ]
            go_simp
            have bx3 := bx2.alloc zeroT
            have st3 := (Below.refl W2.heap.size W2).alloc (Nat.le_refl _) zeroT
            have ky3 := Cl.new W2 26 #[.slice none 0 0, .int .i64 0]
            have hgY := bx2.big
            have mx3 := mx2.below st3
            have my3 := my2.below st3
            clear st3
            generalize W2.alloc _ = W3 at *
            generalize W2.heap.size = gY at *
            try go_simp
            refine hK.out _ _ ?o16 (fun hHeld2 => ?_)
            case o16 => (try dsimp only); exact bx3.S
            clear hHeld hK K
            have hHeld := hHeld2
            clear hHeld2
            try simp only [Act.put, List.getElem_toArray, List.getElem_cons_zero, List.getElem_cons_succ, List.setIfInBounds_toArray, List.set_cons_zero, List.set_cons_succ]
            refine wpAnyH_ready (rs := [4]) (by kernel_rfl) (by simp) ?_
            refine (AllReadyH.cons rfl (fun K hK => ?o17b) AllReadyH.nil)
            case o17b =>
              try simp only [List.getElem_toArray, List.getElem_cons_zero, List.getElem_cons_succ]
              go_simp
              have bx4 := bx3.alloc zeroT
              have st4 := (Below.refl W3.heap.size W3).alloc (Nat.le_refl _) zeroT
              have kx4 := Cl.new W3 26 #[.slice none 0 0, .int .i64 0]
              have hgX := bx3.big
              have mx4 := mx3.below st4
              have my4 := my3.below st4
              have ky4 := ky3.alloc zeroT
              have hne : W3.heap.size ≠ gY := by have := ky3.lt; omega
              clear st4
              generalize W3.alloc _ = W4 at *
              generalize W3.heap.size = gX at *
              try go_simp
              refine hK.out _ _ ?o18 (fun hHeld2 => ?_)
              case o18 => (try dsimp only); exact bx4.S
              clear hHeld hK K
              have hHeld := hHeld2
              clear hHeld2
              try simp only [Act.put, List.getElem_toArray, List.getElem_cons_zero, List.getElem_cons_succ, List.setIfInBounds_toArray, List.set_cons_zero, List.set_cons_succ]
              refine wpAnyH_ready (rs := [6]) (by kernel_rfl) (by simp) ?_
              refine AllReadyH.cons rfl (fun K hK => ?_) AllReadyH.nil
              obtain ⟨⟨i0, i1⟩, jf⟩ := kx4.two
              try simp only [List.getElem_toArray, List.getElem_cons_zero, List.getElem_cons_succ]
              go_simp
              have bx5 := bx4.put hgX (.slice px (cleanT a).nodes.length cx) (.int .i64 (cleanT a).root)
              have kx5 : Cl ((W4.setCell ⟨gX, 0, none⟩ (.slice px (cleanT a).nodes.length cx)).setCell ⟨gX, 1, none⟩ (.int .i64 (cleanT a).root)) gX 26 #[.slice px (cleanT a).nodes.length cx, .int .i64 (cleanT a).root] := kx4.put2 (.slice px (cleanT a).nodes.length cx) (.int .i64 (cleanT a).root)
              have ky5 : Cl ((W4.setCell ⟨gX, 0, none⟩ (.slice px (cleanT a).nodes.length cx)).setCell ⟨gX, 1, none⟩ (.int .i64 (cleanT a).root)) gY 26 _ := (ky4.other (p := ⟨gX, 0, none⟩) (by simp; omega) (.slice px (cleanT a).nodes.length cx)).other (p := ⟨gX, 1, none⟩) (by simp; omega) (.int .i64 (cleanT a).root)
              have mx5 : Made _ ((W4.setCell ⟨gX, 0, none⟩ (.slice px (cleanT a).nodes.length cx)).setCell ⟨gX, 1, none⟩ (.int .i64 (cleanT a).root)) _ _ := mx4.ty kx4 (by decide) (by decide) (gb_put2 W4 gX (.slice px (cleanT a).nodes.length cx) (.int .i64 (cleanT a).root))
              have my5 : Made _ ((W4.setCell ⟨gX, 0, none⟩ (.slice px (cleanT a).nodes.length cx)).setCell ⟨gX, 1, none⟩ (.int .i64 (cleanT a).root)) _ _ := my4.ty kx4 (by decide) (by decide) (gb_put2 W4 gX (.slice px (cleanT a).nodes.length cx) (.int .i64 (cleanT a).root))
              clear i0 i1 jf
              generalize ((W4.setCell ⟨gX, 0, none⟩ (.slice px (cleanT a).nodes.length cx)).setCell ⟨gX, 1, none⟩ (.int .i64 (cleanT a).root)) = W5 at *
              try go_simp
              refine hK.out _ _ ?o19 (fun hHeld2 => ?_)
              case o19 => (try dsimp only); exact bx5.S
              clear hHeld hK K
              have hHeld := hHeld2
              clear hHeld2
              try simp only [Act.put, List.getElem_toArray, List.getElem_cons_zero, List.getElem_cons_succ, List.setIfInBounds_toArray, List.set_cons_zero, List.set_cons_succ]
              refine wpAnyH_ready (rs := [7]) (by kernel_rfl) (by simp) ?_
              refine AllReadyH.cons rfl (fun K hK => ?_) AllReadyH.nil
              obtain ⟨⟨i0, i1⟩, jf⟩ := ky5.two
              try simp only [List.getElem_toArray, List.getElem_cons_zero, List.getElem_cons_succ]
              go_simp
              have bx6 := bx5.put hgY (.slice py (cleanT b).nodes.length cy) (.int .i64 (cleanT b).root)
              have ky6 : Cl ((W5.setCell ⟨gY, 0, none⟩ (.slice py (cleanT b).nodes.length cy)).setCell ⟨gY, 1, none⟩ (.int .i64 (cleanT b).root)) gY 26 #[.slice py (cleanT b).nodes.length cy, .int .i64 (cleanT b).root] := ky5.put2 (.slice py (cleanT b).nodes.length cy) (.int .i64 (cleanT b).root)
              have kx6 : Cl ((W5.setCell ⟨gY, 0, none⟩ (.slice py (cleanT b).nodes.length cy)).setCell ⟨gY, 1, none⟩ (.int .i64 (cleanT b).root)) gX 26 _ := (kx5.other (p := ⟨gY, 0, none⟩) (by simp; omega) (.slice py (cleanT b).nodes.length cy)).other (p := ⟨gY, 1, none⟩) (by simp; omega) (.int .i64 (cleanT b).root)
              have mx6 : Made _ ((W5.setCell ⟨gY, 0, none⟩ (.slice py (cleanT b).nodes.length cy)).setCell ⟨gY, 1, none⟩ (.int .i64 (cleanT b).root)) _ _ := mx5.ty ky5 (by decide) (by decide) (gb_put2 W5 gY (.slice py (cleanT b).nodes.length cy) (.int .i64 (cleanT b).root))
              have my6 : Made _ ((W5.setCell ⟨gY, 0, none⟩ (.slice py (cleanT b).nodes.length cy)).setCell ⟨gY, 1, none⟩ (.int .i64 (cleanT b).root)) _ _ := my5.ty ky5 (by decide) (by decide) (gb_put2 W5 gY (.slice py (cleanT b).nodes.length cy) (.int .i64 (cleanT b).root))
              clear i0 i1 jf
              generalize ((W5.setCell ⟨gY, 0, none⟩ (.slice py (cleanT b).nodes.length cy)).setCell ⟨gY, 1, none⟩ (.int .i64 (cleanT b).root)) = W6 at *
              try go_simp
              refine hK.out _ _ ?o20 (fun hHeld2 => ?_)
              case o20 => (try dsimp only); exact bx6.S
              clear hHeld hK K
              have hHeld := hHeld2
              clear hHeld2
              try simp only [Act.put, List.getElem_toArray, List.getElem_cons_zero, List.getElem_cons_succ, List.setIfInBounds_toArray, List.set_cons_zero, List.set_cons_succ]
              refine wpAnyH_done (by kernel_rfl) ?_ _
              exact tail gX gY px cx py cy W6 ⟨bx6, kx6, ky6, hhx ▸ mx6.nodes, hhy ▸ my6.nodes⟩
        case o6b =>
          try simp only [List.getElem_toArray, List.getElem_cons_zero, List.getElem_cons_succ]
          go_simp
          have bx2 := bx1.alloc zeroT
          have st2 := (Below.refl W1.heap.size W1).alloc (Nat.le_refl _) zeroT
          have kx2 := Cl.new W1 26 #[.slice none 0 0, .int .i64 0]
          have hgX := bx1.big
          have mx2 := mx1.below st2
          clear st2
          generalize W1.alloc _ = W2 at *
          generalize W1.heap.size = gX at *
          try go_simp
          refine hK.out _ _ ?o21 (fun hHeld2 => ?_)
          case o21 => (try dsimp only); exact bx2.S
          clear hHeld hK K
          have hHeld := hHeld2
          clear hHeld2
          try simp only [Act.put, List.getElem_toArray, List.getElem_cons_zero, List.getElem_cons_succ, List.setIfInBounds_toArray, List.set_cons_zero, List.set_cons_succ]
          refine wpAnyH_ready (rs := [3, 5]) (by kernel_rfl) (by simp) ?_
          refine (AllReadyH.cons rfl (fun K hK => ?o22b) (AllReadyH.cons rfl (fun K hK => ?o23b) AllReadyH.nil))
          case o22b =>
            try simp only [List.getElem_toArray, List.getElem_cons_zero, List.getElem_cons_succ]
            go_simp
            refine (hcb _ ⟨_, rfl, hnb.below bx2.b⟩ (hE.below bx2.b)).mono ?_
            rintro e W3 ⟨py, cy, Cy, rfl, my3, hhy, hb3⟩
            have bx3 := bx2.below hb3
            have mx3 := mx2.below hb3
            have kx3 := kx2.below hb3 kx2.lt
            clear hb3
            try go_simp
            refine hK.out _ _ ?o24 (fun hHeld2 => ?_)
            case o24 => (try dsimp only); exact bx3.S
            clear hHeld hK K
            have hHeld := hHeld2
            clear hHeld2
            try simp only [Act.put, List.getElem_toArray, List.getElem_cons_zero, List.getElem_cons_succ, List.setIfInBounds_toArray, List.set_cons_zero, List.set_cons_succ]
            refine wpAnyH_ready (rs := [5]) (by kernel_rfl) (by simp) ?_
            refine (AllReadyH.cons rfl (fun K hK => ?o25b) AllReadyH.nil)
            case o25b =>
              try simp only [List.getElem_toArray, List.getElem_cons_zero, List.getElem_cons_succ]
              go_simp
              have bx4 := bx3.alloc zeroT
              have st4 := (Below.refl W3.heap.size W3).alloc (Nat.le_refl _) zeroT
              have ky4 := Cl.new W3 26 #[.slice none 0 0, .int .i64 0]
              have hgY := bx3.big
              have mx4 := mx3.below st4
              have my4 := my3.below st4
              have kx4 := kx3.alloc zeroT
              have hne : gX ≠ W3.heap.size := by have := kx3.lt; omega
              clear st4
              generalize W3.alloc _ = W4 at *
              generalize W3.heap.size = gY at *
              try go_simp
              refine hK.out _ _ ?o26 (fun hHeld2 => ?_)
              case o26 => (try dsimp only); exact bx4.S
              clear hHeld hK K
              have hHeld := hHeld2
              clear hHeld2
              try simp only [Act.put, List.getElem_toArray, List.getElem_cons_zero, List.getElem_cons_succ, List.setIfInBounds_toArray, List.set_cons_zero, List.set_cons_succ]
              refine wpAnyH_ready (rs := [6]) (by kernel_rfl) (by simp) ?_
              refine AllReadyH.cons rfl (fun K hK => ?_) AllReadyH.nil
              obtain ⟨⟨i0, i1⟩, jf⟩ := kx4.two
              try simp only [List.getElem_toArray, List.getElem_cons_zero, List.getElem_cons_succ]
              go_simp
              have bx5 := bx4.put hgX (.slice px (cleanT a).nodes.length cx) (.int .i64 (cleanT a).root)
              have kx5 : Cl ((W4.setCell ⟨gX, 0, none⟩ (.slice px (cleanT a).nodes.length cx)).setCell ⟨gX, 1, none⟩ (.int .i64 (cleanT a).root)) gX 26 #[.slice px (cleanT a).nodes.length cx, .int .i64 (cleanT a).root] := kx4.put2 (.slice px (cleanT a).nodes.length cx) (.int .i64 (cleanT a).root)
              have ky5 : Cl ((W4.setCell ⟨gX, 0, none⟩ (.slice px (cleanT a).nodes.length cx)).setCell ⟨gX, 1, none⟩ (.int .i64 (cleanT a).root)) gY 26 _ := (ky4.other (p := ⟨gX, 0, none⟩) (by simp; omega) (.slice px (cleanT a).nodes.length cx)).other (p := ⟨gX, 1, none⟩) (by simp; omega) (.int .i64 (cleanT a).root)
              have mx5 : Made _ ((W4.setCell ⟨gX, 0, none⟩ (.slice px (cleanT a).nodes.length cx)).setCell ⟨gX, 1, none⟩ (.int .i64 (cleanT a).root)) _ _ := mx4.ty kx4 (by decide) (by decide) (gb_put2 W4 gX (.slice px (cleanT a).nodes.length cx) (.int .i64 (cleanT a).root))
              have my5 : Made _ ((W4.setCell ⟨gX, 0, none⟩ (.slice px (cleanT a).nodes.length cx)).setCell ⟨gX, 1, none⟩ (.int .i64 (cleanT a).root)) _ _ := my4.ty kx4 (by decide) (by decide) (gb_put2 W4 gX (.slice px (cleanT a).nodes.length cx) (.int .i64 (cleanT a).root))
              clear i0 i1 jf
              generalize ((W4.setCell ⟨gX, 0, none⟩ (.slice px (cleanT a).nodes.length cx)).setCell ⟨gX, 1, none⟩ (.int .i64 (cleanT a).root)) = W5 at *
              try go_simp
              refine hK.out _ _ ?o27 (fun hHeld2 => ?_)
              case o27 => (try dsimp only); exact bx5.S
              clear hHeld hK K
              have hHeld := hHeld2
              clear hHeld2
              try simp only [Act.put, List.getElem_toArray, List.getElem_cons_zero, List.getElem_cons_succ, List.setIfInBounds_toArray, List.set_cons_zero, List.set_cons_succ]
              refine wpAnyH_ready (rs := [7]) (by kernel_rfl) (by simp) ?_
              refine AllReadyH.cons rfl (fun K hK => ?_) AllReadyH.nil
              obtain ⟨⟨i0, i1⟩, jf⟩ := ky5.two
              try simp only [List.getElem_toArray, List.getElem_cons_zero, List.getElem_cons_succ]
              go_simp
              have bx6 := bx5.put hgY (.slice py (cleanT b).nodes.length cy) (.int .i64 (cleanT b).root)
              have ky6 : Cl ((W5.setCell ⟨gY, 0, none⟩ (.slice py (cleanT b).nodes.length cy)).setCell ⟨gY, 1, none⟩ (.int .i64 (cleanT b).root)) gY 26 #[.slice py (cleanT b).nodes.length cy, .int .i64 (cleanT b).root] := ky5.put2 (.slice py (cleanT b).nodes.length cy) (.int .i64 (cleanT b).root)
              have kx6 : Cl ((W5.setCell ⟨gY, 0, none⟩ (.slice py (cleanT b).nodes.length cy)).setCell ⟨gY, 1, none⟩ (.int .i64 (cleanT b).root)) gX 26 _ := (kx5.other (p := ⟨gY, 0, none⟩) (by simp; omega) (.slice py (cleanT b).nodes.length cy)).other (p := ⟨gY, 1, none⟩) (by simp; omega) (.int .i64 (cleanT b).root)
              have mx6 : Made _ ((W5.setCell ⟨gY, 0, none⟩ (.slice py (cleanT b).nodes.length cy)).setCell ⟨gY, 1, none⟩ (.int .i64 (cleanT b).root)) _ _ := mx5.ty ky5 (by decide) (by decide) (gb_put2 W5 gY (.slice py (cleanT b).nodes.length cy) (.int .i64 (cleanT b).root))
              have my6 : Made _ ((W5.setCell ⟨gY, 0, none⟩ (.slice py (cleanT b).nodes.length cy)).setCell ⟨gY, 1, none⟩ (.int .i64 (cleanT b).root)) _ _ := my5.ty ky5 (by decide) (by decide) (gb_put2 W5 gY (.slice py (cleanT b).nodes.length cy) (.int .i64 (cleanT b).root))
              clear i0 i1 jf
              generalize ((W5.setCell ⟨gY, 0, none⟩ (.slice py (cleanT b).nodes.length cy)).setCell ⟨gY, 1, none⟩ (.int .i64 (cleanT b).root)) = W6 at *
              try go_simp
              refine hK.out _ _ ?o28 (fun hHeld2 => ?_)
              case o28 => (try dsimp only); exact bx6.S
              clear hHeld hK K
              have hHeld := hHeld2
              clear hHeld2
              try simp only [Act.put, List.getElem_toArray, List.getElem_cons_zero, List.getElem_cons_succ, List.setIfInBounds_toArray, List.set_cons_zero, List.set_cons_succ]
              refine wpAnyH_done (by kernel_rfl) ?_ _
              exact tail gX gY px cx py cy W6 ⟨bx6, kx6, ky6, hhx ▸ mx6.nodes, hhy ▸ my6.nodes⟩
          case o23b =>
            try simp only [List.getElem_toArray, List.getElem_cons_zero, List.getElem_cons_succ]
            go_simp
            have bx3 := bx2.alloc zeroT
            have st3 := (Below.refl W2.heap.size W2).alloc (Nat.le_refl _) zeroT
            have ky3 := Cl.new W2 26 #[.slice none 0 0, .int .i64 0]
            have hgY := bx2.big
            have mx3 := mx2.below st3
            have kx3 := kx2.alloc zeroT
            have hne : gX ≠ W2.heap.size := by have := kx2.lt; omega
            clear st3
            generalize W2.alloc _ = W3 at *
            generalize W2.heap.size = gY at *
            try go_simp
            refine hK.out _ _ ?o29 (fun hHeld2 => ?_)
            case o29 => (try dsimp only); exact bx3.S
            clear hHeld hK K
            have hHeld := hHeld2
            clear hHeld2
            try simp only [Act.put, List.getElem_toArray, List.getElem_cons_zero, List.getElem_cons_succ, List.setIfInBounds_toArray, List.set_cons_zero, List.set_cons_succ]
            refine wpAnyH_ready (rs := [3]) (by kernel_rfl) (by simp) ?_
            refine (AllReadyH.cons rfl (fun K hK => ?o30b) AllReadyH.nil)
            case o30b =>
              try simp only [List.getElem_toArray, List.getElem_cons_zero, List.getElem_cons_succ]
              go_simp
              refine (hcb _ ⟨_, rfl, hnb.below bx3.b⟩ (hE.below bx3.b)).mono ?_
              rintro e W4 ⟨py, cy, Cy, rfl, my4, hhy, hb4⟩
              have bx4 := bx3.below hb4
              have mx4 := mx3.below hb4
              have kx4 := kx3.below hb4 kx3.lt
              have ky4 := ky3.below hb4 ky3.lt
              clear hb4
              try go_simp
              refine hK.out _ _ ?o31 (fun hHeld2 => ?_)
              case o31 => (try dsimp only); exact bx4.S
              clear hHeld hK K
              have hHeld := hHeld2
              clear hHeld2
              try simp only [Act.put, List.getElem_toArray, List.getElem_cons_zero, List.getElem_cons_succ, List.setIfInBounds_toArray, List.set_cons_zero, List.set_cons_succ]
              refine wpAnyH_ready (rs := [6]) (by kernel_rfl) (by simp) ?_
              refine AllReadyH.cons rfl (fun K hK => ?_) AllReadyH.nil
              obtain ⟨⟨i0, i1⟩, jf⟩ := kx4.two
              try simp only [List.getElem_toArray, List.getElem_cons_zero, List.getElem_cons_succ]
              go_simp
              have bx5 := bx4.put hgX (.slice px (cleanT a).nodes.length cx) (.int .i64 (cleanT a).root)
              have kx5 : Cl ((W4.setCell ⟨gX, 0, none⟩ (.slice px (cleanT a).nodes.length cx)).setCell ⟨gX, 1, none⟩ (.int .i64 (cleanT a).root)) gX 26 #[.slice px (cleanT a).nodes.length cx, .int .i64 (cleanT a).root] := kx4.put2 (.slice px (cleanT a).nodes.length cx) (.int .i64 (cleanT a).root)
              have ky5 : Cl ((W4.setCell ⟨gX, 0, none⟩ (.slice px (cleanT a).nodes.length cx)).setCell ⟨gX, 1, none⟩ (.int .i64 (cleanT a).root)) gY 26 _ := (ky4.other (p := ⟨gX, 0, none⟩) (by simp; omega) (.slice px (cleanT a).nodes.length cx)).other (p := ⟨gX, 1, none⟩) (by simp; omega) (.int .i64 (cleanT a).root)
              have mx5 : Made _ ((W4.setCell ⟨gX, 0, none⟩ (.slice px (cleanT a).nodes.length cx)).setCell ⟨gX, 1, none⟩ (.int .i64 (cleanT a).root)) _ _ := mx4.ty kx4 (by decide) (by decide) (gb_put2 W4 gX (.slice px (cleanT a).nodes.length cx) (.int .i64 (cleanT a).root))
              have my5 : Made _ ((W4.setCell ⟨gX, 0, none⟩ (.slice px (cleanT a).nodes.length cx)).setCell ⟨gX, 1, none⟩ (.int .i64 (cleanT a).root)) _ _ := my4.ty kx4 (by decide) (by decide) (gb_put2 W4 gX (.slice px (cleanT a).nodes.length cx) (.int .i64 (cleanT a).root))
              clear i0 i1 jf
              generalize ((W4.setCell ⟨gX, 0, none⟩ (.slice px (cleanT a).nodes.length cx)).setCell ⟨gX, 1, none⟩ (.int .i64 (cleanT a).root)) = W5 at *
              try go_simp
              refine hK.out _ _ ?o32 (fun hHeld2 => ?_)
              case o32 => (try dsimp only); exact bx5.S
              clear hHeld hK K
              have hHeld := hHeld2
              clear hHeld2
              try simp only [Act.put, List.getElem_toArray, List.getElem_cons_zero, List.getElem_cons_succ, List.setIfInBounds_toArray, List.set_cons_zero, List.set_cons_succ]
              refine wpAnyH_ready (rs := [7]) (by kernel_rfl) (by simp) ?_
              refine AllReadyH.cons rfl (fun K hK => ?_) AllReadyH.nil
              obtain ⟨⟨i0, i1⟩, jf⟩ := ky5.two
              try simp only [List.getElem_toArray, List.getElem_cons_zero, List.getElem_cons_succ]
              go_simp
              have bx6 := bx5.put hgY (.slice py (cleanT b).nodes.length cy) (.int .i64 (cleanT b).root)
              have ky6 : Cl ((W5.setCell ⟨gY, 0, none⟩ (.slice py (cleanT b).nodes.length cy)).setCell ⟨gY, 1, none⟩ (.int .i64 (cleanT b).root)) gY 26 #[.slice py (cleanT b).nodes.length cy, .int .i64 (cleanT b).root] := ky5.put2 (.slice py (cleanT b).nodes.length cy) (.int .i64 (cleanT b).root)
              have kx6 : Cl ((W5.setCell ⟨gY, 0, none⟩ (.slice py (cleanT b).nodes.length cy)).setCell ⟨gY, 1, none⟩ (.int .i64 (cleanT b).root)) gX 26 _ := (kx5.other (p := ⟨gY, 0, none⟩) (by simp; omega) (.slice py (cleanT b).nodes.length cy)).other (p := ⟨gY, 1, none⟩) (by simp; omega) (.int .i64 (cleanT b).root)
              have mx6 : Made _ ((W5.setCell ⟨gY, 0, none⟩ (.slice py (cleanT b).nodes.length cy)).setCell ⟨gY, 1, none⟩ (.int .i64 (cleanT b).root)) _ _ := mx5.ty ky5 (by decide) (by decide) (gb_put2 W5 gY (.slice py (cleanT b).nodes.length cy) (.int .i64 (cleanT b).root))
              have my6 : Made _ ((W5.setCell ⟨gY, 0, none⟩ (.slice py (cleanT b).nodes.length cy)).setCell ⟨gY, 1, none⟩ (.int .i64 (cleanT b).root)) _ _ := my5.ty ky5 (by decide) (by decide) (gb_put2 W5 gY (.slice py (cleanT b).nodes.length cy) (.int .i64 (cleanT b).root))
              clear i0 i1 jf
              generalize ((W5.setCell ⟨gY, 0, none⟩ (.slice py (cleanT b).nodes.length cy)).setCell ⟨gY, 1, none⟩ (.int .i64 (cleanT b).root)) = W6 at *
              try go_simp
              refine hK.out _ _ ?o33 (fun hHeld2 => ?_)
              case o33 => (try dsimp only); exact bx6.S
              clear hHeld hK K
              have hHeld := hHeld2
              clear hHeld2
              try simp only [Act.put, List.getElem_toArray, List.getElem_cons_zero, List.getElem_cons_succ, List.setIfInBounds_toArray, List.set_cons_zero, List.set_cons_succ]
              refine wpAnyH_done (by kernel_rfl) ?_ _
              exact tail gX gY px cx py cy W6 ⟨bx6, kx6, ky6, hhx ▸ mx6.nodes, hhy ▸ my6.nodes⟩
        case o7b =>
          try simp only [List.getElem_toArray, List.getElem_cons_zero, List.getElem_cons_succ]
          go_simp
          have bx2 := bx1.alloc zeroT
          have st2 := (Below.refl W1.heap.size W1).alloc (Nat.le_refl _) zeroT
          have ky2 := Cl.new W1 26 #[.slice none 0 0, .int .i64 0]
          have hgY := bx1.big
          have mx2 := mx1.below st2
          clear st2
          generalize W1.alloc _ = W2 at *
          generalize W1.heap.size = gY at *
          try go_simp
          refine hK.out _ _ ?o34 (fun hHeld2 => ?_)
          case o34 => (try dsimp only); exact bx2.S
          clear hHeld hK K
          have hHeld := hHeld2
          clear hHeld2
          try simp only [Act.put, List.getElem_toArray, List.getElem_cons_zero, List.getElem_cons_succ, List.setIfInBounds_toArray, List.set_cons_zero, List.set_cons_succ]
          refine wpAnyH_ready (rs := [3, 4]) (by kernel_rfl) (by simp) ?_
          refine (AllReadyH.cons rfl (fun K hK => ?o35b) (AllReadyH.cons rfl (fun K hK => ?o36b) AllReadyH.nil))
          case o35b =>
            try simp only [List.getElem_toArray, List.getElem_cons_zero, List.getElem_cons_succ]
            go_simp
            refine (hcb _ ⟨_, rfl, hnb.below bx2.b⟩ (hE.below bx2.b)).mono ?_
            rintro e W3 ⟨py, cy, Cy, rfl, my3, hhy, hb3⟩
            have bx3 := bx2.below hb3
            have mx3 := mx2.below hb3
            have ky3 := ky2.below hb3 ky2.lt
            clear hb3
            try go_simp
            refine hK.out _ _ ?o37 (fun hHeld2 => ?_)
            case o37 => (try dsimp only); exact bx3.S
            clear hHeld hK K
            have hHeld := hHeld2
            clear hHeld2
            try simp only [Act.put, List.getElem_toArray, List.getElem_cons_zero, List.getElem_cons_succ, List.setIfInBounds_toArray, List.set_cons_zero, List.set_cons_succ]
            refine wpAnyH_ready (rs := [4]) (by kernel_rfl) (by simp) ?_
            refine (AllReadyH.cons rfl (fun K hK => ?o38b) AllReadyH.nil)
            case o38b =>
              try simp only [List.getElem_toArray, List.getElem_cons_zero, List.getElem_cons_succ]
              go_simp
              have bx4 := bx3.alloc zeroT
              have st4 := (Below.refl W3.heap.size W3).alloc (Nat.le_refl _) zeroT
              have kx4 := Cl.new W3 26 #[.slice none 0 0, .int .i64 0]
              have hgX := bx3.big
              have mx4 := mx3.below st4
              have my4 := my3.below st4
              have ky4 := ky3.alloc zeroT
              have hne : W3.heap.size ≠ gY := by have := ky3.lt; omega
              clear st4
              generalize W3.alloc _ = W4 at *
              generalize W3.heap.size = gX at *
              try go_simp
              refine hK.out _ _ ?o39 (fun hHeld2 => ?_)
              case o39 => (try dsimp only); exact bx4.S
              clear hHeld hK K
              have hHeld := hHeld2
              clear hHeld2
              try simp only [Act.put, List.getElem_toArray, List.getElem_cons_zero, List.getElem_cons_succ, List.setIfInBounds_toArray, List.set_cons_zero, List.set_cons_succ]
              refine wpAnyH_ready (rs := [6]) (by kernel_rfl) (by simp) ?_
              refine AllReadyH.cons rfl (fun K hK => ?_) AllReadyH.nil
              obtain ⟨⟨i0, i1⟩, jf⟩ := kx4.two
              try simp only [List.getElem_toArray, List.getElem_cons_zero, List.getElem_cons_succ]
              go_simp
              have bx5 := bx4.put hgX (.slice px (cleanT a).nodes.length cx) (.int .i64 (cleanT a).root)
              have kx5 : Cl ((W4.setCell ⟨gX, 0, none⟩ (.slice px (cleanT a).nodes.length cx)).setCell ⟨gX, 1, none⟩ (.int .i64 (cleanT a).root)) gX 26 #[.slice px (cleanT a).nodes.length cx, .int .i64 (cleanT a).root] := kx4.put2 (.slice px (cleanT a).nodes.length cx) (.int .i64 (cleanT a).root)
              have ky5 : Cl ((W4.setCell ⟨gX, 0, none⟩ (.slice px (cleanT a).nodes.length cx)).setCell ⟨gX, 1, none⟩ (.int .i64 (cleanT a).root)) gY 26 _ := (ky4.other (p := ⟨gX, 0, none⟩) (by simp; omega) (.slice px (cleanT a).nodes.length cx)).other (p := ⟨gX, 1, none⟩) (by simp; omega) (.int .i64 (cleanT a).root)
              have mx5 : Made _ ((W4.setCell ⟨gX, 0, none⟩ (.slice px (cleanT a).nodes.length cx)).setCell ⟨gX, 1, none⟩ (.int .i64 (cleanT a).root)) _ _ := mx4.ty kx4 (by decide) (by decide) (gb_put2 W4 gX (.slice px (cleanT a).nodes.length cx) (.int .i64 (cleanT a).root))
              have my5 : Made _ ((W4.setCell ⟨gX, 0, none⟩ (.slice px (cleanT a).nodes.length cx)).setCell ⟨gX, 1, none⟩ (.int .i64 (cleanT a).root)) _ _ := my4.ty kx4 (by decide) (by decide) (gb_put2 W4 gX (.slice px (cleanT a).nodes.length cx) (.int .i64 (cleanT a).root))
              clear i0 i1 jf
              generalize ((W4.setCell ⟨gX, 0, none⟩ (.slice px (cleanT a).nodes.length cx)).setCell ⟨gX, 1, none⟩ (.int .i64 (cleanT a).root)) = W5 at *
              try go_simp
              refine hK.out _ _ ?o40 (fun hHeld2 => ?_)
              case o40 => (try dsimp only); exact bx5.S
              clear hHeld hK K
              have hHeld := hHeld2
              clear hHeld2
              try simp only [Act.put, List.getElem_toArray, List.getElem_cons_zero, List.getElem_cons_succ, List.setIfInBounds_toArray, List.set_cons_zero, List.set_cons_succ]
              refine wpAnyH_ready (rs := [7]) (by kernel_rfl) (by simp) ?_
              refine AllReadyH.cons rfl (fun K hK => ?_) AllReadyH.nil
              obtain ⟨⟨i0, i1⟩, jf⟩ := ky5.two
              try simp only [List.getElem_toArray, List.getElem_cons_zero, List.getElem_cons_succ]
              go_simp
              have bx6 := bx5.put hgY (.slice py (cleanT b).nodes.length cy) (.int .i64 (cleanT b).root)
              have ky6 : Cl ((W5.setCell ⟨gY, 0, none⟩ (.slice py (cleanT b).nodes.length cy)).setCell ⟨gY, 1, none⟩ (.int .i64 (cleanT b).root)) gY 26 #[.slice py (cleanT b).nodes.length cy, .int .i64 (cleanT b).root] := ky5.put2 (.slice py (cleanT b).nodes.length cy) (.int .i64 (cleanT b).root)
              have kx6 : Cl ((W5.setCell ⟨gY, 0, none⟩ (.slice py (cleanT b).nodes.length cy)).setCell ⟨gY, 1, none⟩ (.int .i64 (cleanT b).root)) gX 26 _ := (kx5.other (p := ⟨gY, 0, none⟩) (by simp; omega) (.slice py (cleanT b).nodes.length cy)).other (p := ⟨gY, 1, none⟩) (by simp; omega) (.int .i64 (cleanT b).root)
              have mx6 : Made _ ((W5.setCell ⟨gY, 0, none⟩ (.slice py (cleanT b).nodes.length cy)).setCell ⟨gY, 1, none⟩ (.int .i64 (cleanT b).root)) _ _ := mx5.ty ky5 (by decide) (by decide) (gb_put2 W5 gY (.slice py (cleanT b).nodes.length cy) (.int .i64 (cleanT b).root))
              have my6 : Made _ ((W5.setCell ⟨gY, 0, none⟩ (.slice py (cleanT b).nodes.length cy)).setCell ⟨gY, 1, none⟩ (.int .i64 (cleanT b).root)) _ _ := my5.ty ky5 (by decide) (by decide) (gb_put2 W5 gY (.slice py (cleanT b).nodes.length cy) (.int .i64 (cleanT b).root))
              clear i0 i1 jf
              generalize ((W5.setCell ⟨gY, 0, none⟩ (.slice py (cleanT b).nodes.length cy)).setCell ⟨gY, 1, none⟩ (.int .i64 (cleanT b).root)) = W6 at *
              try go_simp
              refine hK.out _ _ ?o41 (fun hHeld2 => ?_)
              case o41 => (try dsimp only); exact bx6.S
              clear hHeld hK K
              have hHeld := hHeld2
              clear hHeld2
              try simp only [Act.put, List.getElem_toArray, List.getElem_cons_zero, List.getElem_cons_succ, List.setIfInBounds_toArray, List.set_cons_zero, List.set_cons_succ]
              refine wpAnyH_done (by kernel_rfl) ?_ _
              exact tail gX gY px cx py cy W6 ⟨bx6, kx6, ky6, hhx ▸ mx6.nodes, hhy ▸ my6.nodes⟩
          case o36b =>
            try simp only [List.getElem_toArray, List.getElem_cons_zero, List.getElem_cons_succ]
            go_simp
            have bx3 := bx2.alloc zeroT
            have st3 := (Below.refl W2.heap.size W2).alloc (Nat.le_refl _) zeroT
            have kx3 := Cl.new W2 26 #[.slice none 0 0, .int .i64 0]
            have hgX := bx2.big
            have mx3 := mx2.below st3
            have ky3 := ky2.alloc zeroT
            have hne : W2.heap.size ≠ gY := by have := ky2.lt; omega
            clear st3
            generalize W2.alloc _ = W3 at *
            generalize W2.heap.size = gX at *
            try go_simp
            refine hK.out _ _ ?o42 (fun hHeld2 => ?_)
            case o42 => (try dsimp only); exact bx3.S
            clear hHeld hK K
            have hHeld := hHeld2
            clear hHeld2
            try simp only [Act.put, List.getElem_toArray, List.getElem_cons_zero, List.getElem_cons_succ, List.setIfInBounds_toArray, List.set_cons_zero, List.set_cons_succ]
            refine wpAnyH_ready (rs := [3]) (by kernel_rfl) (by simp) ?_
            refine (AllReadyH.cons rfl (fun K hK => ?o43b) AllReadyH.nil)
            case o43b =>
              try simp only [List.getElem_toArray, List.getElem_cons_zero, List.getElem_cons_succ]
              go_simp
              refine (hcb _ ⟨_, rfl, hnb.below bx3.b⟩ (hE.below bx3.b)).mono ?_
              rintro e W4 ⟨py, cy, Cy, rfl, my4, hhy, hb4⟩
              have bx4 := bx3.below hb4
              have mx4 := mx3.below hb4
              have kx4 := kx3.below hb4 kx3.lt
              have ky4 := ky3.below hb4 ky3.lt
              clear hb4
              try go_simp
              refine hK.out _ _ ?o44 (fun hHeld2 => ?_)
              case o44 => (try dsimp only); exact bx4.S
              clear hHeld hK K
              have hHeld := hHeld2
              clear hHeld2
              try simp only [Act.put, List.getElem_toArray, List.getElem_cons_zero, List.getElem_cons_succ, List.setIfInBounds_toArray, List.set_cons_zero, List.set_cons_succ]
              refine wpAnyH_ready (rs := [6]) (by kernel_rfl) (by simp) ?_
              refine AllReadyH.cons rfl (fun K hK => ?_) AllReadyH.nil
              obtain ⟨⟨i0, i1⟩, jf⟩ := kx4.two
              try simp only [List.getElem_toArray, List.getElem_cons_zero, List.getElem_cons_succ]
              go_simp
              have bx5 := bx4.put hgX (.slice px (cleanT a).nodes.length cx) (.int .i64 (cleanT a).root)
              have kx5 : Cl ((W4.setCell ⟨gX, 0, none⟩ (.slice px (cleanT a).nodes.length cx)).setCell ⟨gX, 1, none⟩ (.int .i64 (cleanT a).root)) gX 26 #[.slice px (cleanT a).nodes.length cx, .int .i64 (cleanT a).root] := kx4.put2 (.slice px (cleanT a).nodes.length cx) (.int .i64 (cleanT a).root)
              have ky5 : Cl ((W4.setCell ⟨gX, 0, none⟩ (.slice px (cleanT a).nodes.length cx)).setCell ⟨gX, 1, none⟩ (.int .i64 (cleanT a).root)) gY 26 _ := (ky4.other (p := ⟨gX, 0, none⟩) (by simp; omega) (.slice px (cleanT a).nodes.length cx)).other (p := ⟨gX, 1, none⟩) (by simp; omega) (.int .i64 (cleanT a).root)
              have mx5 : Made _ ((W4.setCell ⟨gX, 0, none⟩ (.slice px (cleanT a).nodes.length cx)).setCell ⟨gX, 1, none⟩ (.int .i64 (cleanT a).root)) _ _ := mx4.ty kx4 (by decide) (by decide) (gb_put2 W4 gX (.slice px (cleanT a).nodes.length cx) (.int .i64 (cleanT a).root))
              have my5 : Made _ ((W4.setCell ⟨gX, 0, none⟩ (.slice px (cleanT a).nodes.length cx)).setCell ⟨gX, 1, none⟩ (.int .i64 (cleanT a).root)) _ _ := my4.ty kx4 (by decide) (by decide) (gb_put2 W4 gX (.slice px (cleanT a).nodes.length cx) (.int .i64 (cleanT a).root))
              clear i0 i1 jf
              generalize ((W4.setCell ⟨gX, 0, none⟩ (.slice px (cleanT a).nodes.length cx)).setCell ⟨gX, 1, none⟩ (.int .i64 (cleanT a).root)) = W5 at *
              try go_simp
              refine hK.out _ _ ?o45 (fun hHeld2 => ?_)
              case o45 => (try dsimp only); exact bx5.S
              clear hHeld hK K
              have hHeld := hHeld2
              clear hHeld2
              try simp only [Act.put, List.getElem_toArray, List.getElem_cons_zero, List.getElem_cons_succ, List.setIfInBounds_toArray, List.set_cons_zero, List.set_cons_succ]
              refine wpAnyH_ready (rs := [7]) (by kernel_rfl) (by simp) ?_
              refine AllReadyH.cons rfl (fun K hK => ?_) AllReadyH.nil
              obtain ⟨⟨i0, i1⟩, jf⟩ := ky5.two
              try simp only [List.getElem_toArray, List.getElem_cons_zero, List.getElem_cons_succ]
              go_simp
              have bx6 := bx5.put hgY (.slice py (cleanT b).nodes.length cy) (.int .i64 (cleanT b).root)
              have ky6 : Cl ((W5.setCell ⟨gY, 0, none⟩ (.slice py (cleanT b).nodes.length cy)).setCell ⟨gY, 1, none⟩ (.int .i64 (cleanT b).root)) gY 26 #[.slice py (cleanT b).nodes.length cy, .int .i64 (cleanT b).root] := ky5.put2 (.slice py (cleanT b).nodes.length cy) (.int .i64 (cleanT b).root)
              have kx6 : Cl ((W5.setCell ⟨gY, 0, none⟩ (.slice py (cleanT b).nodes.length cy)).setCell ⟨gY, 1, none⟩ (.int .i64 (cleanT b).root)) gX 26 _ := (kx5.other (p := ⟨gY, 0, none⟩) (by simp; omega) (.slice py (cleanT b).nodes.length cy)).other (p := ⟨gY, 1, none⟩) (by simp; omega) (.int .i64 (cleanT b).root)
              have mx6 : Made _ ((W5.setCell ⟨gY, 0, none⟩ (.slice py (cleanT b).nodes.length cy)).setCell ⟨gY, 1, none⟩ (.int .i64 (cleanT b).root)) _ _ := mx5.ty ky5 (by decide) (by decide) (gb_put2 W5 gY (.slice py (cleanT b).nodes.length cy) (.int .i64 (cleanT b).root))
              have my6 : Made _ ((W5.setCell ⟨gY, 0, none⟩ (.slice py (cleanT b).nodes.length cy)).setCell ⟨gY, 1, none⟩ (.int .i64 (cleanT b).root)) _ _ := my5.ty ky5 (by decide) (by decide) (gb_put2 W5 gY (.slice py (cleanT b).nodes.length cy) (.int .i64 (cleanT b).root))
              clear i0 i1 jf
              generalize ((W5.setCell ⟨gY, 0, none⟩ (.slice py (cleanT b).nodes.length cy)).setCell ⟨gY, 1, none⟩ (.int .i64 (cleanT b).root)) = W6 at *
              try go_simp
              refine hK.out _ _ ?o46 (fun hHeld2 => ?_)
              case o46 => (try dsimp only); exact bx6.S
              clear hHeld hK K
              have hHeld := hHeld2
              clear hHeld2
              try simp only [Act.put, List.getElem_toArray, List.getElem_cons_zero, List.getElem_cons_succ, List.setIfInBounds_toArray, List.set_cons_zero, List.set_cons_succ]
              refine wpAnyH_done (by kernel_rfl) ?_ _
              exact tail gX gY px cx py cy W6 ⟨bx6, kx6, ky6, hhx ▸ mx6.nodes, hhy ▸ my6.nodes⟩
      case o2b =>
        try simp only [List.getElem_toArray, List.getElem_cons_zero, List.getElem_cons_succ]
        go_simp
        have bx1 := bx0.alloc zeroT
        have st1 := (Below.refl W0.heap.size W0).alloc (Nat.le_refl _) zeroT
        have kx1 := Cl.new W0 26 #[.slice none 0 0, .int .i64 0]
        have hgX := bx0.big
        clear st1
        generalize W0.alloc _ = W1 at *
        generalize W0.heap.size = gX at *
        try go_simp
        refine hK.out _ _ ?o47 (fun hHeld2 => ?_)
        case o47 => (try dsimp only); exact bx1.S
        clear hHeld hK K
        have hHeld := hHeld2
        clear hHeld2
        try simp only [Act.put, List.getElem_toArray, List.getElem_cons_zero, List.getElem_cons_succ, List.setIfInBounds_toArray, List.set_cons_zero, List.set_cons_succ]
        refine wpAnyH_ready (rs := [1, 5]) (by kernel_rfl) (by simp) ?_
        refine (AllReadyH.cons rfl (fun K hK => ?o48b) (AllReadyH.cons rfl (fun K hK => ?o49b) AllReadyH.nil))
        case o48b =>
          try simp only [List.getElem_toArray, List.getElem_cons_zero, List.getElem_cons_succ]
          go_simp
          refine (hca _ ⟨_, rfl, hna.below bx1.b⟩ (hE.below bx1.b)).mono ?_
          rintro e W2 ⟨px, cx, Cx, rfl, mx2, hhx, hb2⟩
          have bx2 := bx1.below hb2
          have kx2 := kx1.below hb2 kx1.lt
          clear hb2
          try go_simp
          refine hK.out _ _ ?o50 (fun hHeld2 => ?_)
          case o50 => (try dsimp only); exact bx2.S
          clear hHeld hK K
          have hHeld := hHeld2
          clear hHeld2
          try simp only [Act.put, List.getElem_toArray, List.getElem_cons_zero, List.getElem_cons_succ, List.setIfInBounds_toArray, List.set_cons_zero, List.set_cons_succ]
          refine wpAnyH_ready (rs := [3, 5]) (by kernel_rfl) (by simp) ?_
          refine (AllReadyH.cons rfl (fun K hK => ?o51b) (AllReadyH.cons rfl (fun K hK => ?o52b) AllReadyH.nil))
          case o51b =>
            try simp only [List.getElem_toArray, List.getElem_cons_zero, List.getElem_cons_succ]
            go_simp
            refine (hcb _ ⟨_, rfl, hnb.below bx2.b⟩ (hE.below bx2.b)).mono ?_
            rintro e W3 ⟨py, cy, Cy, rfl, my3, hhy, hb3⟩
            have bx3 := bx2.below hb3
            have mx3 := mx2.below hb3
            have kx3 := kx2.below hb3 kx2.lt
            clear hb3
            try go_simp
            refine hK.out _ _ ?o53 (fun hHeld2 => ?_)
            case o53 => (try dsimp only); exact bx3.S
            clear hHeld hK K
            have hHeld := hHeld2
            clear hHeld2
            try simp only [Act.put, List.getElem_toArray, List.getElem_cons_zero, List.getElem_cons_succ, List.setIfInBounds_toArray, List.set_cons_zero, List.set_cons_succ]
            refine wpAnyH_ready (rs := [5]) (by kernel_rfl) (by simp) ?_
            refine (AllReadyH.cons rfl (fun K hK => ?o54b) AllReadyH.nil)
            case o54b =>
              try simp only [List.getElem_toArray, List.getElem_cons_zero, List.getElem_cons_succ]
              go_simp
              have bx4 := bx3.alloc zeroT
              have st4 := (Below.refl W3.heap.size W3).alloc (Nat.le_refl _) zeroT
              have ky4 := Cl.new W3 26 #[.slice none 0 0, .int .i64 0]
              have hgY := bx3.big
              have mx4 := mx3.below st4
              have my4 := my3.below st4
              have kx4 := kx3.alloc zeroT
              have hne : gX ≠ W3.heap.size := by have := kx3.lt; omega
              clear st4
              generalize W3.alloc _ = W4 at *
              generalize W3.heap.size = gY at *
              try go_simp
              refine hK.out _ _ ?o55 (fun hHeld2 => ?_)
              case o55 => (try dsimp only); exact bx4.S
              clear hHeld hK K
              have hHeld := hHeld2
              clear hHeld2
              try simp only [Act.put, List.getElem_toArray, List.getElem_cons_zero, List.getElem_cons_succ, List.setIfInBounds_toArray, List.set_cons_zero, List.set_cons_succ]
              refine wpAnyH_ready (rs := [6]) (by kernel_rfl) (by simp) ?_
              refine AllReadyH.cons rfl (fun K hK => ?_) AllReadyH.nil
              obtain ⟨⟨i0, i1⟩, jf⟩ := kx4.two
              try simp only [List.getElem_toArray, List.getElem_cons_zero, List.getElem_cons_succ]
              go_simp
              have bx5 := bx4.put hgX (.slice px (cleanT a).nodes.length cx) (.int .i64 (cleanT a).root)
              have kx5 : Cl ((W4.setCell ⟨gX, 0, none⟩ (.slice px (cleanT a).nodes.length cx)).setCell ⟨gX, 1, none⟩ (.int .i64 (cleanT a).root)) gX 26 #[.slice px (cleanT a).nodes.length cx, .int .i64 (cleanT a).root] := kx4.put2 (.slice px (cleanT a).nodes.length cx) (.int .i64 (cleanT a).root)
              have ky5 : Cl ((W4.setCell ⟨gX, 0, none⟩ (.slice px (cleanT a).nodes.length cx)).setCell ⟨gX, 1, none⟩ (.int .i64 (cleanT a).root)) gY 26 _ := (ky4.other (p := ⟨gX, 0, none⟩) (by simp; omega) (.slice px (cleanT a).nodes.length cx)).other (p := ⟨gX, 1, none⟩) (by simp; omega) (.int .i64 (cleanT a).root)
              have mx5 : Made _ ((W4.setCell ⟨gX, 0, none⟩ (.slice px (cleanT a).nodes.length cx)).setCell ⟨gX, 1, none⟩ (.int .i64 (cleanT a).root)) _ _ := mx4.ty kx4 (by decide) (by decide) (gb_put2 W4 gX (.slice px (cleanT a).nodes.length cx) (.int .i64 (cleanT a).root))
              have my5 : Made _ ((W4.setCell ⟨gX, 0, none⟩ (.slice px (cleanT a).nodes.length cx)).setCell ⟨gX, 1, none⟩ (.int .i64 (cleanT a).root)) _ _ := my4.ty kx4 (by decide) (by decide) (gb_put2 W4 gX (.slice px (cleanT a).nodes.length cx) (.int .i64 (cleanT a).root))
              clear i0 i1 jf
              generalize ((W4.setCell ⟨gX, 0, none⟩ (.slice px (cleanT a).nodes.length cx)).setCell ⟨gX, 1, none⟩ (.int .i64 (cleanT a).root)) = W5 at *
              try go_simp
              refine hK.out _ _ ?o56 (fun hHeld2 => ?_)
              case o56 => (try dsimp only); exact bx5.S
              clear hHeld hK K
              have hHeld := hHeld2
              clear hHeld2
              try simp only [Act.put, List.getElem_toArray, List.getElem_cons_zero, List.getElem_cons_succ, List.setIfInBounds_toArray, List.set_cons_zero, List.set_cons_succ]
              refine wpAnyH_ready (rs := [7]) (by kernel_rfl) (by simp) ?_
              refine AllReadyH.cons rfl (fun K hK => ?_) AllReadyH.nil
              obtain ⟨⟨i0, i1⟩, jf⟩ := ky5.two
              try simp only [List.getElem_toArray, List.getElem_cons_zero, List.getElem_cons_succ]
              go_simp
              have bx6 := bx5.put hgY (.slice py (cleanT b).nodes.length cy) (.int .i64 (cleanT b).root)
              have ky6 : Cl ((W5.setCell ⟨gY, 0, none⟩ (.slice py (cleanT b).nodes.length cy)).setCell ⟨gY, 1, none⟩ (.int .i64 (cleanT b).root)) gY 26 #[.slice py (cleanT b).nodes.length cy, .int .i64 (cleanT b).root] := ky5.put2 (.slice py (cleanT b).nodes.length cy) (.int .i64 (cleanT b).root)
              have kx6 : Cl ((W5.setCell ⟨gY, 0, none⟩ (.slice py (cleanT b).nodes.length cy)).setCell ⟨gY, 1, none⟩ (.int .i64 (cleanT b).root)) gX 26 _ := (kx5.other (p := ⟨gY, 0, none⟩) (by simp; omega) (.slice py (cleanT b).nodes.length cy)).other (p := ⟨gY, 1, none⟩) (by simp; omega) (.int .i64 (cleanT b).root)
              have mx6 : Made _ ((W5.setCell ⟨gY, 0, none⟩ (.slice py (cleanT b).nodes.length cy)).setCell ⟨gY, 1, none⟩ (.int .i64 (cleanT b).root)) _ _ := mx5.ty ky5 (by decide) (by decide) (gb_put2 W5 gY (.slice py (cleanT b).nodes.length cy) (.int .i64 (cleanT b).root))
              have my6 : Made _ ((W5.setCell ⟨gY, 0, none⟩ (.slice py (cleanT b).nodes.length cy)).setCell ⟨gY, 1, none⟩ (.int .i64 (cleanT b).root)) _ _ := my5.ty ky5 (by decide) (by decide) (gb_put2 W5 gY (.slice py (cleanT b).nodes.length cy) (.int .i64 (cleanT b).root))
              clear i0 i1 jf
              generalize ((W5.setCell ⟨gY, 0, none⟩ (.slice py (cleanT b).nodes.length cy)).setCell ⟨gY, 1, none⟩ (.int .i64 (cleanT b).root)) = W6 at *
              try go_simp
              refine hK.out _ _ ?o57 (fun hHeld2 => ?_)
              case o57 => (try dsimp only); exact bx6.S
              clear hHeld hK K
              have hHeld := hHeld2
              clear hHeld2
              try simp only [Act.put, List.getElem_toArray, List.getElem_cons_zero, List.getElem_cons_succ, List.setIfInBounds_toArray, List.set_cons_zero, List.set_cons_succ]
              refine wpAnyH_done (by kernel_rfl) ?_ _
              exact tail gX gY px cx py cy W6 ⟨bx6, kx6, ky6, hhx ▸ mx6.nodes, hhy ▸ my6.nodes⟩
          case o52b =>
            try simp only [List.getElem_toArray, List.getElem_cons_zero, List.getElem_cons_succ]
            go_simp
            have bx3 := bx2.alloc zeroT
            have st3 := (Below.refl W2.heap.size W2).alloc (Nat.le_refl _) zeroT
            have ky3 := Cl.new W2 26 #[.slice none 0 0, .int .i64 0]
            have hgY := bx2.big
            have mx3 := mx2.below st3
            have kx3 := kx2.alloc zeroT
            have hne : gX ≠ W2.heap.size := by have := kx2.lt; omega
            clear st3
            generalize W2.alloc _ = W3 at *
            generalize W2.heap.size = gY at *
            try go_simp
            refine hK.out _ _ ?o58 (fun hHeld2 => ?_)
            case o58 => (try dsimp only); exact bx3.S
            clear hHeld hK K
            have hHeld := hHeld2
            clear hHeld2
            try simp only [Act.put, List.getElem_toArray, List.getElem_cons_zero, List.getElem_cons_succ, List.setIfInBounds_toArray, List.set_cons_zero, List.set_cons_succ]
            refine wpAnyH_ready (rs := [3]) (by kernel_rfl) (by simp) ?_
            refine (AllReadyH.cons rfl (fun K hK => ?o59b) AllReadyH.nil)
            case o59b =>
              try simp only [List.getElem_toArray, List.getElem_cons_zero, List.getElem_cons_succ]
              go_simp
              refine (hcb _ ⟨_, rfl, hnb.below bx3.b⟩ (hE.below bx3.b)).mono ?_
              rintro e W4 ⟨py, cy, Cy, rfl, my4, hhy, hb4⟩
              have bx4 := bx3.below hb4
              have mx4 := mx3.below hb4
              have kx4 := kx3.below hb4 kx3.lt
              have ky4 := ky3.below hb4 ky3.lt
              clear hb4
              try go_simp
              refine hK.out _ _ ?o60 (fun hHeld2 => ?_)
              case o60 => (try dsimp only); exact bx4.S
              clear hHeld hK K
              have hHeld := hHeld2
              clear hHeld2
              try simp only [Act.put, List.getElem_toArray, List.getElem_cons_zero, List.getElem_cons_succ, List.setIfInBounds_toArray, List.set_cons_zero, List.set_cons_succ]
              refine wpAnyH_ready (rs := [6]) (by kernel_rfl) (by simp) ?_
              refine AllReadyH.cons rfl (fun K hK => ?_) AllReadyH.nil
              obtain ⟨⟨i0, i1⟩, jf⟩ := kx4.two
              try simp only [List.getElem_toArray, List.getElem_cons_zero, List.getElem_cons_succ]
              go_simp
              have bx5 := bx4.put hgX (.slice px (cleanT a).nodes.length cx) (.int .i64 (cleanT a).root)
              have kx5 : Cl ((W4.setCell ⟨gX, 0, none⟩ (.slice px (cleanT a).nodes.length cx)).setCell ⟨gX, 1, none⟩ (.int .i64 (cleanT a).root)) gX 26 #[.slice px (cleanT a).nodes.length cx, .int .i64 (cleanT a).root] := kx4.put2 (.slice px (cleanT a).nodes.length cx) (.int .i64 (cleanT a).root)
              have ky5 : Cl ((W4.setCell ⟨gX, 0, none⟩ (.slice px (cleanT a).nodes.length cx)).setCell ⟨gX, 1, none⟩ (.int .i64 (cleanT a).root)) gY 26 _ := (ky4.other (p := ⟨gX, 0, none⟩) (by simp; omega) (.slice px (cleanT a).nodes.length cx)).other (p := ⟨gX, 1, none⟩) (by simp; omega) (.int .i64 (cleanT a).root)
              have mx5 : Made _ ((W4.setCell ⟨gX, 0, none⟩ (.slice px (cleanT a).nodes.length cx)).setCell ⟨gX, 1, none⟩ (.int .i64 (cleanT a).root)) _ _ := mx4.ty kx4 (by decide) (by decide) (gb_put2 W4 gX (.slice px (cleanT a).nodes.length cx) (.int .i64 (cleanT a).root))
              have my5 : Made _ ((W4.setCell ⟨gX, 0, none⟩ (.slice px (cleanT a).nodes.length cx)).setCell ⟨gX, 1, none⟩ (.int .i64 (cleanT a).root)) _ _ := my4.ty kx4 (by decide) (by decide) (gb_put2 W4 gX (.slice px (cleanT a).nodes.length cx) (.int .i64 (cleanT a).root))
              clear i0 i1 jf
              generalize ((W4.setCell ⟨gX, 0, none⟩ (.slice px (cleanT a).nodes.length cx)).setCell ⟨gX, 1, none⟩ (.int .i64 (cleanT a).root)) = W5 at *
              try go_simp
              refine hK.out _ _ ?o61 (fun hHeld2 => ?_)
              case o61 => (try dsimp only); exact bx5.S
              clear hHeld hK K
              have hHeld := hHeld2
              clear hHeld2
              try simp only [Act.put, List.getElem_toArray, List.getElem_cons_zero, List.getElem_cons_succ, List.setIfInBounds_toArray, List.set_cons_zero, List.set_cons_succ]
              refine wpAnyH_ready (rs := [7]) (by kernel_rfl) (by simp) ?_
              refine AllReadyH.cons rfl (fun K hK => ?_) AllReadyH.nil
              obtain ⟨⟨i0, i1⟩, jf⟩ := ky5.two
              try simp only [List.getElem_toArray, List.getElem_cons_zero, List.getElem_cons_succ]
              go_simp
              have bx6 := bx5.put hgY (.slice py (cleanT b).nodes.length cy) (.int .i64 (cleanT b).root)
              have ky6 : Cl ((W5.setCell ⟨gY, 0, none⟩ (.slice py (cleanT b).nodes.length cy)).setCell ⟨gY, 1, none⟩ (.int .i64 (cleanT b).root)) gY 26 #[.slice py (cleanT b).nodes.length cy, .int .i64 (cleanT b).root] := ky5.put2 (.slice py (cleanT b).nodes.length cy) (.int .i64 (cleanT b).root)
              have kx6 : Cl ((W5.setCell ⟨gY, 0, none⟩ (.slice py (cleanT b).nodes.length cy)).setCell ⟨gY, 1, none⟩ (.int .i64 (cleanT b).root)) gX 26 _ := (kx5.other (p := ⟨gY, 0, none⟩) (by simp; omega) (.slice py (cleanT b).nodes.length cy)).other (p := ⟨gY, 1, none⟩) (by simp; omega) (.int .i64 (cleanT b).root)
              have mx6 : Made _ ((W5.setCell ⟨gY, 0, none⟩ (.slice py (cleanT b).nodes.length cy)).setCell ⟨gY, 1, none⟩ (.int .i64 (cleanT b).root)) _ _ := mx5.ty ky5 (by decide) (by decide) (gb_put2 W5 gY (.slice py (cleanT b).nodes.length cy) (.int .i64 (cleanT b).root))
              have my6 : Made _ ((W5.setCell ⟨gY, 0, none⟩ (.slice py (cleanT b).nodes.length cy)).setCell ⟨gY, 1, none⟩ (.int .i64 (cleanT b).root)) _ _ := my5.ty ky5 (by decide) (by decide) (gb_put2 W5 gY (.slice py (cleanT b).nodes.length cy) (.int .i64 (cleanT b).root))
              clear i0 i1 jf
              generalize ((W5.setCell ⟨gY, 0, none⟩ (.slice py (cleanT b).nodes.length cy)).setCell ⟨gY, 1, none⟩ (.int .i64 (cleanT b).root)) = W6 at *
              try go_simp
              refine hK.out _ _ ?o62 (fun hHeld2 => ?_)
              case o62 => (try dsimp only); exact bx6.S
              clear hHeld hK K
              have hHeld := hHeld2
              clear hHeld2
              try simp only [Act.put, List.getElem_toArray, List.getElem_cons_zero, List.getElem_cons_succ, List.setIfInBounds_toArray, List.set_cons_zero, List.set_cons_succ]
              refine wpAnyH_done (by kernel_rfl) ?_ _
              exact tail gX gY px cx py cy W6 ⟨bx6, kx6, ky6, hhx ▸ mx6.nodes, hhy ▸ my6.nodes⟩
        case o49b =>
          try simp only [List.getElem_toArray, List.getElem_cons_zero, List.getElem_cons_succ]
          go_simp
          have bx2 := bx1.alloc zeroT
          have st2 := (Below.refl W1.heap.size W1).alloc (Nat.le_refl _) zeroT
          have ky2 := Cl.new W1 26 #[.slice none 0 0, .int .i64 0]
          have hgY := bx1.big
          have kx2 := kx1.alloc zeroT
          have hne : gX ≠ W1.heap.size := by have := kx1.lt; omega
          clear st2
          generalize W1.alloc _ = W2 at *
          generalize W1.heap.size = gY at *
          try go_simp
          refine hK.out _ _ ?o63 (fun hHeld2 => ?_)
          case o63 => (try dsimp only); exact bx2.S
          clear hHeld hK K
          have hHeld := hHeld2
          clear hHeld2
          try simp only [Act.put, List.getElem_toArray, List.getElem_cons_zero, List.getElem_cons_succ, List.setIfInBounds_toArray, List.set_cons_zero, List.set_cons_succ]
          refine wpAnyH_ready (rs := [1]) (by kernel_rfl) (by simp) ?_
          refine (AllReadyH.cons rfl (fun K hK => ?o64b) AllReadyH.nil)
          case o64b =>
            try simp only [List.getElem_toArray, List.getElem_cons_zero, List.getElem_cons_succ]
            go_simp
            refine (hca _ ⟨_, rfl, hna.below bx2.b⟩ (hE.below bx2.b)).mono ?_
            rintro e W3 ⟨px, cx, Cx, rfl, mx3, hhx, hb3⟩
            have bx3 := bx2.below hb3
            have kx3 := kx2.below hb3 kx2.lt
            have ky3 := ky2.below hb3 ky2.lt
            clear hb3
            try go_simp
            refine hK.out _ _ ?o65 (fun hHeld2 => ?_)
            case o65 => (try dsimp only); exact bx3.S
            clear hHeld hK K
            have hHeld := hHeld2
            clear hHeld2
            try simp only [Act.put, List.getElem_toArray, List.getElem_cons_zero, List.getElem_cons_succ, List.setIfInBounds_toArray, List.set_cons_zero, List.set_cons_succ]
            refine wpAnyH_ready (rs := [3]) (by kernel_rfl) (by simp) ?_
            refine (AllReadyH.cons rfl (fun K hK => ?o66b) AllReadyH.nil)
            case o66b =>
              try simp only [List.getElem_toArray, List.getElem_cons_zero, List.getElem_cons_succ]
              go_simp
              refine (hcb _ ⟨_, rfl, hnb.below bx3.b⟩ (hE.below bx3.b)).mono ?_
              rintro e W4 ⟨py, cy, Cy, rfl, my4, hhy, hb4⟩
              have bx4 := bx3.below hb4
              have mx4 := mx3.below hb4
              have kx4 := kx3.below hb4 kx3.lt
              have ky4 := ky3.below hb4 ky3.lt
              clear hb4
              try go_simp
              refine hK.out _ _ ?o67 (fun hHeld2 => ?_)
              case o67 => (try dsimp only); exact bx4.S
              clear hHeld hK K
              have hHeld := hHeld2
              clear hHeld2
              try simp only [Act.put, List.getElem_toArray, List.getElem_cons_zero, List.getElem_cons_succ, List.setIfInBounds_toArray, List.set_cons_zero, List.set_cons_succ]
              refine wpAnyH_ready (rs := [6]) (by kernel_rfl) (by simp) ?_
              refine AllReadyH.cons rfl (fun K hK => ?_) AllReadyH.nil
              obtain ⟨⟨i0, i1⟩, jf⟩ := kx4.two
              try simp only [List.getElem_toArray, List.getElem_cons_zero, List.getElem_cons_succ]
              go_simp
              have bx5 := bx4.put hgX (.slice px (cleanT a).nodes.length cx) (.int .i64 (cleanT a).root)
              have kx5 : Cl ((W4.setCell ⟨gX, 0, none⟩ (.slice px (cleanT a).nodes.length cx)).setCell ⟨gX, 1, none⟩ (.int .i64 (cleanT a).root)) gX 26 #[.slice px (cleanT a).nodes.length cx, .int .i64 (cleanT a).root] := kx4.put2 (.slice px (cleanT a).nodes.length cx) (.int .i64 (cleanT a).root)
              have ky5 : Cl ((W4.setCell ⟨gX, 0, none⟩ (.slice px (cleanT a).nodes.length cx)).setCell ⟨gX, 1, none⟩ (.int .i64 (cleanT a).root)) gY 26 _ := (ky4.other (p := ⟨gX, 0, none⟩) (by simp; omega) (.slice px (cleanT a).nodes.length cx)).other (p := ⟨gX, 1, none⟩) (by simp; omega) (.int .i64 (cleanT a).root)
              have mx5 : Made _ ((W4.setCell ⟨gX, 0, none⟩ (.slice px (cleanT a).nodes.length cx)).setCell ⟨gX, 1, none⟩ (.int .i64 (cleanT a).root)) _ _ := mx4.ty kx4 (by decide) (by decide) (gb_put2 W4 gX (.slice px (cleanT a).nodes.length cx) (.int .i64 (cleanT a).root))
              have my5 : Made _ ((W4.setCell ⟨gX, 0, none⟩ (.slice px (cleanT a).nodes.length cx)).setCell ⟨gX, 1, none⟩ (.int .i64 (cleanT a).root)) _ _ := my4.ty kx4 (by decide) (by decide) (gb_put2 W4 gX (.slice px (cleanT a).nodes.length cx) (.int .i64 (cleanT a).root))
              clear i0 i1 jf
              generalize ((W4.setCell ⟨gX, 0, none⟩ (.slice px (cleanT a).nodes.length cx)).setCell ⟨gX, 1, none⟩ (.int .i64 (cleanT a).root)) = W5 at *
              try go_simp
              refine hK.out _ _ ?o68 (fun hHeld2 => ?_)
              case o68 => (try dsimp only); exact bx5.S
              clear hHeld hK K
              have hHeld := hHeld2
              clear hHeld2
              try simp only [Act.put, List.getElem_toArray, List.getElem_cons_zero, List.getElem_cons_succ, List.setIfInBounds_toArray, List.set_cons_zero, List.set_cons_succ]
              refine wpAnyH_ready (rs := [7]) (by kernel_rfl) (by simp) ?_
              refine AllReadyH.cons rfl (fun K hK => ?_) AllReadyH.nil
              obtain ⟨⟨i0, i1⟩, jf⟩ := ky5.two
              try simp only [List.getElem_toArray, List.getElem_cons_zero, List.getElem_cons_succ]
              go_simp
              have bx6 := bx5.put hgY (.slice py (cleanT b).nodes.length cy) (.int .i64 (cleanT b).root)
              have ky6 : Cl ((W5.setCell ⟨gY, 0, none⟩ (.slice py (cleanT b).nodes.length cy)).setCell ⟨gY, 1, none⟩ (.int .i64 (cleanT b).root)) gY 26 #[.slice py (cleanT b).nodes.length cy, .int .i64 (cleanT b).root] := ky5.put2 (.slice py (cleanT b).nodes.length cy) (.int .i64 (cleanT b).root)
              have kx6 : Cl ((W5.setCell ⟨gY, 0, none⟩ (.slice py (cleanT b).nodes.length cy)).setCell ⟨gY, 1, none⟩ (.int .i64 (cleanT b).root)) gX 26 _ := (kx5.other (p := ⟨gY, 0, none⟩) (by simp; omega) (.slice py (cleanT b).nodes.length cy)).other (p := ⟨gY, 1, none⟩) (by simp; omega) (.int .i64 (cleanT b).root)
              have mx6 : Made _ ((W5.setCell ⟨gY, 0, none⟩ (.slice py (cleanT b).nodes.length cy)).setCell ⟨gY, 1, none⟩ (.int .i64 (cleanT b).root)) _ _ := mx5.ty ky5 (by decide) (by decide) (gb_put2 W5 gY (.slice py (cleanT b).nodes.length cy) (.int .i64 (cleanT b).root))
              have my6 : Made _ ((W5.setCell ⟨gY, 0, none⟩ (.slice py (cleanT b).nodes.length cy)).setCell ⟨gY, 1, none⟩ (.int .i64 (cleanT b).root)) _ _ := my5.ty ky5 (by decide) (by decide) (gb_put2 W5 gY (.slice py (cleanT b).nodes.length cy) (.int .i64 (cleanT b).root))
              clear i0 i1 jf
              generalize ((W5.setCell ⟨gY, 0, none⟩ (.slice py (cleanT b).nodes.length cy)).setCell ⟨gY, 1, none⟩ (.int .i64 (cleanT b).root)) = W6 at *
              try go_simp
              refine hK.out _ _ ?o69 (fun hHeld2 => ?_)
              case o69 => (try dsimp only); exact bx6.S
              clear hHeld hK K
              have hHeld := hHeld2
              clear hHeld2
              try simp only [Act.put, List.getElem_toArray, List.getElem_cons_zero, List.getElem_cons_succ, List.setIfInBounds_toArray, List.set_cons_zero, List.set_cons_succ]
              refine wpAnyH_done (by kernel_rfl) ?_ _
              exact tail gX gY px cx py cy W6 ⟨bx6, kx6, ky6, hhx ▸ mx6.nodes, hhy ▸ my6.nodes⟩
      case o3b =>
        try simp only [List.getElem_toArray, List.getElem_cons_zero, List.getElem_cons_succ]
        go_simp
        have bx1 := bx0.alloc zeroT
        have st1 := (Below.refl W0.heap.size W0).alloc (Nat.le_refl _) zeroT
        have ky1 := Cl.new W0 26 #[.slice none 0 0, .int .i64 0]
        have hgY := bx0.big
        clear st1
        generalize W0.alloc _ = W1 at *
        generalize W0.heap.size = gY at *
        try go_simp
        refine hK.out _ _ ?o70 (fun hHeld2 => ?_)
        case o70 => (try dsimp only); exact bx1.S
        clear hHeld hK K
        have hHeld := hHeld2
        clear hHeld2
        try simp only [Act.put, List.getElem_toArray, List.getElem_cons_zero, List.getElem_cons_succ, List.setIfInBounds_toArray, List.set_cons_zero, List.set_cons_succ]
        refine wpAnyH_ready (rs := [1, 4]) (by kernel_rfl) (by simp) ?_
        refine (AllReadyH.cons rfl (fun K hK => ?o71b) (AllReadyH.cons rfl (fun K hK => ?o72b) AllReadyH.nil))
        case o71b =>
          try simp only [List.getElem_toArray, List.getElem_cons_zero, List.getElem_cons_succ]
          go_simp
          refine (hca _ ⟨_, rfl, hna.below bx1.b⟩ (hE.below bx1.b)).mono ?_
          rintro e W2 ⟨px, cx, Cx, rfl, mx2, hhx, hb2⟩
          have bx2 := bx1.below hb2
          have ky2 := ky1.below hb2 ky1.lt
          clear hb2
          try go_simp
          refine hK.out _ _ ?o73 (fun hHeld2 => ?_)
          case o73 => (try dsimp only); exact bx2.S
          clear hHeld hK K
          have hHeld := hHeld2
          clear hHeld2
          try simp only [Act.put, List.getElem_toArray, List.getElem_cons_zero, List.getElem_cons_succ, List.setIfInBounds_toArray, List.set_cons_zero, List.set_cons_succ]
          refine wpAnyH_ready (rs := [3, 4]) (by kernel_rfl) (by simp) ?_
          refine (AllReadyH.cons rfl (fun K hK => ?o74b) (AllReadyH.cons rfl (fun K hK => ?o75b) AllReadyH.nil))
          case o74b =>
            try simp only [List.getElem_toArray, List.getElem_cons_zero, List.getElem_cons_succ]
            go_simp
            refine (hcb _ ⟨_, rfl, hnb.below bx2.b⟩ (hE.below bx2.b)).mono ?_
            rintro e W3 ⟨py, cy, Cy, rfl, my3, hhy, hb3⟩
            have bx3 := bx2.below hb3
            have mx3 := mx2.below hb3
            have ky3 := ky2.below hb3 ky2.lt
            clear hb3
            try go_simp
            refine hK.out _ _ ?o76 (fun hHeld2 => ?_)
            case o76 => (try dsimp only); exact bx3.S
            clear hHeld hK K
            have hHeld := hHeld2
            clear hHeld2
            try simp only [Act.put, List.getElem_toArray, List.getElem_cons_zero, List.getElem_cons_succ, List.setIfInBounds_toArray, List.set_cons_zero, List.set_cons_succ]
            refine wpAnyH_ready (rs := [4]) (by kernel_rfl) (by simp) ?_
            refine (AllReadyH.cons rfl (fun K hK => ?o77b) AllReadyH.nil)
            case o77b =>
              try simp only [List.getElem_toArray, List.getElem_cons_zero, List.getElem_cons_succ]
              go_simp
              have bx4 := bx3.alloc zeroT
              have st4 := (Below.refl W3.heap.size W3).alloc (Nat.le_refl _) zeroT
              have kx4 := Cl.new W3 26 #[.slice none 0 0, .int .i64 0]
              have hgX := bx3.big
              have mx4 := mx3.below st4
              have my4 := my3.below st4
              have ky4 := ky3.alloc zeroT
              have hne : W3.heap.size ≠ gY := by have := ky3.lt; omega
              clear st4
              generalize W3.alloc _ = W4 at *
              generalize W3.heap.size = gX at *
              try go_simp
              refine hK.out _ _ ?o78 (fun hHeld2 => ?_)
              case o78 => (try dsimp only); exact bx4.S
              clear hHeld hK K
              have hHeld := hHeld2
              clear hHeld2
              try simp only [Act.put, List.getElem_toArray, List.getElem_cons_zero, List.getElem_cons_succ, List.setIfInBounds_toArray, List.set_cons_zero, List.set_cons_succ]
              refine wpAnyH_ready (rs := [6]) (by kernel_rfl) (by simp) ?_
              refine AllReadyH.cons rfl (fun K hK => ?_) AllReadyH.nil
              obtain ⟨⟨i0, i1⟩, jf⟩ := kx4.two
              try simp only [List.getElem_toArray, List.getElem_cons_zero, List.getElem_cons_succ]
              go_simp
              have bx5 := bx4.put hgX (.slice px (cleanT a).nodes.length cx) (.int .i64 (cleanT a).root)
              have kx5 : Cl ((W4.setCell ⟨gX, 0, none⟩ (.slice px (cleanT a).nodes.length cx)).setCell ⟨gX, 1, none⟩ (.int .i64 (cleanT a).root)) gX 26 #[.slice px (cleanT a).nodes.length cx, .int .i64 (cleanT a).root] := kx4.put2 (.slice px (cleanT a).nodes.length cx) (.int .i64 (cleanT a).root)
              have ky5 : Cl ((W4.setCell ⟨gX, 0, none⟩ (.slice px (cleanT a).nodes.length cx)).setCell ⟨gX, 1, none⟩ (.int .i64 (cleanT a).root)) gY 26 _ := (ky4.other (p := ⟨gX, 0, none⟩) (by simp; omega) (.slice px (cleanT a).nodes.length cx)).other (p := ⟨gX, 1, none⟩) (by simp; omega) (.int .i64 (cleanT a).root)
              have mx5 : Made _ ((W4.setCell ⟨gX, 0, none⟩ (.slice px (cleanT a).nodes.length cx)).setCell ⟨gX, 1, none⟩ (.int .i64 (cleanT a).root)) _ _ := mx4.ty kx4 (by decide) (by decide) (gb_put2 W4 gX (.slice px (cleanT a).nodes.length cx) (.int .i64 (cleanT a).root))
              have my5 : Made _ ((W4.setCell ⟨gX, 0, none⟩ (.slice px (cleanT a).nodes.length cx)).setCell ⟨gX, 1, none⟩ (.int .i64 (cleanT a).root)) _ _ := my4.ty kx4 (by decide) (by decide) (gb_put2 W4 gX (.slice px (cleanT a).nodes.length cx) (.int .i64 (cleanT a).root))
              clear i0 i1 jf
              generalize ((W4.setCell ⟨gX, 0, none⟩ (.slice px (cleanT a).nodes.length cx)).setCell ⟨gX, 1, none⟩ (.int .i64 (cleanT a).root)) = W5 at *
              try go_simp
              refine hK.out _ _ ?o79 (fun hHeld2 => ?_)
              case o79 => (try dsimp only); exact bx5.S
              clear hHeld hK K
              have hHeld := hHeld2
              clear hHeld2
              try simp only [Act.put, List.getElem_toArray, List.getElem_cons_zero, List.getElem_cons_succ, List.setIfInBounds_toArray, List.set_cons_zero, List.set_cons_succ]
              refine wpAnyH_ready (rs := [7]) (by kernel_rfl) (by simp) ?_
              refine AllReadyH.cons rfl (fun K hK => ?_) AllReadyH.nil
              obtain ⟨⟨i0, i1⟩, jf⟩ := ky5.two
              try simp only [List.getElem_toArray, List.getElem_cons_zero, List.getElem_cons_succ]
              go_simp
              have bx6 := bx5.put hgY (.slice py (cleanT b).nodes.length cy) (.int .i64 (cleanT b).root)
              have ky6 : Cl ((W5.setCell ⟨gY, 0, none⟩ (.slice py (cleanT b).nodes.length cy)).setCell ⟨gY, 1, none⟩ (.int .i64 (cleanT b).root)) gY 26 #[.slice py (cleanT b).nodes.length cy, .int .i64 (cleanT b).root] := ky5.put2 (.slice py (cleanT b).nodes.length cy) (.int .i64 (cleanT b).root)
              have kx6 : Cl ((W5.setCell ⟨gY, 0, none⟩ (.slice py (cleanT b).nodes.length cy)).setCell ⟨gY, 1, none⟩ (.int .i64 (cleanT b).root)) gX 26 _ := (kx5.other (p := ⟨gY, 0, none⟩) (by simp; omega) (.slice py (cleanT b).nodes.length cy)).other (p := ⟨gY, 1, none⟩) (by simp; omega) (.int .i64 (cleanT b).root)
              have mx6 : Made _ ((W5.setCell ⟨gY, 0, none⟩ (.slice py (cleanT b).nodes.length cy)).setCell ⟨gY, 1, none⟩ (.int .i64 (cleanT b).root)) _ _ := mx5.ty ky5 (by decide) (by decide) (gb_put2 W5 gY (.slice py (cleanT b).nodes.length cy) (.int .i64 (cleanT b).root))
              have my6 : Made _ ((W5.setCell ⟨gY, 0, none⟩ (.slice py (cleanT b).nodes.length cy)).setCell ⟨gY, 1, none⟩ (.int .i64 (cleanT b).root)) _ _ := my5.ty ky5 (by decide) (by decide) (gb_put2 W5 gY (.slice py (cleanT b).nodes.length cy) (.int .i64 (cleanT b).root))
              clear i0 i1 jf
              generalize ((W5.setCell ⟨gY, 0, none⟩ (.slice py (cleanT b).nodes.length cy)).setCell ⟨gY, 1, none⟩ (.int .i64 (cleanT b).root)) = W6 at *
              try go_simp
              refine hK.out _ _ ?o80 (fun hHeld2 => ?_)
              case o80 => (try dsimp only); exact bx6.S
              clear hHeld hK K
              have hHeld := hHeld2
              clear hHeld2
              try simp only [Act.put, List.getElem_toArray, List.getElem_cons_zero, List.getElem_cons_succ, List.setIfInBounds_toArray, List.set_cons_zero, List.set_cons_succ]
              refine wpAnyH_done (by kernel_rfl) ?_ _
              exact tail gX gY px cx py cy W6 ⟨bx6, kx6, ky6, hhx ▸ mx6.nodes, hhy ▸ my6.nodes⟩
          case o75b =>
            try simp only [List.getElem_toArray, List.getElem_cons_zero, List.getElem_cons_succ]
            go_simp
            have bx3 := bx2.alloc zeroT
            have st3 := (Below.refl W2.heap.size W2).alloc (Nat.le_refl _) zeroT
            have kx3 := Cl.new W2 26 #[.slice none 0 0, .int .i64 0]
            have hgX := bx2.big
            have mx3 := mx2.below st3
            have ky3 := ky2.alloc zeroT
            have hne : W2.heap.size ≠ gY := by have := ky2.lt; omega
            clear st3
            generalize W2.alloc _ = W3 at *
            generalize W2.heap.size = gX at *
            try go_simp
            refine hK.out _ _ ?o81 (fun hHeld2 => ?_)
            case o81 => (try dsimp only); exact bx3.S
            clear hHeld hK K
            have hHeld := hHeld2
            clear hHeld2
            try simp only [Act.put, List.getElem_toArray, List.getElem_cons_zero, List.getElem_cons_succ, List.setIfInBounds_toArray, List.set_cons_zero, List.set_cons_succ]
            refine wpAnyH_ready (rs := [3]) (by kernel_rfl) (by simp) ?_
            refine (AllReadyH.cons rfl (fun K hK => ?o82b) AllReadyH.nil)
            case o82b =>
              try simp only [List.getElem_toArray, List.getElem_cons_zero, List.getElem_cons_succ]
              go_simp
              refine (hcb _ ⟨_, rfl, hnb.below bx3.b⟩ (hE.below bx3.b)).mono ?_
              rintro e W4 ⟨py, cy, Cy, rfl, my4, hhy, hb4⟩
              have bx4 := bx3.below hb4
              have mx4 := mx3.below hb4
              have kx4 := kx3.below hb4 kx3.lt
              have ky4 := ky3.below hb4 ky3.lt
              clear hb4
              try go_simp
              refine hK.out _ _ ?o83 (fun hHeld2 => ?_)
              case o83 => (try dsimp only); exact bx4.S
              clear hHeld hK K
              have hHeld := hHeld2
              clear hHeld2
              try simp only [Act.put, List.getElem_toArray, List.getElem_cons_zero, List.getElem_cons_succ, List.setIfInBounds_toArray, List.set_cons_zero, List.set_cons_succ]
              refine wpAnyH_ready (rs := [6]) (by kernel_rfl) (by simp) ?_
              refine AllReadyH.cons rfl (fun K hK => ?_) AllReadyH.nil
              obtain ⟨⟨i0, i1⟩, jf⟩ := kx4.two
              try simp only [List.getElem_toArray, List.getElem_cons_zero, List.getElem_cons_succ]
              go_simp
              have bx5 := bx4.put hgX (.slice px (cleanT a).nodes.length cx) (.int .i64 (cleanT a).root)
              have kx5 : Cl ((W4.setCell ⟨gX, 0, none⟩ (.slice px (cleanT a).nodes.length cx)).setCell ⟨gX, 1, none⟩ (.int .i64 (cleanT a).root)) gX 26 #[.slice px (cleanT a).nodes.length cx, .int .i64 (cleanT a).root] := kx4.put2 (.slice px (cleanT a).nodes.length cx) (.int .i64 (cleanT a).root)
              have ky5 : Cl ((W4.setCell ⟨gX, 0, none⟩ (.slice px (cleanT a).nodes.length cx)).setCell ⟨gX, 1, none⟩ (.int .i64 (cleanT a).root)) gY 26 _ := (ky4.other (p := ⟨gX, 0, none⟩) (by simp; omega) (.slice px (cleanT a).nodes.length cx)).other (p := ⟨gX, 1, none⟩) (by simp; omega) (.int .i64 (cleanT a).root)
              have mx5 : Made _ ((W4.setCell ⟨gX, 0, none⟩ (.slice px (cleanT a).nodes.length cx)).setCell ⟨gX, 1, none⟩ (.int .i64 (cleanT a).root)) _ _ := mx4.ty kx4 (by decide) (by decide) (gb_put2 W4 gX (.slice px (cleanT a).nodes.length cx) (.int .i64 (cleanT a).root))
              have my5 : Made _ ((W4.setCell ⟨gX, 0, none⟩ (.slice px (cleanT a).nodes.length cx)).setCell ⟨gX, 1, none⟩ (.int .i64 (cleanT a).root)) _ _ := my4.ty kx4 (by decide) (by decide) (gb_put2 W4 gX (.slice px (cleanT a).nodes.length cx) (.int .i64 (cleanT a).root))
              clear i0 i1 jf
              generalize ((W4.setCell ⟨gX, 0, none⟩ (.slice px (cleanT a).nodes.length cx)).setCell ⟨gX, 1, none⟩ (.int .i64 (cleanT a).root)) = W5 at *
              try go_simp
              refine hK.out _ _ ?o84 (fun hHeld2 => ?_)
              case o84 => (try dsimp only); exact bx5.S
              clear hHeld hK K
              have hHeld := hHeld2
              clear hHeld2
              try simp only [Act.put, List.getElem_toArray, List.getElem_cons_zero, List.getElem_cons_succ, List.setIfInBounds_toArray, List.set_cons_zero, List.set_cons_succ]
              refine wpAnyH_ready (rs := [7]) (by kernel_rfl) (by simp) ?_
              refine AllReadyH.cons rfl (fun K hK => ?_) AllReadyH.nil
              obtain ⟨⟨i0, i1⟩, jf⟩ := ky5.two
              try simp only [List.getElem_toArray, List.getElem_cons_zero, List.getElem_cons_succ]
              go_simp
              have bx6 := bx5.put hgY (.slice py (cleanT b).nodes.length cy) (.int .i64 (cleanT b).root)
              have ky6 : Cl ((W5.setCell ⟨gY, 0, none⟩ (.slice py (cleanT b).nodes.length cy)).setCell ⟨gY, 1, none⟩ (.int .i64 (cleanT b).root)) gY 26 #[.slice py (cleanT b).nodes.length cy, .int .i64 (cleanT b).root] := ky5.put2 (.slice py (cleanT b).nodes.length cy) (.int .i64 (cleanT b).root)
              have kx6 : Cl ((W5.setCell ⟨gY, 0, none⟩ (.slice py (cleanT b).nodes.length cy)).setCell ⟨gY, 1, none⟩ (.int .i64 (cleanT b).root)) gX 26 _ := (kx5.other (p := ⟨gY, 0, none⟩) (by simp; omega) (.slice py (cleanT b).nodes.length cy)).other (p := ⟨gY, 1, none⟩) (by simp; omega) (.int .i64 (cleanT b).root)
              have mx6 : Made _ ((W5.setCell ⟨gY, 0, none⟩ (.slice py (cleanT b).nodes.length cy)).setCell ⟨gY, 1, none⟩ (.int .i64 (cleanT b).root)) _ _ := mx5.ty ky5 (by decide) (by decide) (gb_put2 W5 gY (.slice py (cleanT b).nodes.length cy) (.int .i64 (cleanT b).root))
              have my6 : Made _ ((W5.setCell ⟨gY, 0, none⟩ (.slice py (cleanT b).nodes.length cy)).setCell ⟨gY, 1, none⟩ (.int .i64 (cleanT b).root)) _ _ := my5.ty ky5 (by decide) (by decide) (gb_put2 W5 gY (.slice py (cleanT b).nodes.length cy) (.int .i64 (cleanT b).root))
              clear i0 i1 jf
              generalize ((W5.setCell ⟨gY, 0, none⟩ (.slice py (cleanT b).nodes.length cy)).setCell ⟨gY, 1, none⟩ (.int .i64 (cleanT b).root)) = W6 at *
              try go_simp
              refine hK.out _ _ ?o85 (fun hHeld2 => ?_)
              case o85 => (try dsimp only); exact bx6.S
              clear hHeld hK K
              have hHeld := hHeld2
              clear hHeld2
              try simp only [Act.put, List.getElem_toArray, List.getElem_cons_zero, List.getElem_cons_succ, List.setIfInBounds_toArray, List.set_cons_zero, List.set_cons_succ]
              refine wpAnyH_done (by kernel_rfl) ?_ _
              exact tail gX gY px cx py cy W6 ⟨bx6, kx6, ky6, hhx ▸ mx6.nodes, hhy ▸ my6.nodes⟩
        case o72b =>
          try simp only [List.getElem_toArray, List.getElem_cons_zero, List.getElem_cons_succ]
          go_simp
          have bx2 := bx1.alloc zeroT
          have st2 := (Below.refl W1.heap.size W1).alloc (Nat.le_refl _) zeroT
          have kx2 := Cl.new W1 26 #[.slice none 0 0, .int .i64 0]
          have hgX := bx1.big
          have ky2 := ky1.alloc zeroT
          have hne : W1.heap.size ≠ gY := by have := ky1.lt; omega
          clear st2
          generalize W1.alloc _ = W2 at *
          generalize W1.heap.size = gX at *
          try go_simp
          refine hK.out _ _ ?o86 (fun hHeld2 => ?_)
          case o86 => (try dsimp only); exact bx2.S
          clear hHeld hK K
          have hHeld := hHeld2
          clear hHeld2
          try simp only [Act.put, List.getElem_toArray, List.getElem_cons_zero, List.getElem_cons_succ, List.setIfInBounds_toArray, List.set_cons_zero, List.set_cons_succ]
          refine wpAnyH_ready (rs := [1]) (by kernel_rfl) (by simp) ?_
          refine (AllReadyH.cons rfl (fun K hK => ?o87b) AllReadyH.nil)
          case o87b =>
            try simp only [List.getElem_toArray, List.getElem_cons_zero, List.getElem_cons_succ]
            go_simp
            refine (hca _ ⟨_, rfl, hna.below bx2.b⟩ (hE.below bx2.b)).mono ?_
            rintro e W3 ⟨px, cx, Cx, rfl, mx3, hhx, hb3⟩
            have bx3 := bx2.below hb3
            have kx3 := kx2.below hb3 kx2.lt
            have ky3 := ky2.below hb3 ky2.lt
            clear hb3
            try go_simp
            refine hK.out _ _ ?o88 (fun hHeld2 => ?_)
            case o88 => (try dsimp only); exact bx3.S
            clear hHeld hK K
            have hHeld := hHeld2
            clear hHeld2
            try simp only [Act.put, List.getElem_toArray, List.getElem_cons_zero, List.getElem_cons_succ, List.setIfInBounds_toArray, List.set_cons_zero, List.set_cons_succ]
            refine wpAnyH_ready (rs := [3]) (by kernel_rfl) (by simp) ?_
            refine (AllReadyH.cons rfl (fun K hK => ?o89b) AllReadyH.nil)
            case o89b =>
              try simp only [List.getElem_toArray, List.getElem_cons_zero, List.getElem_cons_succ]
              go_simp
              refine (hcb _ ⟨_, rfl, hnb.below bx3.b⟩ (hE.below bx3.b)).mono ?_
              rintro e W4 ⟨py, cy, Cy, rfl, my4, hhy, hb4⟩
              have bx4 := bx3.below hb4
              have mx4 := mx3.below hb4
              have kx4 := kx3.below hb4 kx3.lt
              have ky4 := ky3.below hb4 ky3.lt
              clear hb4
              try go_simp
              refine hK.out _ _ ?o90 (fun hHeld2 => ?_)
              case o90 => (try dsimp only); exact bx4.S
              clear hHeld hK K
              have hHeld := hHeld2
              clear hHeld2
              try simp only [Act.put, List.getElem_toArray, List.getElem_cons_zero, List.getElem_cons_succ, List.setIfInBounds_toArray, List.set_cons_zero, List.set_cons_succ]
              refine wpAnyH_ready (rs := [6]) (by kernel_rfl) (by simp) ?_
              refine AllReadyH.cons rfl (fun K hK => ?_) AllReadyH.nil
              obtain ⟨⟨i0, i1⟩, jf⟩ := kx4.two
              try simp only [List.getElem_toArray, List.getElem_cons_zero, List.getElem_cons_succ]
              go_simp
              have bx5 := bx4.put hgX (.slice px (cleanT a).nodes.length cx) (.int .i64 (cleanT a).root)
              have kx5 : Cl ((W4.setCell ⟨gX, 0, none⟩ (.slice px (cleanT a).nodes.length cx)).setCell ⟨gX, 1, none⟩ (.int .i64 (cleanT a).root)) gX 26 #[.slice px (cleanT a).nodes.length cx, .int .i64 (cleanT a).root] := kx4.put2 (.slice px (cleanT a).nodes.length cx) (.int .i64 (cleanT a).root)
              have ky5 : Cl ((W4.setCell ⟨gX, 0, none⟩ (.slice px (cleanT a).nodes.length cx)).setCell ⟨gX, 1, none⟩ (.int .i64 (cleanT a).root)) gY 26 _ := (ky4.other (p := ⟨gX, 0, none⟩) (by simp; omega) (.slice px (cleanT a).nodes.length cx)).other (p := ⟨gX, 1, none⟩) (by simp; omega) (.int .i64 (cleanT a).root)
              have mx5 : Made _ ((W4.setCell ⟨gX, 0, none⟩ (.slice px (cleanT a).nodes.length cx)).setCell ⟨gX, 1, none⟩ (.int .i64 (cleanT a).root)) _ _ := mx4.ty kx4 (by decide) (by decide) (gb_put2 W4 gX (.slice px (cleanT a).nodes.length cx) (.int .i64 (cleanT a).root))
              have my5 : Made _ ((W4.setCell ⟨gX, 0, none⟩ (.slice px (cleanT a).nodes.length cx)).setCell ⟨gX, 1, none⟩ (.int .i64 (cleanT a).root)) _ _ := my4.ty kx4 (by decide) (by decide) (gb_put2 W4 gX (.slice px (cleanT a).nodes.length cx) (.int .i64 (cleanT a).root))
              clear i0 i1 jf
              generalize ((W4.setCell ⟨gX, 0, none⟩ (.slice px (cleanT a).nodes.length cx)).setCell ⟨gX, 1, none⟩ (.int .i64 (cleanT a).root)) = W5 at *
              try go_simp
              refine hK.out _ _ ?o91 (fun hHeld2 => ?_)
              case o91 => (try dsimp only); exact bx5.S
              clear hHeld hK K
              have hHeld := hHeld2
              clear hHeld2
              try simp only [Act.put, List.getElem_toArray, List.getElem_cons_zero, List.getElem_cons_succ, List.setIfInBounds_toArray, List.set_cons_zero, List.set_cons_succ]
              refine wpAnyH_ready (rs := [7]) (by kernel_rfl) (by simp) ?_
              refine AllReadyH.cons rfl (fun K hK => ?_) AllReadyH.nil
              obtain ⟨⟨i0, i1⟩, jf⟩ := ky5.two
              try simp only [List.getElem_toArray, List.getElem_cons_zero, List.getElem_cons_succ]
              go_simp
              have bx6 := bx5.put hgY (.slice py (cleanT b).nodes.length cy) (.int .i64 (cleanT b).root)
              have ky6 : Cl ((W5.setCell ⟨gY, 0, none⟩ (.slice py (cleanT b).nodes.length cy)).setCell ⟨gY, 1, none⟩ (.int .i64 (cleanT b).root)) gY 26 #[.slice py (cleanT b).nodes.length cy, .int .i64 (cleanT b).root] := ky5.put2 (.slice py (cleanT b).nodes.length cy) (.int .i64 (cleanT b).root)
              have kx6 : Cl ((W5.setCell ⟨gY, 0, none⟩ (.slice py (cleanT b).nodes.length cy)).setCell ⟨gY, 1, none⟩ (.int .i64 (cleanT b).root)) gX 26 _ := (kx5.other (p := ⟨gY, 0, none⟩) (by simp; omega) (.slice py (cleanT b).nodes.length cy)).other (p := ⟨gY, 1, none⟩) (by simp; omega) (.int .i64 (cleanT b).root)
              have mx6 : Made _ ((W5.setCell ⟨gY, 0, none⟩ (.slice py (cleanT b).nodes.length cy)).setCell ⟨gY, 1, none⟩ (.int .i64 (cleanT b).root)) _ _ := mx5.ty ky5 (by decide) (by decide) (gb_put2 W5 gY (.slice py (cleanT b).nodes.length cy) (.int .i64 (cleanT b).root))
              have my6 : Made _ ((W5.setCell ⟨gY, 0, none⟩ (.slice py (cleanT b).nodes.length cy)).setCell ⟨gY, 1, none⟩ (.int .i64 (cleanT b).root)) _ _ := my5.ty ky5 (by decide) (by decide) (gb_put2 W5 gY (.slice py (cleanT b).nodes.length cy) (.int .i64 (cleanT b).root))
              clear i0 i1 jf
              generalize ((W5.setCell ⟨gY, 0, none⟩ (.slice py (cleanT b).nodes.length cy)).setCell ⟨gY, 1, none⟩ (.int .i64 (cleanT b).root)) = W6 at *
              try go_simp
              refine hK.out _ _ ?o92 (fun hHeld2 => ?_)
              case o92 => (try dsimp only); exact bx6.S
              clear hHeld hK K
              have hHeld := hHeld2
              clear hHeld2
              try simp only [Act.put, List.getElem_toArray, List.getElem_cons_zero, List.getElem_cons_succ, List.setIfInBounds_toArray, List.set_cons_zero, List.set_cons_succ]
              refine wpAnyH_done (by kernel_rfl) ?_ _
              exact tail gX gY px cx py cy W6 ⟨bx6, kx6, ky6, hhx ▸ mx6.nodes, hhy ▸ my6.nodes⟩
    case tail =>
      intro gX gY px cx py cy V0 T0
      try dsimp only
      go_wp2
      cases hRA : rightB a with
      | false =>
        obtain rfl : ab = false := by
          rw [← hab]
          unfold sameT
          rw [hRA]
          simp
        have haa : sameT a a = false := (same_self a).trans hRA
        simp only [hRA] at hra hrx
        refine wp_region_held_drew (S := (fun w' => w'.cell? ⟨w.heap.size, 0, none⟩ = some (.slice pa a.nodes.length ca) ∧ w'.cell? ⟨w.heap.size, 1, none⟩ = some (.int .i64 a.root) ∧ w'.cell? ⟨w.heap.size + 1, 0, none⟩ = some (.slice pb b.nodes.length cb) ∧ w'.cell? ⟨w.heap.size + 1, 1, none⟩ = some (.int .i64 b.root) ∧ w'.cell? ⟨w.heap.size + 1 + 1, 0, none⟩ = some (.slice pc c.nodes.length cc) ∧ w'.cell? ⟨w.heap.size + 1 + 1, 1, none⟩ = some (.int .i64 c.root) ∧ w'.cell? ⟨gX, 0, none⟩ = some (.slice px (cleanT a).nodes.length cx) ∧ w'.cell? ⟨gX, 1, none⟩ = some (.int .i64 (cleanT a).root) ∧ w'.cell? ⟨gY, 0, none⟩ = some (.slice py (cleanT b).nodes.length cy) ∧ w'.cell? ⟨gY, 1, none⟩ = some (.int .i64 (cleanT b).root))) (by kernel_rfl) (T0.S) (fun hHeld => ?_)
        have T0' := T0.drew
        clear T0
        have T0 := T0'
        clear T0'
        refine wpAnyH_take (i := 0) (v := ?s101k0v) rfl (by kernel_rfl) (by kernel_rfl) (by kernel_rfl) (fun _ _ _ h => h) (Or.inl ⟨by rfl, ?s101k0y⟩) (by assumption) ?s101k0t
        case s101k0y => (intro w hSw; (try dsimp only at hSw); (try simp only [List.getElem_toArray, List.getElem_cons_zero]); go_simp; try with_reducible rfl)
        try simp only [Act.put, List.getElem_toArray, List.getElem_cons_zero, List.setIfInBounds_toArray, List.set_cons_zero, List.set_cons_succ]
        refine wpAnyH_take (i := 2) (v := ?s101k1v) rfl (by kernel_rfl) (by kernel_rfl) (by kernel_rfl) (fun _ _ _ h => h) (Or.inl ⟨by rfl, ?s101k1y⟩) (by assumption) ?s101k1t
        case s101k1y => (intro w hSw; (try dsimp only at hSw); (try simp only [List.getElem_toArray, List.getElem_cons_zero, List.getElem_cons_succ]); go_simp; try with_reducible rfl)
        try simp only [Act.put, List.getElem_toArray, List.getElem_cons_zero, List.getElem_cons_succ, List.setIfInBounds_toArray, List.set_cons_zero, List.set_cons_succ]
        refine wpAnyH_ready (rs := [1]) (by kernel_rfl) (by simp) ?_
        refine AllReadyH.cons rfl (fun K hK => ?_) AllReadyH.nil
        try simp only [List.getElem_toArray, List.getElem_cons_zero, List.getElem_cons_succ]
        go_simp
        ((refine (hra _ ⟨_, rfl, hna.below T0.bx.b⟩ (hE.below T0.bx.b)).mono ?_; rintro e V1 ⟨rfl, hb⟩; have T1 := T0.below hb; clear hb))
        try go_simp
        refine hK.out _ _ ?s101S2 (fun hHeld2 => ?_)
        case s101S2 => (try dsimp only); exact T1.S
        clear hHeld hK K
        have hHeld := hHeld2
        clear hHeld2
        try simp only [Act.put, List.getElem_toArray, List.getElem_cons_zero, List.getElem_cons_succ, List.setIfInBounds_toArray, List.set_cons_zero, List.set_cons_succ]
        refine wpAnyH_ready (rs := [3]) (by kernel_rfl) (by simp) ?_
        refine AllReadyH.cons rfl (fun K hK => ?_) AllReadyH.nil
        try simp only [List.getElem_toArray, List.getElem_cons_zero, List.getElem_cons_succ]
        go_simp
        ((refine (hrx _ ⟨_, rfl, T1.nx⟩ (hE.below T1.bx.b)).mono ?_; rintro e V2 ⟨rfl, hb⟩; have T2 := T1.below hb; clear hb))
        try go_simp
        refine hK.out _ _ ?s101S3 (fun hHeld2 => ?_)
        case s101S3 => (try dsimp only); exact T2.S
        clear hHeld hK K
        have hHeld := hHeld2
        clear hHeld2
        try simp only [Act.put, List.getElem_toArray, List.getElem_cons_zero, List.getElem_cons_succ, List.setIfInBounds_toArray, List.set_cons_zero, List.set_cons_succ]
        refine wpAnyH_take (i := 4) (v := ?s101k4v) rfl (by kernel_rfl) (by kernel_rfl) (by kernel_rfl) (fun _ _ _ h => h) (Or.inl ⟨by rfl, ?s101k4y⟩) (by assumption) ?s101k4t
        case s101k4y => (intro w hSw; (try dsimp only at hSw); (try simp only [List.getElem_toArray, List.getElem_cons_zero, List.getElem_cons_succ]); go_simp; try with_reducible rfl)
        try simp only [Act.put, List.getElem_toArray, List.getElem_cons_zero, List.getElem_cons_succ, List.setIfInBounds_toArray, List.set_cons_zero, List.set_cons_succ]
        refine wpAnyH_take (i := 5) (v := ?s101k5v) rfl (by kernel_rfl) (by kernel_rfl) (by kernel_rfl) (fun _ _ _ h => h) (Or.inl ⟨by rfl, ?s101k5y⟩) (by assumption) ?s101k5t
        case s101k5y => (intro w hSw; (try dsimp only at hSw); (try simp only [List.getElem_toArray, List.getElem_cons_zero, List.getElem_cons_succ]); go_simp; try with_reducible rfl)
        try simp only [Act.put, List.getElem_toArray, List.getElem_cons_zero, List.getElem_cons_succ, List.setIfInBounds_toArray, List.set_cons_zero, List.set_cons_succ]
        refine wpAnyH_take (i := 6) (v := ?s101k6v) rfl (by kernel_rfl) (by kernel_rfl) (by kernel_rfl) (fun _ _ _ h => h) (Or.inl ⟨by rfl, ?s101k6y⟩) (by assumption) ?s101k6t
        case s101k6y => (intro w hSw; (try dsimp only at hSw); (try simp only [List.getElem_toArray, List.getElem_cons_zero, List.getElem_cons_succ]); go_simp; try with_reducible rfl)
        try simp only [Act.put, List.getElem_toArray, List.getElem_cons_zero, List.getElem_cons_succ, List.setIfInBounds_toArray, List.set_cons_zero, List.set_cons_succ]
        refine wpAnyH_take (i := 8) (v := ?s101k7v) rfl (by kernel_rfl) (by kernel_rfl) (by kernel_rfl) (fun _ _ _ h => h) (Or.inl ⟨by rfl, ?s101k7y⟩) (by assumption) ?s101k7t
        case s101k7y => (intro w hSw; (try dsimp only at hSw); (try simp only [List.getElem_toArray, List.getElem_cons_zero, List.getElem_cons_succ]); go_simp; try with_reducible rfl)
        try simp only [Act.put, List.getElem_toArray, List.getElem_cons_zero, List.getElem_cons_succ, List.setIfInBounds_toArray, List.set_cons_zero, List.set_cons_succ]
        refine wpAnyH_ready (rs := [7]) (by kernel_rfl) (by simp) ?_
        refine AllReadyH.cons rfl (fun K hK => ?_) AllReadyH.nil
        try simp only [List.getElem_toArray, List.getElem_cons_zero, List.getElem_cons_succ]
        go_simp
        ((refine (clean_at _ (cleanT a) _ ⟨_, rfl, T2.nx⟩ (ok_clean hoka) (hE.below T2.bx.b)).mono ?_; rintro e V3 ⟨pz, cz, Cz, rfl, mz, hhz, hb⟩; have T3 := T2.below hb; clear hb); have nz3 := mz.nodes; rw [hhz] at nz3)
        try go_simp
        refine hK.out _ _ ?s101S8 (fun hHeld2 => ?_)
        case s101S8 => (try dsimp only); exact T3.S
        clear hHeld hK K
        have hHeld := hHeld2
        clear hHeld2
        try simp only [Act.put, List.getElem_toArray, List.getElem_cons_zero, List.getElem_cons_succ, List.setIfInBounds_toArray, List.set_cons_zero, List.set_cons_succ]
        refine wpAnyH_ready (rs := [9]) (by kernel_rfl) (by simp) ?_
        refine AllReadyH.cons rfl (fun K hK => ?_) AllReadyH.nil
        try simp only [List.getElem_toArray, List.getElem_cons_zero, List.getElem_cons_succ]
        go_simp
        ((refine (exact_any _ _ (cleanT (cleanT a)) (cleanT a) _ ⟨_, rfl, nz3⟩ ⟨_, rfl, T3.nx⟩ (ok_clean (ok_clean hoka))).mono ?_; rintro e V4 ⟨rfl, hb⟩; have T4 := T3.below hb; clear hb); rw [clean_clean, exact_self])
        try go_simp
        refine hK.out _ _ ?s101S9 (fun hHeld2 => ?_)
        case s101S9 => (try dsimp only); exact T4.S
        clear hHeld hK K
        have hHeld := hHeld2
        clear hHeld2
        try simp only [Act.put, List.getElem_toArray, List.getElem_cons_zero, List.getElem_cons_succ, List.setIfInBounds_toArray, List.set_cons_zero, List.set_cons_succ]
        refine wpAnyH_take (i := 10) (v := ?s101k10v) rfl (by kernel_rfl) (by kernel_rfl) (by kernel_rfl) (fun _ _ _ h => h) (Or.inl ⟨by rfl, ?s101k10y⟩) (by assumption) ?s101k10t
        case s101k10y => (intro w hSw; (try dsimp only at hSw); (try simp only [List.getElem_toArray, List.getElem_cons_zero, List.getElem_cons_succ]); go_simp; try with_reducible rfl)
        try simp only [Act.put, List.getElem_toArray, List.getElem_cons_zero, List.getElem_cons_succ, List.setIfInBounds_toArray, List.set_cons_zero, List.set_cons_succ]
        refine wpAnyH_take (i := 11) (v := ?s101k11v) rfl (by kernel_rfl) (by kernel_rfl) (by kernel_rfl) (fun _ _ _ h => h) (Or.inl ⟨by rfl, ?s101k11y⟩) (by assumption) ?s101k11t
        case s101k11y => (intro w hSw; (try dsimp only at hSw); (try simp only [List.getElem_toArray, List.getElem_cons_zero, List.getElem_cons_succ]); go_simp; try with_reducible rfl)
        try simp only [Act.put, List.getElem_toArray, List.getElem_cons_zero, List.getElem_cons_succ, List.setIfInBounds_toArray, List.set_cons_zero, List.set_cons_succ]
        refine wpAnyH_take (i := 12) (v := ?s101k12v) rfl (by kernel_rfl) (by kernel_rfl) (by kernel_rfl) (fun _ _ _ h => h) (Or.inl ⟨by rfl, ?s101k12y⟩) (by assumption) ?s101k12t
        case s101k12y => (intro w hSw; (try dsimp only at hSw); (try simp only [List.getElem_toArray, List.getElem_cons_zero, List.getElem_cons_succ]); go_simp; try with_reducible rfl)
        try simp only [Act.put, List.getElem_toArray, List.getElem_cons_zero, List.getElem_cons_succ, List.setIfInBounds_toArray, List.set_cons_zero, List.set_cons_succ]
        refine wpAnyH_take (i := 13) (v := ?s101k13v) rfl (by kernel_rfl) (by kernel_rfl) (by kernel_rfl) (fun _ _ _ h => h) (Or.inl ⟨by rfl, ?s101k13y⟩) (by assumption) ?s101k13t
        case s101k13y => (intro w hSw; (try dsimp only at hSw); (try simp only [List.getElem_toArray, List.getElem_cons_zero, List.getElem_cons_succ]); go_simp; try with_reducible rfl)
        try simp only [Act.put, List.getElem_toArray, List.getElem_cons_zero, List.getElem_cons_succ, List.setIfInBounds_toArray, List.set_cons_zero, List.set_cons_succ]
        refine wpAnyH_ready (rs := [14]) (by kernel_rfl) (by simp) ?_
        refine AllReadyH.cons rfl (fun K hK => ?_) AllReadyH.nil
        try simp only [List.getElem_toArray, List.getElem_cons_zero, List.getElem_cons_succ]
        go_simp
        ((refine (hra _ ⟨_, rfl, hna.below T4.bx.b⟩ (hE.below T4.bx.b)).mono ?_; rintro e V5 ⟨rfl, hb⟩; have T5 := T4.below hb; clear hb))
        try go_simp
        refine hK.out _ _ ?s101S14 (fun hHeld2 => ?_)
        case s101S14 => (try dsimp only); exact T5.S
        clear hHeld hK K
        have hHeld := hHeld2
        clear hHeld2
        try simp only [Act.put, List.getElem_toArray, List.getElem_cons_zero, List.getElem_cons_succ, List.setIfInBounds_toArray, List.set_cons_zero, List.set_cons_succ]
        refine wpAnyH_take (i := 15) (v := ?s101k15v) rfl (by kernel_rfl) (by kernel_rfl) (by kernel_rfl) (fun _ _ _ h => h) (Or.inl ⟨by rfl, ?s101k15y⟩) (by assumption) ?s101k15t
        case s101k15y => (intro w hSw; (try dsimp only at hSw); (try simp only [List.getElem_toArray, List.getElem_cons_zero, List.getElem_cons_succ]); go_simp; try with_reducible rfl)
        try simp only [Act.put, List.getElem_toArray, List.getElem_cons_zero, List.getElem_cons_succ, List.setIfInBounds_toArray, List.set_cons_zero, List.set_cons_succ]
        refine wpAnyH_take (i := 16) (v := undef) rfl (by kernel_rfl) (by kernel_rfl) (by kernel_rfl) (fun _ _ _ h => h) (Or.inr ⟨by rfl, rfl⟩) (by assumption) ?_
        try simp only [Act.put, List.getElem_toArray, List.getElem_cons_zero, List.getElem_cons_succ, List.setIfInBounds_toArray, List.set_cons_zero, List.set_cons_succ]
        refine wpAnyH_take (i := 17) (v := undef) rfl (by kernel_rfl) (by kernel_rfl) (by kernel_rfl) (fun _ _ _ h => h) (Or.inr ⟨by rfl, rfl⟩) (by assumption) ?_
        try simp only [Act.put, List.getElem_toArray, List.getElem_cons_zero, List.getElem_cons_succ, List.setIfInBounds_toArray, List.set_cons_zero, List.set_cons_succ]
        refine wpAnyH_take (i := 18) (v := undef) rfl (by kernel_rfl) (by kernel_rfl) (by kernel_rfl) (fun _ _ _ h => h) (Or.inr ⟨by rfl, rfl⟩) (by assumption) ?_
        try simp only [Act.put, List.getElem_toArray, List.getElem_cons_zero, List.getElem_cons_succ, List.setIfInBounds_toArray, List.set_cons_zero, List.set_cons_succ]
        refine wpAnyH_take (i := 19) (v := undef) rfl (by kernel_rfl) (by kernel_rfl) (by kernel_rfl) (fun _ _ _ h => h) (Or.inr ⟨by rfl, rfl⟩) (by assumption) ?_
        try simp only [Act.put, List.getElem_toArray, List.getElem_cons_zero, List.getElem_cons_succ, List.setIfInBounds_toArray, List.set_cons_zero, List.set_cons_succ]
        refine wpAnyH_take (i := 20) (v := ?s101k20v) rfl (by kernel_rfl) (by kernel_rfl) (by kernel_rfl) (fun _ _ _ h => h) (Or.inl ⟨by rfl, ?s101k20y⟩) (by assumption) ?s101k20t
        case s101k20y => (intro w hSw; (try dsimp only at hSw); (try simp only [List.getElem_toArray, List.getElem_cons_zero, List.getElem_cons_succ]); go_simp; try with_reducible rfl)
        try simp only [Act.put, List.getElem_toArray, List.getElem_cons_zero, List.getElem_cons_succ, List.setIfInBounds_toArray, List.set_cons_zero, List.set_cons_succ]
        refine wpAnyH_take (i := 21) (v := ?s101k21v) rfl (by kernel_rfl) (by kernel_rfl) (by kernel_rfl) (fun _ _ _ h => h) (Or.inl ⟨by rfl, ?s101k21y⟩) (by assumption) ?s101k21t
        case s101k21y => (intro w hSw; (try dsimp only at hSw); (try simp only [List.getElem_toArray, List.getElem_cons_zero, List.getElem_cons_succ]); go_simp; try with_reducible rfl)
        try simp only [Act.put, List.getElem_toArray, List.getElem_cons_zero, List.getElem_cons_succ, List.setIfInBounds_toArray, List.set_cons_zero, List.set_cons_succ]
        refine wpAnyH_done (by kernel_rfl) ?_ _
        go_wp2
        refine wp_region_held_drew (S := (fun w' => w'.cell? ⟨w.heap.size, 0, none⟩ = some (.slice pa a.nodes.length ca) ∧ w'.cell? ⟨w.heap.size, 1, none⟩ = some (.int .i64 a.root) ∧ w'.cell? ⟨w.heap.size + 1, 0, none⟩ = some (.slice pb b.nodes.length cb) ∧ w'.cell? ⟨w.heap.size + 1, 1, none⟩ = some (.int .i64 b.root) ∧ w'.cell? ⟨w.heap.size + 1 + 1, 0, none⟩ = some (.slice pc c.nodes.length cc) ∧ w'.cell? ⟨w.heap.size + 1 + 1, 1, none⟩ = some (.int .i64 c.root) ∧ w'.cell? ⟨gX, 0, none⟩ = some (.slice px (cleanT a).nodes.length cx) ∧ w'.cell? ⟨gX, 1, none⟩ = some (.int .i64 (cleanT a).root) ∧ w'.cell? ⟨gY, 0, none⟩ = some (.slice py (cleanT b).nodes.length cy) ∧ w'.cell? ⟨gY, 1, none⟩ = some (.int .i64 (cleanT b).root))) (by kernel_rfl) (T5.S) (fun hHeld => ?_)
        have T5' := T5.drew
        clear T5
        have T5 := T5'
        clear T5'
        refine wpAnyH_take (i := 0) (v := ?s102k0v) rfl (by kernel_rfl) (by kernel_rfl) (by kernel_rfl) (fun _ _ _ h => h) (Or.inl ⟨by rfl, ?s102k0y⟩) (by assumption) ?s102k0t
        case s102k0y => (intro w hSw; (try dsimp only at hSw); (try simp only [List.getElem_toArray, List.getElem_cons_zero]); go_simp; try with_reducible rfl)
        try simp only [Act.put, List.getElem_toArray, List.getElem_cons_zero, List.setIfInBounds_toArray, List.set_cons_zero, List.set_cons_succ]
        refine wpAnyH_take (i := 1) (v := ?s102k1v) rfl (by kernel_rfl) (by kernel_rfl) (by kernel_rfl) (fun _ _ _ h => h) (Or.inl ⟨by rfl, ?s102k1y⟩) (by assumption) ?s102k1t
        case s102k1y => (intro w hSw; (try dsimp only at hSw); (try simp only [List.getElem_toArray, List.getElem_cons_zero, List.getElem_cons_succ]); go_simp; try with_reducible rfl)
        try simp only [Act.put, List.getElem_toArray, List.getElem_cons_zero, List.getElem_cons_succ, List.setIfInBounds_toArray, List.set_cons_zero, List.set_cons_succ]
        refine wpAnyH_take (i := 3) (v := ?s102k2v) rfl (by kernel_rfl) (by kernel_rfl) (by kernel_rfl) (fun _ _ _ h => h) (Or.inl ⟨by rfl, ?s102k2y⟩) (by assumption) ?s102k2t
        case s102k2y => (intro w hSw; (try dsimp only at hSw); (try simp only [List.getElem_toArray, List.getElem_cons_zero, List.getElem_cons_succ]); go_simp; try with_reducible rfl)
        try simp only [Act.put, List.getElem_toArray, List.getElem_cons_zero, List.getElem_cons_succ, List.setIfInBounds_toArray, List.set_cons_zero, List.set_cons_succ]
        refine wpAnyH_take (i := 4) (v := ?s102k3v) rfl (by kernel_rfl) (by kernel_rfl) (by kernel_rfl) (fun _ _ _ h => h) (Or.inl ⟨by rfl, ?s102k3y⟩) (by assumption) ?s102k3t
        case s102k3y => (intro w hSw; (try dsimp only at hSw); (try simp only [List.getElem_toArray, List.getElem_cons_zero, List.getElem_cons_succ]); go_simp; try with_reducible rfl)
        try simp only [Act.put, List.getElem_toArray, List.getElem_cons_zero, List.getElem_cons_succ, List.setIfInBounds_toArray, List.set_cons_zero, List.set_cons_succ]
        refine wpAnyH_take (i := 6) (v := ?s102k4v) rfl (by kernel_rfl) (by kernel_rfl) (by kernel_rfl) (fun _ _ _ h => h) (Or.inl ⟨by rfl, ?s102k4y⟩) (by assumption) ?s102k4t
        case s102k4y => (intro w hSw; (try dsimp only at hSw); (try simp only [List.getElem_toArray, List.getElem_cons_zero, List.getElem_cons_succ]); go_simp; try with_reducible rfl)
        try simp only [Act.put, List.getElem_toArray, List.getElem_cons_zero, List.getElem_cons_succ, List.setIfInBounds_toArray, List.set_cons_zero, List.set_cons_succ]
        refine wpAnyH_take (i := 7) (v := ?s102k5v) rfl (by kernel_rfl) (by kernel_rfl) (by kernel_rfl) (fun _ _ _ h => h) (Or.inl ⟨by rfl, ?s102k5y⟩) (by assumption) ?s102k5t
        case s102k5y => (intro w hSw; (try dsimp only at hSw); (try simp only [List.getElem_toArray, List.getElem_cons_zero, List.getElem_cons_succ]); go_simp; try with_reducible rfl)
        try simp only [Act.put, List.getElem_toArray, List.getElem_cons_zero, List.getElem_cons_succ, List.setIfInBounds_toArray, List.set_cons_zero, List.set_cons_succ]
        refine wpAnyH_ready (rs := [2]) (by kernel_rfl) (by simp) ?_
        refine AllReadyH.cons rfl (fun K hK => ?_) AllReadyH.nil
        try simp only [List.getElem_toArray, List.getElem_cons_zero, List.getElem_cons_succ]
        go_simp
        ((refine (same_any _ _ a b _ ⟨_, rfl, hna.below T5.bx.b⟩ ⟨_, rfl, hnb.below T5.bx.b⟩ hoka hokb (hE.below T5.bx.b)).mono ?_; rintro e V6 ⟨rfl, hb⟩; have T6 := T5.below hb; clear hb); rw [hab])
        try go_simp
        refine hK.out _ _ ?s102S6 (fun hHeld2 => ?_)
        case s102S6 => (try dsimp only); exact T6.S
        clear hHeld hK K
        have hHeld := hHeld2
        clear hHeld2
        try simp only [Act.put, List.getElem_toArray, List.getElem_cons_zero, List.getElem_cons_succ, List.setIfInBounds_toArray, List.set_cons_zero, List.set_cons_succ]
        refine wpAnyH_ready (rs := [5]) (by kernel_rfl) (by simp) ?_
        refine AllReadyH.cons rfl (fun K hK => ?_) AllReadyH.nil
        try simp only [List.getElem_toArray, List.getElem_cons_zero, List.getElem_cons_succ]
        go_simp
        ((refine (same_any _ _ b c _ ⟨_, rfl, hnb.below T6.bx.b⟩ ⟨_, rfl, hnc.below T6.bx.b⟩ hokb hokc (hE.below T6.bx.b)).mono ?_; rintro e V7 ⟨rfl, hb⟩; have T7 := T6.below hb; clear hb); rw [hbc])
        try go_simp
        refine hK.out _ _ ?s102S7 (fun hHeld2 => ?_)
        case s102S7 => (try dsimp only); exact T7.S
        clear hHeld hK K
        have hHeld := hHeld2
        clear hHeld2
        try simp only [Act.put, List.getElem_toArray, List.getElem_cons_zero, List.getElem_cons_succ, List.setIfInBounds_toArray, List.set_cons_zero, List.set_cons_succ]
        refine wpAnyH_ready (rs := [8]) (by kernel_rfl) (by simp) ?_
        refine AllReadyH.cons rfl (fun K hK => ?_) AllReadyH.nil
        try simp only [List.getElem_toArray, List.getElem_cons_zero, List.getElem_cons_succ]
        go_simp
        ((refine (same_any _ _ a c _ ⟨_, rfl, hna.below T7.bx.b⟩ ⟨_, rfl, hnc.below T7.bx.b⟩ hoka hokc (hE.below T7.bx.b)).mono ?_; rintro e V8 ⟨rfl, hb⟩; have T8 := T7.below hb; clear hb); rw [hac])
        try go_simp
        refine hK.out _ _ ?s102S8 (fun hHeld2 => ?_)
        case s102S8 => (try dsimp only); exact T8.S
        clear hHeld hK K
        have hHeld := hHeld2
        clear hHeld2
        try simp only [Act.put, List.getElem_toArray, List.getElem_cons_zero, List.getElem_cons_succ, List.setIfInBounds_toArray, List.set_cons_zero, List.set_cons_succ]
        refine wpAnyH_take (i := 9) (v := ?s102k9v) rfl (by kernel_rfl) (by kernel_rfl) (by kernel_rfl) (fun _ _ _ h => h) (Or.inl ⟨by rfl, ?s102k9y⟩) (by assumption) ?s102k9t
        case s102k9y => (intro w hSw; (try dsimp only at hSw); (try simp only [List.getElem_toArray, List.getElem_cons_zero, List.getElem_cons_succ]); go_simp; try with_reducible rfl)
        try simp only [Act.put, List.getElem_toArray, List.getElem_cons_zero, List.getElem_cons_succ, List.setIfInBounds_toArray, List.set_cons_zero, List.set_cons_succ]
        refine wpAnyH_take (i := 10) (v := ?s102k10v) rfl (by kernel_rfl) (by kernel_rfl) (by kernel_rfl) (fun _ _ _ h => h) (Or.inl ⟨by rfl, ?s102k10y⟩) (by assumption) ?s102k10t
        case s102k10y => (intro w hSw; (try dsimp only at hSw); (try simp only [List.getElem_toArray, List.getElem_cons_zero, List.getElem_cons_succ]); go_simp; try with_reducible rfl)
        try simp only [Act.put, List.getElem_toArray, List.getElem_cons_zero, List.getElem_cons_succ, List.setIfInBounds_toArray, List.set_cons_zero, List.set_cons_succ]
        refine wpAnyH_take (i := 11) (v := ?s102k11v) rfl (by kernel_rfl) (by kernel_rfl) (by kernel_rfl) (fun _ _ _ h => h) (Or.inl ⟨by rfl, ?s102k11y⟩) (by assumption) ?s102k11t
        case s102k11y => (intro w hSw; (try dsimp only at hSw); (try simp only [List.getElem_toArray, List.getElem_cons_zero, List.getElem_cons_succ]); go_simp; try with_reducible rfl)
        try simp only [Act.put, List.getElem_toArray, List.getElem_cons_zero, List.getElem_cons_succ, List.setIfInBounds_toArray, List.set_cons_zero, List.set_cons_succ]
        refine wpAnyH_done (by kernel_rfl) ?_ _
        go_wp2
        refine wp_region_held_drew (S := (fun w' => w'.cell? ⟨w.heap.size, 0, none⟩ = some (.slice pa a.nodes.length ca) ∧ w'.cell? ⟨w.heap.size, 1, none⟩ = some (.int .i64 a.root) ∧ w'.cell? ⟨w.heap.size + 1, 0, none⟩ = some (.slice pb b.nodes.length cb) ∧ w'.cell? ⟨w.heap.size + 1, 1, none⟩ = some (.int .i64 b.root) ∧ w'.cell? ⟨w.heap.size + 1 + 1, 0, none⟩ = some (.slice pc c.nodes.length cc) ∧ w'.cell? ⟨w.heap.size + 1 + 1, 1, none⟩ = some (.int .i64 c.root) ∧ w'.cell? ⟨gX, 0, none⟩ = some (.slice px (cleanT a).nodes.length cx) ∧ w'.cell? ⟨gX, 1, none⟩ = some (.int .i64 (cleanT a).root) ∧ w'.cell? ⟨gY, 0, none⟩ = some (.slice py (cleanT b).nodes.length cy) ∧ w'.cell? ⟨gY, 1, none⟩ = some (.int .i64 (cleanT b).root))) (by kernel_rfl) (T8.S) (fun hHeld => ?_)
        have T8' := T8.drew
        clear T8
        have T8 := T8'
        clear T8'
        refine wpAnyH_take (i := 0) (v := ?s103k0v) rfl (by kernel_rfl) (by kernel_rfl) (by kernel_rfl) (fun _ _ _ h => h) (Or.inl ⟨by rfl, ?s103k0y⟩) (by assumption) ?s103k0t
        case s103k0y => (intro w hSw; (try dsimp only at hSw); (try simp only [List.getElem_toArray, List.getElem_cons_zero]); go_simp; try with_reducible rfl)
        try simp only [Act.put, List.getElem_toArray, List.getElem_cons_zero, List.setIfInBounds_toArray, List.set_cons_zero, List.set_cons_succ]
        refine wpAnyH_take (i := 1) (v := ?s103k1v) rfl (by kernel_rfl) (by kernel_rfl) (by kernel_rfl) (fun _ _ _ h => h) (Or.inl ⟨by rfl, ?s103k1y⟩) (by assumption) ?s103k1t
        case s103k1y => (intro w hSw; (try dsimp only at hSw); (try simp only [List.getElem_toArray, List.getElem_cons_zero, List.getElem_cons_succ]); go_simp; try with_reducible rfl)
        try simp only [Act.put, List.getElem_toArray, List.getElem_cons_zero, List.getElem_cons_succ, List.setIfInBounds_toArray, List.set_cons_zero, List.set_cons_succ]
        refine wpAnyH_ready (rs := [2]) (by kernel_rfl) (by simp) ?_
        refine AllReadyH.cons rfl (fun K hK => ?_) AllReadyH.nil
        try simp only [List.getElem_toArray, List.getElem_cons_zero, List.getElem_cons_succ]
        go_simp
        ((refine (hra _ ⟨_, rfl, hna.below T8.bx.b⟩ (hE.below T8.bx.b)).mono ?_; rintro e V9 ⟨rfl, hb⟩; have T9 := T8.below hb; clear hb))
        try go_simp
        refine hK.out _ _ ?s103S2 (fun hHeld2 => ?_)
        case s103S2 => (try dsimp only); exact T9.S
        clear hHeld hK K
        have hHeld := hHeld2
        clear hHeld2
        try simp only [Act.put, List.getElem_toArray, List.getElem_cons_zero, List.getElem_cons_succ, List.setIfInBounds_toArray, List.set_cons_zero, List.set_cons_succ]
        refine wpAnyH_take (i := 3) (v := ?s103k3v) rfl (by kernel_rfl) (by kernel_rfl) (by kernel_rfl) (fun _ _ _ h => h) (Or.inl ⟨by rfl, ?s103k3y⟩) (by assumption) ?s103k3t
        case s103k3y => (intro w hSw; (try dsimp only at hSw); (try simp only [List.getElem_toArray, List.getElem_cons_zero, List.getElem_cons_succ]); go_simp; try with_reducible rfl)
        try simp only [Act.put, List.getElem_toArray, List.getElem_cons_zero, List.getElem_cons_succ, List.setIfInBounds_toArray, List.set_cons_zero, List.set_cons_succ]
        refine wpAnyH_take (i := 4) (v := undef) rfl (by kernel_rfl) (by kernel_rfl) (by kernel_rfl) (fun _ _ _ h => h) (Or.inr ⟨by rfl, rfl⟩) (by assumption) ?_
        try simp only [Act.put, List.getElem_toArray, List.getElem_cons_zero, List.getElem_cons_succ, List.setIfInBounds_toArray, List.set_cons_zero, List.set_cons_succ]
        refine wpAnyH_take (i := 5) (v := undef) rfl (by kernel_rfl) (by kernel_rfl) (by kernel_rfl) (fun _ _ _ h => h) (Or.inr ⟨by rfl, rfl⟩) (by assumption) ?_
        try simp only [Act.put, List.getElem_toArray, List.getElem_cons_zero, List.getElem_cons_succ, List.setIfInBounds_toArray, List.set_cons_zero, List.set_cons_succ]
        refine wpAnyH_take (i := 6) (v := ?s103k6v) rfl (by kernel_rfl) (by kernel_rfl) (by kernel_rfl) (fun _ _ _ h => h) (Or.inl ⟨by rfl, ?s103k6y⟩) (by assumption) ?s103k6t
        case s103k6y => (intro w hSw; (try dsimp only at hSw); (try simp only [List.getElem_toArray, List.getElem_cons_zero, List.getElem_cons_succ]); go_simp; try with_reducible rfl)
        try simp only [Act.put, List.getElem_toArray, List.getElem_cons_zero, List.getElem_cons_succ, List.setIfInBounds_toArray, List.set_cons_zero, List.set_cons_succ]
        refine wpAnyH_take (i := 7) (v := ?s103k7v) rfl (by kernel_rfl) (by kernel_rfl) (by kernel_rfl) (fun _ _ _ h => h) (Or.inl ⟨by rfl, ?s103k7y⟩) (by assumption) ?s103k7t
        case s103k7y => (intro w hSw; (try dsimp only at hSw); (try simp only [List.getElem_toArray, List.getElem_cons_zero, List.getElem_cons_succ]); go_simp; try with_reducible rfl)
        try simp only [Act.put, List.getElem_toArray, List.getElem_cons_zero, List.getElem_cons_succ, List.setIfInBounds_toArray, List.set_cons_zero, List.set_cons_succ]
        refine wpAnyH_take (i := 8) (v := undef) rfl (by kernel_rfl) (by kernel_rfl) (by kernel_rfl) (fun _ _ _ h => h) (Or.inr ⟨by rfl, rfl⟩) (by assumption) ?_
        try simp only [Act.put, List.getElem_toArray, List.getElem_cons_zero, List.getElem_cons_succ, List.setIfInBounds_toArray, List.set_cons_zero, List.set_cons_succ]
        refine wpAnyH_take (i := 9) (v := undef) rfl (by kernel_rfl) (by kernel_rfl) (by kernel_rfl) (fun _ _ _ h => h) (Or.inr ⟨by rfl, rfl⟩) (by assumption) ?_
        try simp only [Act.put, List.getElem_toArray, List.getElem_cons_zero, List.getElem_cons_succ, List.setIfInBounds_toArray, List.set_cons_zero, List.set_cons_succ]
        refine wpAnyH_take (i := 10) (v := undef) rfl (by kernel_rfl) (by kernel_rfl) (by kernel_rfl) (fun _ _ _ h => h) (Or.inr ⟨by rfl, rfl⟩) (by assumption) ?_
        try simp only [Act.put, List.getElem_toArray, List.getElem_cons_zero, List.getElem_cons_succ, List.setIfInBounds_toArray, List.set_cons_zero, List.set_cons_succ]
        refine wpAnyH_take (i := 11) (v := ?s103k11v) rfl (by kernel_rfl) (by kernel_rfl) (by kernel_rfl) (fun _ _ _ h => h) (Or.inl ⟨by rfl, ?s103k11y⟩) (by assumption) ?s103k11t
        case s103k11y => (intro w hSw; (try dsimp only at hSw); (try simp only [List.getElem_toArray, List.getElem_cons_zero, List.getElem_cons_succ]); go_simp; try with_reducible rfl)
        try simp only [Act.put, List.getElem_toArray, List.getElem_cons_zero, List.getElem_cons_succ, List.setIfInBounds_toArray, List.set_cons_zero, List.set_cons_succ]
        refine wpAnyH_take (i := 12) (v := ?s103k12v) rfl (by kernel_rfl) (by kernel_rfl) (by kernel_rfl) (fun _ _ _ h => h) (Or.inl ⟨by rfl, ?s103k12y⟩) (by assumption) ?s103k12t
        case s103k12y => (intro w hSw; (try dsimp only at hSw); (try simp only [List.getElem_toArray, List.getElem_cons_zero, List.getElem_cons_succ]); go_simp; try with_reducible rfl)
        try simp only [Act.put, List.getElem_toArray, List.getElem_cons_zero, List.getElem_cons_succ, List.setIfInBounds_toArray, List.set_cons_zero, List.set_cons_succ]
        refine wpAnyH_take (i := 13) (v := ?s103k13v) rfl (by kernel_rfl) (by kernel_rfl) (by kernel_rfl) (fun _ _ _ h => h) (Or.inl ⟨by rfl, ?s103k13y⟩) (by assumption) ?s103k13t
        case s103k13y => (intro w hSw; (try dsimp only at hSw); (try simp only [List.getElem_toArray, List.getElem_cons_zero, List.getElem_cons_succ]); go_simp; try with_reducible rfl)
        try simp only [Act.put, List.getElem_toArray, List.getElem_cons_zero, List.getElem_cons_succ, List.setIfInBounds_toArray, List.set_cons_zero, List.set_cons_succ]
        refine wpAnyH_take (i := 14) (v := ?s103k14v) rfl (by kernel_rfl) (by kernel_rfl) (by kernel_rfl) (fun _ _ _ h => h) (Or.inl ⟨by rfl, ?s103k14y⟩) (by assumption) ?s103k14t
        case s103k14y => (intro w hSw; (try dsimp only at hSw); (try simp only [List.getElem_toArray, List.getElem_cons_zero, List.getElem_cons_succ]); go_simp; try with_reducible rfl)
        try simp only [Act.put, List.getElem_toArray, List.getElem_cons_zero, List.getElem_cons_succ, List.setIfInBounds_toArray, List.set_cons_zero, List.set_cons_succ]
        refine wpAnyH_take (i := 15) (v := ?s103k15v) rfl (by kernel_rfl) (by kernel_rfl) (by kernel_rfl) (fun _ _ _ h => h) (Or.inl ⟨by rfl, ?s103k15y⟩) (by assumption) ?s103k15t
        case s103k15y => (intro w hSw; (try dsimp only at hSw); (try simp only [List.getElem_toArray, List.getElem_cons_zero, List.getElem_cons_succ]); go_simp; try with_reducible rfl)
        try simp only [Act.put, List.getElem_toArray, List.getElem_cons_zero, List.getElem_cons_succ, List.setIfInBounds_toArray, List.set_cons_zero, List.set_cons_succ]
        refine wpAnyH_take (i := 17) (v := ?s103k16v) rfl (by kernel_rfl) (by kernel_rfl) (by kernel_rfl) (fun _ _ _ h => h) (Or.inl ⟨by rfl, ?s103k16y⟩) (by assumption) ?s103k16t
        case s103k16y => (intro w hSw; (try dsimp only at hSw); (try simp only [List.getElem_toArray, List.getElem_cons_zero, List.getElem_cons_succ]); go_simp; try with_reducible rfl)
        try simp only [Act.put, List.getElem_toArray, List.getElem_cons_zero, List.getElem_cons_succ, List.setIfInBounds_toArray, List.set_cons_zero, List.set_cons_succ]
        refine wpAnyH_ready (rs := [16]) (by kernel_rfl) (by simp) ?_
        refine AllReadyH.cons rfl (fun K hK => ?_) AllReadyH.nil
        try simp only [List.getElem_toArray, List.getElem_cons_zero, List.getElem_cons_succ]
        go_simp
        ((refine (same_any _ _ b a _ ⟨_, rfl, hnb.below T9.bx.b⟩ ⟨_, rfl, hna.below T9.bx.b⟩ hokb hoka (hE.below T9.bx.b)).mono ?_; rintro e V10 ⟨rfl, hb⟩; have T10 := T9.below hb; clear hb); rw [hba])
        try go_simp
        refine hK.out _ _ ?s103S17 (fun hHeld2 => ?_)
        case s103S17 => (try dsimp only); exact T10.S
        clear hHeld hK K
        have hHeld := hHeld2
        clear hHeld2
        try simp only [Act.put, List.getElem_toArray, List.getElem_cons_zero, List.getElem_cons_succ, List.setIfInBounds_toArray, List.set_cons_zero, List.set_cons_succ]
        refine wpAnyH_take (i := 18) (v := ?s103k18v) rfl (by kernel_rfl) (by kernel_rfl) (by kernel_rfl) (fun _ _ _ h => h) (Or.inl ⟨by rfl, ?s103k18y⟩) (by assumption) ?s103k18t
        case s103k18y => (intro w hSw; (try dsimp only at hSw); (try simp only [List.getElem_toArray, List.getElem_cons_zero, List.getElem_cons_succ]); go_simp; try with_reducible rfl)
        try simp only [Act.put, List.getElem_toArray, List.getElem_cons_zero, List.getElem_cons_succ, List.setIfInBounds_toArray, List.set_cons_zero, List.set_cons_succ]
        refine wpAnyH_take (i := 19) (v := ?s103k19v) rfl (by kernel_rfl) (by kernel_rfl) (by kernel_rfl) (fun _ _ _ h => h) (Or.inl ⟨by rfl, ?s103k19y⟩) (by assumption) ?s103k19t
        case s103k19y => (intro w hSw; (try dsimp only at hSw); (try simp only [List.getElem_toArray, List.getElem_cons_zero, List.getElem_cons_succ]); go_simp; try with_reducible rfl)
        try simp only [Act.put, List.getElem_toArray, List.getElem_cons_zero, List.getElem_cons_succ, List.setIfInBounds_toArray, List.set_cons_zero, List.set_cons_succ]
        refine wpAnyH_take (i := 20) (v := ?s103k20v) rfl (by kernel_rfl) (by kernel_rfl) (by kernel_rfl) (fun _ _ _ h => h) (Or.inl ⟨by rfl, ?s103k20y⟩) (by assumption) ?s103k20t
        case s103k20y => (intro w hSw; (try dsimp only at hSw); (try simp only [List.getElem_toArray, List.getElem_cons_zero, List.getElem_cons_succ]); go_simp; try with_reducible rfl)
        try simp only [Act.put, List.getElem_toArray, List.getElem_cons_zero, List.getElem_cons_succ, List.setIfInBounds_toArray, List.set_cons_zero, List.set_cons_succ]
        refine wpAnyH_take (i := 21) (v := ?s103k21v) rfl (by kernel_rfl) (by kernel_rfl) (by kernel_rfl) (fun _ _ _ h => h) (Or.inl ⟨by rfl, ?s103k21y⟩) (by assumption) ?s103k21t
        case s103k21y => (intro w hSw; (try dsimp only at hSw); (try simp only [List.getElem_toArray, List.getElem_cons_zero, List.getElem_cons_succ]); go_simp; try with_reducible rfl)
        try simp only [Act.put, List.getElem_toArray, List.getElem_cons_zero, List.getElem_cons_succ, List.setIfInBounds_toArray, List.set_cons_zero, List.set_cons_succ]
        refine wpAnyH_take (i := 22) (v := ?s103k22v) rfl (by kernel_rfl) (by kernel_rfl) (by kernel_rfl) (fun _ _ _ h => h) (Or.inl ⟨by rfl, ?s103k22y⟩) (by assumption) ?s103k22t
        case s103k22y => (intro w hSw; (try dsimp only at hSw); (try simp only [List.getElem_toArray, List.getElem_cons_zero, List.getElem_cons_succ]); go_simp; try with_reducible rfl)
        try simp only [Act.put, List.getElem_toArray, List.getElem_cons_zero, List.getElem_cons_succ, List.setIfInBounds_toArray, List.set_cons_zero, List.set_cons_succ]
        refine wpAnyH_take (i := 24) (v := ?s103k23v) rfl (by kernel_rfl) (by kernel_rfl) (by kernel_rfl) (fun _ _ _ h => h) (Or.inl ⟨by rfl, ?s103k23y⟩) (by assumption) ?s103k23t
        case s103k23y => (intro w hSw; (try dsimp only at hSw); (try simp only [List.getElem_toArray, List.getElem_cons_zero, List.getElem_cons_succ]); go_simp; try with_reducible rfl)
        try simp only [Act.put, List.getElem_toArray, List.getElem_cons_zero, List.getElem_cons_succ, List.setIfInBounds_toArray, List.set_cons_zero, List.set_cons_succ]
        refine wpAnyH_ready (rs := [23]) (by kernel_rfl) (by simp) ?_
        refine AllReadyH.cons rfl (fun K hK => ?_) AllReadyH.nil
        try simp only [List.getElem_toArray, List.getElem_cons_zero, List.getElem_cons_succ]
        go_simp
        ((refine (same_any _ _ a a _ ⟨_, rfl, hna.below T10.bx.b⟩ ⟨_, rfl, hna.below T10.bx.b⟩ hoka hoka (hE.below T10.bx.b)).mono ?_; rintro e V11 ⟨rfl, hb⟩; have T11 := T10.below hb; clear hb); rw [haa])
        try go_simp
        refine hK.out _ _ ?s103S24 (fun hHeld2 => ?_)
        case s103S24 => (try dsimp only); exact T11.S
        clear hHeld hK K
        have hHeld := hHeld2
        clear hHeld2
        try simp only [Act.put, List.getElem_toArray, List.getElem_cons_zero, List.getElem_cons_succ, List.setIfInBounds_toArray, List.set_cons_zero, List.set_cons_succ]
        refine wpAnyH_ready (rs := [25]) (by kernel_rfl) (by simp) ?_
        refine AllReadyH.cons rfl (fun K hK => ?_) AllReadyH.nil
        try simp only [List.getElem_toArray, List.getElem_cons_zero, List.getElem_cons_succ]
        go_simp
        ((refine (hra _ ⟨_, rfl, hna.below T11.bx.b⟩ (hE.below T11.bx.b)).mono ?_; rintro e V12 ⟨rfl, hb⟩; have T12 := T11.below hb; clear hb))
        try go_simp
        refine hK.out _ _ ?s103S25 (fun hHeld2 => ?_)
        case s103S25 => (try dsimp only); exact T12.S
        clear hHeld hK K
        have hHeld := hHeld2
        clear hHeld2
        try simp only [Act.put, List.getElem_toArray, List.getElem_cons_zero, List.getElem_cons_succ, List.setIfInBounds_toArray, List.set_cons_zero, List.set_cons_succ]
        refine wpAnyH_take (i := 26) (v := ?s103k26v) rfl (by kernel_rfl) (by kernel_rfl) (by kernel_rfl) (fun _ _ _ h => h) (Or.inl ⟨by rfl, ?s103k26y⟩) (by assumption) ?s103k26t
        case s103k26y => (intro w hSw; (try dsimp only at hSw); (try simp only [List.getElem_toArray, List.getElem_cons_zero, List.getElem_cons_succ]); go_simp; try with_reducible rfl)
        try simp only [Act.put, List.getElem_toArray, List.getElem_cons_zero, List.getElem_cons_succ, List.setIfInBounds_toArray, List.set_cons_zero, List.set_cons_succ]
        refine wpAnyH_take (i := 27) (v := ?s103k27v) rfl (by kernel_rfl) (by kernel_rfl) (by kernel_rfl) (fun _ _ _ h => h) (Or.inl ⟨by rfl, ?s103k27y⟩) (by assumption) ?s103k27t
        case s103k27y => (intro w hSw; (try dsimp only at hSw); (try simp only [List.getElem_toArray, List.getElem_cons_zero, List.getElem_cons_succ]); go_simp; try with_reducible rfl)
        try simp only [Act.put, List.getElem_toArray, List.getElem_cons_zero, List.getElem_cons_succ, List.setIfInBounds_toArray, List.set_cons_zero, List.set_cons_succ]
        refine wpAnyH_done (by kernel_rfl) ?_ _
        go_wp2
        go_ret
        exact ⟨rfl, T12.bx.b⟩
      | true =>
        have haa : sameT a a = true := (same_self a).trans hRA
        have hsx := same_clean hRA
        simp only [hRA] at hra hrx
        refine wp_region_held_drew (S := (fun w' => w'.cell? ⟨w.heap.size, 0, none⟩ = some (.slice pa a.nodes.length ca) ∧ w'.cell? ⟨w.heap.size, 1, none⟩ = some (.int .i64 a.root) ∧ w'.cell? ⟨w.heap.size + 1, 0, none⟩ = some (.slice pb b.nodes.length cb) ∧ w'.cell? ⟨w.heap.size + 1, 1, none⟩ = some (.int .i64 b.root) ∧ w'.cell? ⟨w.heap.size + 1 + 1, 0, none⟩ = some (.slice pc c.nodes.length cc) ∧ w'.cell? ⟨w.heap.size + 1 + 1, 1, none⟩ = some (.int .i64 c.root) ∧ w'.cell? ⟨gX, 0, none⟩ = some (.slice px (cleanT a).nodes.length cx) ∧ w'.cell? ⟨gX, 1, none⟩ = some (.int .i64 (cleanT a).root) ∧ w'.cell? ⟨gY, 0, none⟩ = some (.slice py (cleanT b).nodes.length cy) ∧ w'.cell? ⟨gY, 1, none⟩ = some (.int .i64 (cleanT b).root))) (by kernel_rfl) (T0.S) (fun hHeld => ?_)
        have T0' := T0.drew
        clear T0
        have T0 := T0'
        clear T0'
        refine wpAnyH_take (i := 0) (v := ?s104k0v) rfl (by kernel_rfl) (by kernel_rfl) (by kernel_rfl) (fun _ _ _ h => h) (Or.inl ⟨by rfl, ?s104k0y⟩) (by assumption) ?s104k0t
        case s104k0y => (intro w hSw; (try dsimp only at hSw); (try simp only [List.getElem_toArray, List.getElem_cons_zero]); go_simp; try with_reducible rfl)
        try simp only [Act.put, List.getElem_toArray, List.getElem_cons_zero, List.setIfInBounds_toArray, List.set_cons_zero, List.set_cons_succ]
        refine wpAnyH_take (i := 2) (v := ?s104k1v) rfl (by kernel_rfl) (by kernel_rfl) (by kernel_rfl) (fun _ _ _ h => h) (Or.inl ⟨by rfl, ?s104k1y⟩) (by assumption) ?s104k1t
        case s104k1y => (intro w hSw; (try dsimp only at hSw); (try simp only [List.getElem_toArray, List.getElem_cons_zero, List.getElem_cons_succ]); go_simp; try with_reducible rfl)
        try simp only [Act.put, List.getElem_toArray, List.getElem_cons_zero, List.getElem_cons_succ, List.setIfInBounds_toArray, List.set_cons_zero, List.set_cons_succ]
        refine wpAnyH_ready (rs := [1]) (by kernel_rfl) (by simp) ?_
        refine AllReadyH.cons rfl (fun K hK => ?_) AllReadyH.nil
        try simp only [List.getElem_toArray, List.getElem_cons_zero, List.getElem_cons_succ]
        go_simp
        ((refine (hra _ ⟨_, rfl, hna.below T0.bx.b⟩ (hE.below T0.bx.b)).mono ?_; rintro e V1 ⟨rfl, hb⟩; have T1 := T0.below hb; clear hb))
        try go_simp
        refine hK.out _ _ ?s104S2 (fun hHeld2 => ?_)
        case s104S2 => (try dsimp only); exact T1.S
        clear hHeld hK K
        have hHeld := hHeld2
        clear hHeld2
        try simp only [Act.put, List.getElem_toArray, List.getElem_cons_zero, List.getElem_cons_succ, List.setIfInBounds_toArray, List.set_cons_zero, List.set_cons_succ]
        refine wpAnyH_ready (rs := [3]) (by kernel_rfl) (by simp) ?_
        refine AllReadyH.cons rfl (fun K hK => ?_) AllReadyH.nil
        try simp only [List.getElem_toArray, List.getElem_cons_zero, List.getElem_cons_succ]
        go_simp
        ((refine (hrx _ ⟨_, rfl, T1.nx⟩ (hE.below T1.bx.b)).mono ?_; rintro e V2 ⟨rfl, hb⟩; have T2 := T1.below hb; clear hb))
        try go_simp
        refine hK.out _ _ ?s104S3 (fun hHeld2 => ?_)
        case s104S3 => (try dsimp only); exact T2.S
        clear hHeld hK K
        have hHeld := hHeld2
        clear hHeld2
        try simp only [Act.put, List.getElem_toArray, List.getElem_cons_zero, List.getElem_cons_succ, List.setIfInBounds_toArray, List.set_cons_zero, List.set_cons_succ]
        refine wpAnyH_take (i := 4) (v := ?s104k4v) rfl (by kernel_rfl) (by kernel_rfl) (by kernel_rfl) (fun _ _ _ h => h) (Or.inl ⟨by rfl, ?s104k4y⟩) (by assumption) ?s104k4t
        case s104k4y => (intro w hSw; (try dsimp only at hSw); (try simp only [List.getElem_toArray, List.getElem_cons_zero, List.getElem_cons_succ]); go_simp; try with_reducible rfl)
        try simp only [Act.put, List.getElem_toArray, List.getElem_cons_zero, List.getElem_cons_succ, List.setIfInBounds_toArray, List.set_cons_zero, List.set_cons_succ]
        refine wpAnyH_take (i := 5) (v := ?s104k5v) rfl (by kernel_rfl) (by kernel_rfl) (by kernel_rfl) (fun _ _ _ h => h) (Or.inl ⟨by rfl, ?s104k5y⟩) (by assumption) ?s104k5t
        case s104k5y => (intro w hSw; (try dsimp only at hSw); (try simp only [List.getElem_toArray, List.getElem_cons_zero, List.getElem_cons_succ]); go_simp; try with_reducible rfl)
        try simp only [Act.put, List.getElem_toArray, List.getElem_cons_zero, List.getElem_cons_succ, List.setIfInBounds_toArray, List.set_cons_zero, List.set_cons_succ]
        refine wpAnyH_take (i := 6) (v := ?s104k6v) rfl (by kernel_rfl) (by kernel_rfl) (by kernel_rfl) (fun _ _ _ h => h) (Or.inl ⟨by rfl, ?s104k6y⟩) (by assumption) ?s104k6t
        case s104k6y => (intro w hSw; (try dsimp only at hSw); (try simp only [List.getElem_toArray, List.getElem_cons_zero, List.getElem_cons_succ]); go_simp; try with_reducible rfl)
        try simp only [Act.put, List.getElem_toArray, List.getElem_cons_zero, List.getElem_cons_succ, List.setIfInBounds_toArray, List.set_cons_zero, List.set_cons_succ]
        refine wpAnyH_take (i := 8) (v := ?s104k7v) rfl (by kernel_rfl) (by kernel_rfl) (by kernel_rfl) (fun _ _ _ h => h) (Or.inl ⟨by rfl, ?s104k7y⟩) (by assumption) ?s104k7t
        case s104k7y => (intro w hSw; (try dsimp only at hSw); (try simp only [List.getElem_toArray, List.getElem_cons_zero, List.getElem_cons_succ]); go_simp; try with_reducible rfl)
        try simp only [Act.put, List.getElem_toArray, List.getElem_cons_zero, List.getElem_cons_succ, List.setIfInBounds_toArray, List.set_cons_zero, List.set_cons_succ]
        refine wpAnyH_ready (rs := [7]) (by kernel_rfl) (by simp) ?_
        refine AllReadyH.cons rfl (fun K hK => ?_) AllReadyH.nil
        try simp only [List.getElem_toArray, List.getElem_cons_zero, List.getElem_cons_succ]
        go_simp
        ((refine (clean_at _ (cleanT a) _ ⟨_, rfl, T2.nx⟩ (ok_clean hoka) (hE.below T2.bx.b)).mono ?_; rintro e V3 ⟨pz, cz, Cz, rfl, mz, hhz, hb⟩; have T3 := T2.below hb; clear hb); have nz3 := mz.nodes; rw [hhz] at nz3)
        try go_simp
        refine hK.out _ _ ?s104S8 (fun hHeld2 => ?_)
        case s104S8 => (try dsimp only); exact T3.S
        clear hHeld hK K
        have hHeld := hHeld2
        clear hHeld2
        try simp only [Act.put, List.getElem_toArray, List.getElem_cons_zero, List.getElem_cons_succ, List.setIfInBounds_toArray, List.set_cons_zero, List.set_cons_succ]
        refine wpAnyH_ready (rs := [9]) (by kernel_rfl) (by simp) ?_
        refine AllReadyH.cons rfl (fun K hK => ?_) AllReadyH.nil
        try simp only [List.getElem_toArray, List.getElem_cons_zero, List.getElem_cons_succ]
        go_simp
        ((refine (exact_any _ _ (cleanT (cleanT a)) (cleanT a) _ ⟨_, rfl, nz3⟩ ⟨_, rfl, T3.nx⟩ (ok_clean (ok_clean hoka))).mono ?_; rintro e V4 ⟨rfl, hb⟩; have T4 := T3.below hb; clear hb); rw [clean_clean, exact_self])
        try go_simp
        refine hK.out _ _ ?s104S9 (fun hHeld2 => ?_)
        case s104S9 => (try dsimp only); exact T4.S
        clear hHeld hK K
        have hHeld := hHeld2
        clear hHeld2
        try simp only [Act.put, List.getElem_toArray, List.getElem_cons_zero, List.getElem_cons_succ, List.setIfInBounds_toArray, List.set_cons_zero, List.set_cons_succ]
        refine wpAnyH_take (i := 10) (v := ?s104k10v) rfl (by kernel_rfl) (by kernel_rfl) (by kernel_rfl) (fun _ _ _ h => h) (Or.inl ⟨by rfl, ?s104k10y⟩) (by assumption) ?s104k10t
        case s104k10y => (intro w hSw; (try dsimp only at hSw); (try simp only [List.getElem_toArray, List.getElem_cons_zero, List.getElem_cons_succ]); go_simp; try with_reducible rfl)
        try simp only [Act.put, List.getElem_toArray, List.getElem_cons_zero, List.getElem_cons_succ, List.setIfInBounds_toArray, List.set_cons_zero, List.set_cons_succ]
        refine wpAnyH_take (i := 11) (v := ?s104k11v) rfl (by kernel_rfl) (by kernel_rfl) (by kernel_rfl) (fun _ _ _ h => h) (Or.inl ⟨by rfl, ?s104k11y⟩) (by assumption) ?s104k11t
        case s104k11y => (intro w hSw; (try dsimp only at hSw); (try simp only [List.getElem_toArray, List.getElem_cons_zero, List.getElem_cons_succ]); go_simp; try with_reducible rfl)
        try simp only [Act.put, List.getElem_toArray, List.getElem_cons_zero, List.getElem_cons_succ, List.setIfInBounds_toArray, List.set_cons_zero, List.set_cons_succ]
        refine wpAnyH_take (i := 12) (v := ?s104k12v) rfl (by kernel_rfl) (by kernel_rfl) (by kernel_rfl) (fun _ _ _ h => h) (Or.inl ⟨by rfl, ?s104k12y⟩) (by assumption) ?s104k12t
        case s104k12y => (intro w hSw; (try dsimp only at hSw); (try simp only [List.getElem_toArray, List.getElem_cons_zero, List.getElem_cons_succ]); go_simp; try with_reducible rfl)
        try simp only [Act.put, List.getElem_toArray, List.getElem_cons_zero, List.getElem_cons_succ, List.setIfInBounds_toArray, List.set_cons_zero, List.set_cons_succ]
        refine wpAnyH_take (i := 13) (v := ?s104k13v) rfl (by kernel_rfl) (by kernel_rfl) (by kernel_rfl) (fun _ _ _ h => h) (Or.inl ⟨by rfl, ?s104k13y⟩) (by assumption) ?s104k13t
        case s104k13y => (intro w hSw; (try dsimp only at hSw); (try simp only [List.getElem_toArray, List.getElem_cons_zero, List.getElem_cons_succ]); go_simp; try with_reducible rfl)
        try simp only [Act.put, List.getElem_toArray, List.getElem_cons_zero, List.getElem_cons_succ, List.setIfInBounds_toArray, List.set_cons_zero, List.set_cons_succ]
        refine wpAnyH_ready (rs := [14]) (by kernel_rfl) (by simp) ?_
        refine AllReadyH.cons rfl (fun K hK => ?_) AllReadyH.nil
        try simp only [List.getElem_toArray, List.getElem_cons_zero, List.getElem_cons_succ]
        go_simp
        ((refine (hra _ ⟨_, rfl, hna.below T4.bx.b⟩ (hE.below T4.bx.b)).mono ?_; rintro e V5 ⟨rfl, hb⟩; have T5 := T4.below hb; clear hb))
        try go_simp
        refine hK.out _ _ ?s104S14 (fun hHeld2 => ?_)
        case s104S14 => (try dsimp only); exact T5.S
        clear hHeld hK K
        have hHeld := hHeld2
        clear hHeld2
        try simp only [Act.put, List.getElem_toArray, List.getElem_cons_zero, List.getElem_cons_succ, List.setIfInBounds_toArray, List.set_cons_zero, List.set_cons_succ]
        refine wpAnyH_take (i := 15) (v := ?s104k15v) rfl (by kernel_rfl) (by kernel_rfl) (by kernel_rfl) (fun _ _ _ h => h) (Or.inl ⟨by rfl, ?s104k15y⟩) (by assumption) ?s104k15t
        case s104k15y => (intro w hSw; (try dsimp only at hSw); (try simp only [List.getElem_toArray, List.getElem_cons_zero, List.getElem_cons_succ]); go_simp; try with_reducible rfl)
        try simp only [Act.put, List.getElem_toArray, List.getElem_cons_zero, List.getElem_cons_succ, List.setIfInBounds_toArray, List.set_cons_zero, List.set_cons_succ]
        refine wpAnyH_take (i := 16) (v := ?s104k16v) rfl (by kernel_rfl) (by kernel_rfl) (by kernel_rfl) (fun _ _ _ h => h) (Or.inl ⟨by rfl, ?s104k16y⟩) (by assumption) ?s104k16t
        case s104k16y => (intro w hSw; (try dsimp only at hSw); (try simp only [List.getElem_toArray, List.getElem_cons_zero, List.getElem_cons_succ]); go_simp; try with_reducible rfl)
        try simp only [Act.put, List.getElem_toArray, List.getElem_cons_zero, List.getElem_cons_succ, List.setIfInBounds_toArray, List.set_cons_zero, List.set_cons_succ]
        refine wpAnyH_take (i := 17) (v := ?s104k17v) rfl (by kernel_rfl) (by kernel_rfl) (by kernel_rfl) (fun _ _ _ h => h) (Or.inl ⟨by rfl, ?s104k17y⟩) (by assumption) ?s104k17t
        case s104k17y => (intro w hSw; (try dsimp only at hSw); (try simp only [List.getElem_toArray, List.getElem_cons_zero, List.getElem_cons_succ]); go_simp; try with_reducible rfl)
        try simp only [Act.put, List.getElem_toArray, List.getElem_cons_zero, List.getElem_cons_succ, List.setIfInBounds_toArray, List.set_cons_zero, List.set_cons_succ]
        refine wpAnyH_ready (rs := [18]) (by kernel_rfl) (by simp) ?_
        refine AllReadyH.cons rfl (fun K hK => ?_) AllReadyH.nil
        try simp only [List.getElem_toArray, List.getElem_cons_zero, List.getElem_cons_succ]
        go_simp
        ((refine (same_any _ _ a (cleanT a) _ ⟨_, rfl, hna.below T5.bx.b⟩ ⟨_, rfl, T5.nx⟩ hoka (ok_clean hoka) (hE.below T5.bx.b)).mono ?_; rintro e V6 ⟨rfl, hb⟩; have T6 := T5.below hb; clear hb); rw [hsx])
        try go_simp
        refine hK.out _ _ ?s104S18 (fun hHeld2 => ?_)
        case s104S18 => (try dsimp only); exact T6.S
        clear hHeld hK K
        have hHeld := hHeld2
        clear hHeld2
        try simp only [Act.put, List.getElem_toArray, List.getElem_cons_zero, List.getElem_cons_succ, List.setIfInBounds_toArray, List.set_cons_zero, List.set_cons_succ]
        refine wpAnyH_take (i := 19) (v := ?s104k19v) rfl (by kernel_rfl) (by kernel_rfl) (by kernel_rfl) (fun _ _ _ h => h) (Or.inl ⟨by rfl, ?s104k19y⟩) (by assumption) ?s104k19t
        case s104k19y => (intro w hSw; (try dsimp only at hSw); (try simp only [List.getElem_toArray, List.getElem_cons_zero, List.getElem_cons_succ]); go_simp; try with_reducible rfl)
        try simp only [Act.put, List.getElem_toArray, List.getElem_cons_zero, List.getElem_cons_succ, List.setIfInBounds_toArray, List.set_cons_zero, List.set_cons_succ]
        refine wpAnyH_take (i := 20) (v := ?s104k20v) rfl (by kernel_rfl) (by kernel_rfl) (by kernel_rfl) (fun _ _ _ h => h) (Or.inl ⟨by rfl, ?s104k20y⟩) (by assumption) ?s104k20t
        case s104k20y => (intro w hSw; (try dsimp only at hSw); (try simp only [List.getElem_toArray, List.getElem_cons_zero, List.getElem_cons_succ]); go_simp; try with_reducible rfl)
        try simp only [Act.put, List.getElem_toArray, List.getElem_cons_zero, List.getElem_cons_succ, List.setIfInBounds_toArray, List.set_cons_zero, List.set_cons_succ]
        refine wpAnyH_take (i := 21) (v := ?s104k21v) rfl (by kernel_rfl) (by kernel_rfl) (by kernel_rfl) (fun _ _ _ h => h) (Or.inl ⟨by rfl, ?s104k21y⟩) (by assumption) ?s104k21t
        case s104k21y => (intro w hSw; (try dsimp only at hSw); (try simp only [List.getElem_toArray, List.getElem_cons_zero, List.getElem_cons_succ]); go_simp; try with_reducible rfl)
        try simp only [Act.put, List.getElem_toArray, List.getElem_cons_zero, List.getElem_cons_succ, List.setIfInBounds_toArray, List.set_cons_zero, List.set_cons_succ]
        refine wpAnyH_done (by kernel_rfl) ?_ _
        go_wp2
        refine wp_region_held_drew (S := (fun w' => w'.cell? ⟨w.heap.size, 0, none⟩ = some (.slice pa a.nodes.length ca) ∧ w'.cell? ⟨w.heap.size, 1, none⟩ = some (.int .i64 a.root) ∧ w'.cell? ⟨w.heap.size + 1, 0, none⟩ = some (.slice pb b.nodes.length cb) ∧ w'.cell? ⟨w.heap.size + 1, 1, none⟩ = some (.int .i64 b.root) ∧ w'.cell? ⟨w.heap.size + 1 + 1, 0, none⟩ = some (.slice pc c.nodes.length cc) ∧ w'.cell? ⟨w.heap.size + 1 + 1, 1, none⟩ = some (.int .i64 c.root) ∧ w'.cell? ⟨gX, 0, none⟩ = some (.slice px (cleanT a).nodes.length cx) ∧ w'.cell? ⟨gX, 1, none⟩ = some (.int .i64 (cleanT a).root) ∧ w'.cell? ⟨gY, 0, none⟩ = some (.slice py (cleanT b).nodes.length cy) ∧ w'.cell? ⟨gY, 1, none⟩ = some (.int .i64 (cleanT b).root))) (by kernel_rfl) (T6.S) (fun hHeld => ?_)
        have T6' := T6.drew
        clear T6
        have T6 := T6'
        clear T6'
        refine wpAnyH_take (i := 0) (v := ?s105k0v) rfl (by kernel_rfl) (by kernel_rfl) (by kernel_rfl) (fun _ _ _ h => h) (Or.inl ⟨by rfl, ?s105k0y⟩) (by assumption) ?s105k0t
        case s105k0y => (intro w hSw; (try dsimp only at hSw); (try simp only [List.getElem_toArray, List.getElem_cons_zero]); go_simp; try with_reducible rfl)
        try simp only [Act.put, List.getElem_toArray, List.getElem_cons_zero, List.setIfInBounds_toArray, List.set_cons_zero, List.set_cons_succ]
        refine wpAnyH_take (i := 1) (v := ?s105k1v) rfl (by kernel_rfl) (by kernel_rfl) (by kernel_rfl) (fun _ _ _ h => h) (Or.inl ⟨by rfl, ?s105k1y⟩) (by assumption) ?s105k1t
        case s105k1y => (intro w hSw; (try dsimp only at hSw); (try simp only [List.getElem_toArray, List.getElem_cons_zero, List.getElem_cons_succ]); go_simp; try with_reducible rfl)
        try simp only [Act.put, List.getElem_toArray, List.getElem_cons_zero, List.getElem_cons_succ, List.setIfInBounds_toArray, List.set_cons_zero, List.set_cons_succ]
        refine wpAnyH_take (i := 3) (v := ?s105k2v) rfl (by kernel_rfl) (by kernel_rfl) (by kernel_rfl) (fun _ _ _ h => h) (Or.inl ⟨by rfl, ?s105k2y⟩) (by assumption) ?s105k2t
        case s105k2y => (intro w hSw; (try dsimp only at hSw); (try simp only [List.getElem_toArray, List.getElem_cons_zero, List.getElem_cons_succ]); go_simp; try with_reducible rfl)
        try simp only [Act.put, List.getElem_toArray, List.getElem_cons_zero, List.getElem_cons_succ, List.setIfInBounds_toArray, List.set_cons_zero, List.set_cons_succ]
        refine wpAnyH_take (i := 4) (v := ?s105k3v) rfl (by kernel_rfl) (by kernel_rfl) (by kernel_rfl) (fun _ _ _ h => h) (Or.inl ⟨by rfl, ?s105k3y⟩) (by assumption) ?s105k3t
        case s105k3y => (intro w hSw; (try dsimp only at hSw); (try simp only [List.getElem_toArray, List.getElem_cons_zero, List.getElem_cons_succ]); go_simp; try with_reducible rfl)
        try simp only [Act.put, List.getElem_toArray, List.getElem_cons_zero, List.getElem_cons_succ, List.setIfInBounds_toArray, List.set_cons_zero, List.set_cons_succ]
        refine wpAnyH_take (i := 6) (v := ?s105k4v) rfl (by kernel_rfl) (by kernel_rfl) (by kernel_rfl) (fun _ _ _ h => h) (Or.inl ⟨by rfl, ?s105k4y⟩) (by assumption) ?s105k4t
        case s105k4y => (intro w hSw; (try dsimp only at hSw); (try simp only [List.getElem_toArray, List.getElem_cons_zero, List.getElem_cons_succ]); go_simp; try with_reducible rfl)
        try simp only [Act.put, List.getElem_toArray, List.getElem_cons_zero, List.getElem_cons_succ, List.setIfInBounds_toArray, List.set_cons_zero, List.set_cons_succ]
        refine wpAnyH_take (i := 7) (v := ?s105k5v) rfl (by kernel_rfl) (by kernel_rfl) (by kernel_rfl) (fun _ _ _ h => h) (Or.inl ⟨by rfl, ?s105k5y⟩) (by assumption) ?s105k5t
        case s105k5y => (intro w hSw; (try dsimp only at hSw); (try simp only [List.getElem_toArray, List.getElem_cons_zero, List.getElem_cons_succ]); go_simp; try with_reducible rfl)
        try simp only [Act.put, List.getElem_toArray, List.getElem_cons_zero, List.getElem_cons_succ, List.setIfInBounds_toArray, List.set_cons_zero, List.set_cons_succ]
        refine wpAnyH_ready (rs := [2]) (by kernel_rfl) (by simp) ?_
        refine AllReadyH.cons rfl (fun K hK => ?_) AllReadyH.nil
        try simp only [List.getElem_toArray, List.getElem_cons_zero, List.getElem_cons_succ]
        go_simp
        ((refine (same_any _ _ a b _ ⟨_, rfl, hna.below T6.bx.b⟩ ⟨_, rfl, hnb.below T6.bx.b⟩ hoka hokb (hE.below T6.bx.b)).mono ?_; rintro e V7 ⟨rfl, hb⟩; have T7 := T6.below hb; clear hb); rw [hab])
        try go_simp
        refine hK.out _ _ ?s105S6 (fun hHeld2 => ?_)
        case s105S6 => (try dsimp only); exact T7.S
        clear hHeld hK K
        have hHeld := hHeld2
        clear hHeld2
        try simp only [Act.put, List.getElem_toArray, List.getElem_cons_zero, List.getElem_cons_succ, List.setIfInBounds_toArray, List.set_cons_zero, List.set_cons_succ]
        refine wpAnyH_ready (rs := [5]) (by kernel_rfl) (by simp) ?_
        refine AllReadyH.cons rfl (fun K hK => ?_) AllReadyH.nil
        try simp only [List.getElem_toArray, List.getElem_cons_zero, List.getElem_cons_succ]
        go_simp
        ((refine (same_any _ _ b c _ ⟨_, rfl, hnb.below T7.bx.b⟩ ⟨_, rfl, hnc.below T7.bx.b⟩ hokb hokc (hE.below T7.bx.b)).mono ?_; rintro e V8 ⟨rfl, hb⟩; have T8 := T7.below hb; clear hb); rw [hbc])
        try go_simp
        refine hK.out _ _ ?s105S7 (fun hHeld2 => ?_)
        case s105S7 => (try dsimp only); exact T8.S
        clear hHeld hK K
        have hHeld := hHeld2
        clear hHeld2
        try simp only [Act.put, List.getElem_toArray, List.getElem_cons_zero, List.getElem_cons_succ, List.setIfInBounds_toArray, List.set_cons_zero, List.set_cons_succ]
        refine wpAnyH_ready (rs := [8]) (by kernel_rfl) (by simp) ?_
        refine AllReadyH.cons rfl (fun K hK => ?_) AllReadyH.nil
        try simp only [List.getElem_toArray, List.getElem_cons_zero, List.getElem_cons_succ]
        go_simp
        ((refine (same_any _ _ a c _ ⟨_, rfl, hna.below T8.bx.b⟩ ⟨_, rfl, hnc.below T8.bx.b⟩ hoka hokc (hE.below T8.bx.b)).mono ?_; rintro e V9 ⟨rfl, hb⟩; have T9 := T8.below hb; clear hb); rw [hac])
        try go_simp
        refine hK.out _ _ ?s105S8 (fun hHeld2 => ?_)
        case s105S8 => (try dsimp only); exact T9.S
        clear hHeld hK K
        have hHeld := hHeld2
        clear hHeld2
        try simp only [Act.put, List.getElem_toArray, List.getElem_cons_zero, List.getElem_cons_succ, List.setIfInBounds_toArray, List.set_cons_zero, List.set_cons_succ]
        refine wpAnyH_take (i := 9) (v := ?s105k9v) rfl (by kernel_rfl) (by kernel_rfl) (by kernel_rfl) (fun _ _ _ h => h) (Or.inl ⟨by rfl, ?s105k9y⟩) (by assumption) ?s105k9t
        case s105k9y => (intro w hSw; (try dsimp only at hSw); (try simp only [List.getElem_toArray, List.getElem_cons_zero, List.getElem_cons_succ]); go_simp; try with_reducible rfl)
        try simp only [Act.put, List.getElem_toArray, List.getElem_cons_zero, List.getElem_cons_succ, List.setIfInBounds_toArray, List.set_cons_zero, List.set_cons_succ]
        refine wpAnyH_take (i := 10) (v := ?s105k10v) rfl (by kernel_rfl) (by kernel_rfl) (by kernel_rfl) (fun _ _ _ h => h) (Or.inl ⟨by rfl, ?s105k10y⟩) (by assumption) ?s105k10t
        case s105k10y => (intro w hSw; (try dsimp only at hSw); (try simp only [List.getElem_toArray, List.getElem_cons_zero, List.getElem_cons_succ]); go_simp; try with_reducible rfl)
        try simp only [Act.put, List.getElem_toArray, List.getElem_cons_zero, List.getElem_cons_succ, List.setIfInBounds_toArray, List.set_cons_zero, List.set_cons_succ]
        refine wpAnyH_take (i := 11) (v := ?s105k11v) rfl (by kernel_rfl) (by kernel_rfl) (by kernel_rfl) (fun _ _ _ h => h) (Or.inl ⟨by rfl, ?s105k11y⟩) (by assumption) ?s105k11t
        case s105k11y => (intro w hSw; (try dsimp only at hSw); (try simp only [List.getElem_toArray, List.getElem_cons_zero, List.getElem_cons_succ]); go_simp; try with_reducible rfl)
        try simp only [Act.put, List.getElem_toArray, List.getElem_cons_zero, List.getElem_cons_succ, List.setIfInBounds_toArray, List.set_cons_zero, List.set_cons_succ]
        refine wpAnyH_done (by kernel_rfl) ?_ _
        go_wp2
        cases hRB : rightB b with
        | false =>
          simp only [hRB] at hrb
          obtain rfl : ab = false := by
            rw [← hab]
            unfold sameT
            rw [hRB]
            simp
          refine wp_region_held_drew (S := (fun w' => w'.cell? ⟨w.heap.size, 0, none⟩ = some (.slice pa a.nodes.length ca) ∧ w'.cell? ⟨w.heap.size, 1, none⟩ = some (.int .i64 a.root) ∧ w'.cell? ⟨w.heap.size + 1, 0, none⟩ = some (.slice pb b.nodes.length cb) ∧ w'.cell? ⟨w.heap.size + 1, 1, none⟩ = some (.int .i64 b.root) ∧ w'.cell? ⟨w.heap.size + 1 + 1, 0, none⟩ = some (.slice pc c.nodes.length cc) ∧ w'.cell? ⟨w.heap.size + 1 + 1, 1, none⟩ = some (.int .i64 c.root) ∧ w'.cell? ⟨gX, 0, none⟩ = some (.slice px (cleanT a).nodes.length cx) ∧ w'.cell? ⟨gX, 1, none⟩ = some (.int .i64 (cleanT a).root) ∧ w'.cell? ⟨gY, 0, none⟩ = some (.slice py (cleanT b).nodes.length cy) ∧ w'.cell? ⟨gY, 1, none⟩ = some (.int .i64 (cleanT b).root))) (by kernel_rfl) (T9.S) (fun hHeld => ?_)
          have T9' := T9.drew
          clear T9
          have T9 := T9'
          clear T9'
          refine wpAnyH_take (i := 0) (v := ?s106k0v) rfl (by kernel_rfl) (by kernel_rfl) (by kernel_rfl) (fun _ _ _ h => h) (Or.inl ⟨by rfl, ?s106k0y⟩) (by assumption) ?s106k0t
          case s106k0y => (intro w hSw; (try dsimp only at hSw); (try simp only [List.getElem_toArray, List.getElem_cons_zero]); go_simp; try with_reducible rfl)
          try simp only [Act.put, List.getElem_toArray, List.getElem_cons_zero, List.setIfInBounds_toArray, List.set_cons_zero, List.set_cons_succ]
          refine wpAnyH_take (i := 1) (v := ?s106k1v) rfl (by kernel_rfl) (by kernel_rfl) (by kernel_rfl) (fun _ _ _ h => h) (Or.inl ⟨by rfl, ?s106k1y⟩) (by assumption) ?s106k1t
          case s106k1y => (intro w hSw; (try dsimp only at hSw); (try simp only [List.getElem_toArray, List.getElem_cons_zero, List.getElem_cons_succ]); go_simp; try with_reducible rfl)
          try simp only [Act.put, List.getElem_toArray, List.getElem_cons_zero, List.getElem_cons_succ, List.setIfInBounds_toArray, List.set_cons_zero, List.set_cons_succ]
          refine wpAnyH_ready (rs := [2]) (by kernel_rfl) (by simp) ?_
          refine AllReadyH.cons rfl (fun K hK => ?_) AllReadyH.nil
          try simp only [List.getElem_toArray, List.getElem_cons_zero, List.getElem_cons_succ]
          go_simp
          ((refine (hra _ ⟨_, rfl, hna.below T9.bx.b⟩ (hE.below T9.bx.b)).mono ?_; rintro e V10 ⟨rfl, hb⟩; have T10 := T9.below hb; clear hb))
          try go_simp
          refine hK.out _ _ ?s106S2 (fun hHeld2 => ?_)
          case s106S2 => (try dsimp only); exact T10.S
          clear hHeld hK K
          have hHeld := hHeld2
          clear hHeld2
          try simp only [Act.put, List.getElem_toArray, List.getElem_cons_zero, List.getElem_cons_succ, List.setIfInBounds_toArray, List.set_cons_zero, List.set_cons_succ]
          refine wpAnyH_take (i := 3) (v := ?s106k3v) rfl (by kernel_rfl) (by kernel_rfl) (by kernel_rfl) (fun _ _ _ h => h) (Or.inl ⟨by rfl, ?s106k3y⟩) (by assumption) ?s106k3t
          case s106k3y => (intro w hSw; (try dsimp only at hSw); (try simp only [List.getElem_toArray, List.getElem_cons_zero, List.getElem_cons_succ]); go_simp; try with_reducible rfl)
          try simp only [Act.put, List.getElem_toArray, List.getElem_cons_zero, List.getElem_cons_succ, List.setIfInBounds_toArray, List.set_cons_zero, List.set_cons_succ]
          refine wpAnyH_take (i := 4) (v := ?s106k4v) rfl (by kernel_rfl) (by kernel_rfl) (by kernel_rfl) (fun _ _ _ h => h) (Or.inl ⟨by rfl, ?s106k4y⟩) (by assumption) ?s106k4t
          case s106k4y => (intro w hSw; (try dsimp only at hSw); (try simp only [List.getElem_toArray, List.getElem_cons_zero, List.getElem_cons_succ]); go_simp; try with_reducible rfl)
          try simp only [Act.put, List.getElem_toArray, List.getElem_cons_zero, List.getElem_cons_succ, List.setIfInBounds_toArray, List.set_cons_zero, List.set_cons_succ]
          refine wpAnyH_ready (rs := [5]) (by kernel_rfl) (by simp) ?_
          refine AllReadyH.cons rfl (fun K hK => ?_) AllReadyH.nil
          try simp only [List.getElem_toArray, List.getElem_cons_zero, List.getElem_cons_succ]
          go_simp
          ((refine (hrb _ ⟨_, rfl, hnb.below T10.bx.b⟩ (hE.below T10.bx.b)).mono ?_; rintro e V11 ⟨rfl, hb⟩; have T11 := T10.below hb; clear hb))
          try go_simp
          refine hK.out _ _ ?s106S5 (fun hHeld2 => ?_)
          case s106S5 => (try dsimp only); exact T11.S
          clear hHeld hK K
          have hHeld := hHeld2
          clear hHeld2
          try simp only [Act.put, List.getElem_toArray, List.getElem_cons_zero, List.getElem_cons_succ, List.setIfInBounds_toArray, List.set_cons_zero, List.set_cons_succ]
          refine wpAnyH_take (i := 6) (v := ?s106k6v) rfl (by kernel_rfl) (by kernel_rfl) (by kernel_rfl) (fun _ _ _ h => h) (Or.inl ⟨by rfl, ?s106k6y⟩) (by assumption) ?s106k6t
          case s106k6y => (intro w hSw; (try dsimp only at hSw); (try simp only [List.getElem_toArray, List.getElem_cons_zero, List.getElem_cons_succ]); go_simp; try with_reducible rfl)
          try simp only [Act.put, List.getElem_toArray, List.getElem_cons_zero, List.getElem_cons_succ, List.setIfInBounds_toArray, List.set_cons_zero, List.set_cons_succ]
          refine wpAnyH_take (i := 7) (v := ?s106k7v) rfl (by kernel_rfl) (by kernel_rfl) (by kernel_rfl) (fun _ _ _ h => h) (Or.inl ⟨by rfl, ?s106k7y⟩) (by assumption) ?s106k7t
          case s106k7y => (intro w hSw; (try dsimp only at hSw); (try simp only [List.getElem_toArray, List.getElem_cons_zero, List.getElem_cons_succ]); go_simp; try with_reducible rfl)
          try simp only [Act.put, List.getElem_toArray, List.getElem_cons_zero, List.getElem_cons_succ, List.setIfInBounds_toArray, List.set_cons_zero, List.set_cons_succ]
          refine wpAnyH_take (i := 8) (v := undef) rfl (by kernel_rfl) (by kernel_rfl) (by kernel_rfl) (fun _ _ _ h => h) (Or.inr ⟨by rfl, rfl⟩) (by assumption) ?_
          try simp only [Act.put, List.getElem_toArray, List.getElem_cons_zero, List.getElem_cons_succ, List.setIfInBounds_toArray, List.set_cons_zero, List.set_cons_succ]
          refine wpAnyH_take (i := 9) (v := undef) rfl (by kernel_rfl) (by kernel_rfl) (by kernel_rfl) (fun _ _ _ h => h) (Or.inr ⟨by rfl, rfl⟩) (by assumption) ?_
          try simp only [Act.put, List.getElem_toArray, List.getElem_cons_zero, List.getElem_cons_succ, List.setIfInBounds_toArray, List.set_cons_zero, List.set_cons_succ]
          refine wpAnyH_take (i := 10) (v := undef) rfl (by kernel_rfl) (by kernel_rfl) (by kernel_rfl) (fun _ _ _ h => h) (Or.inr ⟨by rfl, rfl⟩) (by assumption) ?_
          try simp only [Act.put, List.getElem_toArray, List.getElem_cons_zero, List.getElem_cons_succ, List.setIfInBounds_toArray, List.set_cons_zero, List.set_cons_succ]
          refine wpAnyH_take (i := 11) (v := ?s106k11v) rfl (by kernel_rfl) (by kernel_rfl) (by kernel_rfl) (fun _ _ _ h => h) (Or.inl ⟨by rfl, ?s106k11y⟩) (by assumption) ?s106k11t
          case s106k11y => (intro w hSw; (try dsimp only at hSw); (try simp only [List.getElem_toArray, List.getElem_cons_zero, List.getElem_cons_succ]); go_simp; try with_reducible rfl)
          try simp only [Act.put, List.getElem_toArray, List.getElem_cons_zero, List.getElem_cons_succ, List.setIfInBounds_toArray, List.set_cons_zero, List.set_cons_succ]
          refine wpAnyH_take (i := 12) (v := ?s106k12v) rfl (by kernel_rfl) (by kernel_rfl) (by kernel_rfl) (fun _ _ _ h => h) (Or.inl ⟨by rfl, ?s106k12y⟩) (by assumption) ?s106k12t
          case s106k12y => (intro w hSw; (try dsimp only at hSw); (try simp only [List.getElem_toArray, List.getElem_cons_zero, List.getElem_cons_succ]); go_simp; try with_reducible rfl)
          try simp only [Act.put, List.getElem_toArray, List.getElem_cons_zero, List.getElem_cons_succ, List.setIfInBounds_toArray, List.set_cons_zero, List.set_cons_succ]
          refine wpAnyH_take (i := 13) (v := ?s106k13v) rfl (by kernel_rfl) (by kernel_rfl) (by kernel_rfl) (fun _ _ _ h => h) (Or.inl ⟨by rfl, ?s106k13y⟩) (by assumption) ?s106k13t
          case s106k13y => (intro w hSw; (try dsimp only at hSw); (try simp only [List.getElem_toArray, List.getElem_cons_zero, List.getElem_cons_succ]); go_simp; try with_reducible rfl)
          try simp only [Act.put, List.getElem_toArray, List.getElem_cons_zero, List.getElem_cons_succ, List.setIfInBounds_toArray, List.set_cons_zero, List.set_cons_succ]
          refine wpAnyH_take (i := 14) (v := ?s106k14v) rfl (by kernel_rfl) (by kernel_rfl) (by kernel_rfl) (fun _ _ _ h => h) (Or.inl ⟨by rfl, ?s106k14y⟩) (by assumption) ?s106k14t
          case s106k14y => (intro w hSw; (try dsimp only at hSw); (try simp only [List.getElem_toArray, List.getElem_cons_zero, List.getElem_cons_succ]); go_simp; try with_reducible rfl)
          try simp only [Act.put, List.getElem_toArray, List.getElem_cons_zero, List.getElem_cons_succ, List.setIfInBounds_toArray, List.set_cons_zero, List.set_cons_succ]
          refine wpAnyH_take (i := 15) (v := ?s106k15v) rfl (by kernel_rfl) (by kernel_rfl) (by kernel_rfl) (fun _ _ _ h => h) (Or.inl ⟨by rfl, ?s106k15y⟩) (by assumption) ?s106k15t
          case s106k15y => (intro w hSw; (try dsimp only at hSw); (try simp only [List.getElem_toArray, List.getElem_cons_zero, List.getElem_cons_succ]); go_simp; try with_reducible rfl)
          try simp only [Act.put, List.getElem_toArray, List.getElem_cons_zero, List.getElem_cons_succ, List.setIfInBounds_toArray, List.set_cons_zero, List.set_cons_succ]
          refine wpAnyH_take (i := 17) (v := ?s106k16v) rfl (by kernel_rfl) (by kernel_rfl) (by kernel_rfl) (fun _ _ _ h => h) (Or.inl ⟨by rfl, ?s106k16y⟩) (by assumption) ?s106k16t
          case s106k16y => (intro w hSw; (try dsimp only at hSw); (try simp only [List.getElem_toArray, List.getElem_cons_zero, List.getElem_cons_succ]); go_simp; try with_reducible rfl)
          try simp only [Act.put, List.getElem_toArray, List.getElem_cons_zero, List.getElem_cons_succ, List.setIfInBounds_toArray, List.set_cons_zero, List.set_cons_succ]
          refine wpAnyH_ready (rs := [16]) (by kernel_rfl) (by simp) ?_
          refine AllReadyH.cons rfl (fun K hK => ?_) AllReadyH.nil
          try simp only [List.getElem_toArray, List.getElem_cons_zero, List.getElem_cons_succ]
          go_simp
          ((refine (same_any _ _ b a _ ⟨_, rfl, hnb.below T11.bx.b⟩ ⟨_, rfl, hna.below T11.bx.b⟩ hokb hoka (hE.below T11.bx.b)).mono ?_; rintro e V12 ⟨rfl, hb⟩; have T12 := T11.below hb; clear hb); rw [hba])
          try go_simp
          refine hK.out _ _ ?s106S17 (fun hHeld2 => ?_)
          case s106S17 => (try dsimp only); exact T12.S
          clear hHeld hK K
          have hHeld := hHeld2
          clear hHeld2
          try simp only [Act.put, List.getElem_toArray, List.getElem_cons_zero, List.getElem_cons_succ, List.setIfInBounds_toArray, List.set_cons_zero, List.set_cons_succ]
          refine wpAnyH_take (i := 18) (v := ?s106k18v) rfl (by kernel_rfl) (by kernel_rfl) (by kernel_rfl) (fun _ _ _ h => h) (Or.inl ⟨by rfl, ?s106k18y⟩) (by assumption) ?s106k18t
          case s106k18y => (intro w hSw; (try dsimp only at hSw); (try simp only [List.getElem_toArray, List.getElem_cons_zero, List.getElem_cons_succ]); go_simp; try with_reducible rfl)
          try simp only [Act.put, List.getElem_toArray, List.getElem_cons_zero, List.getElem_cons_succ, List.setIfInBounds_toArray, List.set_cons_zero, List.set_cons_succ]
          refine wpAnyH_take (i := 19) (v := ?s106k19v) rfl (by kernel_rfl) (by kernel_rfl) (by kernel_rfl) (fun _ _ _ h => h) (Or.inl ⟨by rfl, ?s106k19y⟩) (by assumption) ?s106k19t
          case s106k19y => (intro w hSw; (try dsimp only at hSw); (try simp only [List.getElem_toArray, List.getElem_cons_zero, List.getElem_cons_succ]); go_simp; try with_reducible rfl)
          try simp only [Act.put, List.getElem_toArray, List.getElem_cons_zero, List.getElem_cons_succ, List.setIfInBounds_toArray, List.set_cons_zero, List.set_cons_succ]
          refine wpAnyH_take (i := 20) (v := ?s106k20v) rfl (by kernel_rfl) (by kernel_rfl) (by kernel_rfl) (fun _ _ _ h => h) (Or.inl ⟨by rfl, ?s106k20y⟩) (by assumption) ?s106k20t
          case s106k20y => (intro w hSw; (try dsimp only at hSw); (try simp only [List.getElem_toArray, List.getElem_cons_zero, List.getElem_cons_succ]); go_simp; try with_reducible rfl)
          try simp only [Act.put, List.getElem_toArray, List.getElem_cons_zero, List.getElem_cons_succ, List.setIfInBounds_toArray, List.set_cons_zero, List.set_cons_succ]
          refine wpAnyH_take (i := 21) (v := ?s106k21v) rfl (by kernel_rfl) (by kernel_rfl) (by kernel_rfl) (fun _ _ _ h => h) (Or.inl ⟨by rfl, ?s106k21y⟩) (by assumption) ?s106k21t
          case s106k21y => (intro w hSw; (try dsimp only at hSw); (try simp only [List.getElem_toArray, List.getElem_cons_zero, List.getElem_cons_succ]); go_simp; try with_reducible rfl)
          try simp only [Act.put, List.getElem_toArray, List.getElem_cons_zero, List.getElem_cons_succ, List.setIfInBounds_toArray, List.set_cons_zero, List.set_cons_succ]
          refine wpAnyH_take (i := 22) (v := ?s106k22v) rfl (by kernel_rfl) (by kernel_rfl) (by kernel_rfl) (fun _ _ _ h => h) (Or.inl ⟨by rfl, ?s106k22y⟩) (by assumption) ?s106k22t
          case s106k22y => (intro w hSw; (try dsimp only at hSw); (try simp only [List.getElem_toArray, List.getElem_cons_zero, List.getElem_cons_succ]); go_simp; try with_reducible rfl)
          try simp only [Act.put, List.getElem_toArray, List.getElem_cons_zero, List.getElem_cons_succ, List.setIfInBounds_toArray, List.set_cons_zero, List.set_cons_succ]
          refine wpAnyH_take (i := 24) (v := ?s106k23v) rfl (by kernel_rfl) (by kernel_rfl) (by kernel_rfl) (fun _ _ _ h => h) (Or.inl ⟨by rfl, ?s106k23y⟩) (by assumption) ?s106k23t
          case s106k23y => (intro w hSw; (try dsimp only at hSw); (try simp only [List.getElem_toArray, List.getElem_cons_zero, List.getElem_cons_succ]); go_simp; try with_reducible rfl)
          try simp only [Act.put, List.getElem_toArray, List.getElem_cons_zero, List.getElem_cons_succ, List.setIfInBounds_toArray, List.set_cons_zero, List.set_cons_succ]
          refine wpAnyH_ready (rs := [23]) (by kernel_rfl) (by simp) ?_
          refine AllReadyH.cons rfl (fun K hK => ?_) AllReadyH.nil
          try simp only [List.getElem_toArray, List.getElem_cons_zero, List.getElem_cons_succ]
          go_simp
          ((refine (same_any _ _ a a _ ⟨_, rfl, hna.below T12.bx.b⟩ ⟨_, rfl, hna.below T12.bx.b⟩ hoka hoka (hE.below T12.bx.b)).mono ?_; rintro e V13 ⟨rfl, hb⟩; have T13 := T12.below hb; clear hb); rw [haa])
          try go_simp
          refine hK.out _ _ ?s106S24 (fun hHeld2 => ?_)
          case s106S24 => (try dsimp only); exact T13.S
          clear hHeld hK K
          have hHeld := hHeld2
          clear hHeld2
          try simp only [Act.put, List.getElem_toArray, List.getElem_cons_zero, List.getElem_cons_succ, List.setIfInBounds_toArray, List.set_cons_zero, List.set_cons_succ]
          refine wpAnyH_ready (rs := [25]) (by kernel_rfl) (by simp) ?_
          refine AllReadyH.cons rfl (fun K hK => ?_) AllReadyH.nil
          try simp only [List.getElem_toArray, List.getElem_cons_zero, List.getElem_cons_succ]
          go_simp
          ((refine (hra _ ⟨_, rfl, hna.below T13.bx.b⟩ (hE.below T13.bx.b)).mono ?_; rintro e V14 ⟨rfl, hb⟩; have T14 := T13.below hb; clear hb))
          try go_simp
          refine hK.out _ _ ?s106S25 (fun hHeld2 => ?_)
          case s106S25 => (try dsimp only); exact T14.S
          clear hHeld hK K
          have hHeld := hHeld2
          clear hHeld2
          try simp only [Act.put, List.getElem_toArray, List.getElem_cons_zero, List.getElem_cons_succ, List.setIfInBounds_toArray, List.set_cons_zero, List.set_cons_succ]
          refine wpAnyH_take (i := 26) (v := ?s106k26v) rfl (by kernel_rfl) (by kernel_rfl) (by kernel_rfl) (fun _ _ _ h => h) (Or.inl ⟨by rfl, ?s106k26y⟩) (by assumption) ?s106k26t
          case s106k26y => (intro w hSw; (try dsimp only at hSw); (try simp only [List.getElem_toArray, List.getElem_cons_zero, List.getElem_cons_succ]); go_simp; try with_reducible rfl)
          try simp only [Act.put, List.getElem_toArray, List.getElem_cons_zero, List.getElem_cons_succ, List.setIfInBounds_toArray, List.set_cons_zero, List.set_cons_succ]
          refine wpAnyH_take (i := 27) (v := ?s106k27v) rfl (by kernel_rfl) (by kernel_rfl) (by kernel_rfl) (fun _ _ _ h => h) (Or.inl ⟨by rfl, ?s106k27y⟩) (by assumption) ?s106k27t
          case s106k27y => (intro w hSw; (try dsimp only at hSw); (try simp only [List.getElem_toArray, List.getElem_cons_zero, List.getElem_cons_succ]); go_simp; try with_reducible rfl)
          try simp only [Act.put, List.getElem_toArray, List.getElem_cons_zero, List.getElem_cons_succ, List.setIfInBounds_toArray, List.set_cons_zero, List.set_cons_succ]
          refine wpAnyH_done (by kernel_rfl) ?_ _
          go_wp2
          go_ret
          exact ⟨rfl, T14.bx.b⟩
        | true =>
          simp only [hRB] at hrb
          have hxy := (exact_clean hRA hRB).trans hab
          refine wp_region_held_drew (S := (fun w' => w'.cell? ⟨w.heap.size, 0, none⟩ = some (.slice pa a.nodes.length ca) ∧ w'.cell? ⟨w.heap.size, 1, none⟩ = some (.int .i64 a.root) ∧ w'.cell? ⟨w.heap.size + 1, 0, none⟩ = some (.slice pb b.nodes.length cb) ∧ w'.cell? ⟨w.heap.size + 1, 1, none⟩ = some (.int .i64 b.root) ∧ w'.cell? ⟨w.heap.size + 1 + 1, 0, none⟩ = some (.slice pc c.nodes.length cc) ∧ w'.cell? ⟨w.heap.size + 1 + 1, 1, none⟩ = some (.int .i64 c.root) ∧ w'.cell? ⟨gX, 0, none⟩ = some (.slice px (cleanT a).nodes.length cx) ∧ w'.cell? ⟨gX, 1, none⟩ = some (.int .i64 (cleanT a).root) ∧ w'.cell? ⟨gY, 0, none⟩ = some (.slice py (cleanT b).nodes.length cy) ∧ w'.cell? ⟨gY, 1, none⟩ = some (.int .i64 (cleanT b).root))) (by kernel_rfl) (T9.S) (fun hHeld => ?_)
          have T9' := T9.drew
          clear T9
          have T9 := T9'
          clear T9'
          refine wpAnyH_take (i := 0) (v := ?s107k0v) rfl (by kernel_rfl) (by kernel_rfl) (by kernel_rfl) (fun _ _ _ h => h) (Or.inl ⟨by rfl, ?s107k0y⟩) (by assumption) ?s107k0t
          case s107k0y => (intro w hSw; (try dsimp only at hSw); (try simp only [List.getElem_toArray, List.getElem_cons_zero]); go_simp; try with_reducible rfl)
          try simp only [Act.put, List.getElem_toArray, List.getElem_cons_zero, List.setIfInBounds_toArray, List.set_cons_zero, List.set_cons_succ]
          refine wpAnyH_take (i := 1) (v := ?s107k1v) rfl (by kernel_rfl) (by kernel_rfl) (by kernel_rfl) (fun _ _ _ h => h) (Or.inl ⟨by rfl, ?s107k1y⟩) (by assumption) ?s107k1t
          case s107k1y => (intro w hSw; (try dsimp only at hSw); (try simp only [List.getElem_toArray, List.getElem_cons_zero, List.getElem_cons_succ]); go_simp; try with_reducible rfl)
          try simp only [Act.put, List.getElem_toArray, List.getElem_cons_zero, List.getElem_cons_succ, List.setIfInBounds_toArray, List.set_cons_zero, List.set_cons_succ]
          refine wpAnyH_ready (rs := [2]) (by kernel_rfl) (by simp) ?_
          refine AllReadyH.cons rfl (fun K hK => ?_) AllReadyH.nil
          try simp only [List.getElem_toArray, List.getElem_cons_zero, List.getElem_cons_succ]
          go_simp
          ((refine (hra _ ⟨_, rfl, hna.below T9.bx.b⟩ (hE.below T9.bx.b)).mono ?_; rintro e V10 ⟨rfl, hb⟩; have T10 := T9.below hb; clear hb))
          try go_simp
          refine hK.out _ _ ?s107S2 (fun hHeld2 => ?_)
          case s107S2 => (try dsimp only); exact T10.S
          clear hHeld hK K
          have hHeld := hHeld2
          clear hHeld2
          try simp only [Act.put, List.getElem_toArray, List.getElem_cons_zero, List.getElem_cons_succ, List.setIfInBounds_toArray, List.set_cons_zero, List.set_cons_succ]
          refine wpAnyH_take (i := 3) (v := ?s107k3v) rfl (by kernel_rfl) (by kernel_rfl) (by kernel_rfl) (fun _ _ _ h => h) (Or.inl ⟨by rfl, ?s107k3y⟩) (by assumption) ?s107k3t
          case s107k3y => (intro w hSw; (try dsimp only at hSw); (try simp only [List.getElem_toArray, List.getElem_cons_zero, List.getElem_cons_succ]); go_simp; try with_reducible rfl)
          try simp only [Act.put, List.getElem_toArray, List.getElem_cons_zero, List.getElem_cons_succ, List.setIfInBounds_toArray, List.set_cons_zero, List.set_cons_succ]
          refine wpAnyH_take (i := 4) (v := ?s107k4v) rfl (by kernel_rfl) (by kernel_rfl) (by kernel_rfl) (fun _ _ _ h => h) (Or.inl ⟨by rfl, ?s107k4y⟩) (by assumption) ?s107k4t
          case s107k4y => (intro w hSw; (try dsimp only at hSw); (try simp only [List.getElem_toArray, List.getElem_cons_zero, List.getElem_cons_succ]); go_simp; try with_reducible rfl)
          try simp only [Act.put, List.getElem_toArray, List.getElem_cons_zero, List.getElem_cons_succ, List.setIfInBounds_toArray, List.set_cons_zero, List.set_cons_succ]
          refine wpAnyH_ready (rs := [5]) (by kernel_rfl) (by simp) ?_
          refine AllReadyH.cons rfl (fun K hK => ?_) AllReadyH.nil
          try simp only [List.getElem_toArray, List.getElem_cons_zero, List.getElem_cons_succ]
          go_simp
          ((refine (hrb _ ⟨_, rfl, hnb.below T10.bx.b⟩ (hE.below T10.bx.b)).mono ?_; rintro e V11 ⟨rfl, hb⟩; have T11 := T10.below hb; clear hb))
          try go_simp
          refine hK.out _ _ ?s107S5 (fun hHeld2 => ?_)
          case s107S5 => (try dsimp only); exact T11.S
          clear hHeld hK K
          have hHeld := hHeld2
          clear hHeld2
          try simp only [Act.put, List.getElem_toArray, List.getElem_cons_zero, List.getElem_cons_succ, List.setIfInBounds_toArray, List.set_cons_zero, List.set_cons_succ]
          refine wpAnyH_take (i := 6) (v := ?s107k6v) rfl (by kernel_rfl) (by kernel_rfl) (by kernel_rfl) (fun _ _ _ h => h) (Or.inl ⟨by rfl, ?s107k6y⟩) (by assumption) ?s107k6t
          case s107k6y => (intro w hSw; (try dsimp only at hSw); (try simp only [List.getElem_toArray, List.getElem_cons_zero, List.getElem_cons_succ]); go_simp; try with_reducible rfl)
          try simp only [Act.put, List.getElem_toArray, List.getElem_cons_zero, List.getElem_cons_succ, List.setIfInBounds_toArray, List.set_cons_zero, List.set_cons_succ]
          refine wpAnyH_take (i := 7) (v := ?s107k7v) rfl (by kernel_rfl) (by kernel_rfl) (by kernel_rfl) (fun _ _ _ h => h) (Or.inl ⟨by rfl, ?s107k7y⟩) (by assumption) ?s107k7t
          case s107k7y => (intro w hSw; (try dsimp only at hSw); (try simp only [List.getElem_toArray, List.getElem_cons_zero, List.getElem_cons_succ]); go_simp; try with_reducible rfl)
          try simp only [Act.put, List.getElem_toArray, List.getElem_cons_zero, List.getElem_cons_succ, List.setIfInBounds_toArray, List.set_cons_zero, List.set_cons_succ]
          refine wpAnyH_take (i := 8) (v := ?s107k8v) rfl (by kernel_rfl) (by kernel_rfl) (by kernel_rfl) (fun _ _ _ h => h) (Or.inl ⟨by rfl, ?s107k8y⟩) (by assumption) ?s107k8t
          case s107k8y => (intro w hSw; (try dsimp only at hSw); (try simp only [List.getElem_toArray, List.getElem_cons_zero, List.getElem_cons_succ]); go_simp; try with_reducible rfl)
          try simp only [Act.put, List.getElem_toArray, List.getElem_cons_zero, List.getElem_cons_succ, List.setIfInBounds_toArray, List.set_cons_zero, List.set_cons_succ]
          refine wpAnyH_take (i := 9) (v := ?s107k9v) rfl (by kernel_rfl) (by kernel_rfl) (by kernel_rfl) (fun _ _ _ h => h) (Or.inl ⟨by rfl, ?s107k9y⟩) (by assumption) ?s107k9t
          case s107k9y => (intro w hSw; (try dsimp only at hSw); (try simp only [List.getElem_toArray, List.getElem_cons_zero, List.getElem_cons_succ]); go_simp; try with_reducible rfl)
          try simp only [Act.put, List.getElem_toArray, List.getElem_cons_zero, List.getElem_cons_succ, List.setIfInBounds_toArray, List.set_cons_zero, List.set_cons_succ]
          refine wpAnyH_ready (rs := [10]) (by kernel_rfl) (by simp) ?_
          refine AllReadyH.cons rfl (fun K hK => ?_) AllReadyH.nil
          try simp only [List.getElem_toArray, List.getElem_cons_zero, List.getElem_cons_succ]
          go_simp
          ((refine (exact_any _ _ (cleanT a) (cleanT b) _ ⟨_, rfl, T11.nx⟩ ⟨_, rfl, T11.ny⟩ (ok_clean hoka)).mono ?_; rintro e V12 ⟨rfl, hb⟩; have T12 := T11.below hb; clear hb); rw [hxy])
          try go_simp
          refine hK.out _ _ ?s107S10 (fun hHeld2 => ?_)
          case s107S10 => (try dsimp only); exact T12.S
          clear hHeld hK K
          have hHeld := hHeld2
          clear hHeld2
          try simp only [Act.put, List.getElem_toArray, List.getElem_cons_zero, List.getElem_cons_succ, List.setIfInBounds_toArray, List.set_cons_zero, List.set_cons_succ]
          refine wpAnyH_take (i := 11) (v := ?s107k11v) rfl (by kernel_rfl) (by kernel_rfl) (by kernel_rfl) (fun _ _ _ h => h) (Or.inl ⟨by rfl, ?s107k11y⟩) (by assumption) ?s107k11t
          case s107k11y => (intro w hSw; (try dsimp only at hSw); (try simp only [List.getElem_toArray, List.getElem_cons_zero, List.getElem_cons_succ]); go_simp; try with_reducible rfl)
          try simp only [Act.put, List.getElem_toArray, List.getElem_cons_zero, List.getElem_cons_succ, List.setIfInBounds_toArray, List.set_cons_zero, List.set_cons_succ]
          refine wpAnyH_take (i := 12) (v := ?s107k12v) rfl (by kernel_rfl) (by kernel_rfl) (by kernel_rfl) (fun _ _ _ h => h) (Or.inl ⟨by rfl, ?s107k12y⟩) (by assumption) ?s107k12t
          case s107k12y => (intro w hSw; (try dsimp only at hSw); (try simp only [List.getElem_toArray, List.getElem_cons_zero, List.getElem_cons_succ]); go_simp; try with_reducible rfl)
          try simp only [Act.put, List.getElem_toArray, List.getElem_cons_zero, List.getElem_cons_succ, List.setIfInBounds_toArray, List.set_cons_zero, List.set_cons_succ]
          refine wpAnyH_take (i := 13) (v := ?s107k13v) rfl (by kernel_rfl) (by kernel_rfl) (by kernel_rfl) (fun _ _ _ h => h) (Or.inl ⟨by rfl, ?s107k13y⟩) (by assumption) ?s107k13t
          case s107k13y => (intro w hSw; (try dsimp only at hSw); (try simp only [List.getElem_toArray, List.getElem_cons_zero, List.getElem_cons_succ]); go_simp; try with_reducible rfl)
          try simp only [Act.put, List.getElem_toArray, List.getElem_cons_zero, List.getElem_cons_succ, List.setIfInBounds_toArray, List.set_cons_zero, List.set_cons_succ]
          refine wpAnyH_take (i := 14) (v := ?s107k14v) rfl (by kernel_rfl) (by kernel_rfl) (by kernel_rfl) (fun _ _ _ h => h) (Or.inl ⟨by rfl, ?s107k14y⟩) (by assumption) ?s107k14t
          case s107k14y => (intro w hSw; (try dsimp only at hSw); (try simp only [List.getElem_toArray, List.getElem_cons_zero, List.getElem_cons_succ]); go_simp; try with_reducible rfl)
          try simp only [Act.put, List.getElem_toArray, List.getElem_cons_zero, List.getElem_cons_succ, List.setIfInBounds_toArray, List.set_cons_zero, List.set_cons_succ]
          refine wpAnyH_take (i := 15) (v := ?s107k15v) rfl (by kernel_rfl) (by kernel_rfl) (by kernel_rfl) (fun _ _ _ h => h) (Or.inl ⟨by rfl, ?s107k15y⟩) (by assumption) ?s107k15t
          case s107k15y => (intro w hSw; (try dsimp only at hSw); (try simp only [List.getElem_toArray, List.getElem_cons_zero, List.getElem_cons_succ]); go_simp; try with_reducible rfl)
          try simp only [Act.put, List.getElem_toArray, List.getElem_cons_zero, List.getElem_cons_succ, List.setIfInBounds_toArray, List.set_cons_zero, List.set_cons_succ]
          refine wpAnyH_take (i := 17) (v := ?s107k16v) rfl (by kernel_rfl) (by kernel_rfl) (by kernel_rfl) (fun _ _ _ h => h) (Or.inl ⟨by rfl, ?s107k16y⟩) (by assumption) ?s107k16t
          case s107k16y => (intro w hSw; (try dsimp only at hSw); (try simp only [List.getElem_toArray, List.getElem_cons_zero, List.getElem_cons_succ]); go_simp; try with_reducible rfl)
          try simp only [Act.put, List.getElem_toArray, List.getElem_cons_zero, List.getElem_cons_succ, List.setIfInBounds_toArray, List.set_cons_zero, List.set_cons_succ]
          refine wpAnyH_ready (rs := [16]) (by kernel_rfl) (by simp) ?_
          refine AllReadyH.cons rfl (fun K hK => ?_) AllReadyH.nil
          try simp only [List.getElem_toArray, List.getElem_cons_zero, List.getElem_cons_succ]
          go_simp
          ((refine (same_any _ _ b a _ ⟨_, rfl, hnb.below T12.bx.b⟩ ⟨_, rfl, hna.below T12.bx.b⟩ hokb hoka (hE.below T12.bx.b)).mono ?_; rintro e V13 ⟨rfl, hb⟩; have T13 := T12.below hb; clear hb); rw [hba])
          try go_simp
          refine hK.out _ _ ?s107S17 (fun hHeld2 => ?_)
          case s107S17 => (try dsimp only); exact T13.S
          clear hHeld hK K
          have hHeld := hHeld2
          clear hHeld2
          try simp only [Act.put, List.getElem_toArray, List.getElem_cons_zero, List.getElem_cons_succ, List.setIfInBounds_toArray, List.set_cons_zero, List.set_cons_succ]
          refine wpAnyH_take (i := 18) (v := ?s107k18v) rfl (by kernel_rfl) (by kernel_rfl) (by kernel_rfl) (fun _ _ _ h => h) (Or.inl ⟨by rfl, ?s107k18y⟩) (by assumption) ?s107k18t
          case s107k18y => (intro w hSw; (try dsimp only at hSw); (try simp only [List.getElem_toArray, List.getElem_cons_zero, List.getElem_cons_succ]); go_simp; try with_reducible rfl)
          try simp only [Act.put, List.getElem_toArray, List.getElem_cons_zero, List.getElem_cons_succ, List.setIfInBounds_toArray, List.set_cons_zero, List.set_cons_succ]
          refine wpAnyH_take (i := 19) (v := ?s107k19v) rfl (by kernel_rfl) (by kernel_rfl) (by kernel_rfl) (fun _ _ _ h => h) (Or.inl ⟨by rfl, ?s107k19y⟩) (by assumption) ?s107k19t
          case s107k19y => (intro w hSw; (try dsimp only at hSw); (try simp only [List.getElem_toArray, List.getElem_cons_zero, List.getElem_cons_succ]); go_simp; try with_reducible rfl)
          try simp only [Act.put, List.getElem_toArray, List.getElem_cons_zero, List.getElem_cons_succ, List.setIfInBounds_toArray, List.set_cons_zero, List.set_cons_succ]
          refine wpAnyH_take (i := 20) (v := ?s107k20v) rfl (by kernel_rfl) (by kernel_rfl) (by kernel_rfl) (fun _ _ _ h => h) (Or.inl ⟨by rfl, ?s107k20y⟩) (by assumption) ?s107k20t
          case s107k20y => (intro w hSw; (try dsimp only at hSw); (try simp only [List.getElem_toArray, List.getElem_cons_zero, List.getElem_cons_succ]); go_simp; try with_reducible rfl)
          try simp only [Act.put, List.getElem_toArray, List.getElem_cons_zero, List.getElem_cons_succ, List.setIfInBounds_toArray, List.set_cons_zero, List.set_cons_succ]
          refine wpAnyH_take (i := 21) (v := ?s107k21v) rfl (by kernel_rfl) (by kernel_rfl) (by kernel_rfl) (fun _ _ _ h => h) (Or.inl ⟨by rfl, ?s107k21y⟩) (by assumption) ?s107k21t
          case s107k21y => (intro w hSw; (try dsimp only at hSw); (try simp only [List.getElem_toArray, List.getElem_cons_zero, List.getElem_cons_succ]); go_simp; try with_reducible rfl)
          try simp only [Act.put, List.getElem_toArray, List.getElem_cons_zero, List.getElem_cons_succ, List.setIfInBounds_toArray, List.set_cons_zero, List.set_cons_succ]
          refine wpAnyH_take (i := 22) (v := ?s107k22v) rfl (by kernel_rfl) (by kernel_rfl) (by kernel_rfl) (fun _ _ _ h => h) (Or.inl ⟨by rfl, ?s107k22y⟩) (by assumption) ?s107k22t
          case s107k22y => (intro w hSw; (try dsimp only at hSw); (try simp only [List.getElem_toArray, List.getElem_cons_zero, List.getElem_cons_succ]); go_simp; try with_reducible rfl)
          try simp only [Act.put, List.getElem_toArray, List.getElem_cons_zero, List.getElem_cons_succ, List.setIfInBounds_toArray, List.set_cons_zero, List.set_cons_succ]
          refine wpAnyH_take (i := 24) (v := ?s107k23v) rfl (by kernel_rfl) (by kernel_rfl) (by kernel_rfl) (fun _ _ _ h => h) (Or.inl ⟨by rfl, ?s107k23y⟩) (by assumption) ?s107k23t
          case s107k23y => (intro w hSw; (try dsimp only at hSw); (try simp only [List.getElem_toArray, List.getElem_cons_zero, List.getElem_cons_succ]); go_simp; try with_reducible rfl)
          try simp only [Act.put, List.getElem_toArray, List.getElem_cons_zero, List.getElem_cons_succ, List.setIfInBounds_toArray, List.set_cons_zero, List.set_cons_succ]
          refine wpAnyH_ready (rs := [23]) (by kernel_rfl) (by simp) ?_
          refine AllReadyH.cons rfl (fun K hK => ?_) AllReadyH.nil
          try simp only [List.getElem_toArray, List.getElem_cons_zero, List.getElem_cons_succ]
          go_simp
          ((refine (same_any _ _ a a _ ⟨_, rfl, hna.below T13.bx.b⟩ ⟨_, rfl, hna.below T13.bx.b⟩ hoka hoka (hE.below T13.bx.b)).mono ?_; rintro e V14 ⟨rfl, hb⟩; have T14 := T13.below hb; clear hb); rw [haa])
          try go_simp
          refine hK.out _ _ ?s107S24 (fun hHeld2 => ?_)
          case s107S24 => (try dsimp only); exact T14.S
          clear hHeld hK K
          have hHeld := hHeld2
          clear hHeld2
          try simp only [Act.put, List.getElem_toArray, List.getElem_cons_zero, List.getElem_cons_succ, List.setIfInBounds_toArray, List.set_cons_zero, List.set_cons_succ]
          refine wpAnyH_ready (rs := [25]) (by kernel_rfl) (by simp) ?_
          refine AllReadyH.cons rfl (fun K hK => ?_) AllReadyH.nil
          try simp only [List.getElem_toArray, List.getElem_cons_zero, List.getElem_cons_succ]
          go_simp
          ((refine (hra _ ⟨_, rfl, hna.below T14.bx.b⟩ (hE.below T14.bx.b)).mono ?_; rintro e V15 ⟨rfl, hb⟩; have T15 := T14.below hb; clear hb))
          try go_simp
          refine hK.out _ _ ?s107S25 (fun hHeld2 => ?_)
          case s107S25 => (try dsimp only); exact T15.S
          clear hHeld hK K
          have hHeld := hHeld2
          clear hHeld2
          try simp only [Act.put, List.getElem_toArray, List.getElem_cons_zero, List.getElem_cons_succ, List.setIfInBounds_toArray, List.set_cons_zero, List.set_cons_succ]
          refine wpAnyH_take (i := 26) (v := ?s107k26v) rfl (by kernel_rfl) (by kernel_rfl) (by kernel_rfl) (fun _ _ _ h => h) (Or.inl ⟨by rfl, ?s107k26y⟩) (by assumption) ?s107k26t
          case s107k26y => (intro w hSw; (try dsimp only at hSw); (try simp only [List.getElem_toArray, List.getElem_cons_zero, List.getElem_cons_succ]); go_simp; try with_reducible rfl)
          try simp only [Act.put, List.getElem_toArray, List.getElem_cons_zero, List.getElem_cons_succ, List.setIfInBounds_toArray, List.set_cons_zero, List.set_cons_succ]
          refine wpAnyH_take (i := 27) (v := ?s107k27v) rfl (by kernel_rfl) (by kernel_rfl) (by kernel_rfl) (fun _ _ _ h => h) (Or.inl ⟨by rfl, ?s107k27y⟩) (by assumption) ?s107k27t
          case s107k27y => (intro w hSw; (try dsimp only at hSw); (try simp only [List.getElem_toArray, List.getElem_cons_zero, List.getElem_cons_succ]); go_simp; try with_reducible rfl)
          try simp only [Act.put, List.getElem_toArray, List.getElem_cons_zero, List.getElem_cons_succ, List.setIfInBounds_toArray, List.set_cons_zero, List.set_cons_succ]
          refine wpAnyH_done (by kernel_rfl) ?_ _
          cases ab with
          | false =>
            go_wp2
            go_ret
            exact ⟨rfl, T15.bx.b⟩
          | true =>
            cases bc with
            | false =>
              go_wp2
              go_ret
              exact ⟨rfl, T15.bx.b⟩
            | true =>
              obtain rfl : ac = true := by rw [← hac]; exact same_trans hab hbc
              go_wp2
              go_ret
              exact ⟨rfl, T15.bx.b⟩
end Go.Proofs.YtcjaghnajjoacaaDoor

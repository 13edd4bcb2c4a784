/- Package tree: Same. -/
import Derived.Test.YtpkjfdgjmcphmaaDoorTx
namespace Go.Proofs.YtpkjfdgjmcphmaaDoor
open Go.RowKit Bset Tm

theorem fld0 (a b : Value) (w : World) : (Instr.field 26 (.agg #[a, b]) 0).run Tryd.prog w = .ok a w := by kernel_rfl
theorem fld1 (a b : Value) (w : World) : (Instr.field 26 (.agg #[a, b]) 1).run Tryd.prog w = .ok b w := by kernel_rfl

set_option maxRecDepth 100000 in
set_option maxHeartbeats 8000000 in
theorem same_any (v1 v2 : Value) (a b : Ar) (w : World) (h1 : Tree w v1 a) (h2 : Tree w v2 b) (hoka : OkA a.nodes) (hokb : OkA b.nodes) (hE : Env w) :
    Calls Tryd.prog 26 #[v1, v2] w fun e w' => e = .returned (.bool (sameT a b)) ∧ Below w.heap.size w w' := by
  obtain ⟨nv1, rfl, hna⟩ := h1
  obtain ⟨nv2, rfl, hnb⟩ := h2
  obtain ⟨pa, ca, rfl⟩ := hna.len
  obtain ⟨pb, cb, rfl⟩ := hnb.len
  have hra := fun w h1 h2 => right_at' (treeV (.slice pa a.nodes.length ca) a.root) a w h1 hoka h2
  have hrb := fun w h1 h2 => right_at' (treeV (.slice pb b.nodes.length cb) b.root) b w h1 hokb h2
  have hca := fun w h1 h2 => clean_any (treeV (.slice pa a.nodes.length ca) a.root) a w h1 hoka h2
  have hcb := fun w h1 h2 => clean_any (treeV (.slice pb b.nodes.length cb) b.root) b w h1 hokb h2
  have B0 := (((Below.refl w.heap.size w).alloc (Nat.le_refl _) (.cells #[.slice pa a.nodes.length ca, .int .i64 a.root] 26)).alloc (by simp) (.cells #[.slice pb b.nodes.length cb, .int .i64 b.root] 26)).drew
  have KA0 := ((Cl.new w 26 #[.slice pa a.nodes.length ca, .int .i64 a.root]).alloc (.cells #[.slice pb b.nodes.length cb, .int .i64 b.root] 26)).drew
  have KB0 : Cl ((w.alloc (.cells #[.slice pa a.nodes.length ca, .int .i64 a.root] 26)).alloc (.cells #[.slice pb b.nodes.length cb, .int .i64 b.root] 26)).drew (w.heap.size + 1) 26 #[.slice pb b.nodes.length cb, .int .i64 b.root] := Cl.drew (Cl.new' (by simp) _ _)
  have f0 := fld0
  unfold sameT
  go_enter Tryd.func26, Tryd.ntmps26
  cases hRa : rightB a with
  | false =>
    simp only [hRa] at hra
    go_wp2
    refine wp_region_held_drew (S := (fun w' => w'.cell? ⟨w.heap.size, 0, none⟩ = some (.slice pa a.nodes.length ca) ∧ w'.cell? ⟨w.heap.size, 1, none⟩ = some (.int .i64 a.root) ∧ w'.cell? ⟨w.heap.size + 1, 0, none⟩ = some (.slice pb b.nodes.length cb) ∧ w'.cell? ⟨w.heap.size + 1, 1, none⟩ = some (.int .i64 b.root))) (by kernel_rfl) (⟨KA0.two.1.1, KA0.two.1.2, KB0.two.1.1, KB0.two.1.2⟩) (fun hHeld => ?_)
    refine wpAnyH_take (i := 0) (v := ?r1v0) rfl (by kernel_rfl) (by kernel_rfl) (by kernel_rfl) (fun _ _ _ h => h) (Or.inl ⟨by rfl, ?r1y0⟩) (by assumption) ?r1t0
    case r1y0 => (intro w hSw; (try dsimp only at hSw); (try simp only [List.getElem_toArray, List.getElem_cons_zero]); go_simp; try with_reducible rfl)
    try simp only [Act.put, List.getElem_toArray, List.getElem_cons_zero, List.setIfInBounds_toArray, List.set_cons_zero, List.set_cons_succ]
    refine wpAnyH_ready (rs := [1]) (by kernel_rfl) (by simp) ?_
    refine AllReadyH.cons rfl (fun K hK => ?_) AllReadyH.nil
    try simp only [List.getElem_toArray, List.getElem_cons_zero, List.getElem_cons_succ]
    go_simp
    (refine (hra _ ⟨_, rfl, hna.below B0⟩ (hE.below B0)).mono ?_; rintro e w1 ⟨rfl, hb1⟩; have KA1 := KA0.below hb1 KA0.lt; have KB1 := KB0.below hb1 KB0.lt; have B1 := B0.trans (hb1.mono B0.size))
    try go_simp
    refine hK.out _ _ ?r1S1 (fun hHeld2 => ?_)
    case r1S1 => (try dsimp only); (first | exact ⟨KA5.two.1.1, KA5.two.1.2, KB5.two.1.1, KB5.two.1.2⟩ | exact ⟨KA4.two.1.1, KA4.two.1.2, KB4.two.1.1, KB4.two.1.2⟩ | exact ⟨KA3.two.1.1, KA3.two.1.2, KB3.two.1.1, KB3.two.1.2⟩ | exact ⟨KA2.two.1.1, KA2.two.1.2, KB2.two.1.1, KB2.two.1.2⟩ | exact ⟨KA1.two.1.1, KA1.two.1.2, KB1.two.1.1, KB1.two.1.2⟩)
    clear hHeld hK K
    have hHeld := hHeld2
    clear hHeld2
    try simp only [Act.put, List.getElem_toArray, List.getElem_cons_zero, List.getElem_cons_succ, List.setIfInBounds_toArray, List.set_cons_zero, List.set_cons_succ]
    refine wpAnyH_take (i := 2) (v := ?r1v2) rfl (by kernel_rfl) (by kernel_rfl) (by kernel_rfl) (fun _ _ _ h => h) (Or.inl ⟨by rfl, ?r1y2⟩) (by assumption) ?r1t2
    case r1y2 => (intro w hSw; (try dsimp only at hSw); (try simp only [List.getElem_toArray, List.getElem_cons_zero, List.getElem_cons_succ]); go_simp; try with_reducible rfl)
    try simp only [Act.put, List.getElem_toArray, List.getElem_cons_zero, List.getElem_cons_succ, List.setIfInBounds_toArray, List.set_cons_zero, List.set_cons_succ]
    refine wpAnyH_take (i := 3) (v := undef) rfl (by kernel_rfl) (by kernel_rfl) (by kernel_rfl) (fun _ _ _ h => h) (Or.inr ⟨by rfl, rfl⟩) (by assumption) ?_
    try simp only [Act.put, List.getElem_toArray, List.getElem_cons_zero, List.getElem_cons_succ, List.setIfInBounds_toArray, List.set_cons_zero, List.set_cons_succ]
    refine wpAnyH_take (i := 4) (v := undef) rfl (by kernel_rfl) (by kernel_rfl) (by kernel_rfl) (fun _ _ _ h => h) (Or.inr ⟨by rfl, rfl⟩) (by assumption) ?_
    try simp only [Act.put, List.getElem_toArray, List.getElem_cons_zero, List.getElem_cons_succ, List.setIfInBounds_toArray, List.set_cons_zero, List.set_cons_succ]
    refine wpAnyH_take (i := 5) (v := ?r1v5) rfl (by kernel_rfl) (by kernel_rfl) (by kernel_rfl) (fun _ _ _ h => h) (Or.inl ⟨by rfl, ?r1y5⟩) (by assumption) ?r1t5
    case r1y5 => (intro w hSw; (try dsimp only at hSw); (try simp only [List.getElem_toArray, List.getElem_cons_zero, List.getElem_cons_succ]); go_simp; try with_reducible rfl)
    try simp only [Act.put, List.getElem_toArray, List.getElem_cons_zero, List.getElem_cons_succ, List.setIfInBounds_toArray, List.set_cons_zero, List.set_cons_succ]
    refine wpAnyH_take (i := 6) (v := ?r1v6) rfl (by kernel_rfl) (by kernel_rfl) (by kernel_rfl) (fun _ _ _ h => h) (Or.inl ⟨by rfl, ?r1y6⟩) (by assumption) ?r1t6
    case r1y6 => (intro w hSw; (try dsimp only at hSw); (try simp only [List.getElem_toArray, List.getElem_cons_zero, List.getElem_cons_succ]); go_simp; try with_reducible rfl)
    try simp only [Act.put, List.getElem_toArray, List.getElem_cons_zero, List.getElem_cons_succ, List.setIfInBounds_toArray, List.set_cons_zero, List.set_cons_succ]
    refine wpAnyH_take (i := 7) (v := undef) rfl (by kernel_rfl) (by kernel_rfl) (by kernel_rfl) (fun _ _ _ h => h) (Or.inr ⟨by rfl, rfl⟩) (by assumption) ?_
    try simp only [Act.put, List.getElem_toArray, List.getElem_cons_zero, List.getElem_cons_succ, List.setIfInBounds_toArray, List.set_cons_zero, List.set_cons_succ]
    refine wpAnyH_take (i := 8) (v := undef) rfl (by kernel_rfl) (by kernel_rfl) (by kernel_rfl) (fun _ _ _ h => h) (Or.inr ⟨by rfl, rfl⟩) (by assumption) ?_
    try simp only [Act.put, List.getElem_toArray, List.getElem_cons_zero, List.getElem_cons_succ, List.setIfInBounds_toArray, List.set_cons_zero, List.set_cons_succ]
    refine wpAnyH_take (i := 9) (v := undef) rfl (by kernel_rfl) (by kernel_rfl) (by kernel_rfl) (fun _ _ _ h => h) (Or.inr ⟨by rfl, rfl⟩) (by assumption) ?_
    try simp only [Act.put, List.getElem_toArray, List.getElem_cons_zero, List.getElem_cons_succ, List.setIfInBounds_toArray, List.set_cons_zero, List.set_cons_succ]
    refine wpAnyH_take (i := 10) (v := undef) rfl (by kernel_rfl) (by kernel_rfl) (by kernel_rfl) (fun _ _ _ h => h) (Or.inr ⟨by rfl, rfl⟩) (by assumption) ?_
    try simp only [Act.put, List.getElem_toArray, List.getElem_cons_zero, List.getElem_cons_succ, List.setIfInBounds_toArray, List.set_cons_zero, List.set_cons_succ]
    refine wpAnyH_take (i := 11) (v := undef) rfl (by kernel_rfl) (by kernel_rfl) (by kernel_rfl) (fun _ _ _ h => h) (Or.inr ⟨by rfl, rfl⟩) (by assumption) ?_
    try simp only [Act.put, List.getElem_toArray, List.getElem_cons_zero, List.getElem_cons_succ, List.setIfInBounds_toArray, List.set_cons_zero, List.set_cons_succ]
    refine wpAnyH_take (i := 12) (v := undef) rfl (by kernel_rfl) (by kernel_rfl) (by kernel_rfl) (fun _ _ _ h => h) (Or.inr ⟨by rfl, rfl⟩) (by assumption) ?_
    try simp only [Act.put, List.getElem_toArray, List.getElem_cons_zero, List.getElem_cons_succ, List.setIfInBounds_toArray, List.set_cons_zero, List.set_cons_succ]
    refine wpAnyH_take (i := 13) (v := undef) rfl (by kernel_rfl) (by kernel_rfl) (by kernel_rfl) (fun _ _ _ h => h) (Or.inr ⟨by rfl, rfl⟩) (by assumption) ?_
    try simp only [Act.put, List.getElem_toArray, List.getElem_cons_zero, List.getElem_cons_succ, List.setIfInBounds_toArray, List.set_cons_zero, List.set_cons_succ]
    refine wpAnyH_take (i := 14) (v := ?r1v14) rfl (by kernel_rfl) (by kernel_rfl) (by kernel_rfl) (fun _ _ _ h => h) (Or.inl ⟨by rfl, ?r1y14⟩) (by assumption) ?r1t14
    case r1y14 => (intro w hSw; (try dsimp only at hSw); (try simp only [List.getElem_toArray, List.getElem_cons_zero, List.getElem_cons_succ]); go_simp; try with_reducible rfl)
    try simp only [Act.put, List.getElem_toArray, List.getElem_cons_zero, List.getElem_cons_succ, List.setIfInBounds_toArray, List.set_cons_zero, List.set_cons_succ]
    refine wpAnyH_take (i := 15) (v := ?r1v15) rfl (by kernel_rfl) (by kernel_rfl) (by kernel_rfl) (fun _ _ _ h => h) (Or.inl ⟨by rfl, ?r1y15⟩) (by assumption) ?r1t15
    case r1y15 => (intro w hSw; (try dsimp only at hSw); (try simp only [List.getElem_toArray, List.getElem_cons_zero, List.getElem_cons_succ]); go_simp; try with_reducible rfl)
    try simp only [Act.put, List.getElem_toArray, List.getElem_cons_zero, List.getElem_cons_succ, List.setIfInBounds_toArray, List.set_cons_zero, List.set_cons_succ]
    refine wpAnyH_done (by kernel_rfl) ?_ _
    go_wp2
    go_ret
    exact ⟨rfl, B1⟩
  | true =>
    simp only [hRa] at hra
    cases hRb : rightB b with
    | false =>
      simp only [hRb] at hrb
      go_wp2
      refine wp_region_held_drew (S := (fun w' => w'.cell? ⟨w.heap.size, 0, none⟩ = some (.slice pa a.nodes.length ca) ∧ w'.cell? ⟨w.heap.size, 1, none⟩ = some (.int .i64 a.root) ∧ w'.cell? ⟨w.heap.size + 1, 0, none⟩ = some (.slice pb b.nodes.length cb) ∧ w'.cell? ⟨w.heap.size + 1, 1, none⟩ = some (.int .i64 b.root))) (by kernel_rfl) (⟨KA0.two.1.1, KA0.two.1.2, KB0.two.1.1, KB0.two.1.2⟩) (fun hHeld => ?_)
      refine wpAnyH_take (i := 0) (v := ?r2v0) rfl (by kernel_rfl) (by kernel_rfl) (by kernel_rfl) (fun _ _ _ h => h) (Or.inl ⟨by rfl, ?r2y0⟩) (by assumption) ?r2t0
      case r2y0 => (intro w hSw; (try dsimp only at hSw); (try simp only [List.getElem_toArray, List.getElem_cons_zero]); go_simp; try with_reducible rfl)
      try simp only [Act.put, List.getElem_toArray, List.getElem_cons_zero, List.setIfInBounds_toArray, List.set_cons_zero, List.set_cons_succ]
      refine wpAnyH_ready (rs := [1]) (by kernel_rfl) (by simp) ?_
      refine AllReadyH.cons rfl (fun K hK => ?_) AllReadyH.nil
      try simp only [List.getElem_toArray, List.getElem_cons_zero, List.getElem_cons_succ]
      go_simp
      (refine (hra _ ⟨_, rfl, hna.below B0⟩ (hE.below B0)).mono ?_; rintro e w1 ⟨rfl, hb1⟩; have KA1 := KA0.below hb1 KA0.lt; have KB1 := KB0.below hb1 KB0.lt; have B1 := B0.trans (hb1.mono B0.size))
      try go_simp
      refine hK.out _ _ ?r2S1 (fun hHeld2 => ?_)
      case r2S1 => (try dsimp only); (first | exact ⟨KA5.two.1.1, KA5.two.1.2, KB5.two.1.1, KB5.two.1.2⟩ | exact ⟨KA4.two.1.1, KA4.two.1.2, KB4.two.1.1, KB4.two.1.2⟩ | exact ⟨KA3.two.1.1, KA3.two.1.2, KB3.two.1.1, KB3.two.1.2⟩ | exact ⟨KA2.two.1.1, KA2.two.1.2, KB2.two.1.1, KB2.two.1.2⟩ | exact ⟨KA1.two.1.1, KA1.two.1.2, KB1.two.1.1, KB1.two.1.2⟩)
      clear hHeld hK K
      have hHeld := hHeld2
      clear hHeld2
      try simp only [Act.put, List.getElem_toArray, List.getElem_cons_zero, List.getElem_cons_succ, List.setIfInBounds_toArray, List.set_cons_zero, List.set_cons_succ]
      refine wpAnyH_take (i := 2) (v := ?r2v2) rfl (by kernel_rfl) (by kernel_rfl) (by kernel_rfl) (fun _ _ _ h => h) (Or.inl ⟨by rfl, ?r2y2⟩) (by assumption) ?r2t2
      case r2y2 => (intro w hSw; (try dsimp only at hSw); (try simp only [List.getElem_toArray, List.getElem_cons_zero, List.getElem_cons_succ]); go_simp; try with_reducible rfl)
      try simp only [Act.put, List.getElem_toArray, List.getElem_cons_zero, List.getElem_cons_succ, List.setIfInBounds_toArray, List.set_cons_zero, List.set_cons_succ]
      refine wpAnyH_take (i := 3) (v := ?r2v3) rfl (by kernel_rfl) (by kernel_rfl) (by kernel_rfl) (fun _ _ _ h => h) (Or.inl ⟨by rfl, ?r2y3⟩) (by assumption) ?r2t3
      case r2y3 => (intro w hSw; (try dsimp only at hSw); (try simp only [List.getElem_toArray, List.getElem_cons_zero, List.getElem_cons_succ]); go_simp; try with_reducible rfl)
      try simp only [Act.put, List.getElem_toArray, List.getElem_cons_zero, List.getElem_cons_succ, List.setIfInBounds_toArray, List.set_cons_zero, List.set_cons_succ]
      refine wpAnyH_ready (rs := [4]) (by kernel_rfl) (by simp) ?_
      refine AllReadyH.cons rfl (fun K hK => ?_) AllReadyH.nil
      try simp only [List.getElem_toArray, List.getElem_cons_zero, List.getElem_cons_succ]
      go_simp
      (refine (hrb _ ⟨_, rfl, hnb.below B1⟩ (hE.below B1)).mono ?_; rintro e w2 ⟨rfl, hb2⟩; have KA2 := KA1.below hb2 KA1.lt; have KB2 := KB1.below hb2 KB1.lt; have B2 := B1.trans (hb2.mono B1.size))
      try go_simp
      refine hK.out _ _ ?r2S4 (fun hHeld2 => ?_)
      case r2S4 => (try dsimp only); (first | exact ⟨KA5.two.1.1, KA5.two.1.2, KB5.two.1.1, KB5.two.1.2⟩ | exact ⟨KA4.two.1.1, KA4.two.1.2, KB4.two.1.1, KB4.two.1.2⟩ | exact ⟨KA3.two.1.1, KA3.two.1.2, KB3.two.1.1, KB3.two.1.2⟩ | exact ⟨KA2.two.1.1, KA2.two.1.2, KB2.two.1.1, KB2.two.1.2⟩ | exact ⟨KA1.two.1.1, KA1.two.1.2, KB1.two.1.1, KB1.two.1.2⟩)
      clear hHeld hK K
      have hHeld := hHeld2
      clear hHeld2
      try simp only [Act.put, List.getElem_toArray, List.getElem_cons_zero, List.getElem_cons_succ, List.setIfInBounds_toArray, List.set_cons_zero, List.set_cons_succ]
      refine wpAnyH_take (i := 5) (v := ?r2v5) rfl (by kernel_rfl) (by kernel_rfl) (by kernel_rfl) (fun _ _ _ h => h) (Or.inl ⟨by rfl, ?r2y5⟩) (by assumption) ?r2t5
      case r2y5 => (intro w hSw; (try dsimp only at hSw); (try simp only [List.getElem_toArray, List.getElem_cons_zero, List.getElem_cons_succ]); go_simp; try with_reducible rfl)
      try simp only [Act.put, List.getElem_toArray, List.getElem_cons_zero, List.getElem_cons_succ, List.setIfInBounds_toArray, List.set_cons_zero, List.set_cons_succ]
      refine wpAnyH_take (i := 6) (v := ?r2v6) rfl (by kernel_rfl) (by kernel_rfl) (by kernel_rfl) (fun _ _ _ h => h) (Or.inl ⟨by rfl, ?r2y6⟩) (by assumption) ?r2t6
      case r2y6 => (intro w hSw; (try dsimp only at hSw); (try simp only [List.getElem_toArray, List.getElem_cons_zero, List.getElem_cons_succ]); go_simp; try with_reducible rfl)
      try simp only [Act.put, List.getElem_toArray, List.getElem_cons_zero, List.getElem_cons_succ, List.setIfInBounds_toArray, List.set_cons_zero, List.set_cons_succ]
      refine wpAnyH_take (i := 7) (v := undef) rfl (by kernel_rfl) (by kernel_rfl) (by kernel_rfl) (fun _ _ _ h => h) (Or.inr ⟨by rfl, rfl⟩) (by assumption) ?_
      try simp only [Act.put, List.getElem_toArray, List.getElem_cons_zero, List.getElem_cons_succ, List.setIfInBounds_toArray, List.set_cons_zero, List.set_cons_succ]
      refine wpAnyH_take (i := 8) (v := undef) rfl (by kernel_rfl) (by kernel_rfl) (by kernel_rfl) (fun _ _ _ h => h) (Or.inr ⟨by rfl, rfl⟩) (by assumption) ?_
      try simp only [Act.put, List.getElem_toArray, List.getElem_cons_zero, List.getElem_cons_succ, List.setIfInBounds_toArray, List.set_cons_zero, List.set_cons_succ]
      refine wpAnyH_take (i := 9) (v := undef) rfl (by kernel_rfl) (by kernel_rfl) (by kernel_rfl) (fun _ _ _ h => h) (Or.inr ⟨by rfl, rfl⟩) (by assumption) ?_
      try simp only [Act.put, List.getElem_toArray, List.getElem_cons_zero, List.getElem_cons_succ, List.setIfInBounds_toArray, List.set_cons_zero, List.set_cons_succ]
      refine wpAnyH_take (i := 10) (v := undef) rfl (by kernel_rfl) (by kernel_rfl) (by kernel_rfl) (fun _ _ _ h => h) (Or.inr ⟨by rfl, rfl⟩) (by assumption) ?_
      try simp only [Act.put, List.getElem_toArray, List.getElem_cons_zero, List.getElem_cons_succ, List.setIfInBounds_toArray, List.set_cons_zero, List.set_cons_succ]
      refine wpAnyH_take (i := 11) (v := undef) rfl (by kernel_rfl) (by kernel_rfl) (by kernel_rfl) (fun _ _ _ h => h) (Or.inr ⟨by rfl, rfl⟩) (by assumption) ?_
      try simp only [Act.put, List.getElem_toArray, List.getElem_cons_zero, List.getElem_cons_succ, List.setIfInBounds_toArray, List.set_cons_zero, List.set_cons_succ]
      refine wpAnyH_take (i := 12) (v := undef) rfl (by kernel_rfl) (by kernel_rfl) (by kernel_rfl) (fun _ _ _ h => h) (Or.inr ⟨by rfl, rfl⟩) (by assumption) ?_
      try simp only [Act.put, List.getElem_toArray, List.getElem_cons_zero, List.getElem_cons_succ, List.setIfInBounds_toArray, List.set_cons_zero, List.set_cons_succ]
      refine wpAnyH_take (i := 13) (v := undef) rfl (by kernel_rfl) (by kernel_rfl) (by kernel_rfl) (fun _ _ _ h => h) (Or.inr ⟨by rfl, rfl⟩) (by assumption) ?_
      try simp only [Act.put, List.getElem_toArray, List.getElem_cons_zero, List.getElem_cons_succ, List.setIfInBounds_toArray, List.set_cons_zero, List.set_cons_succ]
      refine wpAnyH_take (i := 14) (v := ?r2v14) rfl (by kernel_rfl) (by kernel_rfl) (by kernel_rfl) (fun _ _ _ h => h) (Or.inl ⟨by rfl, ?r2y14⟩) (by assumption) ?r2t14
      case r2y14 => (intro w hSw; (try dsimp only at hSw); (try simp only [List.getElem_toArray, List.getElem_cons_zero, List.getElem_cons_succ]); go_simp; try with_reducible rfl)
      try simp only [Act.put, List.getElem_toArray, List.getElem_cons_zero, List.getElem_cons_succ, List.setIfInBounds_toArray, List.set_cons_zero, List.set_cons_succ]
      refine wpAnyH_take (i := 15) (v := ?r2v15) rfl (by kernel_rfl) (by kernel_rfl) (by kernel_rfl) (fun _ _ _ h => h) (Or.inl ⟨by rfl, ?r2y15⟩) (by assumption) ?r2t15
      case r2y15 => (intro w hSw; (try dsimp only at hSw); (try simp only [List.getElem_toArray, List.getElem_cons_zero, List.getElem_cons_succ]); go_simp; try with_reducible rfl)
      try simp only [Act.put, List.getElem_toArray, List.getElem_cons_zero, List.getElem_cons_succ, List.setIfInBounds_toArray, List.set_cons_zero, List.set_cons_succ]
      refine wpAnyH_done (by kernel_rfl) ?_ _
      go_wp2
      go_ret
      exact ⟨rfl, B2⟩
    | true =>
      simp only [hRb] at hrb
      go_wp2
      refine wp_region_held_drew (S := (fun w' => w'.cell? ⟨w.heap.size, 0, none⟩ = some (.slice pa a.nodes.length ca) ∧ w'.cell? ⟨w.heap.size, 1, none⟩ = some (.int .i64 a.root) ∧ w'.cell? ⟨w.heap.size + 1, 0, none⟩ = some (.slice pb b.nodes.length cb) ∧ w'.cell? ⟨w.heap.size + 1, 1, none⟩ = some (.int .i64 b.root))) (by kernel_rfl) (⟨KA0.two.1.1, KA0.two.1.2, KB0.two.1.1, KB0.two.1.2⟩) (fun hHeld => ?_)
      refine wpAnyH_take (i := 0) (v := ?r3v0) rfl (by kernel_rfl) (by kernel_rfl) (by kernel_rfl) (fun _ _ _ h => h) (Or.inl ⟨by rfl, ?r3y0⟩) (by assumption) ?r3t0
      case r3y0 => (intro w hSw; (try dsimp only at hSw); (try simp only [List.getElem_toArray, List.getElem_cons_zero]); go_simp; try with_reducible rfl)
      try simp only [Act.put, List.getElem_toArray, List.getElem_cons_zero, List.setIfInBounds_toArray, List.set_cons_zero, List.set_cons_succ]
      refine wpAnyH_ready (rs := [1]) (by kernel_rfl) (by simp) ?_
      refine AllReadyH.cons rfl (fun K hK => ?_) AllReadyH.nil
      try simp only [List.getElem_toArray, List.getElem_cons_zero, List.getElem_cons_succ]
      go_simp
      (refine (hra _ ⟨_, rfl, hna.below B0⟩ (hE.below B0)).mono ?_; rintro e w1 ⟨rfl, hb1⟩; have KA1 := KA0.below hb1 KA0.lt; have KB1 := KB0.below hb1 KB0.lt; have B1 := B0.trans (hb1.mono B0.size))
      try go_simp
      refine hK.out _ _ ?r3S1 (fun hHeld2 => ?_)
      case r3S1 => (try dsimp only); (first | exact ⟨KA5.two.1.1, KA5.two.1.2, KB5.two.1.1, KB5.two.1.2⟩ | exact ⟨KA4.two.1.1, KA4.two.1.2, KB4.two.1.1, KB4.two.1.2⟩ | exact ⟨KA3.two.1.1, KA3.two.1.2, KB3.two.1.1, KB3.two.1.2⟩ | exact ⟨KA2.two.1.1, KA2.two.1.2, KB2.two.1.1, KB2.two.1.2⟩ | exact ⟨KA1.two.1.1, KA1.two.1.2, KB1.two.1.1, KB1.two.1.2⟩)
      clear hHeld hK K
      have hHeld := hHeld2
      clear hHeld2
      try simp only [Act.put, List.getElem_toArray, List.getElem_cons_zero, List.getElem_cons_succ, List.setIfInBounds_toArray, List.set_cons_zero, List.set_cons_succ]
      refine wpAnyH_take (i := 2) (v := ?r3v2) rfl (by kernel_rfl) (by kernel_rfl) (by kernel_rfl) (fun _ _ _ h => h) (Or.inl ⟨by rfl, ?r3y2⟩) (by assumption) ?r3t2
      case r3y2 => (intro w hSw; (try dsimp only at hSw); (try simp only [List.getElem_toArray, List.getElem_cons_zero, List.getElem_cons_succ]); go_simp; try with_reducible rfl)
      try simp only [Act.put, List.getElem_toArray, List.getElem_cons_zero, List.getElem_cons_succ, List.setIfInBounds_toArray, List.set_cons_zero, List.set_cons_succ]
      refine wpAnyH_take (i := 3) (v := ?r3v3) rfl (by kernel_rfl) (by kernel_rfl) (by kernel_rfl) (fun _ _ _ h => h) (Or.inl ⟨by rfl, ?r3y3⟩) (by assumption) ?r3t3
      case r3y3 => (intro w hSw; (try dsimp only at hSw); (try simp only [List.getElem_toArray, List.getElem_cons_zero, List.getElem_cons_succ]); go_simp; try with_reducible rfl)
      try simp only [Act.put, List.getElem_toArray, List.getElem_cons_zero, List.getElem_cons_succ, List.setIfInBounds_toArray, List.set_cons_zero, List.set_cons_succ]
      refine wpAnyH_ready (rs := [4]) (by kernel_rfl) (by simp) ?_
      refine AllReadyH.cons rfl (fun K hK => ?_) AllReadyH.nil
      try simp only [List.getElem_toArray, List.getElem_cons_zero, List.getElem_cons_succ]
      go_simp
      (refine (hrb _ ⟨_, rfl, hnb.below B1⟩ (hE.below B1)).mono ?_; rintro e w2 ⟨rfl, hb2⟩; have KA2 := KA1.below hb2 KA1.lt; have KB2 := KB1.below hb2 KB1.lt; have B2 := B1.trans (hb2.mono B1.size))
      try go_simp
      refine hK.out _ _ ?r3S4 (fun hHeld2 => ?_)
      case r3S4 => (try dsimp only); (first | exact ⟨KA5.two.1.1, KA5.two.1.2, KB5.two.1.1, KB5.two.1.2⟩ | exact ⟨KA4.two.1.1, KA4.two.1.2, KB4.two.1.1, KB4.two.1.2⟩ | exact ⟨KA3.two.1.1, KA3.two.1.2, KB3.two.1.1, KB3.two.1.2⟩ | exact ⟨KA2.two.1.1, KA2.two.1.2, KB2.two.1.1, KB2.two.1.2⟩ | exact ⟨KA1.two.1.1, KA1.two.1.2, KB1.two.1.1, KB1.two.1.2⟩)
      clear hHeld hK K
      have hHeld := hHeld2
      clear hHeld2
      try simp only [Act.put, List.getElem_toArray, List.getElem_cons_zero, List.getElem_cons_succ, List.setIfInBounds_toArray, List.set_cons_zero, List.set_cons_succ]
      refine wpAnyH_take (i := 5) (v := ?r3v5) rfl (by kernel_rfl) (by kernel_rfl) (by kernel_rfl) (fun _ _ _ h => h) (Or.inl ⟨by rfl, ?r3y5⟩) (by assumption) ?r3t5
      case r3y5 => (intro w hSw; (try dsimp only at hSw); (try simp only [List.getElem_toArray, List.getElem_cons_zero, List.getElem_cons_succ]); go_simp; try with_reducible rfl)
      try simp only [Act.put, List.getElem_toArray, List.getElem_cons_zero, List.getElem_cons_succ, List.setIfInBounds_toArray, List.set_cons_zero, List.set_cons_succ]
      refine wpAnyH_take (i := 6) (v := ?r3v6) rfl (by kernel_rfl) (by kernel_rfl) (by kernel_rfl) (fun _ _ _ h => h) (Or.inl ⟨by rfl, ?r3y6⟩) (by assumption) ?r3t6
      case r3y6 => (intro w hSw; (try dsimp only at hSw); (try simp only [List.getElem_toArray, List.getElem_cons_zero, List.getElem_cons_succ]); go_simp; try with_reducible rfl)
      try simp only [Act.put, List.getElem_toArray, List.getElem_cons_zero, List.getElem_cons_succ, List.setIfInBounds_toArray, List.set_cons_zero, List.set_cons_succ]
      refine wpAnyH_take (i := 7) (v := ?r3v7) rfl (by kernel_rfl) (by kernel_rfl) (by kernel_rfl) (fun _ _ _ h => h) (Or.inl ⟨by rfl, ?r3y7⟩) (by assumption) ?r3t7
      case r3y7 => (intro w hSw; (try dsimp only at hSw); (try simp only [List.getElem_toArray, List.getElem_cons_zero, List.getElem_cons_succ]); go_simp; try with_reducible rfl)
      try simp only [Act.put, List.getElem_toArray, List.getElem_cons_zero, List.getElem_cons_succ, List.setIfInBounds_toArray, List.set_cons_zero, List.set_cons_succ]
      refine wpAnyH_take (i := 10) (v := ?r3v8) rfl (by kernel_rfl) (by kernel_rfl) (by kernel_rfl) (fun _ _ _ h => h) (Or.inl ⟨by rfl, ?r3y8⟩) (by assumption) ?r3t8
      case r3y8 => (intro w hSw; (try dsimp only at hSw); (try simp only [List.getElem_toArray, List.getElem_cons_zero, List.getElem_cons_succ]); go_simp; try with_reducible rfl)
      try simp only [Act.put, List.getElem_toArray, List.getElem_cons_zero, List.getElem_cons_succ, List.setIfInBounds_toArray, List.set_cons_zero, List.set_cons_succ]
      refine wpAnyH_ready (rs := [8]) (by kernel_rfl) (by simp) ?_
      refine AllReadyH.cons rfl (fun K hK => ?_) AllReadyH.nil
      try simp only [List.getElem_toArray, List.getElem_cons_zero, List.getElem_cons_succ]
      go_simp
      (refine (hca _ ⟨_, rfl, hna.below B2⟩ (hE.below B2)).mono ?_; rintro e w3 ⟨va, rfl, ⟨nva, CA, rfl, hma, hxa⟩, hb3⟩; obtain ⟨pva, cva, rfl⟩ := own_slice hma.row; have KA3 := KA2.below hb3 KA2.lt; have KB3 := KB2.below hb3 KB2.lt; have B3 := B2.trans (hb3.mono B2.size))
      try go_simp
      refine hK.out _ _ ?r3S9 (fun hHeld2 => ?_)
      case r3S9 => (try dsimp only); (first | exact ⟨KA5.two.1.1, KA5.two.1.2, KB5.two.1.1, KB5.two.1.2⟩ | exact ⟨KA4.two.1.1, KA4.two.1.2, KB4.two.1.1, KB4.two.1.2⟩ | exact ⟨KA3.two.1.1, KA3.two.1.2, KB3.two.1.1, KB3.two.1.2⟩ | exact ⟨KA2.two.1.1, KA2.two.1.2, KB2.two.1.1, KB2.two.1.2⟩ | exact ⟨KA1.two.1.1, KA1.two.1.2, KB1.two.1.1, KB1.two.1.2⟩)
      clear hHeld hK K
      have hHeld := hHeld2
      clear hHeld2
      try simp only [Act.put, List.getElem_toArray, List.getElem_cons_zero, List.getElem_cons_succ, List.setIfInBounds_toArray, List.set_cons_zero, List.set_cons_succ]
      refine wpAnyH_take (i := 9) (v := ?r3v10) rfl (by kernel_rfl) (by kernel_rfl) (by kernel_rfl) (fun _ _ _ h => h) (Or.inl ⟨by rfl, ?r3y10⟩) (by assumption) ?r3t10
      case r3y10 => (intro w hSw; (try dsimp only at hSw); (try simp only [List.getElem_toArray, List.getElem_cons_zero, List.getElem_cons_succ]); go_simp; try with_reducible rfl)
      try simp only [Act.put, List.getElem_toArray, List.getElem_cons_zero, List.getElem_cons_succ, List.setIfInBounds_toArray, List.set_cons_zero, List.set_cons_succ]
      refine wpAnyH_ready (rs := [11]) (by kernel_rfl) (by simp) ?_
      refine AllReadyH.cons rfl (fun K hK => ?_) AllReadyH.nil
      try simp only [List.getElem_toArray, List.getElem_cons_zero, List.getElem_cons_succ]
      go_simp
      (refine (hcb _ ⟨_, rfl, hnb.below B3⟩ (hE.below B3)).mono ?_; rintro e w4 ⟨vb, rfl, ⟨nvb, CB, rfl, hmb, hxb⟩, hb4⟩; obtain ⟨pvb, cvb, rfl⟩ := own_slice hmb.row; have NA4 := (hma.below hb4).nodes; have NB4 := hmb.nodes; rw [hxa] at NA4; rw [hxb] at NB4; have KA4 := KA3.below hb4 KA3.lt; have KB4 := KB3.below hb4 KB3.lt; have B4 := B3.trans (hb4.mono B3.size))
      try go_simp
      refine hK.out _ _ ?r3S11 (fun hHeld2 => ?_)
      case r3S11 => (try dsimp only); (first | exact ⟨KA5.two.1.1, KA5.two.1.2, KB5.two.1.1, KB5.two.1.2⟩ | exact ⟨KA4.two.1.1, KA4.two.1.2, KB4.two.1.1, KB4.two.1.2⟩ | exact ⟨KA3.two.1.1, KA3.two.1.2, KB3.two.1.1, KB3.two.1.2⟩ | exact ⟨KA2.two.1.1, KA2.two.1.2, KB2.two.1.1, KB2.two.1.2⟩ | exact ⟨KA1.two.1.1, KA1.two.1.2, KB1.two.1.1, KB1.two.1.2⟩)
      clear hHeld hK K
      have hHeld := hHeld2
      clear hHeld2
      try simp only [Act.put, List.getElem_toArray, List.getElem_cons_zero, List.getElem_cons_succ, List.setIfInBounds_toArray, List.set_cons_zero, List.set_cons_succ]
      refine wpAnyH_take (i := 12) (v := ?r3v12) rfl (by kernel_rfl) (by kernel_rfl) (by kernel_rfl) (fun _ _ _ h => h) (Or.inl ⟨by rfl, ?r3y12⟩) (by assumption) ?r3t12
      case r3y12 => (intro w hSw; (try dsimp only at hSw); (try simp only [List.getElem_toArray, List.getElem_cons_zero, List.getElem_cons_succ]); go_simp; try with_reducible rfl)
      try simp only [Act.put, List.getElem_toArray, List.getElem_cons_zero, List.getElem_cons_succ, List.setIfInBounds_toArray, List.set_cons_zero, List.set_cons_succ]
      refine wpAnyH_ready (rs := [13]) (by kernel_rfl) (by simp) ?_
      refine AllReadyH.cons rfl (fun K hK => ?_) AllReadyH.nil
      try simp only [List.getElem_toArray, List.getElem_cons_zero, List.getElem_cons_succ]
      go_simp
      (refine (eqf_any _ _ _ _ _ NA4 NB4 (ok_clean hoka).len (ok_clean hoka).kids).mono ?_; rintro e w5 ⟨rfl, hb5⟩; have KA5 := KA4.below hb5 KA4.lt; have KB5 := KB4.below hb5 KB4.lt; have B5 := B4.trans (hb5.mono B4.size))
      try go_simp
      refine hK.out _ _ ?r3S13 (fun hHeld2 => ?_)
      case r3S13 => (try dsimp only); (first | exact ⟨KA5.two.1.1, KA5.two.1.2, KB5.two.1.1, KB5.two.1.2⟩ | exact ⟨KA4.two.1.1, KA4.two.1.2, KB4.two.1.1, KB4.two.1.2⟩ | exact ⟨KA3.two.1.1, KA3.two.1.2, KB3.two.1.1, KB3.two.1.2⟩ | exact ⟨KA2.two.1.1, KA2.two.1.2, KB2.two.1.1, KB2.two.1.2⟩ | exact ⟨KA1.two.1.1, KA1.two.1.2, KB1.two.1.1, KB1.two.1.2⟩)
      clear hHeld hK K
      have hHeld := hHeld2
      clear hHeld2
      try simp only [Act.put, List.getElem_toArray, List.getElem_cons_zero, List.getElem_cons_succ, List.setIfInBounds_toArray, List.set_cons_zero, List.set_cons_succ]
      refine wpAnyH_take (i := 14) (v := ?r3v14) rfl (by kernel_rfl) (by kernel_rfl) (by kernel_rfl) (fun _ _ _ h => h) (Or.inl ⟨by rfl, ?r3y14⟩) (by assumption) ?r3t14
      case r3y14 => (intro w hSw; (try dsimp only at hSw); (try simp only [List.getElem_toArray, List.getElem_cons_zero, List.getElem_cons_succ]); go_simp; try with_reducible rfl)
      try simp only [Act.put, List.getElem_toArray, List.getElem_cons_zero, List.getElem_cons_succ, List.setIfInBounds_toArray, List.set_cons_zero, List.set_cons_succ]
      refine wpAnyH_take (i := 15) (v := ?r3v15) rfl (by kernel_rfl) (by kernel_rfl) (by kernel_rfl) (fun _ _ _ h => h) (Or.inl ⟨by rfl, ?r3y15⟩) (by assumption) ?r3t15
      case r3y15 => (intro w hSw; (try dsimp only at hSw); (try simp only [List.getElem_toArray, List.getElem_cons_zero, List.getElem_cons_succ]); go_simp; try with_reducible rfl)
      try simp only [Act.put, List.getElem_toArray, List.getElem_cons_zero, List.getElem_cons_succ, List.setIfInBounds_toArray, List.set_cons_zero, List.set_cons_succ]
      refine wpAnyH_done (by kernel_rfl) ?_ _
      go_wp2
      go_ret
      exact ⟨rfl, B5⟩
end Go.Proofs.YtpkjfdgjmcphmaaDoor

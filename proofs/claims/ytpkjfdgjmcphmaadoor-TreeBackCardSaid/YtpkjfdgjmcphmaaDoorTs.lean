/- Package tree: Depth, May, Root. -/
import Derived.Test.YtpkjfdgjmcphmaaDoorTq
namespace Go.Proofs.YtpkjfdgjmcphmaaDoor
open Go.RowKit Bset Tm

theorem Tm.RightT.deep {T : Ar} (h : RightT T) : Tm.deep (tree T) = Tm.deep (X (kidsN T.nodes) (T.nodes.length - 1)) := by
  unfold tree tau
  rw [deep_map, h.at.1]
theorem noHd_eq : noHd = ⟨0, 0#256, ⟨#[]⟩, 0, 0⟩ := rfl
theorem Tm.RightT.top {T : Ar} (h : RightT T) : Tm.top (tree T) = hdAt T.nodes (T.nodes.length - 1) := by
  unfold tree
  rw [h.at.1, tau_eq h.2.k.dec]
  rfl
theorem deep_le_n {T : Ar} (h : RightT T) : Tm.deep (tree T) ≤ T.nodes.length := by
  rw [← h.size]
  exact deep_size _

set_option maxRecDepth 100000 in
set_option maxHeartbeats 1000000 in
theorem deepf_any (v : Value) (T : Ar) (w : World) (hv : Tree w v T) (hok : OkA T.nodes) (hE : Env w) :
    Calls Tryd.prog 14 #[v] w fun e w' => e = .returned (.int .i64 (deepT T : Nat)) ∧ Below w.heap.size w w' := by
  obtain ⟨nv, rfl, hn⟩ := hv
  obtain ⟨p, c, rfl⟩ := hn.len
  have hr := fun w h1 h2 => right_at' (treeV (.slice p T.nodes.length c) T.root) T w h1 hok h2
  have b0 := (Below.refl w.heap.size w).alloc (Nat.le_refl _) (.cells #[.slice p T.nodes.length c, .int .i64 T.root] 26)
  have k0 := Cl.new w 26 #[.slice p T.nodes.length c, .int .i64 T.root]
  have hv0 : Tree (w.alloc (.cells #[.slice p T.nodes.length c, .int .i64 T.root] 26)) (treeV (.slice p T.nodes.length c) T.root) T := ⟨_, rfl, hn.below b0⟩
  have hE0 := hE.below b0
  unfold deepT
  cases hR : rightB T with
  | false =>
    simp only [hR] at hr
    go_enter Tryd.func14, Tryd.ntmps14
    go_wp2_with (go_at_call 18; refine (hr _ hv0 hE0).mono ?_; rintro e w1 ⟨rfl, hb⟩; obtain ⟨⟨y0, y1⟩, yf⟩ := (k0.below hb k0.lt).two)
    go_ret
    exact ⟨rfl, b0.trans (hb.mono b0.size)⟩
  | true =>
    have hRT := rightB_iff.1 hR
    simp only [hR] at hr
    have hd := fun w h => depth_any (.slice p T.nodes.length c) T.nodes w h hRT.2 hok
    rw [← hRT.deep] at hd
    clear hR hRT
    go_enter Tryd.func14, Tryd.ntmps14
    go_wp2_with (first
      | (go_at_call 18; refine (hr _ hv0 hE0).mono ?_; rintro e w1 ⟨rfl, hb⟩; obtain ⟨⟨y0, y1⟩, yf⟩ := (k0.below hb k0.lt).two; have b1 := b0.trans (hb.mono b0.size); have hn1 := hn.below b1; clear hb)
      | (go_at_call 68; refine (hd _ hn1).mono ?_; rintro e w2 ⟨rfl, hb⟩))
    go_ret
    exact ⟨rfl, b1.trans (hb.mono b1.size)⟩

set_option maxRecDepth 100000 in
set_option maxHeartbeats 1000000 in
theorem may_t (v : Value) (T : Ar) (w : World) (hv : Tree w v T) (hok : OkA T.nodes) (hE : Env w) :
    Calls Tryd.prog 12 #[v] w fun e w' => e = .returned (.bool (mayT T)) ∧ Below w.heap.size w w' := by
  obtain ⟨nv, rfl, hn⟩ := hv
  obtain ⟨p, c, rfl⟩ := hn.len
  have hr := fun w h1 h2 => right_at' (treeV (.slice p T.nodes.length c) T.root) T w h1 hok h2
  have b0 := (Below.refl w.heap.size w).alloc (Nat.le_refl _) (.cells #[.slice p T.nodes.length c, .int .i64 T.root] 26)
  have k0 := Cl.new w 26 #[.slice p T.nodes.length c, .int .i64 T.root]
  have hv0 : Tree (w.alloc (.cells #[.slice p T.nodes.length c, .int .i64 T.root] 26)) (treeV (.slice p T.nodes.length c) T.root) T := ⟨_, rfl, hn.below b0⟩
  have hE0 := hE.below b0
  unfold mayT
  by_cases hl : T.nodes.length ≤ 1024
  · have hl1 : decide (T.nodes.length ≤ 1024) = true := by simpa using hl
    have hli : (T.nodes.length : Int) ≤ 1024 := by omega
    rw [hl1]
    cases hR : rightB T with
    | false =>
      simp only [hR] at hr
      clear hl hl1
      go_enter Tryd.func12, Tryd.ntmps12
      go_wp2_with (go_at_call 18; refine (hr _ hv0 hE0).mono ?_; rintro e w1 ⟨rfl, hb⟩; obtain ⟨⟨y0, y1⟩, yf⟩ := (k0.below hb k0.lt).two)
      go_ret
      exact ⟨rfl, b0.trans (hb.mono b0.size)⟩
    | true =>
      have hRT := rightB_iff.1 hR
      simp only [hR] at hr
      have hd := fun w h => depth_any (.slice p T.nodes.length c) T.nodes w h hRT.2 hok
      rw [← hRT.deep] at hd
      clear hR hRT hl hl1
      go_enter Tryd.func12, Tryd.ntmps12
      go_wp2_with (first
        | (go_at_call 18; refine (hr _ hv0 hE0).mono ?_; rintro e w1 ⟨rfl, hb⟩; obtain ⟨⟨y0, y1⟩, yf⟩ := (k0.below hb k0.lt).two; have b1 := b0.trans (hb.mono b0.size); have hn1 := hn.below b1; clear hb)
        | (go_at_call 68; refine (hd _ hn1).mono ?_; rintro e w2 ⟨rfl, hb⟩))
      go_ret
      exact ⟨congrArg (fun x => Ending.returned (.bool x)) (by rw [Bool.eq_iff_iff]; simp; try omega), b1.trans (hb.mono b1.size)⟩
  · have hl1 : decide (T.nodes.length ≤ 1024) = false := by simpa using hl
    have hli : ¬ (T.nodes.length : Int) ≤ 1024 := by omega
    rw [hl1]
    clear hl hl1
    go_enter Tryd.func12, Tryd.ntmps12
    go_wp2
    go_ret
    exact ⟨rfl, b0⟩

set_option maxRecDepth 100000 in
set_option maxHeartbeats 1000000 in
theorem root_any (v : Value) (T : Ar) (w : World) (hv : Tree w v T) (hok : OkA T.nodes) (hE : Env w) :
    Calls Tryd.prog 27 #[v] w fun e w' => e = .returned (nodeV (rootT T) (.slice none 0 0)) ∧ Below w.heap.size w w' := by
  obtain ⟨nv, rfl, hn⟩ := hv
  obtain ⟨p, c, rfl⟩ := hn.len
  have hr := fun w h1 h2 => right_at' (treeV (.slice p T.nodes.length c) T.root) T w h1 hok h2
  have b0 := ((Below.refl w.heap.size w).alloc (Nat.le_refl _) (.cells #[.slice p T.nodes.length c, .int .i64 T.root] 26)).alloc (by simp) (.cells nodeZ 38)
  have k0 := (Cl.new w 26 #[.slice p T.nodes.length c, .int .i64 T.root]).alloc (.cells nodeZ 38)
  have n0 : Cl ((w.alloc (.cells #[.slice p T.nodes.length c, .int .i64 T.root] 26)).alloc (.cells nodeZ 38)) (w.heap.size + 1) 38 nodeZ := Cl.new' (by simp) _ _
  have hv0 : Tree ((w.alloc (.cells #[.slice p T.nodes.length c, .int .i64 T.root] 26)).alloc (.cells nodeZ 38)) (treeV (.slice p T.nodes.length c) T.root) T := ⟨_, rfl, hn.below b0⟩
  have hE0 := hE.below b0
  unfold rootT
  cases hR : rightB T with
  | false =>
    rw [if_neg (by simp), noHd_eq, nodeV_zero]
    simp only [hR] at hr
    go_enter Tryd.func27, Tryd.ntmps27
    go_wp2_with (go_at_call 18; refine (hr _ hv0 hE0).mono ?_; rintro e w1 ⟨rfl, hb⟩; obtain ⟨⟨y0, y1⟩, yf⟩ := (k0.below hb k0.lt).two; have n1 := n0.below hb n0.lt; have b1 := b0.trans (hb.mono b0.size); clear hb k0 n0 b0; obtain ⟨⟨z0, z1, z2, z3, z4, z5, z6, z7, z8⟩, zf⟩ := n1.nine)
    exact end_node (n1.set9 _ _ _ _ _ _ _ _ _) rfl rfl rfl ⟨rfl, below_set9 b1 (by omega) _ _ _ _ _ _ _ _ _⟩
  | true =>
    have hRT := rightB_iff.1 hR
    rw [if_pos rfl, hRT.top]
    simp only [hR] at hr
    obtain ⟨m, hm⟩ : ∃ m, T.nodes.length = m + 1 := ⟨T.nodes.length - 1, by have := hRT.2.k.pos; omega⟩
    have hlt : m < T.nodes.length := by omega
    have hroot : T.root = (m : Int) := by have := hRT.1; omega
    have hh : hdAt T.nodes (T.nodes.length - 1) = T.nodes[m].hd := by rw [show T.nodes.length - 1 = m by omega]; exact hdAt_some (by simp [hlt])
    rw [hh]
    have htx := hok.text _ (List.getElem_mem hlt)
    rcases hn with ⟨p', c', e, hn⟩
    obtain ⟨rfl, _, rfl⟩ : p = p' ∧ T.nodes.length = T.nodes.length ∧ c = c' := by simpa using e
    rcases hn with hn | ⟨b, off, rfl, hcell⟩
    · exact absurd hn hRT.2.pos
    · obtain ⟨kv, hN, hI⟩ := hcell m hlt
      obtain ⟨p2, cap2, rfl⟩ := hI.len
      have hm0 : (0 : Int) ≤ (m : Int) := by omega
      have hm1 : (m : Int) < (T.nodes.length : Int) := by omega
      rw [hroot] at hr k0 n0 hv0 hE0 b0 ⊢
      have hbare := fun w => bare_any T.nodes[m].hd (.slice p2 T.nodes[m].kids.length cap2) (by omega) w
      clear hR hRT hm hroot hh e hcell hI
      go_enter Tryd.func27, Tryd.ntmps27
      go_wp2_with (first
        | (go_at_call 18; refine (hr _ hv0 hE0).mono ?_; rintro e w1 ⟨rfl, hb⟩; obtain ⟨⟨y0, y1⟩, yf⟩ := (k0.below hb k0.lt).two; have n1 := n0.below hb n0.lt; have b1 := b0.trans (hb.mono b0.size); obtain ⟨c0, c1, c2, c3, c4, c5, c6, c7, c8⟩ := hN.keep b1.block; clear hb k0 n0 b0 hr hv0 hE0)
        | (go_at_call 71; refine (hbare _).mono ?_; rintro e w2 ⟨rfl, hb⟩; have n2 := n1.below hb n1.lt; have b2 := b1.trans (hb.mono b1.size); clear hb; obtain ⟨⟨z0, z1, z2, z3, z4, z5, z6, z7, z8⟩, zf⟩ := n2.nine))
      exact end_node (n2.set9 _ _ _ _ _ _ _ _ _) rfl rfl rfl ⟨rfl, below_set9 b2 (by omega) _ _ _ _ _ _ _ _ _⟩
end Go.Proofs.YtpkjfdgjmcphmaaDoor

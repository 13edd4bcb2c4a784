/- Package expr: And, Not, Cap, Ways. -/
import Derived.Test.YtpkjfdgjmcphmaaDoorVEr
namespace Go.Proofs.YtpkjfdgjmcphmaaDoor
open Go.RowKit Bset Tm

set_option maxRecDepth 100000 in
set_option maxHeartbeats 8000000 in
theorem and_any (v : Value) (T : Ar) (w : World) (hv : Tree w v T) (hok : OkA T.nodes) (hlen : T.nodes.length ≤ 1000000000) (hE : Env w) :
    Calls Tryd.prog 54 #[v] w fun e w' => ∃ v', e = .returned (.tuple #[v', .bool (ofB (hdK 7) [T])]) ∧ MadeT w.heap.size w' v' (madeT (ofT (hdK 7) [T])) ∧ Below w.heap.size w w' := by
  obtain ⟨nv, rfl, hn⟩ := hv
  obtain ⟨p0, c0, rfl⟩ := hn.len
  have hov := fun W (h1 : Tree W (treeV (.slice p0 T.nodes.length c0) T.root) T) (h2 : Env W) => about_any (hdK 7) (.slice none 0 0) _ T W h1 ⟨by show (7 : Nat) < 256; omega, Nat.zero_le _, by omega⟩ hok hlen h2
  simp only [hdK, nodeV_zero] at hov
  have b0 := ((Below.refl w.heap.size w).alloc (Nat.le_refl _) (.cells #[.slice p0 T.nodes.length c0, .int .i64 T.root] 26)).alloc (by simp) (.cells #[.slice none 0 0, .int .i64 0] 26)
  have k0 := (Cl.new w 26 #[.slice p0 T.nodes.length c0, .int .i64 T.root]).alloc (.cells #[.slice none 0 0, .int .i64 0] 26)
  have n0 : Cl _ (w.heap.size + 1) 26 #[.slice none 0 0, .int .i64 0] := Cl.new' (w := w.alloc (.cells #[.slice p0 T.nodes.length c0, .int .i64 T.root] 26)) (by simp) 26 #[.slice none 0 0, .int .i64 0]
  have hv0 : Tree _ (treeV (.slice p0 T.nodes.length c0) T.root) T := ⟨_, rfl, hn.below b0⟩
  have hE0 := hE.below b0
  obtain ⟨⟨y0, y1⟩, yf⟩ := k0.two
  obtain ⟨B, hB⟩ : ∃ B, B = ofB (hdK 7) [T] := ⟨_, rfl⟩
  obtain ⟨X, hX⟩ : ∃ X, X = ofT (hdK 7) [T] := ⟨_, rfl⟩
  rw [← hB, ← hX]
  simp only [hdK] at hB hX
  rw [← hB, ← hX] at hov
  clear hn hB hX k0
  go_enter Tryd.func54, Tryd.ntmps54
  go_wp2_with (go_at_call 90; refine (hov _ hv0 hE0).mono ?_; rintro e w3 ⟨v, rfl, ⟨nv, C3, rfl, hm3, hC3⟩, hb3⟩
               obtain ⟨p3, c3, rfl⟩ := own_slice hm3.row
               have n3 := n0.below hb3 n0.lt
               have b3 := b0.trans (hb3.mono b0.size)
               have b1s := b0.size
               obtain ⟨⟨x0, x1⟩, xf⟩ := n3.two
               clear hb3)
  exact end_tree_bool (n3.put2 _ _) rfl rfl rfl rfl ⟨_, rfl, ⟨.slice p3 C3.length c3, C3, rfl, (hm3.mono b1s).ty n3 (by decide) (by decide) (gb_put2 w3 _ _ _), hC3⟩, below_put2 b3 (by omega) _ _⟩

set_option maxRecDepth 100000 in
set_option maxHeartbeats 8000000 in
theorem not_any (v : Value) (T : Ar) (w : World) (hv : Tree w v T) (hok : OkA T.nodes) (hlen : T.nodes.length ≤ 1000000000) (hE : Env w) :
    Calls Tryd.prog 56 #[v] w fun e w' => ∃ v', e = .returned (.tuple #[v', .bool (ofB (hdK 8) [T])]) ∧ MadeT w.heap.size w' v' (madeT (ofT (hdK 8) [T])) ∧ Below w.heap.size w w' := by
  obtain ⟨nv, rfl, hn⟩ := hv
  obtain ⟨p0, c0, rfl⟩ := hn.len
  have hov := fun W (h1 : Tree W (treeV (.slice p0 T.nodes.length c0) T.root) T) (h2 : Env W) => about_any (hdK 8) (.slice none 0 0) _ T W h1 ⟨by show (8 : Nat) < 256; omega, Nat.zero_le _, by omega⟩ hok hlen h2
  simp only [hdK, nodeV_zero] at hov
  have b0 := ((Below.refl w.heap.size w).alloc (Nat.le_refl _) (.cells #[.slice p0 T.nodes.length c0, .int .i64 T.root] 26)).alloc (by simp) (.cells #[.slice none 0 0, .int .i64 0] 26)
  have k0 := (Cl.new w 26 #[.slice p0 T.nodes.length c0, .int .i64 T.root]).alloc (.cells #[.slice none 0 0, .int .i64 0] 26)
  have n0 : Cl _ (w.heap.size + 1) 26 #[.slice none 0 0, .int .i64 0] := Cl.new' (w := w.alloc (.cells #[.slice p0 T.nodes.length c0, .int .i64 T.root] 26)) (by simp) 26 #[.slice none 0 0, .int .i64 0]
  have hv0 : Tree _ (treeV (.slice p0 T.nodes.length c0) T.root) T := ⟨_, rfl, hn.below b0⟩
  have hE0 := hE.below b0
  obtain ⟨⟨y0, y1⟩, yf⟩ := k0.two
  obtain ⟨B, hB⟩ : ∃ B, B = ofB (hdK 8) [T] := ⟨_, rfl⟩
  obtain ⟨X, hX⟩ : ∃ X, X = ofT (hdK 8) [T] := ⟨_, rfl⟩
  rw [← hB, ← hX]
  simp only [hdK] at hB hX
  rw [← hB, ← hX] at hov
  clear hn hB hX k0
  go_enter Tryd.func56, Tryd.ntmps56
  go_wp2_with (go_at_call 90; refine (hov _ hv0 hE0).mono ?_; rintro e w3 ⟨v, rfl, ⟨nv, C3, rfl, hm3, hC3⟩, hb3⟩
               obtain ⟨p3, c3, rfl⟩ := own_slice hm3.row
               have n3 := n0.below hb3 n0.lt
               have b3 := b0.trans (hb3.mono b0.size)
               have b1s := b0.size
               obtain ⟨⟨x0, x1⟩, xf⟩ := n3.two
               clear hb3)
  exact end_tree_bool (n3.put2 _ _) rfl rfl rfl rfl ⟨_, rfl, ⟨.slice p3 C3.length c3, C3, rfl, (hm3.mono b1s).ty n3 (by decide) (by decide) (gb_put2 w3 _ _ _), hC3⟩, below_put2 b3 (by omega) _ _⟩

abbrev capH (s : ByteArray) : Hd := ⟨9, 0#256, s, 0, 0⟩
set_option maxRecDepth 100000 in
set_option maxHeartbeats 8000000 in
theorem cap_any (s : ByteArray) (hs : s.size ≤ 140737488355328) (v : Value) (T : Ar) (w : World) (hv : Tree w v T) (hok : OkA T.nodes) (hlen : T.nodes.length ≤ 1000000000) (hE : Env w) :
    Calls Tryd.prog 58 #[.string s, v] w fun e w' => ∃ v', e = .returned (.tuple #[v', .bool (ofB (capH s) [T])]) ∧ MadeT w.heap.size w' v' (madeT (ofT (capH s) [T])) ∧ Below w.heap.size w w' := by
  obtain ⟨nv, rfl, hn⟩ := hv
  obtain ⟨p0, c0, rfl⟩ := hn.len
  have hov := fun W (h1 : Tree W (treeV (.slice p0 T.nodes.length c0) T.root) T) (h2 : Env W) => about_any (capH s) (.slice none 0 0) _ T W h1 ⟨by show (9 : Nat) < 256; omega, hs, by omega⟩ hok hlen h2
  simp only [nodeV_zero] at hov
  have b0 := ((Below.refl w.heap.size w).alloc (Nat.le_refl _) (.cells #[.slice p0 T.nodes.length c0, .int .i64 T.root] 26)).alloc (by simp) (.cells #[.slice none 0 0, .int .i64 0] 26)
  have k0 := (Cl.new w 26 #[.slice p0 T.nodes.length c0, .int .i64 T.root]).alloc (.cells #[.slice none 0 0, .int .i64 0] 26)
  have n0 : Cl _ (w.heap.size + 1) 26 #[.slice none 0 0, .int .i64 0] := Cl.new' (w := w.alloc (.cells #[.slice p0 T.nodes.length c0, .int .i64 T.root] 26)) (by simp) 26 #[.slice none 0 0, .int .i64 0]
  have hv0 : Tree _ (treeV (.slice p0 T.nodes.length c0) T.root) T := ⟨_, rfl, hn.below b0⟩
  have hE0 := hE.below b0
  obtain ⟨⟨y0, y1⟩, yf⟩ := k0.two
  obtain ⟨B, hB⟩ : ∃ B, B = ofB (capH s) [T] := ⟨_, rfl⟩
  obtain ⟨X, hX⟩ : ∃ X, X = ofT (capH s) [T] := ⟨_, rfl⟩
  rw [← hB, ← hX] at hov ⊢
  clear hn hB hX k0
  go_enter Tryd.func58, Tryd.ntmps58
  go_wp2_with (go_at_call 90; refine (hov _ hv0 hE0).mono ?_; rintro e w3 ⟨v, rfl, ⟨nv, C3, rfl, hm3, hC3⟩, hb3⟩
               obtain ⟨p3, c3, rfl⟩ := own_slice hm3.row
               have n3 := n0.below hb3 n0.lt
               have b3 := b0.trans (hb3.mono b0.size)
               have b1s := b0.size
               obtain ⟨⟨x0, x1⟩, xf⟩ := n3.two
               clear hb3)
  exact end_tree_bool (n3.put2 _ _) rfl rfl rfl rfl ⟨_, rfl, ⟨.slice p3 C3.length c3, C3, rfl, (hm3.mono b1s).ty n3 (by decide) (by decide) (gb_put2 w3 _ _ _), hC3⟩, below_put2 b3 (by omega) _ _⟩


noncomputable def waysL (T : Ar) : List Ar := if rightB T = true then splitL 5 (nrm (tree T)) else []
set_option maxRecDepth 100000 in
set_option maxHeartbeats 8000000 in
theorem ways_any (v : Value) (T : Ar) (w : World) (hv : Tree w v T) (hok : OkA T.nodes) (hlen : T.nodes.length ≤ 1073741824) (hE : Env w) :
    Calls Tryd.prog 64 #[v] w fun e w' => ∃ v' L, e = .returned v' ∧ MadeTs w.heap.size w' v' L ∧ L.map Prod.snd = waysL T ∧ Below w.heap.size w w' := by
  obtain ⟨nv, rfl, hn⟩ := hv
  obtain ⟨p0, c0, rfl⟩ := hn.len
  have hmk := fun W (h1 : Tree W (treeV (.slice p0 T.nodes.length c0) T.root) T) (h2 : Env W) => make_any _ T W h1 hok hlen h2
  have b0 := (Below.refl w.heap.size w).alloc (Nat.le_refl _) (.cells #[.slice p0 T.nodes.length c0, .int .i64 T.root] 26)
  have k0 := Cl.new w 26 #[.slice p0 T.nodes.length c0, .int .i64 T.root]
  have hv0 : Tree (w.alloc (.cells #[.slice p0 T.nodes.length c0, .int .i64 T.root] 26)) (treeV (.slice p0 T.nodes.length c0) T.root) T := ⟨_, rfl, hn.below b0⟩
  have hE0 := hE.below b0
  obtain ⟨⟨y0, y1⟩, yf⟩ := k0.two
  unfold waysL
  cases hR : rightB T with
  | false =>
    rw [if_neg (by simp)]
    rw [hR] at hmk
    clear hn hR
    go_enter Tryd.func64, Tryd.ntmps64
    go_wp2_with (go_at_call 60; refine (hmk _ hv0 hE0).mono ?_; rintro e w1 ⟨v1, rfl, ⟨nv1, C1, rfl, hm1, hC1⟩, hb⟩
                 obtain ⟨p1, c1, rfl⟩ := own_slice hm1.row
                 have b1 := b0.trans (hb.mono b0.size)
                 have b2 := b1.alloc b1.size (.cells #[.slice p1 C1.length c1, .int .i64 (madeT T).root] 26))
    go_ret
    exact ⟨_, [], rfl, mades_nil _ _, rfl, b2⟩
  | true =>
    rw [if_pos rfl]
    rw [hR] at hmk
    have hfit := (nrm_good _ (rightB_iff.1 hR).fit).1
    have hsz : size (nrm (tree T)) ≤ 1073741824 := by
      have h1 := nrm_size (tree T)
      have h2 := (rightB_iff.1 hR).size
      omega
    rw [madeT_yes hR] at hmk
    generalize nrm (tree T) = M at *
    have hsp := fun v W (h : MadeT w.heap.size W v (arOf M)) (hl : w.heap.size ≤ W.heap.size) (h2 : Env W) => split_any 5 (by omega) v M w.heap.size W h hl hfit (by omega) h2
    generalize splitL 5 M = LL at *
    clear hn hR
    go_enter Tryd.func64, Tryd.ntmps64
    go_wp2_with (first
      | (go_at_call 60; refine (hmk _ hv0 hE0).mono ?_; rintro e w1 ⟨v1, rfl, ⟨nv1, C1, rfl, hm1, hC1⟩, hb⟩
         obtain ⟨p1, c1, rfl⟩ := own_slice hm1.row
         have b1 := b0.trans (hb.mono b0.size)
         have b2 := b1.alloc b1.size (.cells #[.slice p1 C1.length c1, .int .i64 (arOf M).root] 26)
         have q2 := Cl.new w1 26 #[.slice p1 C1.length c1, .int .i64 (arOf M).root]
         have hmt2 : MadeT w.heap.size (w1.alloc (.cells #[.slice p1 C1.length c1, .int .i64 (arOf M).root] 26)) (treeV (.slice p1 C1.length c1) (arOf M).root) (arOf M) := ⟨_, C1, rfl, (hm1.below ((Below.refl _ _).alloc (Nat.le_refl _) _)).mono b0.size, hC1⟩
         have hE2 := hE.below b2
         obtain ⟨⟨x0, x1⟩, xf⟩ := q2.two
         clear hb b0 k0)
      | (go_at_call 96; refine (hsp _ _ hmt2 b2.size hE2).mono ?_; rintro e w4 ⟨v4, L4, rfl, ht4, hL4, hb⟩
         have b4 := b2.trans (hb.mono b2.size)))
    go_ret
    exact ⟨_, L4, rfl, ht4, hL4, b4⟩
end Go.Proofs.YtpkjfdgjmcphmaaDoor

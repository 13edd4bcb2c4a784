/- Package tree: rooted, leaf, the leaves; May, Size, Depth, Root. -/
import Derived.Test.YtpkjfdgjmcphmaaDoorTp
namespace Go.Proofs.YtpkjfdgjmcphmaaDoor
open Go.RowKit Bset Tm

/-- What a world keeps for package tree. -/
structure Env (w : World) : Prop where
  tab : TabK w
  pos : 0 < w.heap.size
theorem Env.below {w w' : World} (h : Env w) (hb : Below w.heap.size w w') : Env w' := ⟨h.tab.below hb h.pos, Nat.lt_of_lt_of_le h.pos hb.size⟩
theorem Env.alloc {w : World} (h : Env w) (o : Obj) : Env (w.alloc o) := h.below ((Below.refl _ _).alloc (Nat.le_refl _) o)
theorem Env.drew {w : World} (h : Env w) : Env w.drew := ⟨h.tab, h.pos⟩

/-- A tree that a call has made. -/
def MadeT (lo : Nat) (w : World) (v : Value) (T : Ar) : Prop := ∃ nv C, v = treeV nv T.root ∧ Made lo w nv C ∧ C.map Prod.fst = T.nodes
theorem MadeT.tree {lo : Nat} {w : World} {v : Value} {T : Ar} (h : MadeT lo w v T) : Tree w v T := by
  obtain ⟨nv, C, e, hm, hc⟩ := h
  exact ⟨nv, e, hc ▸ hm.nodes⟩
theorem MadeT.below {lo : Nat} {w w' : World} {v : Value} {T : Ar} (h : MadeT lo w v T) (hb : Below w.heap.size w w') : MadeT lo w' v T := by
  obtain ⟨nv, C, e, hm, hc⟩ := h
  exact ⟨nv, C, e, hm.below hb, hc⟩
theorem MadeT.mono {lo lo' : Nat} {w : World} {v : Value} {T : Ar} (h : MadeT lo w v T) (hl : lo' ≤ lo) : MadeT lo' w v T := by
  obtain ⟨nv, C, e, hm, hc⟩ := h
  exact ⟨nv, C, e, hm.mono hl, hc⟩
theorem MadeT.none (lo : Nat) (w : World) : MadeT lo w (treeV (.slice none 0 0) 0) noAr := ⟨_, [], rfl, Made.nil lo w, rfl⟩

theorem Made.store {lo : Nat} {w : World} {v : Value} {B : List (Nd × Value)} (h : Made lo w v B) {p : Addr} (hp : p.block < lo) (u : Value) : Made lo (w.setCell p u) v B :=
  h.keep fun b hb _ => Below.heap_setCell w p u b (by omega)
/-- A tree stored. -/
abbrev put2 (w : World) (g : Nat) (u0 u1 : Value) : World := (w.setCell ⟨g, 0, none⟩ u0).setCell ⟨g, 1, none⟩ u1
theorem Made.put2 {lo : Nat} {w : World} {v : Value} {B : List (Nd × Value)} {g : Nat} (h : Made lo w v B) (hg : g < lo) (u0 u1 : Value) : Made lo (Go.Proofs.YtpkjfdgjmcphmaaDoor.put2 w g u0 u1) v B :=
  (h.store (p := ⟨g, 0, none⟩) hg u0).store (p := ⟨g, 1, none⟩) hg u1
theorem below_put2 {B : Nat} {w0 w : World} {g : Nat} (h : Below B w0 w) (hg : B ≤ g) (u0 u1 : Value) : Below B w0 (put2 w g u0 u1) :=
  (h.setCell (p := ⟨g, 0, none⟩) hg u0).setCell (p := ⟨g, 1, none⟩) hg u1
theorem Cl.put2 {w : World} {g : Nat} {t : TypeId} {a0 a1 : Value} (h : Cl w g t #[a0, a1]) (u0 u1 : Value) : Cl (Go.Proofs.YtpkjfdgjmcphmaaDoor.put2 w g u0 u1) g t #[u0, u1] := (h.put 0 u0).put 1 u1
theorem nodeV_zero (k : Nat) (s : ByteArray) (a b : Int) (kv : Value) : nodeV ⟨k, 0#256, s, a, b⟩ kv = .agg #[.int .u8 k, .int .u64 0, .int .u64 0, .int .u64 0, .int .u64 0, .string s, .int .i64 a, .int .i64 b, kv] := by
  unfold nodeV nodeC
  simp only [setN_zero, word_none]
  rfl

theorem right_at' (v : Value) (T : Ar) (w : World) (hv : Tree w v T) (hok : OkA T.nodes) (hE : Env w) :
    Calls Tryd.prog 18 #[v] w fun e w' => e = .returned (.bool (rightB T)) ∧ Below w.heap.size w w' := right_any v T w hv hok hE.tab hE.pos

set_option maxRecDepth 100000 in
set_option maxHeartbeats 1000000 in
theorem rooted_any (p : Option Addr) (n c : Nat) (hn : n ≤ 4294967297) (w : World) :
    Calls Tryd.prog 72 #[.slice p n c] w fun e w' => e = .returned (treeV (.slice p n c) ((n : Int) - 1)) ∧ Below w.heap.size w w' := by
  have hw : IntKind.i64.wrap ((n : Int) - 1) = (n : Int) - 1 := IntWalk.i64_in _ (by omega)
  go_enter Tryd.func72, Tryd.ntmps72
  go_wp2
  exact end_tree (Cl.new w _ _) rfl rfl rfl ⟨rfl, (Below.refl _ _).alloc (Nat.le_refl _) _⟩

theorem made_one {w : World} {lo : Nat} (h : Hd) (hlo : lo ≤ w.heap.size) : Made lo (w.alloc (.cells (nodeC h (.slice none 0 0)) 38)) (.slice (some ⟨w.heap.size, 0, none⟩) 1 1) [(⟨h, []⟩, .slice none 0 0)] :=
  ⟨World.ownsRow_lit w (nodeC h (.slice none 0 0)) 1 hlo (by decide) rfl, fun x hx => by
    have : x = (⟨h, []⟩, .slice none 0 0) := by simpa using hx
    subst this
    exact World.ownsRow_nil _ lo _ _⟩

/-- A tree of one node. -/
def leafT (h : Hd) : Ar := ⟨[⟨h, []⟩], 0⟩
theorem leafT_arOf (h : Hd) : leafT h = arOf (.mk h []) := rfl

set_option maxRecDepth 100000 in
set_option maxHeartbeats 1000000 in
theorem leaf_any (h : Hd) (kv : Value) (ht : h.text.size ≤ 281474976710656) (w : World) :
    Calls Tryd.prog 69 #[nodeV h kv] w fun e w' => ∃ v, e = .returned v ∧ MadeT w.heap.size w' v (leafT h) ∧ Below w.heap.size w w' := by
  have k0 : Cl ((w.alloc (.cells (nodeC h kv) 38)).alloc (.cells #[.slice none 0 0, .int .i64 0] 26)) (w.heap.size + 1) 26 #[.slice none 0 0, .int .i64 0] := Cl.new' (by simp) _ _
  have b0 := ((Below.refl w.heap.size w).alloc (Nat.le_refl _) (.cells (nodeC h kv) 38)).alloc (by simp) (.cells #[.slice none 0 0, .int .i64 0] 26)
  go_enter Tryd.func69, Tryd.ntmps69
  go_wp2_with (first
    | (go_at_call 71; refine (bare_any h kv ht _).mono ?_; rintro e w1 ⟨rfl, hb1⟩)
    | (go_at_call 72; refine (rooted_any _ 1 1 (by decide) _).mono ?_; rintro e w2 ⟨rfl, hb2⟩
       have b1 := b0.trans (hb1.mono b0.size)
       have m := made_one (lo := w1.heap.size) h (Nat.le_refl _)
       have b2 := b1.alloc b1.size (.cells (nodeC h (.slice none 0 0)) 38)
       have b3 := b2.trans (hb2.mono b2.size)
       have k3 := ((k0.below hb1 k0.lt).alloc (.cells (nodeC h (.slice none 0 0)) 38))
       have k4 := k3.below hb2 k3.lt
       have m4 := m.below hb2
       have hz := Lib.hid (Nat.lt_of_lt_of_le k0.lt hb1.size)
       clear k3 hb2 hb1 k0 b0 m b2
       obtain ⟨⟨y0, y1⟩, yf⟩ := k4.two))
  have hlt := hz.out
  exact end_tree (k4.put2 _ _) rfl rfl rfl ⟨_, rfl, ⟨_, _, rfl, (m4.put2 hlt _ _).mono (by omega), rfl⟩, below_put2 b3 (by omega) _ _⟩

set_option maxRecDepth 100000 in
set_option maxHeartbeats 1000000 in
theorem text_any (s : ByteArray) (ht : s.size ≤ 281474976710656) (w : World) :
    Calls Tryd.prog 15 #[.string s] w fun e w' => ∃ v, e = .returned v ∧ MadeT w.heap.size w' v (leafT ⟨2, 0#256, s, 0, 0⟩) ∧ Below w.heap.size w w' := by
  have k0 := Cl.new w 26 #[.slice none 0 0, .int .i64 0]
  have b0 := (Below.refl w.heap.size w).alloc (Nat.le_refl _) (.cells #[.slice none 0 0, .int .i64 0] 26)
  have hl := fun w => leaf_any ⟨2, 0#256, s, 0, 0⟩ (.slice none 0 0) ht w
  simp only [nodeV_zero] at hl
  go_enter Tryd.func15, Tryd.ntmps15
  go_wp2_with (go_at_call 69; refine (hl _).mono ?_; rintro e w1 ⟨v, rfl, ⟨nv, C, rfl, hm, hc⟩, hb⟩; obtain ⟨p, c, rfl⟩ := own_slice hm.row; have k1 := k0.below hb k0.lt; have b1 := b0.trans (hb.mono b0.size); have hz := Lib.hid k0.lt; clear hb k0 b0; obtain ⟨⟨y0, y1⟩, yf⟩ := k1.two)
  exact end_tree (k1.put2 _ _) rfl rfl rfl ⟨_, rfl, ⟨_, _, rfl, (hm.put2 hz.out _ _).mono (by simp), hc⟩, below_put2 b1 (Nat.le_refl _) _ _⟩

set_option maxRecDepth 100000 in
set_option maxHeartbeats 1000000 in
theorem rule_any (s : ByteArray) (ht : s.size ≤ 281474976710656) (w : World) :
    Calls Tryd.prog 67 #[.string s] w fun e w' => ∃ v, e = .returned v ∧ MadeT w.heap.size w' v (leafT ⟨3, 0#256, s, 0, 0⟩) ∧ Below w.heap.size w w' := by
  have k0 := Cl.new w 26 #[.slice none 0 0, .int .i64 0]
  have b0 := (Below.refl w.heap.size w).alloc (Nat.le_refl _) (.cells #[.slice none 0 0, .int .i64 0] 26)
  have hl := fun w => leaf_any ⟨3, 0#256, s, 0, 0⟩ (.slice none 0 0) ht w
  simp only [nodeV_zero] at hl
  go_enter Tryd.func67, Tryd.ntmps67
  go_wp2_with (go_at_call 69; refine (hl _).mono ?_; rintro e w1 ⟨v, rfl, ⟨nv, C, rfl, hm, hc⟩, hb⟩; obtain ⟨p, c, rfl⟩ := own_slice hm.row; have k1 := k0.below hb k0.lt; have b1 := b0.trans (hb.mono b0.size); have hz := Lib.hid k0.lt; clear hb k0 b0; obtain ⟨⟨y0, y1⟩, yf⟩ := k1.two)
  exact end_tree (k1.put2 _ _) rfl rfl rfl ⟨_, rfl, ⟨_, _, rfl, (hm.put2 hz.out _ _).mono (by simp), hc⟩, below_put2 b1 (Nat.le_refl _) _ _⟩

set_option maxRecDepth 100000 in
set_option maxHeartbeats 1000000 in
theorem empty_any (w : World) :
    Calls Tryd.prog 17 #[] w fun e w' => ∃ v, e = .returned v ∧ MadeT w.heap.size w' v (leafT ⟨0, 0#256, ⟨#[]⟩, 0, 0⟩) ∧ Below w.heap.size w w' := by
  have k0 := Cl.new w 26 #[.slice none 0 0, .int .i64 0]
  have b0 := (Below.refl w.heap.size w).alloc (Nat.le_refl _) (.cells #[.slice none 0 0, .int .i64 0] 26)
  have hl := fun w => leaf_any ⟨0, 0#256, ⟨#[]⟩, 0, 0⟩ (.slice none 0 0) (by decide) w
  simp only [nodeV_zero] at hl
  go_enter Tryd.func17, Tryd.ntmps17
  go_wp2_with (go_at_call 69; refine (hl _).mono ?_; rintro e w1 ⟨v, rfl, ⟨nv, C, rfl, hm, hc⟩, hb⟩; obtain ⟨p, c, rfl⟩ := own_slice hm.row; have k1 := k0.below hb k0.lt; have b1 := b0.trans (hb.mono b0.size); have hz := Lib.hid k0.lt; clear hb k0 b0; obtain ⟨⟨y0, y1⟩, yf⟩ := k1.two)
  exact end_tree (k1.put2 _ _) rfl rfl rfl ⟨_, rfl, ⟨_, _, rfl, (hm.put2 hz.out _ _).mono (by simp), hc⟩, below_put2 b1 (Nat.le_refl _) _ _⟩

theorem tree_size_of {T : Ar} : T.nodes.length = T.nodes.length := rfl
noncomputable def sizeT (T : Ar) : Nat := if rightB T = true then T.nodes.length else 0
noncomputable def deepT (T : Ar) : Nat := if rightB T = true then deep (tree T) else 0
noncomputable def mayT (T : Ar) : Bool := decide (T.nodes.length ≤ 1024) && rightB T && decide (deep (tree T) ≤ 32)
noncomputable def rootT (T : Ar) : Hd := if rightB T = true then top (tree T) else noHd

set_option maxRecDepth 100000 in
set_option maxHeartbeats 1000000 in
theorem size_any (v : Value) (T : Ar) (w : World) (hv : Tree w v T) (hok : OkA T.nodes) (hE : Env w) :
    Calls Tryd.prog 19 #[v] w fun e w' => e = .returned (.int .i64 (sizeT T : Nat)) ∧ Below w.heap.size w w' := by
  obtain ⟨nv, rfl, hn⟩ := hv
  obtain ⟨p, c, rfl⟩ := hn.len
  have hr := fun w h1 h2 => right_at' (treeV (.slice p T.nodes.length c) T.root) T w h1 hok h2
  have b0 := (Below.refl w.heap.size w).alloc (Nat.le_refl _) (.cells #[.slice p T.nodes.length c, .int .i64 T.root] 26)
  have k0 := Cl.new w 26 #[.slice p T.nodes.length c, .int .i64 T.root]
  have hv0 : Tree (w.alloc (.cells #[.slice p T.nodes.length c, .int .i64 T.root] 26)) (treeV (.slice p T.nodes.length c) T.root) T := ⟨_, rfl, hn.below b0⟩
  have hE0 := hE.below b0
  unfold sizeT
  cases hR : rightB T
  all_goals
    simp only [hR] at hr
    go_enter Tryd.func19, Tryd.ntmps19
    go_wp2_with (go_at_call 18; refine (hr _ hv0 hE0).mono ?_; rintro e w1 ⟨rfl, hb⟩; obtain ⟨⟨y0, y1⟩, yf⟩ := (k0.below hb k0.lt).two)
    go_ret
    exact ⟨rfl, b0.trans (hb.mono b0.size)⟩
end Go.Proofs.YtpkjfdgjmcphmaaDoor

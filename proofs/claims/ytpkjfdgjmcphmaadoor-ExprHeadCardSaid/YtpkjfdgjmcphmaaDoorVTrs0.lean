/- bonsailaw04: TreeSame, its parts. -/
import Derived.Test.YtpkjfdgjmcphmaaDoorVTone
import Derived.Test.YtpkjfdgjmcphmaaDoorVTex
import Derived.Test.YtpkjfdgjmcphmaaDoorVTrow
import Derived.Test.YtpkjfdgjmcphmaaDoorVTz2
namespace Go.Proofs.YtpkjfdgjmcphmaaDoor
open Go.RowKit Bset Tm

theorem trees_three {w : World} {v1 v2 v3 : Value} {T U V : Ar} (h1 : Tree w (treeV v1 T.root) T) (h2 : Tree w (treeV v2 U.root) U) (h3 : Tree w (treeV v3 V.root) V) : Trees (w.alloc (.cells #[v1, .int .i64 T.root, v2, .int .i64 U.root, v3, .int .i64 V.root] 26)) (.slice (some ⟨w.heap.size, 0, none⟩) 3 3) [T, U, V] := by
  have hc := Cl.new w 26 #[v1, .int .i64 T.root, v2, .int .i64 U.root, v3, .int .i64 V.root]
  have hb := (Below.refl w.heap.size w).alloc (Nat.le_refl _) (.cells #[v1, .int .i64 T.root, v2, .int .i64 U.root, v3, .int .i64 V.root] 26)
  obtain ⟨nv1, e1, n1⟩ := h1.below hb
  obtain ⟨nv2, e2, n2⟩ := h2.below hb
  obtain ⟨nv3, e3, n3⟩ := h3.below hb
  have e1' : v1 = nv1 := by simpa using e1
  have e2' : v2 = nv2 := by simpa using e2
  have e3' : v3 = nv3 := by simpa using e3
  subst e1' e2' e3'
  refine ⟨_, 3, rfl, .inr ⟨w.heap.size, 0, rfl, fun j hj => ?_⟩⟩
  have hj' : j < 3 := hj
  match j, hj' with
  | 0, _ => exact ⟨v1, hc.cell 0, hc.cell 1, n1⟩
  | 1, _ => exact ⟨v2, hc.cell 2, hc.cell 3, n2⟩
  | 2, _ => exact ⟨v3, hc.cell 4, hc.cell 5, n3⟩

theorem same_comm (a b : Ar) : sameT b a = sameT a b := by
  rw [Bool.eq_iff_iff, same_iff, same_iff]
  exact ⟨fun ⟨h1, h2, h3⟩ => ⟨h2, h1, h3.symm⟩, fun ⟨h1, h2, h3⟩ => ⟨h2, h1, h3.symm⟩⟩
theorem same_self (a : Ar) : sameT a a = rightB a := by
  rw [Bool.eq_iff_iff, same_iff]
  exact ⟨fun h => h.1, fun h => ⟨h, h, rfl⟩⟩
theorem same_trans {a b c : Ar} (h1 : sameT a b = true) (h2 : sameT b c = true) : sameT a c = true := by
  rw [same_iff] at *
  exact ⟨h1.1, h2.2.1, h1.2.2.trans h2.2.2⟩
theorem same_clean {a : Ar} (h : rightB a = true) : sameT a (cleanT a) = true :=
  same_iff.2 ⟨h, (clean_right a).trans h, (clean_tree h).symm⟩
theorem exact_self (a : Ar) : exactT a a = true := by simp [exactT, eqB_iff.2 rfl]
theorem exact_clean {a b : Ar} (ha : rightB a = true) (hb : rightB b = true) : exactT (cleanT a) (cleanT b) = sameT a b := by
  rw [Bool.eq_iff_iff, same_iff]
  unfold exactT cleanT
  rw [if_pos ha, if_pos hb, Bool.and_eq_true, eqB_iff, decide_eq_true_eq]
  constructor
  · rintro ⟨h1, _⟩
    exact ⟨ha, hb, flat_inj h1⟩
  · rintro ⟨_, _, h⟩
    rw [h]
    exact ⟨rfl, rfl⟩

/-- Clean, as its value stands. -/
theorem clean_at (v : Value) (T : Ar) (w : World) (hv : Tree w v T) (hok : OkA T.nodes) (hE : Env w) :
    Calls Tryd.prog 25 #[v] w fun e w' => ∃ p c C, e = .returned (treeV (.slice p (cleanT T).nodes.length c) (cleanT T).root) ∧ Made w.heap.size w' (.slice p (cleanT T).nodes.length c) C ∧ C.map Prod.fst = (cleanT T).nodes ∧ Below w.heap.size w w' := by
  refine (clean_any v T w hv hok hE).mono ?_
  rintro e w' ⟨v', rfl, ⟨nv, C, rfl, hm, hc⟩, hb⟩
  obtain ⟨p, c, rfl⟩ := own_slice hm.row
  have hl : C.length = (cleanT T).nodes.length := by rw [← hc, List.length_map]
  rw [hl] at hm
  exact ⟨p, c, C, by rw [hl], hm, hc, hb⟩

abbrev zeroT : Obj := .cells #[.slice none 0 0, .int .i64 0] 26
/-- The three boxes that were handed in. -/
structure Bx (w : World) (cA cB cC : Array Value) (W : World) : Prop where
  b : Below w.heap.size w W
  ka : Cl W w.heap.size 26 cA
  kb : Cl W (w.heap.size + 1) 26 cB
  kc : Cl W (w.heap.size + 1 + 1) 26 cC
section
variable {w W W' : World} {cA cB cC : Array Value}
theorem Bx.below (h : Bx w cA cB cC W) (hb : Below W.heap.size W W') : Bx w cA cB cC W' := ⟨h.b.trans (hb.mono h.b.size), h.ka.below hb h.ka.lt, h.kb.below hb h.kb.lt, h.kc.below hb h.kc.lt⟩
theorem Bx.alloc (h : Bx w cA cB cC W) (o : Obj) : Bx w cA cB cC (W.alloc o) := h.below ((Below.refl _ _).alloc (Nat.le_refl _) o)
theorem Bx.drew (h : Bx w cA cB cC W) : Bx w cA cB cC W.drew := ⟨h.b.drew, h.ka, h.kb, h.kc⟩
theorem Bx.put (h : Bx w cA cB cC W) {g : Nat} (hg : w.heap.size + 3 ≤ g) (u0 u1 : Value) : Bx w cA cB cC ((W.setCell ⟨g, 0, none⟩ u0).setCell ⟨g, 1, none⟩ u1) :=
  ⟨below_put2 h.b (by omega) u0 u1, (h.ka.other (p := ⟨g, 0, none⟩) (by simp; omega) u0).other (p := ⟨g, 1, none⟩) (by simp; omega) u1, (h.kb.other (p := ⟨g, 0, none⟩) (by simp; omega) u0).other (p := ⟨g, 1, none⟩) (by simp; omega) u1, (h.kc.other (p := ⟨g, 0, none⟩) (by simp; omega) u0).other (p := ⟨g, 1, none⟩) (by simp; omega) u1⟩
theorem Bx.big (h : Bx w cA cB cC W) : w.heap.size + 3 ≤ W.heap.size := by
  have := h.kc.lt
  omega
end
/-- .. and the two that the statement makes. -/
structure T5 (w : World) (cA cB cC : Array Value) (gX gY : Nat) (vX vY : Value) (rX rY : Int) (X Y : List Nd) (W : World) : Prop where
  bx : Bx w cA cB cC W
  kx : Cl W gX 26 #[vX, .int .i64 rX]
  ky : Cl W gY 26 #[vY, .int .i64 rY]
  nx : Nodes W vX X
  ny : Nodes W vY Y
theorem T5.below {w W W' : World} {cA cB cC : Array Value} {gX gY : Nat} {vX vY : Value} {rX rY : Int} {X Y : List Nd} (h : T5 w cA cB cC gX gY vX vY rX rY X Y W) (hb : Below W.heap.size W W') : T5 w cA cB cC gX gY vX vY rX rY X Y W' :=
  ⟨h.bx.below hb, h.kx.below hb h.kx.lt, h.ky.below hb h.ky.lt, h.nx.below hb, h.ny.below hb⟩
theorem T5.drew {w W : World} {cA cB cC : Array Value} {gX gY : Nat} {vX vY : Value} {rX rY : Int} {X Y : List Nd} (h : T5 w cA cB cC gX gY vX vY rX rY X Y W) : T5 w cA cB cC gX gY vX vY rX rY X Y W.drew :=
  ⟨h.bx.drew, h.kx, h.ky, h.nx.keep fun _ _ => rfl, h.ny.keep fun _ _ => rfl⟩
theorem T5.S {w W : World} {a0 a1 b0 b1 c0 c1 : Value} {gX gY : Nat} {vX vY : Value} {rX rY : Int} {X Y : List Nd} (h : T5 w #[a0, a1] #[b0, b1] #[c0, c1] gX gY vX vY rX rY X Y W) :
    W.cell? ⟨w.heap.size, 0, none⟩ = some a0 ∧ W.cell? ⟨w.heap.size, 1, none⟩ = some a1 ∧ W.cell? ⟨w.heap.size + 1, 0, none⟩ = some b0 ∧ W.cell? ⟨w.heap.size + 1, 1, none⟩ = some b1 ∧ W.cell? ⟨w.heap.size + 1 + 1, 0, none⟩ = some c0 ∧ W.cell? ⟨w.heap.size + 1 + 1, 1, none⟩ = some c1 ∧
      W.cell? ⟨gX, 0, none⟩ = some vX ∧ W.cell? ⟨gX, 1, none⟩ = some (.int .i64 rX) ∧ W.cell? ⟨gY, 0, none⟩ = some vY ∧ W.cell? ⟨gY, 1, none⟩ = some (.int .i64 rY) :=
  ⟨h.bx.ka.two.1.1, h.bx.ka.two.1.2, h.bx.kb.two.1.1, h.bx.kb.two.1.2, h.bx.kc.two.1.1, h.bx.kc.two.1.2, h.kx.two.1.1, h.kx.two.1.2, h.ky.two.1.1, h.ky.two.1.2⟩
theorem Bx.S {w W : World} {a0 a1 b0 b1 c0 c1 : Value} (h : Bx w #[a0, a1] #[b0, b1] #[c0, c1] W) :
    W.cell? ⟨w.heap.size, 0, none⟩ = some a0 ∧ W.cell? ⟨w.heap.size, 1, none⟩ = some a1 ∧ W.cell? ⟨w.heap.size + 1, 0, none⟩ = some b0 ∧ W.cell? ⟨w.heap.size + 1, 1, none⟩ = some b1 ∧ W.cell? ⟨w.heap.size + 1 + 1, 0, none⟩ = some c0 ∧ W.cell? ⟨w.heap.size + 1 + 1, 1, none⟩ = some c1 :=
  ⟨h.ka.two.1.1, h.ka.two.1.2, h.kb.two.1.1, h.kb.two.1.2, h.kc.two.1.1, h.kc.two.1.2⟩
end Go.Proofs.YtpkjfdgjmcphmaaDoor

/- Package tree: part. -/
namespace Go.Proofs.YtpkjfdgjmcphmaaDoor
open Go.RowKit Bset Tm

theorem Nodes.cut {w : World} {b off cap : Nat} {A : List Nd} (h : Nodes w (.slice (some ⟨b, off, none⟩) A.length cap) A) {s m : Nat} (hs : s + m ≤ A.length) (c : Nat) : Nodes w (.slice (some ⟨b, off + s * 9, none⟩) m c) ((A.drop s).take m) := by
  obtain ⟨p, cap', e, h⟩ := h
  obtain ⟨rfl, _⟩ : some (⟨b, off, none⟩ : Addr) = p ∧ cap = cap' := by simpa using e
  have hl : ((A.drop s).take m).length = m := by simp; omega
  refine ⟨some ⟨b, off + s * 9, none⟩, c, by rw [hl], ?_⟩
  rcases h with rfl | ⟨b', off', e2, h⟩
  · left
    simp
  · right
    obtain ⟨rfl, rfl⟩ : b = b' ∧ off = off' := by simpa using e2
    refine ⟨b, off + s * 9, rfl, fun j hj => ?_⟩
    have hj' : s + j < A.length := by omega
    obtain ⟨kv, h1, h2⟩ := h (s + j) hj'
    have he : ((A.drop s).take m)[j] = A[s + j] := by simp
    rw [he]
    exact ⟨kv, by rw [show off + s * 9 + j * 9 = off + (s + j) * 9 by omega]; exact h1, h2⟩

set_option maxRecDepth 100000 in
set_option maxHeartbeats 4000000 in
theorem part_any (b off cap : Nat) (r : Int) (A : List Nd) (s m : Nat) (w : World) (hN : Nodes w (.slice (some ⟨b, off, none⟩) A.length cap) A) (hcap : A.length ≤ cap) (hok : OkA A)
    (hkb : ∀ n ∈ A, ∀ k ∈ n.kids, -4611686018427387904 ≤ k ∧ k ≤ 4611686018427387904) (hs : s + m ≤ A.length) (hm : 0 < m) :
    Calls Tryd.prog 79 #[treeV (.slice (some ⟨b, off, none⟩) A.length cap) r, .int .i64 s, .int .i64 m] w fun e w' => ∃ v, e = .returned v ∧ MadeT w.heap.size w' v ⟨((A.drop s).take m).map (mv (0 - s)), (m : Int) - 1⟩ ∧ Below w.heap.size w w' := by
  have hlen := hok.len
  have B0 := ((Below.refl w.heap.size w).alloc (Nat.le_refl _) (.cells #[.slice (some ⟨b, off, none⟩) A.length cap, .int .i64 r] 26)).alloc (by simp) (.cells #[.slice none 0 0, .int .i64 0] 26)
  have K0 := (Cl.new w 26 #[.slice (some ⟨b, off, none⟩) A.length cap, .int .i64 r]).alloc (.cells #[.slice none 0 0, .int .i64 0] 26)
  have N0 : Cl ((w.alloc (.cells #[.slice (some ⟨b, off, none⟩) A.length cap, .int .i64 r] 26)).alloc (.cells #[.slice none 0 0, .int .i64 0] 26)) (w.heap.size + 1) 26 #[.slice none 0 0, .int .i64 0] := Cl.new' (by simp) _ _
  have hw : IntKind.i64.wrap ((s : Int) + (m : Int)) = ((s + m : Nat) : Int) := by rw [IntWalk.i64_in _ (by omega)]; omega
  have hs0 : (0 : Int) ≤ (s : Int) := by omega
  have hs1 : (s : Int) ≤ ((s + m : Nat) : Int) := by omega
  have hs2 : ((s + m : Nat) : Int) ≤ (cap : Int) := by omega
  have hne : ¬ cap = s := by omega
  have hsm : s + m - s = m := by omega
  have hc := fun W (h : Nodes W (.slice (some ⟨b, off, none⟩) A.length cap) A) => h.cut hs (cap - s)
  have hl : ((A.drop s).take m).length = m := by simp; omega
  have hsub : ∀ n ∈ (A.drop s).take m, n ∈ A := fun n hn => List.mem_of_mem_drop (List.mem_of_mem_take hn)
  have hN0 := hN.below B0
  have HS := Lib.hid hs
  have HL := Lib.hid hl
  have HSB := Lib.hid hsub
  clear hs hl hsub
  have hput := put_any (w.heap.size + 2) (.slice none 0 0) (.slice (some ⟨b, off + s * 9, none⟩) m (cap - s)) [] ((A.drop s).take m) s ((w.alloc (.cells #[.slice (some ⟨b, off, none⟩) A.length cap, .int .i64 r] 26)).alloc (.cells #[.slice none 0 0, .int .i64 0] 26)) (Made.nil _ _) (by simp) (fun W hW => (hc _ hN0).keep (fun b hb => hW.block b hb (by simp [Value.ownBlock]))) (by have := HL.out; have := HS.out; simp only [List.length_nil]; omega) (fun n hn => by have := hok.text n (HSB.out n hn); omega) (fun n hn => hok.kids n (HSB.out n hn)) (fun n hn => hkb n (HSB.out n hn)) (by have := HS.out; omega)
  go_enter Tryd.func79, Tryd.ntmps79
  go_wp2_with (go_at_call 70; refine hput.mono ?_; rintro e w4 ⟨v4, C4, rfl, hM4, hC4, hgb, hob, hks⟩; obtain ⟨p4, c4, rfl⟩ := own_slice hM4.row)
  rw [List.nil_append] at hM4
  have hCl : C4.length = m := by
    have := congrArg List.length hC4
    rw [List.length_map, List.length_map, HL.out] at this
    exact this
  have b4 := B0.grown hgb B0.size (fun g e => by simp [Value.ownBlock] at e)
  have n4 : Cl w4 (w.heap.size + 1) 26 #[.slice none 0 0, .int .i64 0] := (hgb.block _ N0.lt (by simp [Value.ownBlock])).trans N0
  rw [hCl] at hM4 ⊢
  have hrt := fun w => rooted_any p4 m c4 (by have := HS.out; omega) w
  clear hput hob hks hgb B0 K0 N0 hN0 hc hN
  go_wp2_with (go_at_call 72; refine (hrt _).mono ?_; rintro e w5 ⟨rfl, hb5⟩; have b5 := b4.trans (hb5.mono b4.size); have n5 := n4.below hb5 n4.lt; have hM5 := hM4.below hb5; clear hb5 n4 b4; obtain ⟨⟨z0, z1⟩, zf⟩ := n5.two)
  have hM6 := (hM5.put2 (g := w.heap.size + 1) (by omega) (.slice p4 m c4) (.int .i64 ((m : Int) - 1))).mono (lo' := w.heap.size) (by omega)
  exact end_tree (n5.put2 _ _) rfl rfl rfl ⟨_, rfl, ⟨_, C4, rfl, hM6, hC4.trans (by simp)⟩, below_put2 b5 (by omega) _ _⟩
end Go.Proofs.YtpkjfdgjmcphmaaDoor

/- Package tree: what stands in a tree's kids. -/
namespace Go.Proofs.YtpkjfdgjmcphmaaDoor
open Go.RowKit Bset Tm

theorem sizes_take {ts : List (RT Hd)} {j : Nat} (h : j < ts.length) : sizes (ts.take (j + 1)) = sizes (ts.take j) + size ts[j] := by
  rw [List.take_succ_eq_append_getElem h, sizes_append]
  simp [sizes]
theorem flats_cut {ts : List (RT Hd)} {j : Nat} (h : j < ts.length) (l : List Nd) : ((flatsAt 0 ts ++ l).drop (sizes (ts.take j))).take (size ts[j]) = flatAt (sizes (ts.take j)) ts[j] := by
  have e : ts = ts.take j ++ ts[j] :: ts.drop (j + 1) := by
    rw [← List.drop_eq_getElem_cons h, List.take_append_drop]
  have h1 : flatsAt 0 ts = flatsAt 0 (ts.take j) ++ (flatAt (sizes (ts.take j)) ts[j] ++ flatsAt (sizes (ts.take j) + size ts[j]) (ts.drop (j + 1))) := by
    conv => lhs; rw [e]
    rw [flatsAt_append, Nat.zero_add]
    rfl
  rw [h1, List.append_assoc, List.drop_left' (by rw [flats_len]), List.append_assoc, List.take_left' (by rw [flat_len])]
theorem kid_cut {h : Hd} {ts : List (RT Hd)} {j : Nat} (hj : j < ts.length) : (((flat (.mk h ts)).drop (sizes (ts.take j))).take (size ts[j])).map (mv (0 - (sizes (ts.take j) : Int))) = flat ts[j] := by
  have h1 : flat (.mk h ts) = flatsAt 0 ts ++ [⟨h, roots 0 ts⟩] := rfl
  rw [h1, flats_cut hj]
  exact flat_mv _ _ _ _ (by omega)
theorem roots_get {ts : List (RT Hd)} {j : Nat} (b : Nat) (hj : j < ts.length) : (roots b ts)[j]? = some ((b + sizes (ts.take j) + size ts[j] - 1 : Nat) : Int) := by
  have e : ts = ts.take j ++ ts[j] :: ts.drop (j + 1) := by
    rw [← List.drop_eq_getElem_cons hj, List.take_append_drop]
  have h1 : roots b ts = roots b (ts.take j) ++ (((b + sizes (ts.take j) + size ts[j] - 1 : Nat) : Int) :: roots (b + sizes (ts.take j) + size ts[j]) (ts.drop (j + 1))) := by
    conv => lhs; rw [e]
    rw [roots_append]
    rfl
  rw [h1, List.getElem?_append_right (by rw [roots_len]; simp; omega), roots_len]
  simp [Nat.min_eq_left (Nat.le_of_lt hj)]
end Go.Proofs.YtpkjfdgjmcphmaaDoor

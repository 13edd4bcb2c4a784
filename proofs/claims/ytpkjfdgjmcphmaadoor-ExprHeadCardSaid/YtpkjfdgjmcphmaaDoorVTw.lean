/- Package tree: Clean. -/
import Derived.Test.YtpkjfdgjmcphmaaDoorVTo
namespace Go.Proofs.YtpkjfdgjmcphmaaDoor
open Go.RowKit Bset Tm

noncomputable def cleanT (T : Ar) : Ar := if rightB T = true then arOf (tree T) else noAr
theorem Made.drew {lo : Nat} {w : World} {v : Value} {B : List (Nd × Value)} (h : Made lo w v B) : Made lo w.drew v B := ⟨h.row.drew, fun x hx => (h.kids x hx).drew⟩

/-- Where a node is put. -/
def plc (K : Nat → List Nat) (F : Nat → Nat) (j : Nat) : Nat := F j + M K j - 1
/-- What is put there. -/
def gnd (A : List Nd) (F : Nat → Nat) (j : Nat) : Nd := ⟨hdAt A j, (kidsN A j).map fun k => (plc (kidsN A) F k : Int)⟩

theorem plc_all {A : List Nd} (h : RightA A) {F : Nat → Nat} (hF : Frm (kidsN A) A.length 0 0 F) : (post (X (kidsN A) (A.length - 1))).map (plc (kidsN A) F) = List.range' 0 A.length := by
  have hp := h.k.pos
  have h1 := post_places h.k.dec hF.spread (A.length - 1) (by omega)
  rw [hF.root, h.k.size] at h1
  exact h1
theorem plc_lt {A : List Nd} (_h : RightA A) {F : Nat → Nat} (hF : Frm (kidsN A) A.length 0 0 F) {i : Nat} (hi : i < A.length) : plc (kidsN A) F i < A.length := by
  have h1 := hF.low i hi
  have h2 := M_pos (kidsN A) i
  unfold plc
  omega
theorem plc_inj {A : List Nd} (h : RightA A) {F : Nat → Nat} (hF : Frm (kidsN A) A.length 0 0 F) {i j : Nat} (hi : i < A.length) (hj : j < A.length) (e : plc (kidsN A) F i = plc (kidsN A) F j) : i = j := by
  have h1 := plc_all h hF
  have h2 : ((post (X (kidsN A) (A.length - 1))).map (plc (kidsN A) F)).Nodup := by rw [h1]; exact List.nodup_range'
  have hi' := h.k.all i hi
  have hj' := h.k.all j hj
  obtain ⟨a, ha, rfl⟩ := List.mem_iff_getElem.1 hi'
  obtain ⟨b, hb, rfl⟩ := List.mem_iff_getElem.1 hj'
  have h3 := (List.pairwise_iff_getElem.1 h2)
  rcases Nat.lt_trichotomy a b with hab | hab | hab
  · exact absurd (by rw [List.getElem_map, List.getElem_map]; exact e) (h3 a b (by simpa using ha) (by simpa using hb) hab)
  · subst hab
    rfl
  · exact absurd (by rw [List.getElem_map, List.getElem_map]; exact e.symm) (h3 b a (by simpa using hb) (by simpa using ha) hab)
theorem filled {A : List Nd} (h : RightA A) {F : Nat → Nat} (hF : Frm (kidsN A) A.length 0 0 F) {L : List (Nd × Value)} (hL : L.length = A.length) (hall : ∀ j, j < A.length → (L[plc (kidsN A) F j]?).map Prod.fst = some (gnd A F j)) :
    L.map Prod.fst = flat (tau A (A.length - 1)) := by
  have hp := h.k.pos
  have h1 := plc_all h hF
  have h2 := post_flat h.k.dec (plc (kidsN A) F) (A.length - 1) 0 (by rw [h1, h.k.size])
  unfold flat
  rw [← h2]
  have hl : (post (X (kidsN A) (A.length - 1))).length = A.length := by rw [post_len]; exact h.k.size
  apply List.ext_getElem
  · rw [List.length_map, List.length_map, hL, hl]
  · intro a ha hb
    have ha' : a < A.length := by simpa [hL] using ha
    have hlt : (post (X (kidsN A) (A.length - 1)))[a]'(by omega) < A.length := h.k.lt _ (by omega) _ (List.getElem_mem _)
    have h3 := hall _ hlt
    have h4 : plc (kidsN A) F ((post (X (kidsN A) (A.length - 1)))[a]'(by omega)) = a := by
      have : ((post (X (kidsN A) (A.length - 1))).map (plc (kidsN A) F))[a]? = some a := by
        rw [h1]
        simp [ha']
      rw [List.getElem?_map, List.getElem?_eq_getElem (by omega)] at this
      simpa using this
    rw [h4, List.getElem?_eq_getElem (by omega)] at h3
    simp only [List.getElem_map]
    simpa [gnd] using h3

theorem row_nodeO {w : World} {g o b n : Nat} {t : TypeId} {f : Nat → Value} (v0 v1 v2 v3 v4 v5 v6 v7 v8 : Value) (h : w.rowIs b t n f) (hb : b ≠ g) : (nodeO w g o v0 v1 v2 v3 v4 v5 v6 v7 v8).rowIs b t n f :=
  h.of_block ((gb_nodeO v0 v1 v2 v3 v4 v5 v6 v7 v8).block b h.lt (by intro e; cases e; exact hb rfl))
theorem set_all {A : List Nd} (h : RightA A) {F : Nat → Nat} (hF : Frm (kidsN A) A.length 0 0 F) {L : List (Nd × Value)} {i : Nat} (hi : i < A.length) (hL : L.length = A.length) (hall : ∀ j, j < i → (L[plc (kidsN A) F j]?).map Prod.fst = some (gnd A F j)) (P : Int → Int) (hP : P = fun k => (plc (kidsN A) F k.toNat : Int)) (kv : Value) :
    ∀ j, j < i + 1 → ((L.set (plc (kidsN A) F i) (⟨A[i].hd, A[i].kids.map P⟩, kv))[plc (kidsN A) F j]?).map Prod.fst = some (gnd A F j) := by
  intro j hj
  by_cases e : j = i
  · subst e
    have := plc_lt h hF hi
    rw [List.getElem?_set_self (by omega)]
    have hA : A[j]? = some A[j] := by simp [hi]
    simp only [Option.map_some, gnd, hdAt_some hA, kidsN_some hA, List.map_map, hP]
    rfl
  · rw [List.getElem?_set_ne]
    · exact hall j (by omega)
    · intro h2
      exact e (plc_inj h hF (by omega) hi h2.symm)
theorem made_zero' (lo n : Nat) (h : n ≤ 4294967296) (w : World) (hlo : lo ≤ w.heap.size) {g : Nat} (hg : g = w.heap.size) : Made lo (w.alloc (.cells (madeCells nodeZ (n * 9)) 38)) (.slice (some ⟨g, 0, none⟩) n n) (List.replicate n (noNd, .slice none 0 0)) := by
  subst hg
  exact made_zero lo n h w hlo

set_option maxRecDepth 100000 in
set_option maxHeartbeats 8000000 in
theorem clean_any (v : Value) (T : Ar) (w : World) (hv : Tree w v T) (hok : OkA T.nodes) (hE : Env w) :
    Calls Tryd.prog 25 #[v] w fun e w' => ∃ v', e = .returned v' ∧ MadeT w.heap.size w' v' (cleanT T) ∧ Below w.heap.size w w' := by
  obtain ⟨nv, rfl, hn⟩ := hv
  obtain ⟨p0, c0, rfl⟩ := hn.len
  have hr := fun w h1 h2 => right_at' (treeV (.slice p0 T.nodes.length c0) T.root) T w h1 hok h2
  have b0 := ((Below.refl w.heap.size w).alloc (Nat.le_refl _) (.cells #[.slice p0 T.nodes.length c0, .int .i64 T.root] 26)).alloc (by simp) (.cells #[.slice none 0 0, .int .i64 0] 26)
  have k0 := (Cl.new w 26 #[.slice p0 T.nodes.length c0, .int .i64 T.root]).alloc (.cells #[.slice none 0 0, .int .i64 0] 26)
  have n0 : Cl ((w.alloc (.cells #[.slice p0 T.nodes.length c0, .int .i64 T.root] 26)).alloc (.cells #[.slice none 0 0, .int .i64 0] 26)) (w.heap.size + 1) 26 #[.slice none 0 0, .int .i64 0] := Cl.new' (by simp) _ _
  have hv0 : Tree ((w.alloc (.cells #[.slice p0 T.nodes.length c0, .int .i64 T.root] 26)).alloc (.cells #[.slice none 0 0, .int .i64 0] 26)) (treeV (.slice p0 T.nodes.length c0) T.root) T := ⟨_, rfl, hn.below b0⟩
  have hE0 := hE.below b0
  unfold cleanT
  cases hR : rightB T with
  | false =>
    rw [if_neg (by simp)]
    simp only [hR] at hr
    go_enter Tryd.func25, Tryd.ntmps25
    go_wp2_with (go_at_call 18; refine (hr _ hv0 hE0).mono ?_; rintro e w1 ⟨rfl, hb⟩; obtain ⟨⟨y0, y1⟩, yf⟩ := (k0.below hb k0.lt).two; have n1 := n0.below hb n0.lt; have b1 := b0.trans (hb.mono b0.size); clear hb k0 n0 b0; obtain ⟨⟨z0, z1⟩, zf⟩ := n1.two)
    exact end_tree (n1.put2 _ _) rfl rfl rfl ⟨_, rfl, MadeT.none _ _, below_put2 b1 (by omega) _ _⟩
  | true =>
    have hRT := rightB_iff.1 hR
    rw [if_pos rfl]
    simp only [hR] at hr
    obtain ⟨A, root⟩ := T
    dsimp only at *
    have hRA : RightA A := hRT.2
    have hlen := hok.len
    have hpos := hRA.k.pos
    have hroot : tree ⟨A, root⟩ = tau A (A.length - 1) := by unfold tree; rw [hRT.at.1]
    have hsize : (size (tree ⟨A, root⟩) : Int) - 1 = (A.length : Int) - 1 := by rw [hRT.size]
    have hsp := fun w h => spread_any (.slice p0 A.length c0) A 0 w h hRA hok (by omega)
    have hmk := make_nodes A.length hlen
    clear hR
    go_enter Tryd.func25, Tryd.ntmps25
    go_wp2_with (first
      | (go_at_call 18; refine (hr _ hv0 hE0).mono ?_; rintro e w1 ⟨rfl, hb⟩; have k1 := k0.below hb k0.lt; have n1 := n0.below hb n0.lt; have b1 := b0.trans (hb.mono b0.size); have hn1 := hn.below b1; clear hb k0 n0 b0 hr hv0 hE0; obtain ⟨⟨y0, y1⟩, yf⟩ := k1.two)
      | (go_at_call 78; refine (hsp _ hn1).mono ?_; rintro e w2 ⟨g1, g2, F, rfl, hne, hg1, hg2, r1, r2, hF, hb⟩; have k2 := k1.below hb k1.lt; have n2 := n1.below hb n1.lt; have b2 := b1.trans (hb.mono b1.size); have hl1 := r1.lt; have hl2 := r2.lt
         have k3 := (k2.alloc (.cells #[.slice (some ⟨g1, 0, none⟩) A.length A.length] 36)).alloc (.cells #[.slice (some ⟨g2, 0, none⟩) A.length A.length] 36)
         have b3 := (b2.alloc b2.size (.cells #[.slice (some ⟨g1, 0, none⟩) A.length A.length] 36)).alloc (by simp; have := b2.size; omega) (.cells #[.slice (some ⟨g2, 0, none⟩) A.length A.length] 36)
         have x3 := k3.two.1.1
         have k4 := k3.alloc (.cells (madeCells nodeZ (A.length * 9)) 38)
         have x4 := k4.two.1.1
         have n4 := ((n2.alloc (.cells #[.slice (some ⟨g1, 0, none⟩) A.length A.length] 36)).alloc (.cells #[.slice (some ⟨g2, 0, none⟩) A.length A.length] 36)).alloc (.cells (madeCells nodeZ (A.length * 9)) 38)
         have q3 := ((Cl.new w2 36 #[.slice (some ⟨g1, 0, none⟩) A.length A.length]).alloc (.cells #[.slice (some ⟨g2, 0, none⟩) A.length A.length] 36)).alloc (.cells (madeCells nodeZ (A.length * 9)) 38)
         have q4 : Cl (((w2.alloc (.cells #[.slice (some ⟨g1, 0, none⟩) A.length A.length] 36)).alloc (.cells #[.slice (some ⟨g2, 0, none⟩) A.length A.length] 36)).alloc (.cells (madeCells nodeZ (A.length * 9)) 38)) (w2.heap.size + 1) 36 #[.slice (some ⟨g2, 0, none⟩) A.length A.length] := (Cl.new' (by simp) _ _).alloc _
         have s1 := ((r1.alloc (.cells #[.slice (some ⟨g1, 0, none⟩) A.length A.length] 36)).alloc (.cells #[.slice (some ⟨g2, 0, none⟩) A.length A.length] 36)).alloc (.cells (madeCells nodeZ (A.length * 9)) 38)
         have s2 := ((r2.alloc (.cells #[.slice (some ⟨g1, 0, none⟩) A.length A.length] 36)).alloc (.cells #[.slice (some ⟨g2, 0, none⟩) A.length A.length] 36)).alloc (.cells (madeCells nodeZ (A.length * 9)) 38)
         have m4 : Made (w.heap.size + 2) (((w2.alloc (.cells #[.slice (some ⟨g1, 0, none⟩) A.length A.length] 36)).alloc (.cells #[.slice (some ⟨g2, 0, none⟩) A.length A.length] 36)).alloc (.cells (madeCells nodeZ (A.length * 9)) 38)) (.slice (some ⟨w2.heap.size + 2, 0, none⟩) A.length A.length) (List.replicate A.length (noNd, .slice none 0 0)) := made_zero' _ _ hlen _ (by have := n1.lt; have := hb.size; simp; omega) (by simp)
         have b4 := b3.alloc b3.size (.cells (madeCells nodeZ (A.length * 9)) 38)
         have hz2 := Lib.hid b2.size
         have hz1 := Lib.hid n1.lt; have hz1' := Lib.hid hb.size
         clear hsp hn1 hb k1 n1 k2 n2 r1 r2 k3 b3 b2))
    have hzA : w.heap.size + 1 < w2.heap.size := by have := hz1.out; have := hz1'.out; omega
    have hg1w : w.heap.size + 1 < g1 := by have := hz1.out; omega
    have hg2w : w.heap.size + 1 < g2 := by have := hz1.out; omega
    clear x3 x4 y0 y1 yf hz1 hz1' hz2 k4 b1
    generalize (((w2.alloc (.cells #[.slice (some ⟨g1, 0, none⟩) A.length A.length] 36)).alloc (.cells #[.slice (some ⟨g2, 0, none⟩) A.length A.length] 36)).alloc (.cells (madeCells nodeZ (A.length * 9)) 38)) = W4 at *
    generalize w2.heap.size = gB at *
    obtain ⟨gN, hgN⟩ : ∃ gN, gN = gB + 2 := ⟨_, rfl⟩
    rw [← hgN] at m4 ⊢
    have HGN := Lib.hid hgN
    clear hgN
    go_loopw [27] (fun v W => ∃ (i : Nat) (L : List (Nd × Value)), v = .int .i64 i ∧ i ≤ A.length ∧ L.length = A.length ∧ Below w.heap.size w W ∧ Cl W (w.heap.size + 1) 26 #[.slice none 0 0, .int .i64 0] ∧ Cl W gB 36 #[.slice (some ⟨g1, 0, none⟩) A.length A.length] ∧ Cl W (gB + 1) 36 #[.slice (some ⟨g2, 0, none⟩) A.length A.length] ∧ W.rowIs g1 3 A.length (fun j => .int .i64 (F j : Nat)) ∧ W.rowIs g2 3 A.length (fun j => .int .i64 (M (kidsN A) j : Nat)) ∧ Made (w.heap.size + 2) W (.slice (some ⟨gN, 0, none⟩) A.length A.length) L ∧ ∀ j, j < i → (L[plc (kidsN A) F j]?).map Prod.fst = some (gnd A F j))
      (fun v _ => A.length - (intOf v).toNat)
    case atStart => exact ⟨0, _, rfl, Nat.zero_le _, by simp, b4, n4, q3, q4, s1, s2, m4, fun j hj => by omega⟩
    case round =>
      clear b4 n4 q3 q4 s1 s2 m4
      obtain ⟨i, L, rfl, hi, hL, hB, hT1, q3, q4, s1, s2, hM, hall⟩ := hrel
      have hnT : w.heap.size + 1 ≠ gN := by have := HGN.out; omega
      have hn3 : gB ≠ gN := by have := HGN.out; omega
      have hn4 : gB + 1 ≠ gN := by have := HGN.out; omega
      have hn1 : g1 ≠ gN := by have := HGN.out; omega
      have hn2 : g2 ≠ gN := by have := HGN.out; omega
      have hgl : w.heap.size ≤ gN := by have := HGN.out; omega
      by_cases hlt : i < A.length
      · obtain ⟨p', cap', e, hh⟩ := hn
        obtain ⟨rfl, _, rfl⟩ : p0 = p' ∧ A.length = A.length ∧ c0 = cap' := by simpa using e
        rcases hh with hh | ⟨b, off, rfl, hcell⟩
        · exact absurd hh hRA.pos
        · obtain ⟨kv, hN, hI⟩ := hcell i hlt
          obtain ⟨p2, cap2, rfl⟩ := hI.len
          obtain ⟨x0, x1, x2, x3, x4, x5, x6, x7, x8⟩ := hN.keep hB.block
          have hgn : wr.heap.size ≠ gN := by
            have := (hM.row.lt gN rfl).2
            omega
          have B1a := (Below.refl wr.heap.size wr).alloc (Nat.le_refl _) (.cells (nodeC A[i].hd (.slice p2 A[i].kids.length cap2)) 38)
          have hBW1 := hB.trans (B1a.mono hB.size)
          have k1 := Cl.new wr 38 (nodeC A[i].hd (.slice p2 A[i].kids.length cap2))
          replace hT1 := hT1.alloc (.cells (nodeC A[i].hd (.slice p2 A[i].kids.length cap2)) 38)
          have q31 := q3.alloc (.cells (nodeC A[i].hd (.slice p2 A[i].kids.length cap2)) 38)
          have q41 := q4.alloc (.cells (nodeC A[i].hd (.slice p2 A[i].kids.length cap2)) 38)
          have s11 := s1.alloc (.cells (nodeC A[i].hd (.slice p2 A[i].kids.length cap2)) 38)
          have s21 := s2.alloc (.cells (nodeC A[i].hd (.slice p2 A[i].kids.length cap2)) 38)
          have hM1 := hM.below B1a
          have hI1 := hI.below hBW1
          have htx := hok.text _ (List.getElem_mem hlt)
          have hkl := hok.kids _ (List.getElem_mem hlt)
          have hlow := hRA.low i A[i] (by simp [hlt])
          have hpi := plc_lt hRA hF hlt
          have HL0 := Lib.hid hL
          have hi0 : (0 : Int) ≤ (i : Int) := by omega
          have hi1 : (i : Int) < (A.length : Int) := by omega
          have hp0 : (0 : Int) ≤ (plc (kidsN A) F i : Int) := by omega
          have hp1 : (plc (kidsN A) F i : Int) < (A.length : Int) := by omega
          obtain ⟨P, hP⟩ : ∃ P : Int → Int, P = fun k => (plc (kidsN A) F k.toNat : Int) := ⟨_, rfl⟩
          clear e hcell hN B1a hI hM s1 s2 q3 q4 hB hL
          go_wp2
          generalize wr.alloc _ = W1 at *
          have B1 := Below.refl W1.heap.size W1
          have hBd2 : w.heap.size + 2 ≤ W1.heap.size := hT1.lt
          have hplace := fun (W : World) (hW : Below W1.heap.size W1 W) => cleanc_any i A.length gB (gB + 1) g1 g2 F (M (kidsN A)) W (q31.below hW q31.lt).one.1 (q41.below hW q41.lt).one.1 (s11.of_block (hW.block _ s11.lt)) (s21.of_block (hW.block _ s21.lt)) hlt hlen (hF.low i hlt) (M_pos _ _)
          have hmoved := fun (W : World) (hW : Below W1.heap.size W1 W) => moved_any A[i].hd (.slice p2 A[i].kids.length cap2) A[i].kids 80 #[.pointer (some ⟨gB, 0, none⟩), .pointer (some ⟨gB + 1, 0, none⟩)] P W (hI1.below hW) hkl (by omega) cf_clean (fun k hk W' hW' => by
            have h0 := hlow k hk
            obtain ⟨m, rfl⟩ : ∃ m : Nat, k = m := ⟨k.toNat, by omega⟩
            have hW2 := hW.trans (hW'.mono hW.size)
            have := cleanc_any m A.length gB (gB + 1) g1 g2 F (M (kidsN A)) W' (q31.below hW2 q31.lt).one.1 (q41.below hW2 q41.lt).one.1 (s11.of_block (hW2.block _ s11.lt)) (s21.of_block (hW2.block _ s21.lt)) (by omega) hlen (hF.low m (by omega)) (M_pos _ _)
            rw [hP]
            exact this)
          have hpe : F i + M (kidsN A) i - 1 = plc (kidsN A) F i := rfl
          simp only [hpe] at hplace
          clear hpe
          refine wp_region_held_drew (S := (fun w' => w'.cell? ⟨wr.heap.size, 0, none⟩ = some (.int .u8 A[i].hd.kind) ∧ w'.cell? ⟨wr.heap.size, 1, none⟩ = some (.int .u64 (word (setN A[i].hd.set) 0 : Nat)) ∧ w'.cell? ⟨wr.heap.size, 2, none⟩ = some (.int .u64 (word (setN A[i].hd.set) 1 : Nat)) ∧ w'.cell? ⟨wr.heap.size, 3, none⟩ = some (.int .u64 (word (setN A[i].hd.set) 2 : Nat)) ∧ w'.cell? ⟨wr.heap.size, 4, none⟩ = some (.int .u64 (word (setN A[i].hd.set) 3 : Nat)) ∧ w'.cell? ⟨wr.heap.size, 5, none⟩ = some (.string A[i].hd.text) ∧ w'.cell? ⟨wr.heap.size, 6, none⟩ = some (.int .i64 A[i].hd.lo) ∧ w'.cell? ⟨wr.heap.size, 7, none⟩ = some (.int .i64 A[i].hd.hi) ∧ w'.cell? ⟨wr.heap.size, 8, none⟩ = some (.slice p2 A[i].kids.length cap2))) (by kernel_rfl) (k1.drew.nine.1) (fun hHeld => ?_)
          refine wpAnyH_take (i := 0) (v := ?a0v) rfl (by kernel_rfl) (by kernel_rfl) (by kernel_rfl) (fun _ _ _ h => h) (Or.inl ⟨by rfl, ?a0y⟩) (by assumption) ?a0t
          case a0y => (intro w hSw; (try dsimp only at hSw); (try simp only [List.getElem_toArray, List.getElem_cons_zero]); go_simp; try with_reducible rfl)
          try simp only [Act.put, List.getElem_toArray, List.getElem_cons_zero, List.setIfInBounds_toArray, List.set_cons_zero, List.set_cons_succ]
          refine wpAnyH_take (i := 1) (v := ?a1v) rfl (by kernel_rfl) (by kernel_rfl) (by kernel_rfl) (fun _ _ _ h => h) (Or.inl ⟨by rfl, ?a1y⟩) (by assumption) ?a1t
          case a1y => (intro w hSw; (try dsimp only at hSw); (try simp only [List.getElem_toArray, List.getElem_cons_zero, List.getElem_cons_succ]); go_simp; try with_reducible rfl)
          try simp only [Act.put, List.getElem_toArray, List.getElem_cons_zero, List.getElem_cons_succ, List.setIfInBounds_toArray, List.set_cons_zero, List.set_cons_succ]
          refine wpAnyH_take (i := 2) (v := ?a2v) rfl (by kernel_rfl) (by kernel_rfl) (by kernel_rfl) (fun _ _ _ h => h) (Or.inl ⟨by rfl, ?a2y⟩) (by assumption) ?a2t
          case a2y => (intro w hSw; (try dsimp only at hSw); (try simp only [List.getElem_toArray, List.getElem_cons_zero, List.getElem_cons_succ]); go_simp; try with_reducible rfl)
          try simp only [Act.put, List.getElem_toArray, List.getElem_cons_zero, List.getElem_cons_succ, List.setIfInBounds_toArray, List.set_cons_zero, List.set_cons_succ]
          refine wpAnyH_take (i := 4) (v := ?a4v) rfl (by kernel_rfl) (by kernel_rfl) (by kernel_rfl) (fun _ _ _ h => h) (Or.inl ⟨by rfl, ?a4y⟩) (by assumption) ?a4t
          case a4y => (intro w hSw; (try dsimp only at hSw); (try simp only [List.getElem_toArray, List.getElem_cons_zero, List.getElem_cons_succ]); go_simp; try with_reducible rfl)
          try simp only [Act.put, List.getElem_toArray, List.getElem_cons_zero, List.getElem_cons_succ, List.setIfInBounds_toArray, List.set_cons_zero, List.set_cons_succ]
          refine wpAnyH_take (i := 5) (v := ?a5v) rfl (by kernel_rfl) (by kernel_rfl) (by kernel_rfl) (fun _ _ _ h => h) (Or.inl ⟨by rfl, ?a5y⟩) (by assumption) ?a5t
          case a5y => (intro w hSw; (try dsimp only at hSw); (try simp only [List.getElem_toArray, List.getElem_cons_zero, List.getElem_cons_succ]); go_simp; try with_reducible rfl)
          try simp only [Act.put, List.getElem_toArray, List.getElem_cons_zero, List.getElem_cons_succ, List.setIfInBounds_toArray, List.set_cons_zero, List.set_cons_succ]
          refine wpAnyH_ready (rs := [3]) (by kernel_rfl) (by simp) ?_
          refine AllReadyH.cons rfl (fun K hK => ?_) AllReadyH.nil
          try simp only [List.getElem_toArray, List.getElem_cons_zero, List.getElem_cons_succ]
          go_simp
          (refine (hplace _ B1.drew).mono ?_; rintro e w2 ⟨rfl, hb2⟩; have N2 := k1.drew.below hb2 k1.lt; have B2 := B1.drew.trans (hb2.mono B1.size))
          try go_simp
          refine hK.out _ _ ?oA3 (fun hHeld2 => ?_)
          case oA3 => (try dsimp only); (exact N2.nine.1)
          clear hHeld hK K
          have hHeld := hHeld2
          clear hHeld2
          try simp only [Act.put, List.getElem_toArray, List.getElem_cons_zero, List.getElem_cons_succ, List.setIfInBounds_toArray, List.set_cons_zero, List.set_cons_succ]
          refine wpAnyH_ready (rs := [6]) (by kernel_rfl) (by simp) ?_
          refine AllReadyH.cons rfl (fun K hK => ?_) AllReadyH.nil
          try simp only [List.getElem_toArray, List.getElem_cons_zero, List.getElem_cons_succ]
          go_simp
          (refine (hmoved _ B2).mono ?_; rintro e w3 ⟨kv3, rfl, hkv, hb3⟩; obtain ⟨pk, ck, rfl⟩ := own_slice hkv; have N3 := N2.below hb3 N2.lt; have B3 := B2.trans (hb3.mono B2.size); have B3' := hb2.trans (hb3.mono hb2.size))
          try go_simp
          refine hK.out _ _ ?oA6 (fun hHeld2 => ?_)
          case oA6 => (try dsimp only); (exact N3.nine.1)
          clear hHeld hK K
          have hHeld := hHeld2
          clear hHeld2
          try simp only [Act.put, List.getElem_toArray, List.getElem_cons_zero, List.getElem_cons_succ, List.setIfInBounds_toArray, List.set_cons_zero, List.set_cons_succ]
          refine wpAnyH_take (i := 7) (v := ?oA7v) rfl (by kernel_rfl) (by kernel_rfl) (by kernel_rfl) (fun _ _ _ h => h) (Or.inl ⟨by rfl, ?oA7y⟩) (by assumption) ?oA7t
          case oA7y => (intro w hSw; (try dsimp only at hSw); (try simp only [List.getElem_toArray, List.getElem_cons_zero, List.getElem_cons_succ]); go_simp; try with_reducible rfl)
          try simp only [Act.put, List.getElem_toArray, List.getElem_cons_zero, List.getElem_cons_succ, List.setIfInBounds_toArray, List.set_cons_zero, List.set_cons_succ]
          have m3 := hM1.drew.below B3'
          obtain ⟨⟨nh, nkv, d0, d1, d2, d3, d4, d5, d6, d7, d8⟩, df⟩ := m3.at HL0.out.symm hpi
          refine wpAnyH_ready (rs := [8]) (by kernel_rfl) (by simp) ?_
          refine AllReadyH.cons rfl (fun K hK => ?_) AllReadyH.nil
          try simp only [List.getElem_toArray, List.getElem_cons_zero, List.getElem_cons_succ]
          go_simp
          refine hK.out _ _ ?oAS8 (fun hHeld2 => ?_)
          case oAS8 => (try dsimp only); (exact (N3.otherO _ _ _ _ _ _ _ _ _ hgn).nine.1)
          clear hHeld hK K
          clear hHeld2
          try simp only [Act.put, List.getElem_toArray, List.getElem_cons_zero, List.getElem_cons_succ, List.setIfInBounds_toArray, List.set_cons_zero, List.set_cons_succ]
          refine wpAnyH_done (by kernel_rfl) ?_ _
          have m4 := m3.set HL0.out.symm hpi ⟨A[i].hd, A[i].kids.map P⟩ (.slice pk A[i].kids.length ck) (by simpa using hkv.mono (Nat.le_trans hBd2 hb2.size))
          have B4 := below_nodeO (.int .u8 A[i].hd.kind) (.int .u64 (word (setN A[i].hd.set) 0 : Nat)) (.int .u64 (word (setN A[i].hd.set) 1 : Nat)) (.int .u64 (word (setN A[i].hd.set) 2 : Nat)) (.int .u64 (word (setN A[i].hd.set) 3 : Nat)) (.string A[i].hd.text) (.int .i64 A[i].hd.lo) (.int .i64 A[i].hd.hi) (.slice pk A[i].kids.length ck) (o := plc (kidsN A) F i * 9) (g := gN) (hBW1.trans (B3.mono hBW1.size)) hgl
          have cT := (hT1.drew.below B3' hT1.lt).otherO (.int .u8 A[i].hd.kind) (.int .u64 (word (setN A[i].hd.set) 0 : Nat)) (.int .u64 (word (setN A[i].hd.set) 1 : Nat)) (.int .u64 (word (setN A[i].hd.set) 2 : Nat)) (.int .u64 (word (setN A[i].hd.set) 3 : Nat)) (.string A[i].hd.text) (.int .i64 A[i].hd.lo) (.int .i64 A[i].hd.hi) (.slice pk A[i].kids.length ck) (o := plc (kidsN A) F i * 9) (g := gN) hnT
          have c3 := (q31.drew.below B3' q31.lt).otherO (.int .u8 A[i].hd.kind) (.int .u64 (word (setN A[i].hd.set) 0 : Nat)) (.int .u64 (word (setN A[i].hd.set) 1 : Nat)) (.int .u64 (word (setN A[i].hd.set) 2 : Nat)) (.int .u64 (word (setN A[i].hd.set) 3 : Nat)) (.string A[i].hd.text) (.int .i64 A[i].hd.lo) (.int .i64 A[i].hd.hi) (.slice pk A[i].kids.length ck) (o := plc (kidsN A) F i * 9) (g := gN) hn3
          have c4 := (q41.drew.below B3' q41.lt).otherO (.int .u8 A[i].hd.kind) (.int .u64 (word (setN A[i].hd.set) 0 : Nat)) (.int .u64 (word (setN A[i].hd.set) 1 : Nat)) (.int .u64 (word (setN A[i].hd.set) 2 : Nat)) (.int .u64 (word (setN A[i].hd.set) 3 : Nat)) (.string A[i].hd.text) (.int .i64 A[i].hd.lo) (.int .i64 A[i].hd.hi) (.slice pk A[i].kids.length ck) (o := plc (kidsN A) F i * 9) (g := gN) hn4
          have t1 := row_nodeO (.int .u8 A[i].hd.kind) (.int .u64 (word (setN A[i].hd.set) 0 : Nat)) (.int .u64 (word (setN A[i].hd.set) 1 : Nat)) (.int .u64 (word (setN A[i].hd.set) 2 : Nat)) (.int .u64 (word (setN A[i].hd.set) 3 : Nat)) (.string A[i].hd.text) (.int .i64 A[i].hd.lo) (.int .i64 A[i].hd.hi) (.slice pk A[i].kids.length ck) (o := plc (kidsN A) F i * 9) (g := gN) (s11.drew.of_block (B3'.block _ s11.lt)) hn1
          have t2 := row_nodeO (.int .u8 A[i].hd.kind) (.int .u64 (word (setN A[i].hd.set) 0 : Nat)) (.int .u64 (word (setN A[i].hd.set) 1 : Nat)) (.int .u64 (word (setN A[i].hd.set) 2 : Nat)) (.int .u64 (word (setN A[i].hd.set) 3 : Nat)) (.string A[i].hd.text) (.int .i64 A[i].hd.lo) (.int .i64 A[i].hd.hi) (.slice pk A[i].kids.length ck) (o := plc (kidsN A) F i * 9) (g := gN) (s21.drew.of_block (B3'.block _ s21.lt)) hn2
          go_wp2
          exact ⟨⟨i + 1, L.set (plc (kidsN A) F i) (⟨A[i].hd, A[i].kids.map P⟩, .slice pk A[i].kids.length ck), by go_num, by omega, by rw [List.length_set]; exact HL0.out, B4, cT, c3, c4, t1, t2, m4, set_all hRA hF hlt HL0.out hall P hP _⟩, by simp [intOf]; omega⟩
      · obtain rfl : i = A.length := by omega
        have hfl := filled hRA hF hL hall
        rw [← hroot] at hfl
        have HF := Lib.hid hfl
        have HS := Lib.hid hsize
        have hro := fun w => rooted_any (some ⟨gN, 0, none⟩) A.length A.length (by omega) w
        clear hfl hroot hL hall hRT hn hsize q3 q4 s1 s2
        go_wp2_with (go_at_call 72; refine (hro _).mono ?_; rintro e w3 ⟨rfl, hb3⟩; have cT := hT1.below hb3 hT1.lt; have m3 := hM.below hb3; have B3 := hB.trans (hb3.mono hB.size); clear hb3 hM hB hT1; obtain ⟨⟨z0, z1⟩, zf⟩ := cT.two)
        exact end_tree (cT.put2 _ _) rfl rfl rfl ⟨_, rfl, ⟨_, L, by simp only [arOf]; rw [HS.out], (m3.put2 (by omega) _ _).mono (by omega), HF.out⟩, below_put2 B3 (by omega) _ _⟩
end Go.Proofs.YtpkjfdgjmcphmaaDoor

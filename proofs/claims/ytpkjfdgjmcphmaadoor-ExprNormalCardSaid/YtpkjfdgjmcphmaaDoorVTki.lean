/- Package tree: Kids. -/
import Derived.Test.YtpkjfdgjmcphmaaDoorVTrs0
namespace Go.Proofs.YtpkjfdgjmcphmaaDoor
open Go.RowKit Bset Tm

theorem infoTree : (Tryd.prog.info? 26).map (fun i => (i.zero, i.size, i.bytes)) = some (some (.agg #[.slice none 0 0, .int .i64 0]), 2, 32) := by kernel_rfl

def cellsT (L : List (Value × Ar)) : List Value := L.flatMap fun x => [x.1, .int .i64 x.2.root]
theorem cellsT_append (a b : List (Value × Ar)) : cellsT (a ++ b) = cellsT a ++ cellsT b := by simp [cellsT]
theorem cellsT_at (a : List (Value × Ar)) (j : Nat) (hj : j < a.length) : (cellsT a)[j * 2]? = some a[j].1 ∧ (cellsT a)[j * 2 + 1]? = some (.int .i64 a[j].2.root) := by
  induction a generalizing j with
  | nil => simp at hj
  | cons x r ih =>
    cases j with
    | zero => exact ⟨rfl, rfl⟩
    | succ j =>
      have := ih j (by simpa using hj)
      have e : cellsT (x :: r) = x.1 :: .int .i64 x.2.root :: cellsT r := rfl
      rw [e, show (j + 1) * 2 = j * 2 + 1 + 1 by omega]
      simpa using this

/-- A list of trees that a call has made. -/
def MadeTs (lo : Nat) (w : World) (v : Value) (L : List (Value × Ar)) : Prop :=
  w.ownsRow lo 26 2 v L.length (cellsT L) ∧ ∀ x ∈ L, ∃ C, Made lo w x.1 C ∧ C.map Prod.fst = x.2.nodes
theorem MadeTs.trees {lo : Nat} {w : World} {v : Value} {L : List (Value × Ar)} (h : MadeTs lo w v L) : Trees w v (L.map Prod.snd) := by
  obtain ⟨h1, h2⟩ := h
  by_cases hl : L = []
  · subst hl
    obtain ⟨p, c, rfl⟩ := own_slice h1
    exact ⟨p, c, rfl, .inl rfl⟩
  · have hpos : 0 < L.length := by
      cases L with
      | nil => exact absurd rfl hl
      | cons => simp
    obtain ⟨g, cap, rfl⟩ := own_form h1 hpos
    refine ⟨_, cap, by simp, .inr ⟨g, 0, rfl, fun j hj => ?_⟩⟩
    have hj' : j < L.length := by simpa using hj
    obtain ⟨c1, c2⟩ := cellsT_at L j hj'
    obtain ⟨C, m1, m2⟩ := h2 _ (List.getElem_mem hj')
    have e1 := h1.cellAt (j * 2) (by omega)
    have e2 := h1.cellAt (j * 2 + 1) (by omega)
    refine ⟨L[j].1, by rw [Nat.zero_add, e1, c1], by rw [Nat.zero_add, e2, c2]; simp, ?_⟩
    have := m1.nodes
    rw [m2] at this
    simpa using this

theorem tree_new (w : World) (a b : Value) (t : TypeId) : ∀ j u, [a, b][j]? = some u → (w.alloc (.cells #[a, b] t)).cell? ((⟨w.heap.size, 0, none⟩ : Addr).add j) = some u := by
  intro j u hj
  rw [at_add, Nat.zero_add, (Cl.new w t #[a, b]).cell]
  simpa using hj
theorem tree_one (p : Option Addr) (n c : Nat) (r : Int) : ∀ u ∈ [Value.slice p n c, .int .i64 r], u.oneCell' = true := by
  intro u hu
  simp only [List.mem_cons, List.not_mem_nil, or_false] at hu
  rcases hu with rfl | rfl <;> rfl

theorem meas_next {n j : Nat} (h : j + 1 ≤ n) : n - (intOf (.int .i64 ((j + 1 : Nat) : Int))).toNat < n - (intOf (.int .i64 (j : Int))).toNat := by
  simp [intOf]
  omega
theorem meas_next' {n j : Nat} (h : j + 1 ≤ n) : n - (intOf (.int .i64 ((j : Int) + 1))).toNat < n - (intOf (.int .i64 (j : Int))).toNat := meas_next h

noncomputable def kidsT (T : Ar) : List Ar := if rightB T = true then (kidsR (tree T)).map arOf else []

set_option maxRecDepth 100000 in
set_option maxHeartbeats 4000000 in
theorem kids_any (v : Value) (T : Ar) (w : World) (hv : Tree w v T) (hok : OkA T.nodes) (hE : Env w) :
    Calls Tryd.prog 24 #[v] w fun e w' => ∃ v' L, e = .returned v' ∧ MadeTs w.heap.size w' v' L ∧ L.map Prod.snd = kidsT T ∧ Below w.heap.size w w' := by
  obtain ⟨nv, rfl, hn⟩ := hv
  obtain ⟨p0, c0, rfl⟩ := hn.len
  have hr := fun (W : World) (h1 : Tree W (treeV (.slice p0 T.nodes.length c0) T.root) T) (h2 : Env W) => right_at' (treeV (.slice p0 T.nodes.length c0) T.root) T W h1 hok h2
  have hcl := fun (W : World) (h1 : Tree W (treeV (.slice p0 T.nodes.length c0) T.root) T) (h2 : Env W) => clean_at (treeV (.slice p0 T.nodes.length c0) T.root) T W h1 hok h2
  have b0 := (Below.refl w.heap.size w).alloc (Nat.le_refl _) (.cells #[.slice p0 T.nodes.length c0, .int .i64 T.root] 26)
  have k0 := Cl.new w 26 #[.slice p0 T.nodes.length c0, .int .i64 T.root]
  have hv0 : Tree (w.alloc (.cells #[.slice p0 T.nodes.length c0, .int .i64 T.root] 26)) (treeV (.slice p0 T.nodes.length c0) T.root) T := ⟨_, rfl, hn.below b0⟩
  have hE0 := hE.below b0
  unfold kidsT
  cases hR : rightB T with
  | false =>
    rw [if_neg (by simp)]
    simp only [hR] at hr
    go_enter Tryd.func24, Tryd.ntmps24
    go_wp2_with (go_at_call 18; refine (hr _ hv0 hE0).mono ?_; rintro e w1 ⟨rfl, hb⟩; obtain ⟨⟨y0, y1⟩, yf⟩ := (k0.below hb k0.lt).two)
    go_ret
    exact ⟨_, [], rfl, ⟨World.ownsRow_nil _ _ _ _, fun _ h => by cases h⟩, rfl, b0.trans (hb.mono b0.size)⟩
  | true =>
    have hRT := rightB_iff.1 hR
    rw [if_pos rfl]
    simp only [hR] at hr
    have hokc := ok_clean hok
    have hcn := clean_nodes hR
    have hfit := hRT.fit
    have hrc : (cleanT T).root = (size (tree T) : Int) - 1 := by unfold cleanT; rw [if_pos hR]; rfl
    obtain ⟨h, ts, ht⟩ : ∃ h ts, tree T = .mk h ts := by
      cases tree T
      exact ⟨_, _, rfl⟩
    rw [ht] at hcn hrc ⊢
    rw [hcn] at hokc
    have hlen := hokc.len
    have hfl : (flat (.mk h ts)).length = sizes ts + 1 := by rw [flat_length]; simp [size]
    have hsz1 : size (.mk h ts) = sizes ts + 1 := by simp [size]
    rw [hsz1] at hrc
    have hrc2 : (cleanT T).root = ((sizes ts : Nat) : Int) := by rw [hrc]; omega
    rw [hfl] at hlen
    simp only [hcn, hrc2, hfl] at hcl
    have hnode : (flat (.mk h ts))[sizes ts]? = some ⟨h, roots 0 ts⟩ := by
      have e : flat (.mk h ts) = flatsAt 0 ts ++ [⟨h, roots 0 ts⟩] := rfl
      rw [e, List.getElem?_append_right (by rw [flats_len]; exact Nat.le_refl _), flats_len]
      simp
    have hkl : (roots 0 ts).length = ts.length := roots_len 0 ts
    have htsn := sizes_len ts
    have hrg := fun (j : Nat) (hj : j < ts.length) => roots_get 0 hj
    have hcut := fun (j : Nat) (hj : j < ts.length) => kid_cut (h := h) hj
    have hst := fun (j : Nat) (hj : j < ts.length) => sizes_take hj
    have hle : ∀ j, j ≤ ts.length → sizes (ts.take j) ≤ sizes ts := fun j hj => by
      have := sizes_append (ts.take j) (ts.drop j)
      rw [List.take_append_drop] at this
      omega
    have hkb : ∀ n ∈ flat (.mk h ts), ∀ k ∈ n.kids, -4611686018427387904 ≤ k ∧ k ≤ 4611686018427387904 := fun n hn k hk => by
      obtain ⟨i, hi⟩ := List.getElem?_of_mem hn
      have h1 := flat_low (.mk h ts) 0 i n hi k hk
      have h2 : i < (flat (.mk h ts)).length := (List.getElem?_eq_some_iff.1 hi).1
      omega
    obtain ⟨N, hN⟩ : ∃ N, N = sizes ts := ⟨_, rfl⟩
    obtain ⟨A, hA⟩ : ∃ A, A = flat (.mk h ts) := ⟨_, rfl⟩
    rw [← hA] at hokc hfl hnode hkb
    simp only [← hA] at hcl hcut
    rw [← hN] at hlen hfl hnode
    simp only [← hN] at hcl hle
    rw [← hN] at htsn
    have HTS := Lib.hid htsn
    clear htsn
    have HF := Lib.hid hfl
    have HNode := Lib.hid hnode
    have HK := Lib.hid hkl
    have HRG := Lib.hid hrg
    have HCUT := Lib.hid hcut
    have HST := Lib.hid hst
    have HLE := Lib.hid hle
    have HKB := Lib.hid hkb
    clear hfl hnode hkl hrg hcut hst hle hkb hR hRT ht hcn hrc hrc2 hsz1 hfit hN hA
    go_enter Tryd.func24, Tryd.ntmps24
    go_wp2_with (first
      | (go_at_call 18; refine (hr _ hv0 hE0).mono ?_; rintro e w1 ⟨rfl, hb⟩; have k1 := k0.below hb k0.lt; have b1 := b0.trans (hb.mono b0.size); have hv1 := hv0.below hb; obtain ⟨⟨y0, y1⟩, yf⟩ := k1.two; clear hb k0 b0)
      | (go_at_call 25; refine (hcl _ hv1 (hE.below b1)).mono ?_; rintro e w2 ⟨pz, cz, C, rfl, mz, hhz, hb⟩
         have b2 := b1.trans (hb.mono b1.size)
         have hCl : C.length = N + 1 := by rw [← HF.out, ← hhz, List.length_map]
         obtain ⟨gz, rfl, hgz⟩ : ∃ gz, pz = some ⟨gz, 0, none⟩ ∧ N + 1 ≤ cz := by
           have hrow := mz.row
           rw [hCl] at hrow
           rcases hrow.2 with ⟨_, h0⟩ | ⟨g, cap, cur, e, _, _, hcap, _⟩
           · omega
           · simp only [Value.slice.injEq] at e
             obtain ⟨rfl, _, rfl⟩ := e
             exact ⟨g, rfl, hcap⟩
         have nz := mz.nodes
         rw [hhz] at nz
         have b3 := b2.alloc b2.size (.cells #[.slice (some ⟨gz, 0, none⟩) (N + 1) cz, .int .i64 N] 26)
         have k3 := Cl.new w2 26 #[.slice (some ⟨gz, 0, none⟩) (N + 1) cz, .int .i64 N]
         have nz3 := nz.below ((Below.refl w2.heap.size w2).alloc (Nat.le_refl _) (.cells #[.slice (some ⟨gz, 0, none⟩) (N + 1) cz, .int .i64 N] 26))
         have nzc := nz3
         obtain ⟨pp, cc, ee, hh⟩ := nzc
         simp only [Value.slice.injEq] at ee
         obtain ⟨rfl, hnl, rfl⟩ := ee
         clear hnl
         have hAN : N < A.length := by rw [HF.out]; omega
         obtain ⟨kv, hnN, hiN⟩ : ∃ kv, NodeAt (w2.alloc (.cells #[.slice (some ⟨gz, 0, none⟩) (N + 1) cz, .int .i64 N] 26)) gz (N * 9) h kv ∧ Ints (w2.alloc (.cells #[.slice (some ⟨gz, 0, none⟩) (N + 1) cz, .int .i64 N] 26)) kv (roots 0 ts) := by
           rcases hh with hA0 | ⟨b', off', e2, hc⟩
           · rw [hA0] at hAN
             simp at hAN
           · simp only [Option.some.injEq, Addr.mk.injEq, and_true] at e2
             obtain ⟨rfl, rfl⟩ := e2
             obtain ⟨kv, g1, g2⟩ := hc N hAN
             have hAe : A[N] = ⟨h, roots 0 ts⟩ := by
               have := HNode.out
               rw [List.getElem?_eq_getElem hAN] at this
               simpa using this
             rw [hAe] at g1 g2
             rw [Nat.zero_add] at g1
             exact ⟨kv, g1, g2⟩
         obtain ⟨pk, ck, rfl, hik⟩ := hiN
         have y8 := hnN.c8
         rw [HK.out] at y8
         obtain ⟨⟨y0, y1⟩, yf⟩ := k3.two
         have hN0 : (0 : Int) ≤ (N : Int) := by omega
         have hN1 : (N : Int) < ((N + 1 : Nat) : Int) := by omega
         clear hb k1 mz hhz hCl hh hnN hAN nz))
    have hpart := fun (a m : Nat) (W : World) (h1 : Nodes W (.slice (some ⟨gz, 0, none⟩) A.length cz) A) (h2 : a + m ≤ A.length) (h3 : 0 < m) => part_any gz 0 cz N A a m W h1 (by rw [HF.out]; exact hgz) hokc HKB.out h2 h3
    simp only [HF.out] at hpart
    obtain ⟨iT, hiT, hzT0, hzT1, hzT2⟩ := info_parts infoTree
    have b3' := Lib.hid b3
    try clear y0 y1 yf y8 hN0 hN1
    try clear b3 b2
    try clear hr hcl
    generalize w2.alloc _ = W3 at *
    generalize w2.heap.size = gS at *
    go_loopw [4, 5, 7, 21] (fun v4 v5 _ v21 W => ∃ (j : Nat) (L : List (Value × Ar)), v21 = .int .i64 j ∧ j ≤ ts.length ∧ v5 = .int .i64 (sizes (ts.take j) : Nat) ∧ MadeTs W3.heap.size W v4 L ∧ L.map Prod.snd = (ts.take j).map arOf ∧ Below W3.heap.size W3 W) (fun _ _ _ v _ => ts.length - (intOf v).toNat)
    case atStart => exact ⟨0, [], rfl, Nat.zero_le _, rfl, ⟨World.ownsRow_nil _ _ _ _, fun _ h => by cases h⟩, rfl, Below.refl _ _⟩
    case round =>
      obtain ⟨j, L, rfl, hj, rfl, hL, hLm, hB⟩ := hrel
      obtain ⟨p4, c4, rfl⟩ := own_slice hL.1
      have hLl : L.length = j := by
        have := congrArg List.length hLm
        simp at this
        omega
      by_cases hlt : j < ts.length
      · have hlr : j < (roots 0 ts).length := by rw [HK.out]; exact hlt
        rcases hik with h0 | ⟨bk, ok, rfl, hc⟩
        · rw [h0] at hlr
          simp at hlr
        have hk := hc j hlr
        have hrj : (roots 0 ts)[j] = ((sizes (ts.take j) + size ts[j] - 1 : Nat) : Int) := by
          have := HRG.out j hlt
          rw [List.getElem?_eq_getElem hlr] at this
          simpa using this
        rw [hrj] at hk
        have hst := HST.out j hlt
        have hle := HLE.out (j + 1) hlt
        have hcut := HCUT.out j hlt
        have hsp := size_pos ts[j]
        have hnm : ts.take (j + 1) = ts.take j ++ [ts[j]] := List.take_succ_eq_append_getElem hlt
        obtain ⟨t, htj⟩ : ∃ t, t = ts[j] := ⟨_, rfl⟩
        rw [← htj] at hk hst hcut hsp hnm
        obtain ⟨m, hm⟩ : ∃ m, m = size t := ⟨_, rfl⟩
        obtain ⟨a, ha⟩ : ∃ a, a = sizes (ts.take j) := ⟨_, rfl⟩
        rw [← hm, ← ha] at hk hst hcut
        rw [← hm] at hsp
        rw [← ha]
        rw [hst] at hle
        have x0 := (hB.cell (p := ⟨bk, ok + j, none⟩) (cell_lt hk)).trans hk
        have hj0 : (0 : Int) ≤ (j : Int) := by omega
        have hj1 : (j : Int) < (ts.length : Int) := by omega
        have hwj : IntKind.i64.wrap ((j : Int) + 1) = ((j + 1 : Nat) : Int) := by
          have := HTS.out
          rw [IntWalk.i64_in _ (by omega)]
          omega
        obtain ⟨kk, hkk⟩ : ∃ kk, kk = a + m - 1 := ⟨_, rfl⟩
        obtain ⟨E, hE⟩ : ∃ E, E = a + m := ⟨_, rfl⟩
        rw [← hkk] at x0
        have hw1 : IntKind.i64.wrap ((kk : Int) + 1) = (E : Int) := by rw [IntWalk.i64_in _ (by omega)]; omega
        have hw2 : IntKind.i64.wrap ((E : Int) - (a : Int)) = (m : Int) := by rw [IntWalk.i64_in _ (by omega)]; omega
        rw [← hE] at hst
        have HST2 := Lib.hid hst
        have HE := Lib.hid hE
        have HSP := Lib.hid hsp
        have HCUT2 := Lib.hid hcut
        have HNM := Lib.hid hnm
        have HLM := Lib.hid hLm
        have HM := Lib.hid hm
        have HLL := Lib.hid hLl
        have hk3 := k3.below hB k3.lt
        obtain ⟨⟨z0, z1⟩, zf⟩ := hk3.two
        have hpt := hpart a m wr (nz3.below hB) (by omega) hsp
        clear hkk hE hsp hk hrj hst hcut hnm htj hm ha hLm hc hlr hlt hLl hle hpart
        go_wp2_with (first
          | (go_at_call 79; refine hpt.mono ?_; rintro e w4 ⟨vp, rfl, ⟨nvp, Cp, rfl, hMp, hCp⟩, hb⟩
             obtain ⟨pp, cp, rfl⟩ := own_slice hMp.row
             have hL4 := (own_below hL.1 hb).alloc (.cells #[.slice pp Cp.length cp, .int .i64 ((m : Int) - 1)] 26)
             have hMp4 := hMp.below ((Below.refl _ _).alloc (Nat.le_refl _) (.cells #[.slice pp Cp.length cp, .int .i64 ((m : Int) - 1)] 26))
             have hLs := fun x hx => hL.2 x hx
             have hB4 := hB.trans (hb.mono hB.size))
          | (at_builtin; refine wpList_append_own_at _ rfl _ _ 29 rfl W3.heap.size 26 iT (.agg #[.slice none 0 0, .int .i64 0]) 2 32 Tryd.underlying29 hiT hzT0 hzT1 hzT2 rfl (by decide) _ _ _ rfl hL4 ⟨w4.heap.size, 0, none⟩ 1 1 [.slice pp Cp.length cp, .int .i64 ((m : Int) - 1)] rfl rfl (tree_new _ _ _ _) (tree_one _ _ _ _) (by have := HLL.out; have := HTS.out; unfold maxLen; simp; omega) (by have := HLL.out; have := HTS.out; simp; omega) (by simp; have := hB4.size; omega) ?_
             intro v' w5 hown hgrow hiff hblk))
        have hg2 : (w4.alloc (.cells #[.slice pp Cp.length cp, .int .i64 ((m : Int) - 1)] 26)).grownBy w5 (Value.slice p4 L.length c4).ownBlock := hgrow
        have hb4s : wr.heap.size ≤ w4.heap.size := hb.size
        clear hgrow hiff hblk z0 z1 zf hk3 hw1 hw2 x0 hj0
        have hts := HTS.out
        have hjn : j + 1 ≤ ts.length := by omega
        have hroot : (arOf t).root = (m : Int) - 1 := by rw [HM.out]; rfl
        have hwr : W3.heap.size ≤ wr.heap.size := hB.size
        have grow : ∀ {lo : Nat} {u : Value} {D : List (Nd × Value)}, Made lo (w4.alloc (.cells #[.slice pp Cp.length cp, .int .i64 ((m : Int) - 1)] 26)) u D → Made lo w5 u D := fun h => ⟨own_type h.row hL4 (by decide) hg2, fun x hx => own_type (h.kids x hx) hL4 (by decide) hg2⟩
        refine ⟨⟨j + 1, L ++ [(.slice pp Cp.length cp, arOf t)], by simp, hjn, by rw [HST2.out], ⟨?_, fun x hx => ?_⟩, ?_, ?_⟩, by first | exact meas_next hjn | exact meas_next' hjn⟩
        · rw [cellsT_append, List.length_append]
          simpa [cellsT, hroot] using hown
        · rw [List.mem_append, List.mem_singleton] at hx
          rcases hx with hx | rfl
          · obtain ⟨D, m1, m2⟩ := hLs x hx
            exact ⟨D, grow ((m1.below hb).below ((Below.refl _ _).alloc (Nat.le_refl _) _)), m2⟩
          · exact ⟨Cp, grow (hMp4.mono hwr), hCp.trans HCUT2.out⟩
        · rw [List.map_append, HLM.out, HNM.out, List.map_append]
          rfl
        · exact (hB4.alloc hB4.size _).grown hg2 (by have := hB4.size; simp; omega) (fun g e => (hL4.lt g e).1)
      · obtain rfl : j = ts.length := by omega
        have hfin : L.map Prod.snd = (kidsR (Tm.RT.mk h ts)).map arOf := by rw [hLm, List.take_of_length_le (Nat.le_refl _)]; rfl
        have HFI := Lib.hid hfin
        clear hfin hLm
        go_wp2
        go_ret
        exact ⟨_, L, rfl, ⟨hL.1.mono (by have := b3'.out.size; omega), fun x hx => by
          obtain ⟨C, m1, m2⟩ := hL.2 x hx
          exact ⟨C, m1.mono (by have := b3'.out.size; omega), m2⟩⟩, HFI.out, b3'.out.trans (hB.mono b3'.out.size)⟩
end Go.Proofs.YtpkjfdgjmcphmaaDoor

/- bonsailaw04: TreeBack. -/
import Derived.Test.YtpkjfdgjmcphmaaDoorTbk0
namespace Go.Proofs.YtpkjfdgjmcphmaaDoor
open Go.RowKit Bset Tm

set_option maxRecDepth 100000 in
set_option maxHeartbeats 16000000 in
theorem treeBack_walk (nd : Nd) (kv lv v : Value) (l : List Ar) (T : Ar) (w : World) (hk : Ints w kv nd.kids) (hl : Trees w lv l) (hv : Tree w v T) (hwn : okW nd) (hwl : ∀ t ∈ l, ∀ n ∈ t.nodes, okW n) (hw : ∀ n ∈ T.nodes, okW n) (hE : Env w) :
    Calls Tryd.prog 5 #[nodeV nd.hd kv, lv, v] w fun e w' => e = .returned (.bool true) ∧ Below w.heap.size w w' := by
  obtain ⟨nv, rfl, hn⟩ := hv
  obtain ⟨p0, c0, rfl⟩ := hn.len
  obtain ⟨pl, cl, rfl⟩ := hl.len
  obtain ⟨pk, ck, rfl⟩ := hk.len
  have q0 := Tq.start w (nodeC nd.hd (.slice pk nd.kids.length ck)) #[.slice p0 T.nodes.length c0, .int .i64 T.root]
  go_enter Tryd.func5, Tryd.ntmps5
  go_wp2_with (go_at_call 11; refine (works_any _ (hE.below q0.b)).mono ?_; rintro e w1 ⟨rfl, hb1⟩
               have q1 := q0.below hb1
               clear hb1 q0)
  refine (long_any _ l _ (hl.below q1.b)).mono ?_
  rintro e w2 ⟨b1, rfl, hs1, hb2⟩
  have q2 := q1.below hb2
  clear hb2 q1
  obtain ⟨⟨z0, z1⟩, zf⟩ := q2.kt.two
  cases b1 with
  | true =>
    go_wp2_with (go_at_call 11; refine (works_any _ (hE.below q2.b)).mono ?_; rintro e w4 ⟨rfl, hb4⟩; have b4 := (q2.below hb4).b)
    go_ret
    exact ⟨rfl, b4⟩
  | false =>
  have hts := trees_one' (T := T) ⟨_, rfl, hn.below q2.b⟩
  have q3 := q2.alloc (.cells #[.slice p0 T.nodes.length c0, .int .i64 T.root] 26)
  go_wp2_with fail
  refine (long_any _ [T] _ hts).mono ?_
  rintro e w3 ⟨b2, rfl, hs2, hb3⟩
  have q4 := q3.below hb3
  clear hb3 q3 hts z0 z1 zf q2
  cases b2 with
  | true =>
    go_wp2_with (go_at_call 11; refine (works_any _ (hE.below q4.b)).mono ?_; rintro e w4 ⟨rfl, hb4⟩; have b4 := (q4.below hb4).b)
    go_ret
    exact ⟨rfl, b4⟩
  | false =>
  obtain ⟨⟨y0, y1, y2, y3, y4, y5, y6, y7, y8⟩, yf⟩ := q4.kn.nine
  have hnt := node_tree (h := nd.hd) (hk.below q4.b)
  have hts := trees_one' (T := ⟨[⟨nd.hd, nd.kids⟩], 0⟩) hnt
  have q5 := (q4.alloc (.cells (nodeC nd.hd (.slice pk nd.kids.length ck)) 38)).alloc (.cells #[.slice (some ⟨w3.heap.size, 0, none⟩) 1 1, .int .i64 0] 26)
  go_wp2_with fail
  refine (long_any _ [⟨[⟨nd.hd, nd.kids⟩], 0⟩] _ (by simpa using hts)).mono ?_
  rintro e w4 ⟨b3, rfl, hs3, hb4⟩
  have q6 := q5.below (by simpa using hb4)
  clear hb4 q5 hts hnt y0 y1 y2 y3 y4 y5 y6 y7 y8 yf q4
  cases b3 with
  | true =>
    go_wp2_with (go_at_call 11; refine (works_any _ (hE.below q6.b)).mono ?_; rintro e w4 ⟨rfl, hb4⟩; have b4 := (q6.below hb4).b)
    go_ret
    exact ⟨rfl, b4⟩
  | false =>
  have hokl : ∀ t ∈ l, OkA t.nodes := small_ok (hs1 (by simp)) hwl
  have hokT : OkA T.nodes := small_ok (hs2 (by simp)) (fun t ht => by rw [List.mem_singleton.1 ht]; exact hw) T (by simp)
  have hcl := (hs1 (by simp)).1
  have htc := total_le_cnt l
  have hokn : okP nd.hd 0 := ⟨hwn.1, hwn.2, by omega⟩
  have hkn : nd.hd.kind < 256 := hwn.1
  have htx : nd.hd.text.size < 9223372036854775807 := by have := hwn.2; omega
  have hokX := of_ok (h := nd.hd) hokn hokl (by omega) (by omega)
  have HT := Lib.hid htc
  have HC := Lib.hid hcl
  have hTl : T.nodes.length ≤ 4000 := by
    have := (hs2 (by simp)).1
    simp [cnt] at this
    omega
  have HTL := Lib.hid hTl
  clear htc hcl hs1 hs2 hs3 hwn hwl hw hTl
  have hof := fun (W : World) (h1 : Trees W (.slice pl l.length cl) l) (h2 : Env W) => of_at nd.hd (.slice pk nd.kids.length ck) (.slice pl l.length cl) l W h1 hokn hokl (by have := HT.out; have := HC.out; omega) (by have := HT.out; have := HC.out; omega) h2
  have hft := fun (W : World) (h1 : Env W) => fits_any nd.hd hkn htx (.slice pk nd.kids.length ck) l.length W h1.tab h1.pos
  obtain ⟨X, hX⟩ : ∃ X, X = ofT nd.hd l := ⟨_, rfl⟩
  rw [← hX] at hokX
  simp only [← hX] at hof
  obtain ⟨BB, hBB⟩ : ∃ BB, ofB nd.hd l = BB := ⟨_, rfl⟩
  simp only [hBB] at hof
  obtain ⟨⟨y0, y1, y2, y3, y4, y5, y6, y7, y8⟩, yf⟩ := q6.kn.nine
  have HX := Lib.hid hX
  have HBB := Lib.hid hBB
  clear hX hBB
  go_wp2_with (first
    | (go_at_call 16; refine (hof _ (hl.below q6.b) (hE.below q6.b)).mono ?_; rintro e w5 ⟨px, cx, C, rfl, mx, hcx, hb5⟩
       have q7 := q6.below hb5
       have q8 := q7.alloc (.cells #[.slice px X.nodes.length cx, .int .i64 X.root] 26)
       have kx := Cl.new w5 26 #[.slice px X.nodes.length cx, .int .i64 X.root]
       have mx8 := (mx.below ((Below.refl _ _).alloc (Nat.le_refl _) (.cells #[.slice px X.nodes.length cx, .int .i64 X.root] 26))).mono (lo' := w.heap.size + 2) q6.big
       have hg8 := Lib.hid q7.big
       clear hb5 mx q7 q6 y0 y1 y2 y3 y4 y5 y6 y7 y8 yf
       obtain ⟨⟨y0, y1, y2, y3, y4, y5, y6, y7, y8⟩, yf⟩ := q8.kn.nine)
    | (go_at_call 21; refine (hft _ (hE.below q8.b)).mono ?_; rintro e w6 ⟨rfl, hb6⟩
       have t9 : T3 w (nodeC nd.hd (.slice pk nd.kids.length ck)) #[.slice p0 T.nodes.length c0, .int .i64 T.root] w5.heap.size _ _ _ w6 := ⟨q8.below hb6, kx.below hb6 kx.lt, mx8.below hb6, hg8.out⟩
       clear hb6 q8 kx mx8 hg8 y0 y1 y2 y3 y4 y5 y6 y7 y8 yf))
  generalize w5.heap.size = gX at *

  have hl6 : Trees w6 (.slice pl l.length cl) l := hl.below t9.q.b
  have hE6 : Env w6 := hE.below t9.q.b
  have T9 := Lib.hid t9
  have hll : l.length ≤ 4000 := by have := HT.out; have := HC.out; omega
  have hlb : ∀ i, 1 + szs (l.take i) ≤ 4001 ∧ dps (l.take i) ≤ 4000 := fun i => by
    have h1 := szs_le (l.take i)
    have h2 := dps_le (l.take i)
    have h3 := total_take_le l i
    have := HT.out
    have := HC.out
    omega
  have HLB := Lib.hid hlb
  clear t9 hlb hof hft
  go_loopw [9, 10, 11, 12] (fun v9 v10 v11 v12 W => ∃ i : Nat, v12 = .int .i64 i ∧ v9 = .bool (okB nd.hd l i) ∧ v10 = .int .i64 (1 + szs (l.take i) : Nat) ∧ v11 = .int .i64 (dps (l.take i) : Nat) ∧ i ≤ l.length ∧ Below w6.heap.size w6 W) (fun _ _ _ v12 _ => l.length - (intOf v12).toNat)
  case atStart => exact ⟨0, rfl, by rw [okB_zero], by simp [szs], by simp [dps], Nat.zero_le _, Below.refl _ _⟩
  case round =>
  obtain ⟨i, rfl, rfl, rfl, rfl, hi, hB⟩ := hrel
  by_cases hlt : i < l.length
  · obtain ⟨b, off, nvu, rfl, X0, X1, hNU⟩ := Trees.at hl6 hlt
    have hoku := hokl _ (List.getElem_mem hlt)
    have h1 := okB_next (h := nd.hd) hlt
    have h2 := szs_next hlt
    have h3 := dps_next hlt
    have h4 := (HLB.out i).1
    have h4' := (HLB.out i).2
    have h5 := (HLB.out (i + 1)).1
    have h5' := (HLB.out (i + 1)).2
    obtain ⟨U, hU⟩ : ∃ U, U = l[i] := ⟨_, rfl⟩
    rw [← hU] at X1 hNU hoku h1 h2 h3
    obtain ⟨F, hF⟩ : ∃ F, F = okB nd.hd l i := ⟨_, rfl⟩
    obtain ⟨S, hS⟩ : ∃ S, S = 1 + szs (l.take i) := ⟨_, rfl⟩
    obtain ⟨D, hD⟩ : ∃ D, D = dps (l.take i) := ⟨_, rfl⟩
    rw [← hF] at h1 ⊢
    rw [← hS, ← hD]
    obtain ⟨pu, cu, rfl⟩ := hNU.len
    have hru := fun W h1 h2 => right_at' (treeV (.slice pu U.nodes.length cu) U.root) U W h1 hoku h2
    have hsu := fun W h1 h2 => size_any (treeV (.slice pu U.nodes.length cu) U.root) U W h1 hoku h2
    have hdu := fun W h1 h2 => deepf_any (treeV (.slice pu U.nodes.length cu) U.root) U W h1 hoku h2
    obtain ⟨RU, hRU⟩ : ∃ x, rightB U = x := ⟨_, rfl⟩
    obtain ⟨SU, hSU⟩ : ∃ x, x = sizeT U := ⟨_, rfl⟩
    obtain ⟨DU, hDU⟩ : ∃ x, x = deepT U := ⟨_, rfl⟩
    simp only [hRU] at hru
    rw [hRU] at h1
    simp only [← hSU] at hsu h2
    simp only [← hDU] at hdu h3
    have hw1 : IntKind.i64.wrap ((S : Int) + (SU : Int)) = ((S + SU : Nat) : Int) := by rw [IntWalk.i64_in _ (by omega)]; omega
    have hw2 : IntKind.i64.wrap ((i : Int) + 1) = ((i + 1 : Nat) : Int) := by rw [IntWalk.i64_in _ (by omega)]; omega
    have hi0 : (0 : Int) ≤ (i : Int) := by omega
    have hi1 : (i : Int) < (l.length : Int) := by omega
    have H1 := Lib.hid h1
    have H2 := Lib.hid (show 1 + szs (l.take (i + 1)) = S + SU by omega)
    have H3 := Lib.hid (show ((dps (l.take (i + 1)) : Nat) : Int) = max (D : Int) (DU : Int) by omega)
    have x0 := (hB.cell (p := ⟨b, off + i * 2, none⟩) (cell_lt X0)).trans X0
    have x1 := (hB.cell (p := ⟨b, off + i * 2 + 1, none⟩) (cell_lt X1)).trans X1
    have B0 := hB
    clear h1 h2 h3 h4 h4' h5 h5' hS hD hU hRU hSU hDU hF hlt hB
    cases F with
    | true =>
      go_wp2_with (first
        | (go_at_call 18; refine (hru _ ⟨_, rfl, hNU.below B0⟩ (hE6.below B0)).mono ?_; rintro e wa ⟨rfl, hb⟩
           have B1 := B0.trans (hb.mono B0.size)
           clear hb x0 x1
           have x0 := (B1.cell (p := ⟨b, off + i * 2, none⟩) (cell_lt X0)).trans X0
           have x1 := (B1.cell (p := ⟨b, off + i * 2 + 1, none⟩) (cell_lt X1)).trans X1)
        | (go_at_call 19; refine (hsu _ ⟨_, rfl, hNU.below B1⟩ (hE6.below B1)).mono ?_; rintro e wb ⟨rfl, hb⟩
           have B2 := B1.trans (hb.mono B1.size)
           clear hb x0 x1
           have x0 := (B2.cell (p := ⟨b, off + i * 2, none⟩) (cell_lt X0)).trans X0
           have x1 := (B2.cell (p := ⟨b, off + i * 2 + 1, none⟩) (cell_lt X1)).trans X1)
        | (go_at_call 14; refine (hdu _ ⟨_, rfl, hNU.below B2⟩ (hE6.below B2)).mono ?_; rintro e wc ⟨rfl, hb⟩
           have B3 := B2.trans (hb.mono B2.size)
           clear hb x0 x1))
      refine ⟨⟨i + 1, by go_num, ?_, ?_, ?_, by omega, B3⟩, by simp [intOf]; omega⟩
      · rw [H1.out]; simp
      · exact congrArg (Value.int .i64) (by have := H2.out; omega)
      · rw [H3.out]
    | false =>
      go_wp2_with (first
        | (go_at_call 19; refine (hsu _ ⟨_, rfl, hNU.below B0⟩ (hE6.below B0)).mono ?_; rintro e wb ⟨rfl, hb⟩
           have B2 := B0.trans (hb.mono B0.size)
           clear hb x0 x1
           have x0 := (B2.cell (p := ⟨b, off + i * 2, none⟩) (cell_lt X0)).trans X0
           have x1 := (B2.cell (p := ⟨b, off + i * 2 + 1, none⟩) (cell_lt X1)).trans X1)
        | (go_at_call 14; refine (hdu _ ⟨_, rfl, hNU.below B2⟩ (hE6.below B2)).mono ?_; rintro e wc ⟨rfl, hb⟩
           have B3 := B2.trans (hb.mono B2.size)
           clear hb x0 x1))
      refine ⟨⟨i + 1, by go_num, ?_, ?_, ?_, by omega, B3⟩, by simp [intOf]; omega⟩
      · rw [H1.out]; simp
      · exact congrArg (Value.int .i64) (by have := H2.out; omega)
      · rw [H3.out]
  · obtain rfl : i = l.length := by omega
    have t9 := T9.out.below hB
    rw [okB_all, HBB.out, List.take_of_length_le (Nat.le_refl _)]
    have hlb := (HLB.out l.length).2
    rw [List.take_of_length_le (Nat.le_refl _)] at hlb
    obtain ⟨S, hS⟩ : ∃ S, S = 1 + szs l := ⟨_, rfl⟩
    obtain ⟨D, hD⟩ : ∃ D, D = dps l := ⟨_, rfl⟩
    rw [← hS, ← hD]
    rw [← hD] at hlb
    have hwD : IntKind.i64.wrap ((D : Int) + 1) = ((D + 1 : Nat) : Int) := by rw [IntWalk.i64_in _ (by omega)]; omega
    have HSS := Lib.hid hS
    have HDD := Lib.hid hD
    clear hlt hi hl6 hE6 T9 HLB hB hS hD hlb
    cases BB with
    | true =>
      have t10 := t9.nil
      obtain ⟨⟨x0, x1⟩, xf⟩ := t10.kx.two
      obtain ⟨⟨y0, y1, y2, y3, y4, y5, y6, y7, y8⟩, yf⟩ := t9.q.kn.nine
      have hxt := t10.tree hcx
      have hkd := fun W h1 h2 => kids_any (treeV (.slice px X.nodes.length cx) X.root) X W h1 hokX h2
      go_wp2_with (go_at_call 24; refine (hkd _ hxt (hE.below t10.q.b)).mono ?_; rintro e w7 ⟨vk, L, rfl, hL, hLm, hb7⟩
                   have T0 := t10.below hb7
                   obtain ⟨pL, cL, rfl⟩ := own_slice hL.1
                   have hLt := hL.trees
                   rw [hLm] at hLt
                   have hLl := congrArg List.length hLm
                   rw [List.length_map] at hLl
                   rw [hLl] at hLt
                   clear hb7 x0 x1 xf y0 y1 y2 y3 y4 y5 y6 y7 y8 yf t9 t10 hL)
      have hXe := HX.out
      have hrt := fun W (h1 : Tree W (treeV (.slice px X.nodes.length cx) X.root) X) h2 => root_any (treeV (.slice px X.nodes.length cx) X.root) X W h1 hokX h2
      have hsz := fun W (h1 : Tree W (treeV (.slice px X.nodes.length cx) X.root) X) h2 => size_any (treeV (.slice px X.nodes.length cx) X.root) X W h1 hokX h2
      have hdp := fun W (h1 : Tree W (treeV (.slice px X.nodes.length cx) X.root) X) h2 => deepf_any (treeV (.slice px X.nodes.length cx) X.root) X W h1 hokX h2
      have hri := fun W (h1 : Tree W (treeV (.slice px X.nodes.length cx) X.root) X) h2 => right_at' (treeV (.slice px X.nodes.length cx) X.root) X W h1 hokX h2
      have hcl := fun W (h1 : Tree W (treeV (.slice px X.nodes.length cx) X.root) X) h2 => clean_at (treeV (.slice px X.nodes.length cx) X.root) X W h1 hokX h2
      have e1 : rootT X = nd.hd := by rw [hXe]; exact of_root HBB.out
      have e2 : sizeT X = S := by rw [HSS.out, hXe]; exact of_size HBB.out
      have e3 : deepT X = D + 1 := by rw [HDD.out, hXe]; exact of_deep HBB.out
      have e4 : rightB X = true := by rw [hXe]; exact of_right HBB.out
      have e5 : cleanT X = X := by rw [hXe]; exact of_clean HBB.out
      have e6 : kidsT X = l.map fun t => arOf (tree t) := by rw [hXe]; exact of_kids HBB.out
      simp only [e1] at hrt
      simp only [e2] at hsz
      simp only [e3] at hdp
      simp only [e4] at hri
      simp only [e5] at hcl
      rw [show (kidsT X).length = l.length by rw [e6, List.length_map]] at hLt ⊢
      rw [e6] at hLt
      clear e1 e2 e3 e4 e5 e6 hXe hLm hkd hxt
      have HTt := Lib.hid hLt
      clear hLt
      refine (fun (tail : ∀ (gA gB : Nat) (W : World), T3 w (nodeC nd.hd (.slice none 0 0)) #[.slice p0 T.nodes.length c0, .int .i64 T.root] gX (.slice px X.nodes.length cx) X.root C W → Below w7.heap.size w7 W → Tree W (treeV (.slice (some ⟨gA, 0, none⟩) 1 1) 0) ⟨[⟨nd.hd, []⟩], 0⟩ → Tree W (treeV (.slice (some ⟨gB, 0, none⟩) 1 1) 0) ⟨[⟨nd.hd, []⟩], 0⟩ → (?G : Nat → Nat → World → Prop) gA gB W) => ?main) ?tail
      case main =>
        refine wp_region_held_drew (S := (fun w' => w'.cell? ⟨w.heap.size, 0, none⟩ = some (.int .u8 nd.hd.kind) ∧ w'.cell? ⟨w.heap.size, 1, none⟩ = some (.int .u64 (word (setN nd.hd.set) 0 : Nat)) ∧ w'.cell? ⟨w.heap.size, 2, none⟩ = some (.int .u64 (word (setN nd.hd.set) 1 : Nat)) ∧ w'.cell? ⟨w.heap.size, 3, none⟩ = some (.int .u64 (word (setN nd.hd.set) 2 : Nat)) ∧ w'.cell? ⟨w.heap.size, 4, none⟩ = some (.int .u64 (word (setN nd.hd.set) 3 : Nat)) ∧ w'.cell? ⟨w.heap.size, 5, none⟩ = some (.string nd.hd.text) ∧ w'.cell? ⟨w.heap.size, 6, none⟩ = some (.int .i64 nd.hd.lo) ∧ w'.cell? ⟨w.heap.size, 7, none⟩ = some (.int .i64 nd.hd.hi) ∧ w'.cell? ⟨w.heap.size, 8, none⟩ = some (.slice none 0 0) ∧ w'.cell? ⟨gX, 0, none⟩ = some (.slice px X.nodes.length cx) ∧ w'.cell? ⟨gX, 1, none⟩ = some (.int .i64 X.root))) (by kernel_rfl) (T0.S) (fun hHeld => ?_)
        have T1 := T0.drew
        have B1 : Below w7.heap.size w7 w7.drew := (Below.refl _ w7).drew
        refine wpAnyH_take (i := 0) (v := ?t1v) rfl (by kernel_rfl) (by kernel_rfl) (by kernel_rfl) (fun _ _ _ h => h) (Or.inl ⟨by rfl, ?t1y⟩) (by assumption) ?t1t
        case t1y => (intro w hSw; (try dsimp only at hSw); (try simp only [List.getElem_toArray, List.getElem_cons_zero]); go_simp; try with_reducible rfl)
        try simp only [Act.put, List.getElem_toArray, List.getElem_cons_zero, List.setIfInBounds_toArray, List.set_cons_zero, List.set_cons_succ]
        refine wpAnyH_take (i := 4) (v := ?t2v) rfl (by kernel_rfl) (by kernel_rfl) (by kernel_rfl) (fun _ _ _ h => h) (Or.inl ⟨by rfl, ?t2y⟩) (by assumption) ?t2t
        case t2y => (intro w hSw; (try dsimp only at hSw); (try simp only [List.getElem_toArray, List.getElem_cons_zero, List.getElem_cons_succ]); go_simp; try with_reducible rfl)
        try simp only [Act.put, List.getElem_toArray, List.getElem_cons_zero, List.getElem_cons_succ, List.setIfInBounds_toArray, List.set_cons_zero, List.set_cons_succ]
        generalize w7.drew = W1 at *
        refine wpAnyH_ready (rs := [1, 5]) (by kernel_rfl) (by simp) ?_
        refine (AllReadyH.cons rfl (fun K hK => ?b33) (AllReadyH.cons rfl (fun K hK => ?b34) AllReadyH.nil))
        case b33 =>
          try simp only [List.getElem_toArray, List.getElem_cons_zero, List.getElem_cons_succ]
          go_simp
          refine (hrt _ (T1.tree hcx) (hE.below T1.q.b)).mono ?_
          rintro e W2 ⟨rfl, hb⟩
          have T2 := T1.below hb
          have B2 := B1.trans (hb.mono B1.size)
          clear hb
          try go_simp
          refine hK.out _ _ ?s3 (fun hHeld2 => ?_)
          case s3 => (try dsimp only); (exact T2.S)
          clear hHeld hK K
          have hHeld := hHeld2
          clear hHeld2
          try simp only [Act.put, List.getElem_toArray, List.getElem_cons_zero, List.getElem_cons_succ, List.setIfInBounds_toArray, List.set_cons_zero, List.set_cons_succ]
          refine wpAnyH_ready (rs := [2, 5]) (by kernel_rfl) (by simp) ?_
          refine (AllReadyH.cons rfl (fun K hK => ?b20) (AllReadyH.cons rfl (fun K hK => ?b21) AllReadyH.nil))
          case b20 =>
            try simp only [List.getElem_toArray, List.getElem_cons_zero, List.getElem_cons_succ]
            go_simp
            have T3 := T2.alloc (.cells (nodeC nd.hd (.slice none 0 0)) 38)
            have st := (Below.refl W2.heap.size W2).alloc (Nat.le_refl _) (.cells (nodeC nd.hd (.slice none 0 0)) 38)
            have B3 := B2.alloc B2.size (.cells (nodeC nd.hd (.slice none 0 0)) 38)
            have hA3 := node_tree (h := nd.hd) (ints_none W2 none 0)
            clear st
            generalize W2.alloc _ = W3 at *
            generalize W2.heap.size = gA at *
            try go_simp
            refine hK.out _ _ ?s6 (fun hHeld2 => ?_)
            case s6 => (try dsimp only); (exact T3.S)
            clear hHeld hK K
            have hHeld := hHeld2
            clear hHeld2
            try simp only [Act.put, List.getElem_toArray, List.getElem_cons_zero, List.getElem_cons_succ, List.setIfInBounds_toArray, List.set_cons_zero, List.set_cons_succ]
            refine wpAnyH_take (i := 3) (v := ?t7v) rfl (by kernel_rfl) (by kernel_rfl) (by kernel_rfl) (fun _ _ _ h => h) (Or.inl ⟨by rfl, ?t7y⟩) (by assumption) ?t7t
            case t7y => (intro w hSw; (try dsimp only at hSw); (try simp only [List.getElem_toArray, List.getElem_cons_zero, List.getElem_cons_succ]); go_simp; try with_reducible rfl)
            try simp only [Act.put, List.getElem_toArray, List.getElem_cons_zero, List.getElem_cons_succ, List.setIfInBounds_toArray, List.set_cons_zero, List.set_cons_succ]
            refine wpAnyH_ready (rs := [5]) (by kernel_rfl) (by simp) ?_
            refine (AllReadyH.cons rfl (fun K hK => ?b12) AllReadyH.nil)
            case b12 =>
              try simp only [List.getElem_toArray, List.getElem_cons_zero, List.getElem_cons_succ]
              go_simp
              have T4 := T3.alloc (.cells (nodeC nd.hd (.slice none 0 0)) 38)
              have st := (Below.refl W3.heap.size W3).alloc (Nat.le_refl _) (.cells (nodeC nd.hd (.slice none 0 0)) 38)
              have B4 := B3.alloc B3.size (.cells (nodeC nd.hd (.slice none 0 0)) 38)
              have hB4 := node_tree (h := nd.hd) (ints_none W3 none 0)
              have hA4 := hA3.below st
              clear st
              generalize W3.alloc _ = W4 at *
              generalize W3.heap.size = gB at *
              try go_simp
              refine hK.out _ _ ?s9 (fun hHeld2 => ?_)
              case s9 => (try dsimp only); (exact T4.S)
              clear hHeld hK K
              have hHeld := hHeld2
              clear hHeld2
              try simp only [Act.put, List.getElem_toArray, List.getElem_cons_zero, List.getElem_cons_succ, List.setIfInBounds_toArray, List.set_cons_zero, List.set_cons_succ]
              refine wpAnyH_take (i := 6) (v := ?t11v) rfl (by kernel_rfl) (by kernel_rfl) (by kernel_rfl) (fun _ _ _ h => h) (Or.inl ⟨by rfl, ?t11y⟩) (by assumption) ?t11t
              case t11y => (intro w hSw; (try dsimp only at hSw); (try simp only [List.getElem_toArray, List.getElem_cons_zero, List.getElem_cons_succ]); go_simp; try with_reducible rfl)
              try simp only [Act.put, List.getElem_toArray, List.getElem_cons_zero, List.getElem_cons_succ, List.setIfInBounds_toArray, List.set_cons_zero, List.set_cons_succ]
              exact tail gA gB W4 T4 B4 hA4 hB4
          case b21 =>
            try simp only [List.getElem_toArray, List.getElem_cons_zero, List.getElem_cons_succ]
            go_simp
            have T3 := T2.alloc (.cells (nodeC nd.hd (.slice none 0 0)) 38)
            have st := (Below.refl W2.heap.size W2).alloc (Nat.le_refl _) (.cells (nodeC nd.hd (.slice none 0 0)) 38)
            have B3 := B2.alloc B2.size (.cells (nodeC nd.hd (.slice none 0 0)) 38)
            have hB3 := node_tree (h := nd.hd) (ints_none W2 none 0)
            clear st
            generalize W2.alloc _ = W3 at *
            generalize W2.heap.size = gB at *
            try go_simp
            refine hK.out _ _ ?s13 (fun hHeld2 => ?_)
            case s13 => (try dsimp only); (exact T3.S)
            clear hHeld hK K
            have hHeld := hHeld2
            clear hHeld2
            try simp only [Act.put, List.getElem_toArray, List.getElem_cons_zero, List.getElem_cons_succ, List.setIfInBounds_toArray, List.set_cons_zero, List.set_cons_succ]
            refine wpAnyH_take (i := 6) (v := ?t15v) rfl (by kernel_rfl) (by kernel_rfl) (by kernel_rfl) (fun _ _ _ h => h) (Or.inl ⟨by rfl, ?t15y⟩) (by assumption) ?t15t
            case t15y => (intro w hSw; (try dsimp only at hSw); (try simp only [List.getElem_toArray, List.getElem_cons_zero, List.getElem_cons_succ]); go_simp; try with_reducible rfl)
            try simp only [Act.put, List.getElem_toArray, List.getElem_cons_zero, List.getElem_cons_succ, List.setIfInBounds_toArray, List.set_cons_zero, List.set_cons_succ]
            refine wpAnyH_ready (rs := [2]) (by kernel_rfl) (by simp) ?_
            refine (AllReadyH.cons rfl (fun K hK => ?b19) AllReadyH.nil)
            case b19 =>
              try simp only [List.getElem_toArray, List.getElem_cons_zero, List.getElem_cons_succ]
              go_simp
              have T4 := T3.alloc (.cells (nodeC nd.hd (.slice none 0 0)) 38)
              have st := (Below.refl W3.heap.size W3).alloc (Nat.le_refl _) (.cells (nodeC nd.hd (.slice none 0 0)) 38)
              have B4 := B3.alloc B3.size (.cells (nodeC nd.hd (.slice none 0 0)) 38)
              have hA4 := node_tree (h := nd.hd) (ints_none W3 none 0)
              have hB4 := hB3.below st
              clear st
              generalize W3.alloc _ = W4 at *
              generalize W3.heap.size = gA at *
              try go_simp
              refine hK.out _ _ ?s16 (fun hHeld2 => ?_)
              case s16 => (try dsimp only); (exact T4.S)
              clear hHeld hK K
              have hHeld := hHeld2
              clear hHeld2
              try simp only [Act.put, List.getElem_toArray, List.getElem_cons_zero, List.getElem_cons_succ, List.setIfInBounds_toArray, List.set_cons_zero, List.set_cons_succ]
              refine wpAnyH_take (i := 3) (v := ?t17v) rfl (by kernel_rfl) (by kernel_rfl) (by kernel_rfl) (fun _ _ _ h => h) (Or.inl ⟨by rfl, ?t17y⟩) (by assumption) ?t17t
              case t17y => (intro w hSw; (try dsimp only at hSw); (try simp only [List.getElem_toArray, List.getElem_cons_zero, List.getElem_cons_succ]); go_simp; try with_reducible rfl)
              try simp only [Act.put, List.getElem_toArray, List.getElem_cons_zero, List.getElem_cons_succ, List.setIfInBounds_toArray, List.set_cons_zero, List.set_cons_succ]
              exact tail gA gB W4 T4 B4 hA4 hB4
        case b34 =>
          try simp only [List.getElem_toArray, List.getElem_cons_zero, List.getElem_cons_succ]
          go_simp
          have T2 := T1.alloc (.cells (nodeC nd.hd (.slice none 0 0)) 38)
          have st := (Below.refl W1.heap.size W1).alloc (Nat.le_refl _) (.cells (nodeC nd.hd (.slice none 0 0)) 38)
          have B2 := B1.alloc B1.size (.cells (nodeC nd.hd (.slice none 0 0)) 38)
          have hB2 := node_tree (h := nd.hd) (ints_none W1 none 0)
          clear st
          generalize W1.alloc _ = W2 at *
          generalize W1.heap.size = gB at *
          try go_simp
          refine hK.out _ _ ?s22 (fun hHeld2 => ?_)
          case s22 => (try dsimp only); (exact T2.S)
          clear hHeld hK K
          have hHeld := hHeld2
          clear hHeld2
          try simp only [Act.put, List.getElem_toArray, List.getElem_cons_zero, List.getElem_cons_succ, List.setIfInBounds_toArray, List.set_cons_zero, List.set_cons_succ]
          refine wpAnyH_take (i := 6) (v := ?t24v) rfl (by kernel_rfl) (by kernel_rfl) (by kernel_rfl) (fun _ _ _ h => h) (Or.inl ⟨by rfl, ?t24y⟩) (by assumption) ?t24t
          case t24y => (intro w hSw; (try dsimp only at hSw); (try simp only [List.getElem_toArray, List.getElem_cons_zero, List.getElem_cons_succ]); go_simp; try with_reducible rfl)
          try simp only [Act.put, List.getElem_toArray, List.getElem_cons_zero, List.getElem_cons_succ, List.setIfInBounds_toArray, List.set_cons_zero, List.set_cons_succ]
          refine wpAnyH_ready (rs := [1]) (by kernel_rfl) (by simp) ?_
          refine (AllReadyH.cons rfl (fun K hK => ?b32) AllReadyH.nil)
          case b32 =>
            try simp only [List.getElem_toArray, List.getElem_cons_zero, List.getElem_cons_succ]
            go_simp
            refine (hrt _ (T2.tree hcx) (hE.below T2.q.b)).mono ?_
            rintro e W3 ⟨rfl, hb⟩
            have T3 := T2.below hb
            have B3 := B2.trans (hb.mono B2.size)
            have hB3 := hB2.below hb
            clear hb
            try go_simp
            refine hK.out _ _ ?s25 (fun hHeld2 => ?_)
            case s25 => (try dsimp only); (exact T3.S)
            clear hHeld hK K
            have hHeld := hHeld2
            clear hHeld2
            try simp only [Act.put, List.getElem_toArray, List.getElem_cons_zero, List.getElem_cons_succ, List.setIfInBounds_toArray, List.set_cons_zero, List.set_cons_succ]
            refine wpAnyH_ready (rs := [2]) (by kernel_rfl) (by simp) ?_
            refine (AllReadyH.cons rfl (fun K hK => ?b31) AllReadyH.nil)
            case b31 =>
              try simp only [List.getElem_toArray, List.getElem_cons_zero, List.getElem_cons_succ]
              go_simp
              have T4 := T3.alloc (.cells (nodeC nd.hd (.slice none 0 0)) 38)
              have st := (Below.refl W3.heap.size W3).alloc (Nat.le_refl _) (.cells (nodeC nd.hd (.slice none 0 0)) 38)
              have B4 := B3.alloc B3.size (.cells (nodeC nd.hd (.slice none 0 0)) 38)
              have hA4 := node_tree (h := nd.hd) (ints_none W3 none 0)
              have hB4 := hB3.below st
              clear st
              generalize W3.alloc _ = W4 at *
              generalize W3.heap.size = gA at *
              try go_simp
              refine hK.out _ _ ?s28 (fun hHeld2 => ?_)
              case s28 => (try dsimp only); (exact T4.S)
              clear hHeld hK K
              have hHeld := hHeld2
              clear hHeld2
              try simp only [Act.put, List.getElem_toArray, List.getElem_cons_zero, List.getElem_cons_succ, List.setIfInBounds_toArray, List.set_cons_zero, List.set_cons_succ]
              refine wpAnyH_take (i := 3) (v := ?t29v) rfl (by kernel_rfl) (by kernel_rfl) (by kernel_rfl) (fun _ _ _ h => h) (Or.inl ⟨by rfl, ?t29y⟩) (by assumption) ?t29t
              case t29y => (intro w hSw; (try dsimp only at hSw); (try simp only [List.getElem_toArray, List.getElem_cons_zero, List.getElem_cons_succ]); go_simp; try with_reducible rfl)
              try simp only [Act.put, List.getElem_toArray, List.getElem_cons_zero, List.getElem_cons_succ, List.setIfInBounds_toArray, List.set_cons_zero, List.set_cons_succ]
              exact tail gA gB W4 T4 B4 hA4 hB4
      case tail =>
        intro gA gB W1 T1 B1 hA hB
        try dsimp only
        clear T0
        have hHeld := T1.S
        refine wpAnyH_ready (rs := [7]) (by kernel_rfl) (by simp) ?_
        refine AllReadyH.cons rfl (fun K hK => ?_) AllReadyH.nil
        try simp only [List.getElem_toArray, List.getElem_cons_zero, List.getElem_cons_succ]
        go_simp
        refine (exact_any _ _ ⟨[⟨nd.hd, []⟩], 0⟩ ⟨[⟨nd.hd, []⟩], 0⟩ _ hA hB (okA_iff.2 ⟨by simp, fun n hn => by rw [List.mem_singleton.1 hn]; exact hokn⟩)).mono ?_
        rintro e W2 ⟨rfl, hb⟩
        have T2 := T1.below hb
        have B2 := B1.trans (hb.mono B1.size)
        rw [exact_self]
        clear hb
        try go_simp
        refine hK.out _ _ ?s35 (fun hHeld2 => ?_)
        case s35 => (try dsimp only); (exact T2.S)
        clear hHeld hK K
        have hHeld := hHeld2
        clear hHeld2
        try simp only [Act.put, List.getElem_toArray, List.getElem_cons_zero, List.getElem_cons_succ, List.setIfInBounds_toArray, List.set_cons_zero, List.set_cons_succ]
        refine wpAnyH_take (i := 8) (v := ?t36v) rfl (by kernel_rfl) (by kernel_rfl) (by kernel_rfl) (fun _ _ _ h => h) (Or.inl ⟨by rfl, ?t36y⟩) (by assumption) ?t36t
        case t36y => (intro w hSw; (try dsimp only at hSw); (try simp only [List.getElem_toArray, List.getElem_cons_zero, List.getElem_cons_succ]); go_simp; try with_reducible rfl)
        try simp only [Act.put, List.getElem_toArray, List.getElem_cons_zero, List.getElem_cons_succ, List.setIfInBounds_toArray, List.set_cons_zero, List.set_cons_succ]
        refine wpAnyH_take (i := 9) (v := ?t37v) rfl (by kernel_rfl) (by kernel_rfl) (by kernel_rfl) (fun _ _ _ h => h) (Or.inl ⟨by rfl, ?t37y⟩) (by assumption) ?t37t
        case t37y => (intro w hSw; (try dsimp only at hSw); (try simp only [List.getElem_toArray, List.getElem_cons_zero, List.getElem_cons_succ]); go_simp; try with_reducible rfl)
        try simp only [Act.put, List.getElem_toArray, List.getElem_cons_zero, List.getElem_cons_succ, List.setIfInBounds_toArray, List.set_cons_zero, List.set_cons_succ]
        refine wpAnyH_take (i := 10) (v := ?t38v) rfl (by kernel_rfl) (by kernel_rfl) (by kernel_rfl) (fun _ _ _ h => h) (Or.inl ⟨by rfl, ?t38y⟩) (by assumption) ?t38t
        case t38y => (intro w hSw; (try dsimp only at hSw); (try simp only [List.getElem_toArray, List.getElem_cons_zero, List.getElem_cons_succ]); go_simp; try with_reducible rfl)
        try simp only [Act.put, List.getElem_toArray, List.getElem_cons_zero, List.getElem_cons_succ, List.setIfInBounds_toArray, List.set_cons_zero, List.set_cons_succ]
        refine wpAnyH_take (i := 11) (v := ?t39v) rfl (by kernel_rfl) (by kernel_rfl) (by kernel_rfl) (fun _ _ _ h => h) (Or.inl ⟨by rfl, ?t39y⟩) (by assumption) ?t39t
        case t39y => (intro w hSw; (try dsimp only at hSw); (try simp only [List.getElem_toArray, List.getElem_cons_zero, List.getElem_cons_succ]); go_simp; try with_reducible rfl)
        try simp only [Act.put, List.getElem_toArray, List.getElem_cons_zero, List.getElem_cons_succ, List.setIfInBounds_toArray, List.set_cons_zero, List.set_cons_succ]
        refine wpAnyH_take (i := 12) (v := ?t40v) rfl (by kernel_rfl) (by kernel_rfl) (by kernel_rfl) (fun _ _ _ h => h) (Or.inl ⟨by rfl, ?t40y⟩) (by assumption) ?t40t
        case t40y => (intro w hSw; (try dsimp only at hSw); (try simp only [List.getElem_toArray, List.getElem_cons_zero, List.getElem_cons_succ]); go_simp; try with_reducible rfl)
        try simp only [Act.put, List.getElem_toArray, List.getElem_cons_zero, List.getElem_cons_succ, List.setIfInBounds_toArray, List.set_cons_zero, List.set_cons_succ]
        refine wpAnyH_take (i := 13) (v := ?t41v) rfl (by kernel_rfl) (by kernel_rfl) (by kernel_rfl) (fun _ _ _ h => h) (Or.inl ⟨by rfl, ?t41y⟩) (by assumption) ?t41t
        case t41y => (intro w hSw; (try dsimp only at hSw); (try simp only [List.getElem_toArray, List.getElem_cons_zero, List.getElem_cons_succ]); go_simp; try with_reducible rfl)
        try simp only [Act.put, List.getElem_toArray, List.getElem_cons_zero, List.getElem_cons_succ, List.setIfInBounds_toArray, List.set_cons_zero, List.set_cons_succ]
        refine wpAnyH_take (i := 14) (v := ?t42v) rfl (by kernel_rfl) (by kernel_rfl) (by kernel_rfl) (fun _ _ _ h => h) (Or.inl ⟨by rfl, ?t42y⟩) (by assumption) ?t42t
        case t42y => (intro w hSw; (try dsimp only at hSw); (try simp only [List.getElem_toArray, List.getElem_cons_zero, List.getElem_cons_succ]); go_simp; try with_reducible rfl)
        try simp only [Act.put, List.getElem_toArray, List.getElem_cons_zero, List.getElem_cons_succ, List.setIfInBounds_toArray, List.set_cons_zero, List.set_cons_succ]
        refine wpAnyH_take (i := 15) (v := ?t43v) rfl (by kernel_rfl) (by kernel_rfl) (by kernel_rfl) (fun _ _ _ h => h) (Or.inl ⟨by rfl, ?t43y⟩) (by assumption) ?t43t
        case t43y => (intro w hSw; (try dsimp only at hSw); (try simp only [List.getElem_toArray, List.getElem_cons_zero, List.getElem_cons_succ]); go_simp; try with_reducible rfl)
        try simp only [Act.put, List.getElem_toArray, List.getElem_cons_zero, List.getElem_cons_succ, List.setIfInBounds_toArray, List.set_cons_zero, List.set_cons_succ]
        refine wpAnyH_take (i := 16) (v := ?t44v) rfl (by kernel_rfl) (by kernel_rfl) (by kernel_rfl) (fun _ _ _ h => h) (Or.inl ⟨by rfl, ?t44y⟩) (by assumption) ?t44t
        case t44y => (intro w hSw; (try dsimp only at hSw); (try simp only [List.getElem_toArray, List.getElem_cons_zero, List.getElem_cons_succ]); go_simp; try with_reducible rfl)
        try simp only [Act.put, List.getElem_toArray, List.getElem_cons_zero, List.getElem_cons_succ, List.setIfInBounds_toArray, List.set_cons_zero, List.set_cons_succ]
        refine wpAnyH_take (i := 17) (v := ?t45v) rfl (by kernel_rfl) (by kernel_rfl) (by kernel_rfl) (fun _ _ _ h => h) (Or.inl ⟨by rfl, ?t45y⟩) (by assumption) ?t45t
        case t45y => (intro w hSw; (try dsimp only at hSw); (try simp only [List.getElem_toArray, List.getElem_cons_zero, List.getElem_cons_succ]); go_simp; try with_reducible rfl)
        try simp only [Act.put, List.getElem_toArray, List.getElem_cons_zero, List.getElem_cons_succ, List.setIfInBounds_toArray, List.set_cons_zero, List.set_cons_succ]
        refine wpAnyH_take (i := 19) (v := ?t46v) rfl (by kernel_rfl) (by kernel_rfl) (by kernel_rfl) (fun _ _ _ h => h) (Or.inl ⟨by rfl, ?t46y⟩) (by assumption) ?t46t
        case t46y => (intro w hSw; (try dsimp only at hSw); (try simp only [List.getElem_toArray, List.getElem_cons_zero, List.getElem_cons_succ]); go_simp; try with_reducible rfl)
        try simp only [Act.put, List.getElem_toArray, List.getElem_cons_zero, List.getElem_cons_succ, List.setIfInBounds_toArray, List.set_cons_zero, List.set_cons_succ]
        refine wpAnyH_ready (rs := [18]) (by kernel_rfl) (by simp) ?_
        refine AllReadyH.cons rfl (fun K hK => ?_) AllReadyH.nil
        try simp only [List.getElem_toArray, List.getElem_cons_zero, List.getElem_cons_succ]
        go_simp
        refine (hsz _ (T2.tree hcx) (hE.below T2.q.b)).mono ?_
        rintro e W3 ⟨rfl, hb⟩
        have T3 := T2.below hb
        have B3 := B2.trans (hb.mono B2.size)
        clear hb
        try go_simp
        refine hK.out _ _ ?s47 (fun hHeld2 => ?_)
        case s47 => (try dsimp only); (exact T3.S)
        clear hHeld hK K
        have hHeld := hHeld2
        clear hHeld2
        try simp only [Act.put, List.getElem_toArray, List.getElem_cons_zero, List.getElem_cons_succ, List.setIfInBounds_toArray, List.set_cons_zero, List.set_cons_succ]
        refine wpAnyH_take (i := 20) (v := ?t48v) rfl (by kernel_rfl) (by kernel_rfl) (by kernel_rfl) (fun _ _ _ h => h) (Or.inl ⟨by rfl, ?t48y⟩) (by assumption) ?t48t
        case t48y => (intro w hSw; (try dsimp only at hSw); (try simp only [List.getElem_toArray, List.getElem_cons_zero, List.getElem_cons_succ]); go_simp; try with_reducible rfl)
        try simp only [Act.put, List.getElem_toArray, List.getElem_cons_zero, List.getElem_cons_succ, List.setIfInBounds_toArray, List.set_cons_zero, List.set_cons_succ]
        refine wpAnyH_take (i := 21) (v := ?t49v) rfl (by kernel_rfl) (by kernel_rfl) (by kernel_rfl) (fun _ _ _ h => h) (Or.inl ⟨by rfl, ?t49y⟩) (by assumption) ?t49t
        case t49y => (intro w hSw; (try dsimp only at hSw); (try simp only [List.getElem_toArray, List.getElem_cons_zero, List.getElem_cons_succ]); go_simp; try with_reducible rfl)
        try simp only [Act.put, List.getElem_toArray, List.getElem_cons_zero, List.getElem_cons_succ, List.setIfInBounds_toArray, List.set_cons_zero, List.set_cons_succ]
        refine wpAnyH_take (i := 22) (v := ?t50v) rfl (by kernel_rfl) (by kernel_rfl) (by kernel_rfl) (fun _ _ _ h => h) (Or.inl ⟨by rfl, ?t50y⟩) (by assumption) ?t50t
        case t50y => (intro w hSw; (try dsimp only at hSw); (try simp only [List.getElem_toArray, List.getElem_cons_zero, List.getElem_cons_succ]); go_simp; try with_reducible rfl)
        try simp only [Act.put, List.getElem_toArray, List.getElem_cons_zero, List.getElem_cons_succ, List.setIfInBounds_toArray, List.set_cons_zero, List.set_cons_succ]
        refine wpAnyH_take (i := 23) (v := ?t51v) rfl (by kernel_rfl) (by kernel_rfl) (by kernel_rfl) (fun _ _ _ h => h) (Or.inl ⟨by rfl, ?t51y⟩) (by assumption) ?t51t
        case t51y => (intro w hSw; (try dsimp only at hSw); (try simp only [List.getElem_toArray, List.getElem_cons_zero, List.getElem_cons_succ]); go_simp; try with_reducible rfl)
        try simp only [Act.put, List.getElem_toArray, List.getElem_cons_zero, List.getElem_cons_succ, List.setIfInBounds_toArray, List.set_cons_zero, List.set_cons_succ]
        refine wpAnyH_take (i := 25) (v := ?t52v) rfl (by kernel_rfl) (by kernel_rfl) (by kernel_rfl) (fun _ _ _ h => h) (Or.inl ⟨by rfl, ?t52y⟩) (by assumption) ?t52t
        case t52y => (intro w hSw; (try dsimp only at hSw); (try simp only [List.getElem_toArray, List.getElem_cons_zero, List.getElem_cons_succ]); go_simp; try with_reducible rfl)
        try simp only [Act.put, List.getElem_toArray, List.getElem_cons_zero, List.getElem_cons_succ, List.setIfInBounds_toArray, List.set_cons_zero, List.set_cons_succ]
        refine wpAnyH_take (i := 26) (v := ?t53v) rfl (by kernel_rfl) (by kernel_rfl) (by kernel_rfl) (fun _ _ _ h => h) (Or.inl ⟨by rfl, ?t53y⟩) (by assumption) ?t53t
        case t53y => (intro w hSw; (try dsimp only at hSw); (try simp only [List.getElem_toArray, List.getElem_cons_zero, List.getElem_cons_succ]); go_simp; try with_reducible rfl)
        try simp only [Act.put, List.getElem_toArray, List.getElem_cons_zero, List.getElem_cons_succ, List.setIfInBounds_toArray, List.set_cons_zero, List.set_cons_succ]
        refine wpAnyH_ready (rs := [24]) (by kernel_rfl) (by simp) ?_
        refine AllReadyH.cons rfl (fun K hK => ?_) AllReadyH.nil
        try simp only [List.getElem_toArray, List.getElem_cons_zero, List.getElem_cons_succ]
        go_simp
        refine (hdp _ (T3.tree hcx) (hE.below T3.q.b)).mono ?_
        rintro e W4 ⟨rfl, hb⟩
        have T4 := T3.below hb
        have B4 := B3.trans (hb.mono B3.size)
        clear hb
        try go_simp
        refine hK.out _ _ ?s54 (fun hHeld2 => ?_)
        case s54 => (try dsimp only); (exact T4.S)
        clear hHeld hK K
        have hHeld := hHeld2
        clear hHeld2
        try simp only [Act.put, List.getElem_toArray, List.getElem_cons_zero, List.getElem_cons_succ, List.setIfInBounds_toArray, List.set_cons_zero, List.set_cons_succ]
        refine wpAnyH_take (i := 27) (v := ?t55v) rfl (by kernel_rfl) (by kernel_rfl) (by kernel_rfl) (fun _ _ _ h => h) (Or.inl ⟨by rfl, ?t55y⟩) (by assumption) ?t55t
        case t55y => (intro w hSw; (try dsimp only at hSw); (try simp only [List.getElem_toArray, List.getElem_cons_zero, List.getElem_cons_succ]); go_simp; try with_reducible rfl)
        try simp only [Act.put, List.getElem_toArray, List.getElem_cons_zero, List.getElem_cons_succ, List.setIfInBounds_toArray, List.set_cons_zero, List.set_cons_succ]
        refine wpAnyH_take (i := 28) (v := ?t56v) rfl (by kernel_rfl) (by kernel_rfl) (by kernel_rfl) (fun _ _ _ h => h) (Or.inl ⟨by rfl, ?t56y⟩) (by assumption) ?t56t
        case t56y => (intro w hSw; (try dsimp only at hSw); (try simp only [List.getElem_toArray, List.getElem_cons_zero, List.getElem_cons_succ]); go_simp; try with_reducible rfl)
        try simp only [Act.put, List.getElem_toArray, List.getElem_cons_zero, List.getElem_cons_succ, List.setIfInBounds_toArray, List.set_cons_zero, List.set_cons_succ]
        refine wpAnyH_take (i := 29) (v := ?t57v) rfl (by kernel_rfl) (by kernel_rfl) (by kernel_rfl) (fun _ _ _ h => h) (Or.inl ⟨by rfl, ?t57y⟩) (by assumption) ?t57t
        case t57y => (intro w hSw; (try dsimp only at hSw); (try simp only [List.getElem_toArray, List.getElem_cons_zero, List.getElem_cons_succ]); go_simp; try with_reducible rfl)
        try simp only [Act.put, List.getElem_toArray, List.getElem_cons_zero, List.getElem_cons_succ, List.setIfInBounds_toArray, List.set_cons_zero, List.set_cons_succ]
        refine wpAnyH_take (i := 30) (v := ?t58v) rfl (by kernel_rfl) (by kernel_rfl) (by kernel_rfl) (fun _ _ _ h => h) (Or.inl ⟨by rfl, ?t58y⟩) (by assumption) ?t58t
        case t58y => (intro w hSw; (try dsimp only at hSw); (try simp only [List.getElem_toArray, List.getElem_cons_zero, List.getElem_cons_succ]); go_simp; try with_reducible rfl)
        try simp only [Act.put, List.getElem_toArray, List.getElem_cons_zero, List.getElem_cons_succ, List.setIfInBounds_toArray, List.set_cons_zero, List.set_cons_succ]
        refine wpAnyH_ready (rs := [31]) (by kernel_rfl) (by simp) ?_
        refine AllReadyH.cons rfl (fun K hK => ?_) AllReadyH.nil
        try simp only [List.getElem_toArray, List.getElem_cons_zero, List.getElem_cons_succ]
        go_simp
        refine (hri _ (T4.tree hcx) (hE.below T4.q.b)).mono ?_
        rintro e W5 ⟨rfl, hb⟩
        have T5 := T4.below hb
        have B5 := B4.trans (hb.mono B4.size)
        clear hb
        try go_simp
        refine hK.out _ _ ?s59 (fun hHeld2 => ?_)
        case s59 => (try dsimp only); (exact T5.S)
        clear hHeld hK K
        have hHeld := hHeld2
        clear hHeld2
        try simp only [Act.put, List.getElem_toArray, List.getElem_cons_zero, List.getElem_cons_succ, List.setIfInBounds_toArray, List.set_cons_zero, List.set_cons_succ]
        refine wpAnyH_take (i := 32) (v := ?t60v) rfl (by kernel_rfl) (by kernel_rfl) (by kernel_rfl) (fun _ _ _ h => h) (Or.inl ⟨by rfl, ?t60y⟩) (by assumption) ?t60t
        case t60y => (intro w hSw; (try dsimp only at hSw); (try simp only [List.getElem_toArray, List.getElem_cons_zero, List.getElem_cons_succ]); go_simp; try with_reducible rfl)
        try simp only [Act.put, List.getElem_toArray, List.getElem_cons_zero, List.getElem_cons_succ, List.setIfInBounds_toArray, List.set_cons_zero, List.set_cons_succ]
        refine wpAnyH_take (i := 33) (v := ?t61v) rfl (by kernel_rfl) (by kernel_rfl) (by kernel_rfl) (fun _ _ _ h => h) (Or.inl ⟨by rfl, ?t61y⟩) (by assumption) ?t61t
        case t61y => (intro w hSw; (try dsimp only at hSw); (try simp only [List.getElem_toArray, List.getElem_cons_zero, List.getElem_cons_succ]); go_simp; try with_reducible rfl)
        try simp only [Act.put, List.getElem_toArray, List.getElem_cons_zero, List.getElem_cons_succ, List.setIfInBounds_toArray, List.set_cons_zero, List.set_cons_succ]
        refine wpAnyH_take (i := 34) (v := ?t62v) rfl (by kernel_rfl) (by kernel_rfl) (by kernel_rfl) (fun _ _ _ h => h) (Or.inl ⟨by rfl, ?t62y⟩) (by assumption) ?t62t
        case t62y => (intro w hSw; (try dsimp only at hSw); (try simp only [List.getElem_toArray, List.getElem_cons_zero, List.getElem_cons_succ]); go_simp; try with_reducible rfl)
        try simp only [Act.put, List.getElem_toArray, List.getElem_cons_zero, List.getElem_cons_succ, List.setIfInBounds_toArray, List.set_cons_zero, List.set_cons_succ]
        refine wpAnyH_take (i := 35) (v := ?t63v) rfl (by kernel_rfl) (by kernel_rfl) (by kernel_rfl) (fun _ _ _ h => h) (Or.inl ⟨by rfl, ?t63y⟩) (by assumption) ?t63t
        case t63y => (intro w hSw; (try dsimp only at hSw); (try simp only [List.getElem_toArray, List.getElem_cons_zero, List.getElem_cons_succ]); go_simp; try with_reducible rfl)
        try simp only [Act.put, List.getElem_toArray, List.getElem_cons_zero, List.getElem_cons_succ, List.setIfInBounds_toArray, List.set_cons_zero, List.set_cons_succ]
        refine wpAnyH_take (i := 37) (v := ?t64v) rfl (by kernel_rfl) (by kernel_rfl) (by kernel_rfl) (fun _ _ _ h => h) (Or.inl ⟨by rfl, ?t64y⟩) (by assumption) ?t64t
        case t64y => (intro w hSw; (try dsimp only at hSw); (try simp only [List.getElem_toArray, List.getElem_cons_zero, List.getElem_cons_succ]); go_simp; try with_reducible rfl)
        try simp only [Act.put, List.getElem_toArray, List.getElem_cons_zero, List.getElem_cons_succ, List.setIfInBounds_toArray, List.set_cons_zero, List.set_cons_succ]
        refine wpAnyH_ready (rs := [36]) (by kernel_rfl) (by simp) ?_
        refine AllReadyH.cons rfl (fun K hK => ?_) AllReadyH.nil
        try simp only [List.getElem_toArray, List.getElem_cons_zero, List.getElem_cons_succ]
        go_simp
        refine (hcl _ (T5.tree hcx) (hE.below T5.q.b)).mono ?_
        rintro e W6 ⟨pz, cz, Cz, rfl, mz, hhz, hb⟩
        have T6 := T5.below hb
        have B6 := B5.trans (hb.mono B5.size)
        have nz6 := mz.nodes; rw [hhz] at nz6
        clear hb
        try go_simp
        refine hK.out _ _ ?s65 (fun hHeld2 => ?_)
        case s65 => (try dsimp only); (exact T6.S)
        clear hHeld hK K
        have hHeld := hHeld2
        clear hHeld2
        try simp only [Act.put, List.getElem_toArray, List.getElem_cons_zero, List.getElem_cons_succ, List.setIfInBounds_toArray, List.set_cons_zero, List.set_cons_succ]
        refine wpAnyH_ready (rs := [38]) (by kernel_rfl) (by simp) ?_
        refine AllReadyH.cons rfl (fun K hK => ?_) AllReadyH.nil
        try simp only [List.getElem_toArray, List.getElem_cons_zero, List.getElem_cons_succ]
        go_simp
        refine (exact_any _ _ X X _ ⟨_, rfl, nz6⟩ (T6.tree hcx) hokX).mono ?_
        rintro e W7 ⟨rfl, hb⟩
        have T7 := T6.below hb
        have B7 := B6.trans (hb.mono B6.size)
        rw [exact_self]
        clear hb
        try go_simp
        refine hK.out _ _ ?s66 (fun hHeld2 => ?_)
        case s66 => (try dsimp only); (exact T7.S)
        clear hHeld hK K
        have hHeld := hHeld2
        clear hHeld2
        try simp only [Act.put, List.getElem_toArray, List.getElem_cons_zero, List.getElem_cons_succ, List.setIfInBounds_toArray, List.set_cons_zero, List.set_cons_succ]
        refine wpAnyH_take (i := 39) (v := ?t67v) rfl (by kernel_rfl) (by kernel_rfl) (by kernel_rfl) (fun _ _ _ h => h) (Or.inl ⟨by rfl, ?t67y⟩) (by assumption) ?t67t
        case t67y => (intro w hSw; (try dsimp only at hSw); (try simp only [List.getElem_toArray, List.getElem_cons_zero, List.getElem_cons_succ]); go_simp; try with_reducible rfl)
        try simp only [Act.put, List.getElem_toArray, List.getElem_cons_zero, List.getElem_cons_succ, List.setIfInBounds_toArray, List.set_cons_zero, List.set_cons_succ]
        refine wpAnyH_take (i := 40) (v := ?t68v) rfl (by kernel_rfl) (by kernel_rfl) (by kernel_rfl) (fun _ _ _ h => h) (Or.inl ⟨by rfl, ?t68y⟩) (by assumption) ?t68t
        case t68y => (intro w hSw; (try dsimp only at hSw); (try simp only [List.getElem_toArray, List.getElem_cons_zero, List.getElem_cons_succ]); go_simp; try with_reducible rfl)
        try simp only [Act.put, List.getElem_toArray, List.getElem_cons_zero, List.getElem_cons_succ, List.setIfInBounds_toArray, List.set_cons_zero, List.set_cons_succ]
        refine wpAnyH_done (by kernel_rfl) ?_ _
        go_wp2
        clear hA hB hrt hsz hdp hri hcl hHeld hwD
        have T0 := Lib.hid T7
        have hLt := HTt.out.below B7
        have hl0 := hl.below T7.q.b
        generalize hVV : W7 = V0 at *
        clear hVV
        clear B7 T7
        go_loopw [14] (fun v14 W => ∃ i : Nat, v14 = .int .i64 i ∧ i ≤ l.length ∧ Below V0.heap.size V0 W) (fun v14 _ => l.length - (intOf v14).toNat)
        case atStart => exact ⟨0, rfl, Nat.zero_le _, Below.refl _ _⟩
        case round =>
        obtain ⟨i, rfl, hi, hB⟩ := hrel
        by_cases hlt : i < l.length
        · obtain ⟨b, off, nvu, rfl, X0, X1, hNU⟩ := Trees.at hl0 hlt
          have hlm : (l.map fun t => arOf (tree t)).length = l.length := List.length_map ..
          rw [← hlm] at hLt
          obtain ⟨b2, off2, nvk, rfl, Y0, Y1, hNK⟩ := Trees.at hLt (i := i) (by rw [hlm]; exact hlt)
          rw [hlm] at hLt
          have hge : (l.map fun t => arOf (tree t))[i]'(by rw [hlm]; exact hlt) = arOf (tree l[i]) := by simp
          rw [hge] at Y1 hNK
          have hoku := hokl _ (List.getElem_mem hlt)
          have hRu : rightB l[i] = true := ofB_all HBB.out _ (List.getElem_mem hlt)
          have hsm := same_arOf hRu
          have hokk : OkA (arOf (tree l[i])).nodes := by have := ok_clean hoku; unfold cleanT at this; rwa [if_pos hRu] at this
          obtain ⟨U, hU⟩ : ∃ U, U = l[i] := ⟨_, rfl⟩
          rw [← hU] at X1 hNU hoku hsm hokk Y1 hNK
          obtain ⟨U', hU'⟩ : ∃ U', U' = arOf (tree U) := ⟨_, rfl⟩
          rw [← hU'] at hsm hokk Y1 hNK
          have hsu := fun W h1 h2 h3 => same_any (treeV nvk U'.root) (treeV nvu U.root) U' U W h1 h2 hokk hoku h3
          simp only [hsm] at hsu
          have hi0 : (0 : Int) ≤ (i : Int) := by omega
          have hi1 : (i : Int) < (l.length : Int) := by omega
          have hw2 : IntKind.i64.wrap ((i : Int) + 1) = ((i + 1 : Nat) : Int) := by rw [IntWalk.i64_in _ (by omega)]; omega
          have x0 := (hB.cell (p := ⟨b, off + i * 2, none⟩) (cell_lt X0)).trans X0
          have x1 := (hB.cell (p := ⟨b, off + i * 2 + 1, none⟩) (cell_lt X1)).trans X1
          have y0 := (hB.cell (p := ⟨b2, off2 + i * 2, none⟩) (cell_lt Y0)).trans Y0
          have y1 := (hB.cell (p := ⟨b2, off2 + i * 2 + 1, none⟩) (cell_lt Y1)).trans Y1
          have hEr := hE.below (T0.out.below hB).q.b
          have B1 := hB.drew
          clear hlm hge hsm hRu hU hU' hlt
          go_wp2
          refine wp_region_held_drew (S := (fun w' => w'.cell? ⟨b, off + i * 2, none⟩ = some nvu ∧ w'.cell? ⟨b, off + i * 2 + 1, none⟩ = some (.int .i64 U.root) ∧ w'.cell? ⟨b2, off2 + i * 2, none⟩ = some nvk ∧ w'.cell? ⟨b2, off2 + i * 2 + 1, none⟩ = some (.int .i64 U'.root))) (by kernel_rfl) (⟨x0, x1, y0, y1⟩) (fun hHeld => ?_)
          refine wpAnyH_take (i := 0) (v := ?t69v) rfl (by kernel_rfl) (by kernel_rfl) (by kernel_rfl) (fun _ _ _ h => h) (Or.inl ⟨by rfl, ?t69y⟩) (by assumption) ?t69t
          case t69y => (intro w hSw; (try dsimp only at hSw); (try simp only [List.getElem_toArray, List.getElem_cons_zero]); go_simp; try with_reducible rfl)
          try simp only [Act.put, List.getElem_toArray, List.getElem_cons_zero, List.setIfInBounds_toArray, List.set_cons_zero, List.set_cons_succ]
          refine wpAnyH_take (i := 1) (v := ?t70v) rfl (by kernel_rfl) (by kernel_rfl) (by kernel_rfl) (fun _ _ _ h => h) (Or.inl ⟨by rfl, ?t70y⟩) (by assumption) ?t70t
          case t70y => (intro w hSw; (try dsimp only at hSw); (try simp only [List.getElem_toArray, List.getElem_cons_zero, List.getElem_cons_succ]); go_simp; try with_reducible rfl)
          try simp only [Act.put, List.getElem_toArray, List.getElem_cons_zero, List.getElem_cons_succ, List.setIfInBounds_toArray, List.set_cons_zero, List.set_cons_succ]
          refine wpAnyH_take (i := 2) (v := ?t71v) rfl (by kernel_rfl) (by kernel_rfl) (by kernel_rfl) (fun _ _ _ h => h) (Or.inl ⟨by rfl, ?t71y⟩) (by assumption) ?t71t
          case t71y => (intro w hSw; (try dsimp only at hSw); (try simp only [List.getElem_toArray, List.getElem_cons_zero, List.getElem_cons_succ]); go_simp; try with_reducible rfl)
          try simp only [Act.put, List.getElem_toArray, List.getElem_cons_zero, List.getElem_cons_succ, List.setIfInBounds_toArray, List.set_cons_zero, List.set_cons_succ]
          refine wpAnyH_take (i := 3) (v := ?t72v) rfl (by kernel_rfl) (by kernel_rfl) (by kernel_rfl) (fun _ _ _ h => h) (Or.inl ⟨by rfl, ?t72y⟩) (by assumption) ?t72t
          case t72y => (intro w hSw; (try dsimp only at hSw); (try simp only [List.getElem_toArray, List.getElem_cons_zero, List.getElem_cons_succ]); go_simp; try with_reducible rfl)
          try simp only [Act.put, List.getElem_toArray, List.getElem_cons_zero, List.getElem_cons_succ, List.setIfInBounds_toArray, List.set_cons_zero, List.set_cons_succ]
          refine wpAnyH_take (i := 4) (v := ?t73v) rfl (by kernel_rfl) (by kernel_rfl) (by kernel_rfl) (fun _ _ _ h => h) (Or.inl ⟨by rfl, ?t73y⟩) (by assumption) ?t73t
          case t73y => (intro w hSw; (try dsimp only at hSw); (try simp only [List.getElem_toArray, List.getElem_cons_zero, List.getElem_cons_succ]); go_simp; try with_reducible rfl)
          try simp only [Act.put, List.getElem_toArray, List.getElem_cons_zero, List.getElem_cons_succ, List.setIfInBounds_toArray, List.set_cons_zero, List.set_cons_succ]
          refine wpAnyH_take (i := 5) (v := ?t74v) rfl (by kernel_rfl) (by kernel_rfl) (by kernel_rfl) (fun _ _ _ h => h) (Or.inl ⟨by rfl, ?t74y⟩) (by assumption) ?t74t
          case t74y => (intro w hSw; (try dsimp only at hSw); (try simp only [List.getElem_toArray, List.getElem_cons_zero, List.getElem_cons_succ]); go_simp; try with_reducible rfl)
          try simp only [Act.put, List.getElem_toArray, List.getElem_cons_zero, List.getElem_cons_succ, List.setIfInBounds_toArray, List.set_cons_zero, List.set_cons_succ]
          refine wpAnyH_take (i := 6) (v := ?t75v) rfl (by kernel_rfl) (by kernel_rfl) (by kernel_rfl) (fun _ _ _ h => h) (Or.inl ⟨by rfl, ?t75y⟩) (by assumption) ?t75t
          case t75y => (intro w hSw; (try dsimp only at hSw); (try simp only [List.getElem_toArray, List.getElem_cons_zero, List.getElem_cons_succ]); go_simp; try with_reducible rfl)
          try simp only [Act.put, List.getElem_toArray, List.getElem_cons_zero, List.getElem_cons_succ, List.setIfInBounds_toArray, List.set_cons_zero, List.set_cons_succ]
          refine wpAnyH_take (i := 7) (v := ?t76v) rfl (by kernel_rfl) (by kernel_rfl) (by kernel_rfl) (fun _ _ _ h => h) (Or.inl ⟨by rfl, ?t76y⟩) (by assumption) ?t76t
          case t76y => (intro w hSw; (try dsimp only at hSw); (try simp only [List.getElem_toArray, List.getElem_cons_zero, List.getElem_cons_succ]); go_simp; try with_reducible rfl)
          try simp only [Act.put, List.getElem_toArray, List.getElem_cons_zero, List.getElem_cons_succ, List.setIfInBounds_toArray, List.set_cons_zero, List.set_cons_succ]
          refine wpAnyH_ready (rs := [8]) (by kernel_rfl) (by simp) ?_
          refine AllReadyH.cons rfl (fun K hK => ?_) AllReadyH.nil
          try simp only [List.getElem_toArray, List.getElem_cons_zero, List.getElem_cons_succ]
          go_simp
          refine (hsu _ ⟨_, rfl, hNK.below B1⟩ ⟨_, rfl, hNU.below B1⟩ hEr.drew).mono ?_
          rintro e W2 ⟨rfl, hb⟩
          have B2 := B1.trans (hb.mono B1.size)
          have hx := hb.cell (p := ⟨b, off + i * 2, none⟩) (cell_lt x0)
          have hx2 := hb.cell (p := ⟨b, off + i * 2 + 1, none⟩) (cell_lt x1)
          have hy := hb.cell (p := ⟨b2, off2 + i * 2, none⟩) (cell_lt y0)
          have hy2 := hb.cell (p := ⟨b2, off2 + i * 2 + 1, none⟩) (cell_lt y1)
          clear hb
          try go_simp
          refine hK.out _ _ ?s77 (fun hHeld2 => ?_)
          case s77 => (try dsimp only); (exact ⟨hx.trans x0, hx2.trans x1, hy.trans y0, hy2.trans y1⟩)
          clear hHeld hK K
          have hHeld := hHeld2
          clear hHeld2
          try simp only [Act.put, List.getElem_toArray, List.getElem_cons_zero, List.getElem_cons_succ, List.setIfInBounds_toArray, List.set_cons_zero, List.set_cons_succ]
          refine wpAnyH_take (i := 9) (v := ?t78v) rfl (by kernel_rfl) (by kernel_rfl) (by kernel_rfl) (fun _ _ _ h => h) (Or.inl ⟨by rfl, ?t78y⟩) (by assumption) ?t78t
          case t78y => (intro w hSw; (try dsimp only at hSw); (try simp only [List.getElem_toArray, List.getElem_cons_zero, List.getElem_cons_succ]); go_simp; try with_reducible rfl)
          try simp only [Act.put, List.getElem_toArray, List.getElem_cons_zero, List.getElem_cons_succ, List.setIfInBounds_toArray, List.set_cons_zero, List.set_cons_succ]
          refine wpAnyH_done (by kernel_rfl) ?_ _
          go_wp2
          exact ⟨⟨i + 1, by go_num, by omega, B2⟩, by simp [intOf]; omega⟩
        · obtain rfl : i = l.length := by omega
          have q0 := (T0.out.below hB).q
          clear hlt hi hl0 hLt HTt T0 hB
          go_wp2
          have hE0 := hE.below q0.b
          have hTl := HTL.out
          have hkt := kids_total (T := T)
          have hroo := fun W (h1 : Tree W (treeV (.slice p0 T.nodes.length c0) T.root) T) h2 => root_any (treeV (.slice p0 T.nodes.length c0) T.root) T W h1 hokT h2
          have hki := fun W (h1 : Tree W (treeV (.slice p0 T.nodes.length c0) T.root) T) h2 => kids_any (treeV (.slice p0 T.nodes.length c0) T.root) T W h1 hokT h2
          have hof := fun vk W (h1 : Trees W vk (kidsT T)) h2 => of_at (rootT T) (.slice none 0 0) vk (kidsT T) W h1 (root_ok hokT) (kids_ok hokT) (by omega) (by omega) h2
          obtain ⟨bk, hbk⟩ : ∃ x, ofB (rootT T) (kidsT T) = x := ⟨_, rfl⟩
          simp only [hbk] at hof
          have HBK := Lib.hid hbk
          clear hbk hkt hTl
          refine (fun (tail : ∀ (gY : Nat) (pY : Option Addr) (cY : Nat) (vk : Value) (W : World), Tq w (nodeC nd.hd (.slice none 0 0)) #[.slice p0 T.nodes.length c0, .int .i64 T.root] W → Cl W gY 26 #[.slice pY (ofT (rootT T) (kidsT T)).nodes.length cY, .int .i64 (ofT (rootT T) (kidsT T)).root] → Nodes W (.slice pY (ofT (rootT T) (kidsT T)).nodes.length cY) (ofT (rootT T) (kidsT T)).nodes → (?G2 : Nat → Option Addr → Nat → Value → World → Prop) gY pY cY vk W) => ?main2) ?tail2
          case main2 =>
            refine wp_region_held_drew (S := (fun w' => w'.cell? ⟨w.heap.size + 1, 0, none⟩ = some (.slice p0 T.nodes.length c0) ∧ w'.cell? ⟨w.heap.size + 1, 1, none⟩ = some (.int .i64 T.root))) (by kernel_rfl) (q0.S) (fun hHeld => ?_)
            have q1 := q0.drew
            refine wpAnyH_take (i := 0) (v := ?t79v) rfl (by kernel_rfl) (by kernel_rfl) (by kernel_rfl) (fun _ _ _ h => h) (Or.inl ⟨by rfl, ?t79y⟩) (by assumption) ?t79t
            case t79y => (intro w hSw; (try dsimp only at hSw); (try simp only [List.getElem_toArray, List.getElem_cons_zero]); go_simp; try with_reducible rfl)
            try simp only [Act.put, List.getElem_toArray, List.getElem_cons_zero, List.setIfInBounds_toArray, List.set_cons_zero, List.set_cons_succ]
            refine wpAnyH_take (i := 2) (v := ?t80v) rfl (by kernel_rfl) (by kernel_rfl) (by kernel_rfl) (fun _ _ _ h => h) (Or.inl ⟨by rfl, ?t80y⟩) (by assumption) ?t80t
            case t80y => (intro w hSw; (try dsimp only at hSw); (try simp only [List.getElem_toArray, List.getElem_cons_zero, List.getElem_cons_succ]); go_simp; try with_reducible rfl)
            try simp only [Act.put, List.getElem_toArray, List.getElem_cons_zero, List.getElem_cons_succ, List.setIfInBounds_toArray, List.set_cons_zero, List.set_cons_succ]
            generalize World.drew _ = W1 at *
            refine wpAnyH_ready (rs := [1, 8]) (by kernel_rfl) (by simp) ?_
            refine (AllReadyH.cons rfl (fun K hK => ?b125) (AllReadyH.cons rfl (fun K hK => ?b126) AllReadyH.nil))
            case b125 =>
              try simp only [List.getElem_toArray, List.getElem_cons_zero, List.getElem_cons_succ]
              go_simp
              refine (hroo _ ⟨_, rfl, hn.below q1.b⟩ (hE.below q1.b)).mono ?_
              rintro e W2 ⟨rfl, hb⟩
              have q2 := q1.below hb
              clear hb
              try go_simp
              refine hK.out _ _ ?s81 (fun hHeld2 => ?_)
              case s81 => (try dsimp only); (exact q2.S)
              clear hHeld hK K
              have hHeld := hHeld2
              clear hHeld2
              try simp only [Act.put, List.getElem_toArray, List.getElem_cons_zero, List.getElem_cons_succ, List.setIfInBounds_toArray, List.set_cons_zero, List.set_cons_succ]
              refine wpAnyH_ready (rs := [3, 8]) (by kernel_rfl) (by simp) ?_
              refine (AllReadyH.cons rfl (fun K hK => ?b111) (AllReadyH.cons rfl (fun K hK => ?b112) AllReadyH.nil))
              case b111 =>
                try simp only [List.getElem_toArray, List.getElem_cons_zero, List.getElem_cons_succ]
                go_simp
                refine (hki _ ⟨_, rfl, hn.below q2.b⟩ (hE.below q2.b)).mono ?_
                rintro e W3 ⟨vk, L, rfl, hL, hLm, hb⟩
                have kt3 := hL.trees
                rw [hLm] at kt3
                clear hL hLm
                have q3 := q2.below hb
                clear hb
                try go_simp
                refine hK.out _ _ ?s82 (fun hHeld2 => ?_)
                case s82 => (try dsimp only); (exact q3.S)
                clear hHeld hK K
                have hHeld := hHeld2
                clear hHeld2
                try simp only [Act.put, List.getElem_toArray, List.getElem_cons_zero, List.getElem_cons_succ, List.setIfInBounds_toArray, List.set_cons_zero, List.set_cons_succ]
                refine wpAnyH_ready (rs := [4, 8]) (by kernel_rfl) (by simp) ?_
                refine (AllReadyH.cons rfl (fun K hK => ?b99) (AllReadyH.cons rfl (fun K hK => ?b100) AllReadyH.nil))
                case b99 =>
                  try simp only [List.getElem_toArray, List.getElem_cons_zero, List.getElem_cons_succ]
                  go_simp
                  refine (hof _ _ kt3 (hE.below q3.b)).mono ?_
                  rintro e W4 ⟨pY, cY, CY, rfl, my4, hcy, hb⟩
                  have q4 := q3.below hb
                  clear hb
                  try go_simp
                  refine hK.out _ _ ?s83 (fun hHeld2 => ?_)
                  case s83 => (try dsimp only); (exact q4.S)
                  clear hHeld hK K
                  have hHeld := hHeld2
                  clear hHeld2
                  try simp only [Act.put, List.getElem_toArray, List.getElem_cons_zero, List.getElem_cons_succ, List.setIfInBounds_toArray, List.set_cons_zero, List.set_cons_succ]
                  refine wpAnyH_take (i := 5) (v := ?t84v) rfl (by kernel_rfl) (by kernel_rfl) (by kernel_rfl) (fun _ _ _ h => h) (Or.inl ⟨by rfl, ?t84y⟩) (by assumption) ?t84t
                  case t84y => (intro w hSw; (try dsimp only at hSw); (try simp only [List.getElem_toArray, List.getElem_cons_zero, List.getElem_cons_succ]); go_simp; try with_reducible rfl)
                  try simp only [Act.put, List.getElem_toArray, List.getElem_cons_zero, List.getElem_cons_succ, List.setIfInBounds_toArray, List.set_cons_zero, List.set_cons_succ]
                  refine wpAnyH_take (i := 6) (v := ?t85v) rfl (by kernel_rfl) (by kernel_rfl) (by kernel_rfl) (fun _ _ _ h => h) (Or.inl ⟨by rfl, ?t85y⟩) (by assumption) ?t85t
                  case t85y => (intro w hSw; (try dsimp only at hSw); (try simp only [List.getElem_toArray, List.getElem_cons_zero, List.getElem_cons_succ]); go_simp; try with_reducible rfl)
                  try simp only [Act.put, List.getElem_toArray, List.getElem_cons_zero, List.getElem_cons_succ, List.setIfInBounds_toArray, List.set_cons_zero, List.set_cons_succ]
                  refine wpAnyH_take (i := 7) (v := ?t86v) rfl (by kernel_rfl) (by kernel_rfl) (by kernel_rfl) (fun _ _ _ h => h) (Or.inl ⟨by rfl, ?t86y⟩) (by assumption) ?t86t
                  case t86y => (intro w hSw; (try dsimp only at hSw); (try simp only [List.getElem_toArray, List.getElem_cons_zero, List.getElem_cons_succ]); go_simp; try with_reducible rfl)
                  try simp only [Act.put, List.getElem_toArray, List.getElem_cons_zero, List.getElem_cons_succ, List.setIfInBounds_toArray, List.set_cons_zero, List.set_cons_succ]
                  refine wpAnyH_ready (rs := [8]) (by kernel_rfl) (by simp) ?_
                  refine (AllReadyH.cons rfl (fun K hK => ?b90) AllReadyH.nil)
                  case b90 =>
                    try simp only [List.getElem_toArray, List.getElem_cons_zero, List.getElem_cons_succ]
                    go_simp
                    have q5 := q4.alloc (.cells #[.slice none 0 0, .int .i64 0] 26)
                    have st := (Below.refl W4.heap.size W4).alloc (Nat.le_refl _) (.cells #[.slice none 0 0, .int .i64 0] 26)
                    have ky5 := Cl.new W4 26 #[.slice none 0 0, .int .i64 0]
                    have hg := q4.big
                    have my5 := my4.below st
                    clear st
                    generalize W4.alloc _ = W5 at *
                    generalize W4.heap.size = gY at *
                    try go_simp
                    refine hK.out _ _ ?s87 (fun hHeld2 => ?_)
                    case s87 => (try dsimp only); (exact q5.S)
                    clear hHeld hK K
                    have hHeld := hHeld2
                    clear hHeld2
                    try simp only [Act.put, List.getElem_toArray, List.getElem_cons_zero, List.getElem_cons_succ, List.setIfInBounds_toArray, List.set_cons_zero, List.set_cons_succ]
                    refine wpAnyH_ready (rs := [9]) (by kernel_rfl) (by simp) ?_
                    refine AllReadyH.cons rfl (fun K hK => ?_) AllReadyH.nil
                    obtain ⟨⟨i0, i1⟩, jf⟩ := ky5.two
                    try simp only [List.getElem_toArray, List.getElem_cons_zero, List.getElem_cons_succ]
                    go_simp
                    have q6 := q5.put hg (.slice pY (ofT (rootT T) (kidsT T)).nodes.length cY) (.int .i64 (ofT (rootT T) (kidsT T)).root)
                    have ky6 : Cl ((W5.setCell ⟨gY, 0, none⟩ (.slice pY (ofT (rootT T) (kidsT T)).nodes.length cY)).setCell ⟨gY, 1, none⟩ (.int .i64 (ofT (rootT T) (kidsT T)).root)) gY 26 #[.slice pY (ofT (rootT T) (kidsT T)).nodes.length cY, .int .i64 (ofT (rootT T) (kidsT T)).root] := ky5.put2 (.slice pY (ofT (rootT T) (kidsT T)).nodes.length cY) (.int .i64 (ofT (rootT T) (kidsT T)).root)
                    have my6 : Made _ ((W5.setCell ⟨gY, 0, none⟩ (.slice pY (ofT (rootT T) (kidsT T)).nodes.length cY)).setCell ⟨gY, 1, none⟩ (.int .i64 (ofT (rootT T) (kidsT T)).root)) _ _ := my5.ty ky5 (by decide) (by decide) (gb_put2 W5 gY (.slice pY (ofT (rootT T) (kidsT T)).nodes.length cY) (.int .i64 (ofT (rootT T) (kidsT T)).root))
                    have ny := my6.nodes
                    rw [hcy] at ny
                    clear i0 i1 jf
                    generalize ((W5.setCell ⟨gY, 0, none⟩ (.slice pY (ofT (rootT T) (kidsT T)).nodes.length cY)).setCell ⟨gY, 1, none⟩ (.int .i64 (ofT (rootT T) (kidsT T)).root)) = W6 at *
                    try go_simp
                    refine hK.out _ _ ?s88 (fun hHeld2 => ?_)
                    case s88 => (try dsimp only); (exact q6.S)
                    clear hHeld hK K
                    have hHeld := hHeld2
                    clear hHeld2
                    try simp only [Act.put, List.getElem_toArray, List.getElem_cons_zero, List.getElem_cons_succ, List.setIfInBounds_toArray, List.set_cons_zero, List.set_cons_succ]
                    refine wpAnyH_take (i := 10) (v := ?t89v) rfl (by kernel_rfl) (by kernel_rfl) (by kernel_rfl) (fun _ _ _ h => h) (Or.inl ⟨by rfl, ?t89y⟩) (by assumption) ?t89t
                    case t89y => (intro w hSw; (try dsimp only at hSw); (try simp only [List.getElem_toArray, List.getElem_cons_zero, List.getElem_cons_succ]); go_simp; try with_reducible rfl)
                    try simp only [Act.put, List.getElem_toArray, List.getElem_cons_zero, List.getElem_cons_succ, List.setIfInBounds_toArray, List.set_cons_zero, List.set_cons_succ]
                    refine wpAnyH_done (by kernel_rfl) ?_ _
                    exact tail gY pY cY vk W6 q6 ky6 ny
                case b100 =>
                  try simp only [List.getElem_toArray, List.getElem_cons_zero, List.getElem_cons_succ]
                  go_simp
                  have q4 := q3.alloc (.cells #[.slice none 0 0, .int .i64 0] 26)
                  have st := (Below.refl W3.heap.size W3).alloc (Nat.le_refl _) (.cells #[.slice none 0 0, .int .i64 0] 26)
                  have ky4 := Cl.new W3 26 #[.slice none 0 0, .int .i64 0]
                  have hg := q3.big
                  have kt4 := kt3.below st
                  clear st
                  generalize W3.alloc _ = W4 at *
                  generalize W3.heap.size = gY at *
                  try go_simp
                  refine hK.out _ _ ?s91 (fun hHeld2 => ?_)
                  case s91 => (try dsimp only); (exact q4.S)
                  clear hHeld hK K
                  have hHeld := hHeld2
                  clear hHeld2
                  try simp only [Act.put, List.getElem_toArray, List.getElem_cons_zero, List.getElem_cons_succ, List.setIfInBounds_toArray, List.set_cons_zero, List.set_cons_succ]
                  refine wpAnyH_ready (rs := [4]) (by kernel_rfl) (by simp) ?_
                  refine (AllReadyH.cons rfl (fun K hK => ?b98) AllReadyH.nil)
                  case b98 =>
                    try simp only [List.getElem_toArray, List.getElem_cons_zero, List.getElem_cons_succ]
                    go_simp
                    refine (hof _ _ kt4 (hE.below q4.b)).mono ?_
                    rintro e W5 ⟨pY, cY, CY, rfl, my5, hcy, hb⟩
                    have q5 := q4.below hb
                    have ky5 := ky4.below hb ky4.lt
                    clear hb
                    try go_simp
                    refine hK.out _ _ ?s92 (fun hHeld2 => ?_)
                    case s92 => (try dsimp only); (exact q5.S)
                    clear hHeld hK K
                    have hHeld := hHeld2
                    clear hHeld2
                    try simp only [Act.put, List.getElem_toArray, List.getElem_cons_zero, List.getElem_cons_succ, List.setIfInBounds_toArray, List.set_cons_zero, List.set_cons_succ]
                    refine wpAnyH_take (i := 5) (v := ?t93v) rfl (by kernel_rfl) (by kernel_rfl) (by kernel_rfl) (fun _ _ _ h => h) (Or.inl ⟨by rfl, ?t93y⟩) (by assumption) ?t93t
                    case t93y => (intro w hSw; (try dsimp only at hSw); (try simp only [List.getElem_toArray, List.getElem_cons_zero, List.getElem_cons_succ]); go_simp; try with_reducible rfl)
                    try simp only [Act.put, List.getElem_toArray, List.getElem_cons_zero, List.getElem_cons_succ, List.setIfInBounds_toArray, List.set_cons_zero, List.set_cons_succ]
                    refine wpAnyH_take (i := 6) (v := ?t94v) rfl (by kernel_rfl) (by kernel_rfl) (by kernel_rfl) (fun _ _ _ h => h) (Or.inl ⟨by rfl, ?t94y⟩) (by assumption) ?t94t
                    case t94y => (intro w hSw; (try dsimp only at hSw); (try simp only [List.getElem_toArray, List.getElem_cons_zero, List.getElem_cons_succ]); go_simp; try with_reducible rfl)
                    try simp only [Act.put, List.getElem_toArray, List.getElem_cons_zero, List.getElem_cons_succ, List.setIfInBounds_toArray, List.set_cons_zero, List.set_cons_succ]
                    refine wpAnyH_take (i := 7) (v := ?t95v) rfl (by kernel_rfl) (by kernel_rfl) (by kernel_rfl) (fun _ _ _ h => h) (Or.inl ⟨by rfl, ?t95y⟩) (by assumption) ?t95t
                    case t95y => (intro w hSw; (try dsimp only at hSw); (try simp only [List.getElem_toArray, List.getElem_cons_zero, List.getElem_cons_succ]); go_simp; try with_reducible rfl)
                    try simp only [Act.put, List.getElem_toArray, List.getElem_cons_zero, List.getElem_cons_succ, List.setIfInBounds_toArray, List.set_cons_zero, List.set_cons_succ]
                    refine wpAnyH_ready (rs := [9]) (by kernel_rfl) (by simp) ?_
                    refine AllReadyH.cons rfl (fun K hK => ?_) AllReadyH.nil
                    obtain ⟨⟨i0, i1⟩, jf⟩ := ky5.two
                    try simp only [List.getElem_toArray, List.getElem_cons_zero, List.getElem_cons_succ]
                    go_simp
                    have q6 := q5.put hg (.slice pY (ofT (rootT T) (kidsT T)).nodes.length cY) (.int .i64 (ofT (rootT T) (kidsT T)).root)
                    have ky6 : Cl ((W5.setCell ⟨gY, 0, none⟩ (.slice pY (ofT (rootT T) (kidsT T)).nodes.length cY)).setCell ⟨gY, 1, none⟩ (.int .i64 (ofT (rootT T) (kidsT T)).root)) gY 26 #[.slice pY (ofT (rootT T) (kidsT T)).nodes.length cY, .int .i64 (ofT (rootT T) (kidsT T)).root] := ky5.put2 (.slice pY (ofT (rootT T) (kidsT T)).nodes.length cY) (.int .i64 (ofT (rootT T) (kidsT T)).root)
                    have my6 : Made _ ((W5.setCell ⟨gY, 0, none⟩ (.slice pY (ofT (rootT T) (kidsT T)).nodes.length cY)).setCell ⟨gY, 1, none⟩ (.int .i64 (ofT (rootT T) (kidsT T)).root)) _ _ := my5.ty ky5 (by decide) (by decide) (gb_put2 W5 gY (.slice pY (ofT (rootT T) (kidsT T)).nodes.length cY) (.int .i64 (ofT (rootT T) (kidsT T)).root))
                    have ny := my6.nodes
                    rw [hcy] at ny
                    clear i0 i1 jf
                    generalize ((W5.setCell ⟨gY, 0, none⟩ (.slice pY (ofT (rootT T) (kidsT T)).nodes.length cY)).setCell ⟨gY, 1, none⟩ (.int .i64 (ofT (rootT T) (kidsT T)).root)) = W6 at *
                    try go_simp
                    refine hK.out _ _ ?s96 (fun hHeld2 => ?_)
                    case s96 => (try dsimp only); (exact q6.S)
                    clear hHeld hK K
                    have hHeld := hHeld2
                    clear hHeld2
                    try simp only [Act.put, List.getElem_toArray, List.getElem_cons_zero, List.getElem_cons_succ, List.setIfInBounds_toArray, List.set_cons_zero, List.set_cons_succ]
                    refine wpAnyH_take (i := 10) (v := ?t97v) rfl (by kernel_rfl) (by kernel_rfl) (by kernel_rfl) (fun _ _ _ h => h) (Or.inl ⟨by rfl, ?t97y⟩) (by assumption) ?t97t
                    case t97y => (intro w hSw; (try dsimp only at hSw); (try simp only [List.getElem_toArray, List.getElem_cons_zero, List.getElem_cons_succ]); go_simp; try with_reducible rfl)
                    try simp only [Act.put, List.getElem_toArray, List.getElem_cons_zero, List.getElem_cons_succ, List.setIfInBounds_toArray, List.set_cons_zero, List.set_cons_succ]
                    refine wpAnyH_done (by kernel_rfl) ?_ _
                    exact tail gY pY cY vk W6 q6 ky6 ny
              case b112 =>
                try simp only [List.getElem_toArray, List.getElem_cons_zero, List.getElem_cons_succ]
                go_simp
                have q3 := q2.alloc (.cells #[.slice none 0 0, .int .i64 0] 26)
                have st := (Below.refl W2.heap.size W2).alloc (Nat.le_refl _) (.cells #[.slice none 0 0, .int .i64 0] 26)
                have ky3 := Cl.new W2 26 #[.slice none 0 0, .int .i64 0]
                have hg := q2.big
                clear st
                generalize W2.alloc _ = W3 at *
                generalize W2.heap.size = gY at *
                try go_simp
                refine hK.out _ _ ?s101 (fun hHeld2 => ?_)
                case s101 => (try dsimp only); (exact q3.S)
                clear hHeld hK K
                have hHeld := hHeld2
                clear hHeld2
                try simp only [Act.put, List.getElem_toArray, List.getElem_cons_zero, List.getElem_cons_succ, List.setIfInBounds_toArray, List.set_cons_zero, List.set_cons_succ]
                refine wpAnyH_ready (rs := [3]) (by kernel_rfl) (by simp) ?_
                refine (AllReadyH.cons rfl (fun K hK => ?b110) AllReadyH.nil)
                case b110 =>
                  try simp only [List.getElem_toArray, List.getElem_cons_zero, List.getElem_cons_succ]
                  go_simp
                  refine (hki _ ⟨_, rfl, hn.below q3.b⟩ (hE.below q3.b)).mono ?_
                  rintro e W4 ⟨vk, L, rfl, hL, hLm, hb⟩
                  have kt4 := hL.trees
                  rw [hLm] at kt4
                  clear hL hLm
                  have q4 := q3.below hb
                  have ky4 := ky3.below hb ky3.lt
                  clear hb
                  try go_simp
                  refine hK.out _ _ ?s102 (fun hHeld2 => ?_)
                  case s102 => (try dsimp only); (exact q4.S)
                  clear hHeld hK K
                  have hHeld := hHeld2
                  clear hHeld2
                  try simp only [Act.put, List.getElem_toArray, List.getElem_cons_zero, List.getElem_cons_succ, List.setIfInBounds_toArray, List.set_cons_zero, List.set_cons_succ]
                  refine wpAnyH_ready (rs := [4]) (by kernel_rfl) (by simp) ?_
                  refine (AllReadyH.cons rfl (fun K hK => ?b109) AllReadyH.nil)
                  case b109 =>
                    try simp only [List.getElem_toArray, List.getElem_cons_zero, List.getElem_cons_succ]
                    go_simp
                    refine (hof _ _ kt4 (hE.below q4.b)).mono ?_
                    rintro e W5 ⟨pY, cY, CY, rfl, my5, hcy, hb⟩
                    have q5 := q4.below hb
                    have ky5 := ky4.below hb ky4.lt
                    clear hb
                    try go_simp
                    refine hK.out _ _ ?s103 (fun hHeld2 => ?_)
                    case s103 => (try dsimp only); (exact q5.S)
                    clear hHeld hK K
                    have hHeld := hHeld2
                    clear hHeld2
                    try simp only [Act.put, List.getElem_toArray, List.getElem_cons_zero, List.getElem_cons_succ, List.setIfInBounds_toArray, List.set_cons_zero, List.set_cons_succ]
                    refine wpAnyH_take (i := 5) (v := ?t104v) rfl (by kernel_rfl) (by kernel_rfl) (by kernel_rfl) (fun _ _ _ h => h) (Or.inl ⟨by rfl, ?t104y⟩) (by assumption) ?t104t
                    case t104y => (intro w hSw; (try dsimp only at hSw); (try simp only [List.getElem_toArray, List.getElem_cons_zero, List.getElem_cons_succ]); go_simp; try with_reducible rfl)
                    try simp only [Act.put, List.getElem_toArray, List.getElem_cons_zero, List.getElem_cons_succ, List.setIfInBounds_toArray, List.set_cons_zero, List.set_cons_succ]
                    refine wpAnyH_take (i := 6) (v := ?t105v) rfl (by kernel_rfl) (by kernel_rfl) (by kernel_rfl) (fun _ _ _ h => h) (Or.inl ⟨by rfl, ?t105y⟩) (by assumption) ?t105t
                    case t105y => (intro w hSw; (try dsimp only at hSw); (try simp only [List.getElem_toArray, List.getElem_cons_zero, List.getElem_cons_succ]); go_simp; try with_reducible rfl)
                    try simp only [Act.put, List.getElem_toArray, List.getElem_cons_zero, List.getElem_cons_succ, List.setIfInBounds_toArray, List.set_cons_zero, List.set_cons_succ]
                    refine wpAnyH_take (i := 7) (v := ?t106v) rfl (by kernel_rfl) (by kernel_rfl) (by kernel_rfl) (fun _ _ _ h => h) (Or.inl ⟨by rfl, ?t106y⟩) (by assumption) ?t106t
                    case t106y => (intro w hSw; (try dsimp only at hSw); (try simp only [List.getElem_toArray, List.getElem_cons_zero, List.getElem_cons_succ]); go_simp; try with_reducible rfl)
                    try simp only [Act.put, List.getElem_toArray, List.getElem_cons_zero, List.getElem_cons_succ, List.setIfInBounds_toArray, List.set_cons_zero, List.set_cons_succ]
                    refine wpAnyH_ready (rs := [9]) (by kernel_rfl) (by simp) ?_
                    refine AllReadyH.cons rfl (fun K hK => ?_) AllReadyH.nil
                    obtain ⟨⟨i0, i1⟩, jf⟩ := ky5.two
                    try simp only [List.getElem_toArray, List.getElem_cons_zero, List.getElem_cons_succ]
                    go_simp
                    have q6 := q5.put hg (.slice pY (ofT (rootT T) (kidsT T)).nodes.length cY) (.int .i64 (ofT (rootT T) (kidsT T)).root)
                    have ky6 : Cl ((W5.setCell ⟨gY, 0, none⟩ (.slice pY (ofT (rootT T) (kidsT T)).nodes.length cY)).setCell ⟨gY, 1, none⟩ (.int .i64 (ofT (rootT T) (kidsT T)).root)) gY 26 #[.slice pY (ofT (rootT T) (kidsT T)).nodes.length cY, .int .i64 (ofT (rootT T) (kidsT T)).root] := ky5.put2 (.slice pY (ofT (rootT T) (kidsT T)).nodes.length cY) (.int .i64 (ofT (rootT T) (kidsT T)).root)
                    have my6 : Made _ ((W5.setCell ⟨gY, 0, none⟩ (.slice pY (ofT (rootT T) (kidsT T)).nodes.length cY)).setCell ⟨gY, 1, none⟩ (.int .i64 (ofT (rootT T) (kidsT T)).root)) _ _ := my5.ty ky5 (by decide) (by decide) (gb_put2 W5 gY (.slice pY (ofT (rootT T) (kidsT T)).nodes.length cY) (.int .i64 (ofT (rootT T) (kidsT T)).root))
                    have ny := my6.nodes
                    rw [hcy] at ny
                    clear i0 i1 jf
                    generalize ((W5.setCell ⟨gY, 0, none⟩ (.slice pY (ofT (rootT T) (kidsT T)).nodes.length cY)).setCell ⟨gY, 1, none⟩ (.int .i64 (ofT (rootT T) (kidsT T)).root)) = W6 at *
                    try go_simp
                    refine hK.out _ _ ?s107 (fun hHeld2 => ?_)
                    case s107 => (try dsimp only); (exact q6.S)
                    clear hHeld hK K
                    have hHeld := hHeld2
                    clear hHeld2
                    try simp only [Act.put, List.getElem_toArray, List.getElem_cons_zero, List.getElem_cons_succ, List.setIfInBounds_toArray, List.set_cons_zero, List.set_cons_succ]
                    refine wpAnyH_take (i := 10) (v := ?t108v) rfl (by kernel_rfl) (by kernel_rfl) (by kernel_rfl) (fun _ _ _ h => h) (Or.inl ⟨by rfl, ?t108y⟩) (by assumption) ?t108t
                    case t108y => (intro w hSw; (try dsimp only at hSw); (try simp only [List.getElem_toArray, List.getElem_cons_zero, List.getElem_cons_succ]); go_simp; try with_reducible rfl)
                    try simp only [Act.put, List.getElem_toArray, List.getElem_cons_zero, List.getElem_cons_succ, List.setIfInBounds_toArray, List.set_cons_zero, List.set_cons_succ]
                    refine wpAnyH_done (by kernel_rfl) ?_ _
                    exact tail gY pY cY vk W6 q6 ky6 ny
            case b126 =>
              try simp only [List.getElem_toArray, List.getElem_cons_zero, List.getElem_cons_succ]
              go_simp
              have q2 := q1.alloc (.cells #[.slice none 0 0, .int .i64 0] 26)
              have st := (Below.refl W1.heap.size W1).alloc (Nat.le_refl _) (.cells #[.slice none 0 0, .int .i64 0] 26)
              have ky2 := Cl.new W1 26 #[.slice none 0 0, .int .i64 0]
              have hg := q1.big
              clear st
              generalize W1.alloc _ = W2 at *
              generalize W1.heap.size = gY at *
              try go_simp
              refine hK.out _ _ ?s113 (fun hHeld2 => ?_)
              case s113 => (try dsimp only); (exact q2.S)
              clear hHeld hK K
              have hHeld := hHeld2
              clear hHeld2
              try simp only [Act.put, List.getElem_toArray, List.getElem_cons_zero, List.getElem_cons_succ, List.setIfInBounds_toArray, List.set_cons_zero, List.set_cons_succ]
              refine wpAnyH_ready (rs := [1]) (by kernel_rfl) (by simp) ?_
              refine (AllReadyH.cons rfl (fun K hK => ?b124) AllReadyH.nil)
              case b124 =>
                try simp only [List.getElem_toArray, List.getElem_cons_zero, List.getElem_cons_succ]
                go_simp
                refine (hroo _ ⟨_, rfl, hn.below q2.b⟩ (hE.below q2.b)).mono ?_
                rintro e W3 ⟨rfl, hb⟩
                have q3 := q2.below hb
                have ky3 := ky2.below hb ky2.lt
                clear hb
                try go_simp
                refine hK.out _ _ ?s114 (fun hHeld2 => ?_)
                case s114 => (try dsimp only); (exact q3.S)
                clear hHeld hK K
                have hHeld := hHeld2
                clear hHeld2
                try simp only [Act.put, List.getElem_toArray, List.getElem_cons_zero, List.getElem_cons_succ, List.setIfInBounds_toArray, List.set_cons_zero, List.set_cons_succ]
                refine wpAnyH_ready (rs := [3]) (by kernel_rfl) (by simp) ?_
                refine (AllReadyH.cons rfl (fun K hK => ?b123) AllReadyH.nil)
                case b123 =>
                  try simp only [List.getElem_toArray, List.getElem_cons_zero, List.getElem_cons_succ]
                  go_simp
                  refine (hki _ ⟨_, rfl, hn.below q3.b⟩ (hE.below q3.b)).mono ?_
                  rintro e W4 ⟨vk, L, rfl, hL, hLm, hb⟩
                  have kt4 := hL.trees
                  rw [hLm] at kt4
                  clear hL hLm
                  have q4 := q3.below hb
                  have ky4 := ky3.below hb ky3.lt
                  clear hb
                  try go_simp
                  refine hK.out _ _ ?s115 (fun hHeld2 => ?_)
                  case s115 => (try dsimp only); (exact q4.S)
                  clear hHeld hK K
                  have hHeld := hHeld2
                  clear hHeld2
                  try simp only [Act.put, List.getElem_toArray, List.getElem_cons_zero, List.getElem_cons_succ, List.setIfInBounds_toArray, List.set_cons_zero, List.set_cons_succ]
                  refine wpAnyH_ready (rs := [4]) (by kernel_rfl) (by simp) ?_
                  refine (AllReadyH.cons rfl (fun K hK => ?b122) AllReadyH.nil)
                  case b122 =>
                    try simp only [List.getElem_toArray, List.getElem_cons_zero, List.getElem_cons_succ]
                    go_simp
                    refine (hof _ _ kt4 (hE.below q4.b)).mono ?_
                    rintro e W5 ⟨pY, cY, CY, rfl, my5, hcy, hb⟩
                    have q5 := q4.below hb
                    have ky5 := ky4.below hb ky4.lt
                    clear hb
                    try go_simp
                    refine hK.out _ _ ?s116 (fun hHeld2 => ?_)
                    case s116 => (try dsimp only); (exact q5.S)
                    clear hHeld hK K
                    have hHeld := hHeld2
                    clear hHeld2
                    try simp only [Act.put, List.getElem_toArray, List.getElem_cons_zero, List.getElem_cons_succ, List.setIfInBounds_toArray, List.set_cons_zero, List.set_cons_succ]
                    refine wpAnyH_take (i := 5) (v := ?t117v) rfl (by kernel_rfl) (by kernel_rfl) (by kernel_rfl) (fun _ _ _ h => h) (Or.inl ⟨by rfl, ?t117y⟩) (by assumption) ?t117t
                    case t117y => (intro w hSw; (try dsimp only at hSw); (try simp only [List.getElem_toArray, List.getElem_cons_zero, List.getElem_cons_succ]); go_simp; try with_reducible rfl)
                    try simp only [Act.put, List.getElem_toArray, List.getElem_cons_zero, List.getElem_cons_succ, List.setIfInBounds_toArray, List.set_cons_zero, List.set_cons_succ]
                    refine wpAnyH_take (i := 6) (v := ?t118v) rfl (by kernel_rfl) (by kernel_rfl) (by kernel_rfl) (fun _ _ _ h => h) (Or.inl ⟨by rfl, ?t118y⟩) (by assumption) ?t118t
                    case t118y => (intro w hSw; (try dsimp only at hSw); (try simp only [List.getElem_toArray, List.getElem_cons_zero, List.getElem_cons_succ]); go_simp; try with_reducible rfl)
                    try simp only [Act.put, List.getElem_toArray, List.getElem_cons_zero, List.getElem_cons_succ, List.setIfInBounds_toArray, List.set_cons_zero, List.set_cons_succ]
                    refine wpAnyH_take (i := 7) (v := ?t119v) rfl (by kernel_rfl) (by kernel_rfl) (by kernel_rfl) (fun _ _ _ h => h) (Or.inl ⟨by rfl, ?t119y⟩) (by assumption) ?t119t
                    case t119y => (intro w hSw; (try dsimp only at hSw); (try simp only [List.getElem_toArray, List.getElem_cons_zero, List.getElem_cons_succ]); go_simp; try with_reducible rfl)
                    try simp only [Act.put, List.getElem_toArray, List.getElem_cons_zero, List.getElem_cons_succ, List.setIfInBounds_toArray, List.set_cons_zero, List.set_cons_succ]
                    refine wpAnyH_ready (rs := [9]) (by kernel_rfl) (by simp) ?_
                    refine AllReadyH.cons rfl (fun K hK => ?_) AllReadyH.nil
                    obtain ⟨⟨i0, i1⟩, jf⟩ := ky5.two
                    try simp only [List.getElem_toArray, List.getElem_cons_zero, List.getElem_cons_succ]
                    go_simp
                    have q6 := q5.put hg (.slice pY (ofT (rootT T) (kidsT T)).nodes.length cY) (.int .i64 (ofT (rootT T) (kidsT T)).root)
                    have ky6 : Cl ((W5.setCell ⟨gY, 0, none⟩ (.slice pY (ofT (rootT T) (kidsT T)).nodes.length cY)).setCell ⟨gY, 1, none⟩ (.int .i64 (ofT (rootT T) (kidsT T)).root)) gY 26 #[.slice pY (ofT (rootT T) (kidsT T)).nodes.length cY, .int .i64 (ofT (rootT T) (kidsT T)).root] := ky5.put2 (.slice pY (ofT (rootT T) (kidsT T)).nodes.length cY) (.int .i64 (ofT (rootT T) (kidsT T)).root)
                    have my6 : Made _ ((W5.setCell ⟨gY, 0, none⟩ (.slice pY (ofT (rootT T) (kidsT T)).nodes.length cY)).setCell ⟨gY, 1, none⟩ (.int .i64 (ofT (rootT T) (kidsT T)).root)) _ _ := my5.ty ky5 (by decide) (by decide) (gb_put2 W5 gY (.slice pY (ofT (rootT T) (kidsT T)).nodes.length cY) (.int .i64 (ofT (rootT T) (kidsT T)).root))
                    have ny := my6.nodes
                    rw [hcy] at ny
                    clear i0 i1 jf
                    generalize ((W5.setCell ⟨gY, 0, none⟩ (.slice pY (ofT (rootT T) (kidsT T)).nodes.length cY)).setCell ⟨gY, 1, none⟩ (.int .i64 (ofT (rootT T) (kidsT T)).root)) = W6 at *
                    try go_simp
                    refine hK.out _ _ ?s120 (fun hHeld2 => ?_)
                    case s120 => (try dsimp only); (exact q6.S)
                    clear hHeld hK K
                    have hHeld := hHeld2
                    clear hHeld2
                    try simp only [Act.put, List.getElem_toArray, List.getElem_cons_zero, List.getElem_cons_succ, List.setIfInBounds_toArray, List.set_cons_zero, List.set_cons_succ]
                    refine wpAnyH_take (i := 10) (v := ?t121v) rfl (by kernel_rfl) (by kernel_rfl) (by kernel_rfl) (fun _ _ _ h => h) (Or.inl ⟨by rfl, ?t121y⟩) (by assumption) ?t121t
                    case t121y => (intro w hSw; (try dsimp only at hSw); (try simp only [List.getElem_toArray, List.getElem_cons_zero, List.getElem_cons_succ]); go_simp; try with_reducible rfl)
                    try simp only [Act.put, List.getElem_toArray, List.getElem_cons_zero, List.getElem_cons_succ, List.setIfInBounds_toArray, List.set_cons_zero, List.set_cons_succ]
                    refine wpAnyH_done (by kernel_rfl) ?_ _
                    exact tail gY pY cY vk W6 q6 ky6 ny
          case tail2 =>
            intro gY pY cY vk W9 q9 ky ny
            try dsimp only
            clear q0 hroo hki hof
            have hri := fun W (h1 : Tree W (treeV (.slice p0 T.nodes.length c0) T.root) T) h2 => right_at' (treeV (.slice p0 T.nodes.length c0) T.root) T W h1 hokT h2
            obtain ⟨⟨z0, z1⟩, zf⟩ := q9.kt.two
            cases hR : rightB T with
            | false =>
              simp only [hR] at hri
              go_wp2_with (go_at_call 18; refine (hri _ ⟨_, rfl, hn.below q9.b⟩ (hE.below q9.b)).mono ?_; rintro e w9 ⟨rfl, hb⟩; have b9 := (q9.below hb).b)
              go_ret
              exact ⟨rfl, b9⟩
            | true =>
              simp only [hR] at hri
              obtain rfl : bk = true := by rw [← HBK.out]; exact (back_of hR).1
              have hsT := back_same hR
              have hokY := of_ok (root_ok hokT) (kids_ok hokT) (by have := kids_total (T := T); have := HTL.out; omega) (by have := kids_total (T := T); have := HTL.out; omega)
              generalize ofT (rootT T) (kidsT T) = Y at *
              have hsy := fun W h1 h2 h3 => same_any (treeV (.slice pY Y.nodes.length cY) Y.root) (treeV (.slice p0 T.nodes.length c0) T.root) Y T W h1 h2 hokY hokT h3
              simp only [hsT] at hsy
              clear HBK hsT hR
              go_wp2_with (first
                | (go_at_call 18; refine (hri _ ⟨_, rfl, hn.below q9.b⟩ (hE.below q9.b)).mono ?_; rintro e w9 ⟨rfl, hb⟩; have q10 := q9.below hb; have ky10 := ky.below hb ky.lt; have ny10 := ny.below hb; clear hb z0 z1 zf; obtain ⟨⟨z0, z1⟩, zf⟩ := q10.kt.two; obtain ⟨⟨u0, u1⟩, uf⟩ := ky10.two)
                | (go_at_call 26; refine (hsy _ ⟨_, rfl, ny10⟩ ⟨_, rfl, hn.below q10.b⟩ (hE.below q10.b)).mono ?_; rintro e w10 ⟨rfl, hb⟩; have b10 := (q10.below hb).b))
              go_ret
              exact ⟨rfl, b10⟩
    | false =>
      have q0 := t9.q
      go_wp2_with fail
      have hE0 := hE.below q0.b
      have hTl := HTL.out
      have hkt := kids_total (T := T)
      have hroo := fun W (h1 : Tree W (treeV (.slice p0 T.nodes.length c0) T.root) T) h2 => root_any (treeV (.slice p0 T.nodes.length c0) T.root) T W h1 hokT h2
      have hki := fun W (h1 : Tree W (treeV (.slice p0 T.nodes.length c0) T.root) T) h2 => kids_any (treeV (.slice p0 T.nodes.length c0) T.root) T W h1 hokT h2
      have hof := fun vk W (h1 : Trees W vk (kidsT T)) h2 => of_at (rootT T) (.slice none 0 0) vk (kidsT T) W h1 (root_ok hokT) (kids_ok hokT) (by omega) (by omega) h2
      obtain ⟨bk, hbk⟩ : ∃ x, ofB (rootT T) (kidsT T) = x := ⟨_, rfl⟩
      simp only [hbk] at hof
      have HBK := Lib.hid hbk
      clear hbk hkt hTl
      refine (fun (tail : ∀ (gY : Nat) (pY : Option Addr) (cY : Nat) (vk : Value) (W : World), Tq w (nodeC nd.hd (.slice pk nd.kids.length ck)) #[.slice p0 T.nodes.length c0, .int .i64 T.root] W → Cl W gY 26 #[.slice pY (ofT (rootT T) (kidsT T)).nodes.length cY, .int .i64 (ofT (rootT T) (kidsT T)).root] → Nodes W (.slice pY (ofT (rootT T) (kidsT T)).nodes.length cY) (ofT (rootT T) (kidsT T)).nodes → (?G3 : Nat → Option Addr → Nat → Value → World → Prop) gY pY cY vk W) => ?main3) ?tail3
      case main3 =>
        refine wp_region_held_drew (S := (fun w' => w'.cell? ⟨w.heap.size + 1, 0, none⟩ = some (.slice p0 T.nodes.length c0) ∧ w'.cell? ⟨w.heap.size + 1, 1, none⟩ = some (.int .i64 T.root))) (by kernel_rfl) (q0.S) (fun hHeld => ?_)
        have q1 := q0.drew
        refine wpAnyH_take (i := 0) (v := ?t127v) rfl (by kernel_rfl) (by kernel_rfl) (by kernel_rfl) (fun _ _ _ h => h) (Or.inl ⟨by rfl, ?t127y⟩) (by assumption) ?t127t
        case t127y => (intro w hSw; (try dsimp only at hSw); (try simp only [List.getElem_toArray, List.getElem_cons_zero]); go_simp; try with_reducible rfl)
        try simp only [Act.put, List.getElem_toArray, List.getElem_cons_zero, List.setIfInBounds_toArray, List.set_cons_zero, List.set_cons_succ]
        refine wpAnyH_take (i := 2) (v := ?t128v) rfl (by kernel_rfl) (by kernel_rfl) (by kernel_rfl) (fun _ _ _ h => h) (Or.inl ⟨by rfl, ?t128y⟩) (by assumption) ?t128t
        case t128y => (intro w hSw; (try dsimp only at hSw); (try simp only [List.getElem_toArray, List.getElem_cons_zero, List.getElem_cons_succ]); go_simp; try with_reducible rfl)
        try simp only [Act.put, List.getElem_toArray, List.getElem_cons_zero, List.getElem_cons_succ, List.setIfInBounds_toArray, List.set_cons_zero, List.set_cons_succ]
        generalize World.drew _ = W1 at *
        refine wpAnyH_ready (rs := [1, 8]) (by kernel_rfl) (by simp) ?_
        refine (AllReadyH.cons rfl (fun K hK => ?b173) (AllReadyH.cons rfl (fun K hK => ?b174) AllReadyH.nil))
        case b173 =>
          try simp only [List.getElem_toArray, List.getElem_cons_zero, List.getElem_cons_succ]
          go_simp
          refine (hroo _ ⟨_, rfl, hn.below q1.b⟩ (hE.below q1.b)).mono ?_
          rintro e W2 ⟨rfl, hb⟩
          have q2 := q1.below hb
          clear hb
          try go_simp
          refine hK.out _ _ ?s129 (fun hHeld2 => ?_)
          case s129 => (try dsimp only); (exact q2.S)
          clear hHeld hK K
          have hHeld := hHeld2
          clear hHeld2
          try simp only [Act.put, List.getElem_toArray, List.getElem_cons_zero, List.getElem_cons_succ, List.setIfInBounds_toArray, List.set_cons_zero, List.set_cons_succ]
          refine wpAnyH_ready (rs := [3, 8]) (by kernel_rfl) (by simp) ?_
          refine (AllReadyH.cons rfl (fun K hK => ?b159) (AllReadyH.cons rfl (fun K hK => ?b160) AllReadyH.nil))
          case b159 =>
            try simp only [List.getElem_toArray, List.getElem_cons_zero, List.getElem_cons_succ]
            go_simp
            refine (hki _ ⟨_, rfl, hn.below q2.b⟩ (hE.below q2.b)).mono ?_
            rintro e W3 ⟨vk, L, rfl, hL, hLm, hb⟩
            have kt3 := hL.trees
            rw [hLm] at kt3
            clear hL hLm
            have q3 := q2.below hb
            clear hb
            try go_simp
            refine hK.out _ _ ?s130 (fun hHeld2 => ?_)
            case s130 => (try dsimp only); (exact q3.S)
            clear hHeld hK K
            have hHeld := hHeld2
            clear hHeld2
            try simp only [Act.put, List.getElem_toArray, List.getElem_cons_zero, List.getElem_cons_succ, List.setIfInBounds_toArray, List.set_cons_zero, List.set_cons_succ]
            refine wpAnyH_ready (rs := [4, 8]) (by kernel_rfl) (by simp) ?_
            refine (AllReadyH.cons rfl (fun K hK => ?b147) (AllReadyH.cons rfl (fun K hK => ?b148) AllReadyH.nil))
            case b147 =>
              try simp only [List.getElem_toArray, List.getElem_cons_zero, List.getElem_cons_succ]
              go_simp
              refine (hof _ _ kt3 (hE.below q3.b)).mono ?_
              rintro e W4 ⟨pY, cY, CY, rfl, my4, hcy, hb⟩
              have q4 := q3.below hb
              clear hb
              try go_simp
              refine hK.out _ _ ?s131 (fun hHeld2 => ?_)
              case s131 => (try dsimp only); (exact q4.S)
              clear hHeld hK K
              have hHeld := hHeld2
              clear hHeld2
              try simp only [Act.put, List.getElem_toArray, List.getElem_cons_zero, List.getElem_cons_succ, List.setIfInBounds_toArray, List.set_cons_zero, List.set_cons_succ]
              refine wpAnyH_take (i := 5) (v := ?t132v) rfl (by kernel_rfl) (by kernel_rfl) (by kernel_rfl) (fun _ _ _ h => h) (Or.inl ⟨by rfl, ?t132y⟩) (by assumption) ?t132t
              case t132y => (intro w hSw; (try dsimp only at hSw); (try simp only [List.getElem_toArray, List.getElem_cons_zero, List.getElem_cons_succ]); go_simp; try with_reducible rfl)
              try simp only [Act.put, List.getElem_toArray, List.getElem_cons_zero, List.getElem_cons_succ, List.setIfInBounds_toArray, List.set_cons_zero, List.set_cons_succ]
              refine wpAnyH_take (i := 6) (v := ?t133v) rfl (by kernel_rfl) (by kernel_rfl) (by kernel_rfl) (fun _ _ _ h => h) (Or.inl ⟨by rfl, ?t133y⟩) (by assumption) ?t133t
              case t133y => (intro w hSw; (try dsimp only at hSw); (try simp only [List.getElem_toArray, List.getElem_cons_zero, List.getElem_cons_succ]); go_simp; try with_reducible rfl)
              try simp only [Act.put, List.getElem_toArray, List.getElem_cons_zero, List.getElem_cons_succ, List.setIfInBounds_toArray, List.set_cons_zero, List.set_cons_succ]
              refine wpAnyH_take (i := 7) (v := ?t134v) rfl (by kernel_rfl) (by kernel_rfl) (by kernel_rfl) (fun _ _ _ h => h) (Or.inl ⟨by rfl, ?t134y⟩) (by assumption) ?t134t
              case t134y => (intro w hSw; (try dsimp only at hSw); (try simp only [List.getElem_toArray, List.getElem_cons_zero, List.getElem_cons_succ]); go_simp; try with_reducible rfl)
              try simp only [Act.put, List.getElem_toArray, List.getElem_cons_zero, List.getElem_cons_succ, List.setIfInBounds_toArray, List.set_cons_zero, List.set_cons_succ]
              refine wpAnyH_ready (rs := [8]) (by kernel_rfl) (by simp) ?_
              refine (AllReadyH.cons rfl (fun K hK => ?b138) AllReadyH.nil)
              case b138 =>
                try simp only [List.getElem_toArray, List.getElem_cons_zero, List.getElem_cons_succ]
                go_simp
                have q5 := q4.alloc (.cells #[.slice none 0 0, .int .i64 0] 26)
                have st := (Below.refl W4.heap.size W4).alloc (Nat.le_refl _) (.cells #[.slice none 0 0, .int .i64 0] 26)
                have ky5 := Cl.new W4 26 #[.slice none 0 0, .int .i64 0]
                have hg := q4.big
                have my5 := my4.below st
                clear st
                generalize W4.alloc _ = W5 at *
                generalize W4.heap.size = gY at *
                try go_simp
                refine hK.out _ _ ?s135 (fun hHeld2 => ?_)
                case s135 => (try dsimp only); (exact q5.S)
                clear hHeld hK K
                have hHeld := hHeld2
                clear hHeld2
                try simp only [Act.put, List.getElem_toArray, List.getElem_cons_zero, List.getElem_cons_succ, List.setIfInBounds_toArray, List.set_cons_zero, List.set_cons_succ]
                refine wpAnyH_ready (rs := [9]) (by kernel_rfl) (by simp) ?_
                refine AllReadyH.cons rfl (fun K hK => ?_) AllReadyH.nil
                obtain ⟨⟨i0, i1⟩, jf⟩ := ky5.two
                try simp only [List.getElem_toArray, List.getElem_cons_zero, List.getElem_cons_succ]
                go_simp
                have q6 := q5.put hg (.slice pY (ofT (rootT T) (kidsT T)).nodes.length cY) (.int .i64 (ofT (rootT T) (kidsT T)).root)
                have ky6 : Cl ((W5.setCell ⟨gY, 0, none⟩ (.slice pY (ofT (rootT T) (kidsT T)).nodes.length cY)).setCell ⟨gY, 1, none⟩ (.int .i64 (ofT (rootT T) (kidsT T)).root)) gY 26 #[.slice pY (ofT (rootT T) (kidsT T)).nodes.length cY, .int .i64 (ofT (rootT T) (kidsT T)).root] := ky5.put2 (.slice pY (ofT (rootT T) (kidsT T)).nodes.length cY) (.int .i64 (ofT (rootT T) (kidsT T)).root)
                have my6 : Made _ ((W5.setCell ⟨gY, 0, none⟩ (.slice pY (ofT (rootT T) (kidsT T)).nodes.length cY)).setCell ⟨gY, 1, none⟩ (.int .i64 (ofT (rootT T) (kidsT T)).root)) _ _ := my5.ty ky5 (by decide) (by decide) (gb_put2 W5 gY (.slice pY (ofT (rootT T) (kidsT T)).nodes.length cY) (.int .i64 (ofT (rootT T) (kidsT T)).root))
                have ny := my6.nodes
                rw [hcy] at ny
                clear i0 i1 jf
                generalize ((W5.setCell ⟨gY, 0, none⟩ (.slice pY (ofT (rootT T) (kidsT T)).nodes.length cY)).setCell ⟨gY, 1, none⟩ (.int .i64 (ofT (rootT T) (kidsT T)).root)) = W6 at *
                try go_simp
                refine hK.out _ _ ?s136 (fun hHeld2 => ?_)
                case s136 => (try dsimp only); (exact q6.S)
                clear hHeld hK K
                have hHeld := hHeld2
                clear hHeld2
                try simp only [Act.put, List.getElem_toArray, List.getElem_cons_zero, List.getElem_cons_succ, List.setIfInBounds_toArray, List.set_cons_zero, List.set_cons_succ]
                refine wpAnyH_take (i := 10) (v := ?t137v) rfl (by kernel_rfl) (by kernel_rfl) (by kernel_rfl) (fun _ _ _ h => h) (Or.inl ⟨by rfl, ?t137y⟩) (by assumption) ?t137t
                case t137y => (intro w hSw; (try dsimp only at hSw); (try simp only [List.getElem_toArray, List.getElem_cons_zero, List.getElem_cons_succ]); go_simp; try with_reducible rfl)
                try simp only [Act.put, List.getElem_toArray, List.getElem_cons_zero, List.getElem_cons_succ, List.setIfInBounds_toArray, List.set_cons_zero, List.set_cons_succ]
                refine wpAnyH_done (by kernel_rfl) ?_ _
                exact tail gY pY cY vk W6 q6 ky6 ny
            case b148 =>
              try simp only [List.getElem_toArray, List.getElem_cons_zero, List.getElem_cons_succ]
              go_simp
              have q4 := q3.alloc (.cells #[.slice none 0 0, .int .i64 0] 26)
              have st := (Below.refl W3.heap.size W3).alloc (Nat.le_refl _) (.cells #[.slice none 0 0, .int .i64 0] 26)
              have ky4 := Cl.new W3 26 #[.slice none 0 0, .int .i64 0]
              have hg := q3.big
              have kt4 := kt3.below st
              clear st
              generalize W3.alloc _ = W4 at *
              generalize W3.heap.size = gY at *
              try go_simp
              refine hK.out _ _ ?s139 (fun hHeld2 => ?_)
              case s139 => (try dsimp only); (exact q4.S)
              clear hHeld hK K
              have hHeld := hHeld2
              clear hHeld2
              try simp only [Act.put, List.getElem_toArray, List.getElem_cons_zero, List.getElem_cons_succ, List.setIfInBounds_toArray, List.set_cons_zero, List.set_cons_succ]
              refine wpAnyH_ready (rs := [4]) (by kernel_rfl) (by simp) ?_
              refine (AllReadyH.cons rfl (fun K hK => ?b146) AllReadyH.nil)
              case b146 =>
                try simp only [List.getElem_toArray, List.getElem_cons_zero, List.getElem_cons_succ]
                go_simp
                refine (hof _ _ kt4 (hE.below q4.b)).mono ?_
                rintro e W5 ⟨pY, cY, CY, rfl, my5, hcy, hb⟩
                have q5 := q4.below hb
                have ky5 := ky4.below hb ky4.lt
                clear hb
                try go_simp
                refine hK.out _ _ ?s140 (fun hHeld2 => ?_)
                case s140 => (try dsimp only); (exact q5.S)
                clear hHeld hK K
                have hHeld := hHeld2
                clear hHeld2
                try simp only [Act.put, List.getElem_toArray, List.getElem_cons_zero, List.getElem_cons_succ, List.setIfInBounds_toArray, List.set_cons_zero, List.set_cons_succ]
                refine wpAnyH_take (i := 5) (v := ?t141v) rfl (by kernel_rfl) (by kernel_rfl) (by kernel_rfl) (fun _ _ _ h => h) (Or.inl ⟨by rfl, ?t141y⟩) (by assumption) ?t141t
                case t141y => (intro w hSw; (try dsimp only at hSw); (try simp only [List.getElem_toArray, List.getElem_cons_zero, List.getElem_cons_succ]); go_simp; try with_reducible rfl)
                try simp only [Act.put, List.getElem_toArray, List.getElem_cons_zero, List.getElem_cons_succ, List.setIfInBounds_toArray, List.set_cons_zero, List.set_cons_succ]
                refine wpAnyH_take (i := 6) (v := ?t142v) rfl (by kernel_rfl) (by kernel_rfl) (by kernel_rfl) (fun _ _ _ h => h) (Or.inl ⟨by rfl, ?t142y⟩) (by assumption) ?t142t
                case t142y => (intro w hSw; (try dsimp only at hSw); (try simp only [List.getElem_toArray, List.getElem_cons_zero, List.getElem_cons_succ]); go_simp; try with_reducible rfl)
                try simp only [Act.put, List.getElem_toArray, List.getElem_cons_zero, List.getElem_cons_succ, List.setIfInBounds_toArray, List.set_cons_zero, List.set_cons_succ]
                refine wpAnyH_take (i := 7) (v := ?t143v) rfl (by kernel_rfl) (by kernel_rfl) (by kernel_rfl) (fun _ _ _ h => h) (Or.inl ⟨by rfl, ?t143y⟩) (by assumption) ?t143t
                case t143y => (intro w hSw; (try dsimp only at hSw); (try simp only [List.getElem_toArray, List.getElem_cons_zero, List.getElem_cons_succ]); go_simp; try with_reducible rfl)
                try simp only [Act.put, List.getElem_toArray, List.getElem_cons_zero, List.getElem_cons_succ, List.setIfInBounds_toArray, List.set_cons_zero, List.set_cons_succ]
                refine wpAnyH_ready (rs := [9]) (by kernel_rfl) (by simp) ?_
                refine AllReadyH.cons rfl (fun K hK => ?_) AllReadyH.nil
                obtain ⟨⟨i0, i1⟩, jf⟩ := ky5.two
                try simp only [List.getElem_toArray, List.getElem_cons_zero, List.getElem_cons_succ]
                go_simp
                have q6 := q5.put hg (.slice pY (ofT (rootT T) (kidsT T)).nodes.length cY) (.int .i64 (ofT (rootT T) (kidsT T)).root)
                have ky6 : Cl ((W5.setCell ⟨gY, 0, none⟩ (.slice pY (ofT (rootT T) (kidsT T)).nodes.length cY)).setCell ⟨gY, 1, none⟩ (.int .i64 (ofT (rootT T) (kidsT T)).root)) gY 26 #[.slice pY (ofT (rootT T) (kidsT T)).nodes.length cY, .int .i64 (ofT (rootT T) (kidsT T)).root] := ky5.put2 (.slice pY (ofT (rootT T) (kidsT T)).nodes.length cY) (.int .i64 (ofT (rootT T) (kidsT T)).root)
                have my6 : Made _ ((W5.setCell ⟨gY, 0, none⟩ (.slice pY (ofT (rootT T) (kidsT T)).nodes.length cY)).setCell ⟨gY, 1, none⟩ (.int .i64 (ofT (rootT T) (kidsT T)).root)) _ _ := my5.ty ky5 (by decide) (by decide) (gb_put2 W5 gY (.slice pY (ofT (rootT T) (kidsT T)).nodes.length cY) (.int .i64 (ofT (rootT T) (kidsT T)).root))
                have ny := my6.nodes
                rw [hcy] at ny
                clear i0 i1 jf
                generalize ((W5.setCell ⟨gY, 0, none⟩ (.slice pY (ofT (rootT T) (kidsT T)).nodes.length cY)).setCell ⟨gY, 1, none⟩ (.int .i64 (ofT (rootT T) (kidsT T)).root)) = W6 at *
                try go_simp
                refine hK.out _ _ ?s144 (fun hHeld2 => ?_)
                case s144 => (try dsimp only); (exact q6.S)
                clear hHeld hK K
                have hHeld := hHeld2
                clear hHeld2
                try simp only [Act.put, List.getElem_toArray, List.getElem_cons_zero, List.getElem_cons_succ, List.setIfInBounds_toArray, List.set_cons_zero, List.set_cons_succ]
                refine wpAnyH_take (i := 10) (v := ?t145v) rfl (by kernel_rfl) (by kernel_rfl) (by kernel_rfl) (fun _ _ _ h => h) (Or.inl ⟨by rfl, ?t145y⟩) (by assumption) ?t145t
                case t145y => (intro w hSw; (try dsimp only at hSw); (try simp only [List.getElem_toArray, List.getElem_cons_zero, List.getElem_cons_succ]); go_simp; try with_reducible rfl)
                try simp only [Act.put, List.getElem_toArray, List.getElem_cons_zero, List.getElem_cons_succ, List.setIfInBounds_toArray, List.set_cons_zero, List.set_cons_succ]
                refine wpAnyH_done (by kernel_rfl) ?_ _
                exact tail gY pY cY vk W6 q6 ky6 ny
          case b160 =>
            try simp only [List.getElem_toArray, List.getElem_cons_zero, List.getElem_cons_succ]
            go_simp
            have q3 := q2.alloc (.cells #[.slice none 0 0, .int .i64 0] 26)
            have st := (Below.refl W2.heap.size W2).alloc (Nat.le_refl _) (.cells #[.slice none 0 0, .int .i64 0] 26)
            have ky3 := Cl.new W2 26 #[.slice none 0 0, .int .i64 0]
            have hg := q2.big
            clear st
            generalize W2.alloc _ = W3 at *
            generalize W2.heap.size = gY at *
            try go_simp
            refine hK.out _ _ ?s149 (fun hHeld2 => ?_)
            case s149 => (try dsimp only); (exact q3.S)
            clear hHeld hK K
            have hHeld := hHeld2
            clear hHeld2
            try simp only [Act.put, List.getElem_toArray, List.getElem_cons_zero, List.getElem_cons_succ, List.setIfInBounds_toArray, List.set_cons_zero, List.set_cons_succ]
            refine wpAnyH_ready (rs := [3]) (by kernel_rfl) (by simp) ?_
            refine (AllReadyH.cons rfl (fun K hK => ?b158) AllReadyH.nil)
            case b158 =>
              try simp only [List.getElem_toArray, List.getElem_cons_zero, List.getElem_cons_succ]
              go_simp
              refine (hki _ ⟨_, rfl, hn.below q3.b⟩ (hE.below q3.b)).mono ?_
              rintro e W4 ⟨vk, L, rfl, hL, hLm, hb⟩
              have kt4 := hL.trees
              rw [hLm] at kt4
              clear hL hLm
              have q4 := q3.below hb
              have ky4 := ky3.below hb ky3.lt
              clear hb
              try go_simp
              refine hK.out _ _ ?s150 (fun hHeld2 => ?_)
              case s150 => (try dsimp only); (exact q4.S)
              clear hHeld hK K
              have hHeld := hHeld2
              clear hHeld2
              try simp only [Act.put, List.getElem_toArray, List.getElem_cons_zero, List.getElem_cons_succ, List.setIfInBounds_toArray, List.set_cons_zero, List.set_cons_succ]
              refine wpAnyH_ready (rs := [4]) (by kernel_rfl) (by simp) ?_
              refine (AllReadyH.cons rfl (fun K hK => ?b157) AllReadyH.nil)
              case b157 =>
                try simp only [List.getElem_toArray, List.getElem_cons_zero, List.getElem_cons_succ]
                go_simp
                refine (hof _ _ kt4 (hE.below q4.b)).mono ?_
                rintro e W5 ⟨pY, cY, CY, rfl, my5, hcy, hb⟩
                have q5 := q4.below hb
                have ky5 := ky4.below hb ky4.lt
                clear hb
                try go_simp
                refine hK.out _ _ ?s151 (fun hHeld2 => ?_)
                case s151 => (try dsimp only); (exact q5.S)
                clear hHeld hK K
                have hHeld := hHeld2
                clear hHeld2
                try simp only [Act.put, List.getElem_toArray, List.getElem_cons_zero, List.getElem_cons_succ, List.setIfInBounds_toArray, List.set_cons_zero, List.set_cons_succ]
                refine wpAnyH_take (i := 5) (v := ?t152v) rfl (by kernel_rfl) (by kernel_rfl) (by kernel_rfl) (fun _ _ _ h => h) (Or.inl ⟨by rfl, ?t152y⟩) (by assumption) ?t152t
                case t152y => (intro w hSw; (try dsimp only at hSw); (try simp only [List.getElem_toArray, List.getElem_cons_zero, List.getElem_cons_succ]); go_simp; try with_reducible rfl)
                try simp only [Act.put, List.getElem_toArray, List.getElem_cons_zero, List.getElem_cons_succ, List.setIfInBounds_toArray, List.set_cons_zero, List.set_cons_succ]
                refine wpAnyH_take (i := 6) (v := ?t153v) rfl (by kernel_rfl) (by kernel_rfl) (by kernel_rfl) (fun _ _ _ h => h) (Or.inl ⟨by rfl, ?t153y⟩) (by assumption) ?t153t
                case t153y => (intro w hSw; (try dsimp only at hSw); (try simp only [List.getElem_toArray, List.getElem_cons_zero, List.getElem_cons_succ]); go_simp; try with_reducible rfl)
                try simp only [Act.put, List.getElem_toArray, List.getElem_cons_zero, List.getElem_cons_succ, List.setIfInBounds_toArray, List.set_cons_zero, List.set_cons_succ]
                refine wpAnyH_take (i := 7) (v := ?t154v) rfl (by kernel_rfl) (by kernel_rfl) (by kernel_rfl) (fun _ _ _ h => h) (Or.inl ⟨by rfl, ?t154y⟩) (by assumption) ?t154t
                case t154y => (intro w hSw; (try dsimp only at hSw); (try simp only [List.getElem_toArray, List.getElem_cons_zero, List.getElem_cons_succ]); go_simp; try with_reducible rfl)
                try simp only [Act.put, List.getElem_toArray, List.getElem_cons_zero, List.getElem_cons_succ, List.setIfInBounds_toArray, List.set_cons_zero, List.set_cons_succ]
                refine wpAnyH_ready (rs := [9]) (by kernel_rfl) (by simp) ?_
                refine AllReadyH.cons rfl (fun K hK => ?_) AllReadyH.nil
                obtain ⟨⟨i0, i1⟩, jf⟩ := ky5.two
                try simp only [List.getElem_toArray, List.getElem_cons_zero, List.getElem_cons_succ]
                go_simp
                have q6 := q5.put hg (.slice pY (ofT (rootT T) (kidsT T)).nodes.length cY) (.int .i64 (ofT (rootT T) (kidsT T)).root)
                have ky6 : Cl ((W5.setCell ⟨gY, 0, none⟩ (.slice pY (ofT (rootT T) (kidsT T)).nodes.length cY)).setCell ⟨gY, 1, none⟩ (.int .i64 (ofT (rootT T) (kidsT T)).root)) gY 26 #[.slice pY (ofT (rootT T) (kidsT T)).nodes.length cY, .int .i64 (ofT (rootT T) (kidsT T)).root] := ky5.put2 (.slice pY (ofT (rootT T) (kidsT T)).nodes.length cY) (.int .i64 (ofT (rootT T) (kidsT T)).root)
                have my6 : Made _ ((W5.setCell ⟨gY, 0, none⟩ (.slice pY (ofT (rootT T) (kidsT T)).nodes.length cY)).setCell ⟨gY, 1, none⟩ (.int .i64 (ofT (rootT T) (kidsT T)).root)) _ _ := my5.ty ky5 (by decide) (by decide) (gb_put2 W5 gY (.slice pY (ofT (rootT T) (kidsT T)).nodes.length cY) (.int .i64 (ofT (rootT T) (kidsT T)).root))
                have ny := my6.nodes
                rw [hcy] at ny
                clear i0 i1 jf
                generalize ((W5.setCell ⟨gY, 0, none⟩ (.slice pY (ofT (rootT T) (kidsT T)).nodes.length cY)).setCell ⟨gY, 1, none⟩ (.int .i64 (ofT (rootT T) (kidsT T)).root)) = W6 at *
                try go_simp
                refine hK.out _ _ ?s155 (fun hHeld2 => ?_)
                case s155 => (try dsimp only); (exact q6.S)
                clear hHeld hK K
                have hHeld := hHeld2
                clear hHeld2
                try simp only [Act.put, List.getElem_toArray, List.getElem_cons_zero, List.getElem_cons_succ, List.setIfInBounds_toArray, List.set_cons_zero, List.set_cons_succ]
                refine wpAnyH_take (i := 10) (v := ?t156v) rfl (by kernel_rfl) (by kernel_rfl) (by kernel_rfl) (fun _ _ _ h => h) (Or.inl ⟨by rfl, ?t156y⟩) (by assumption) ?t156t
                case t156y => (intro w hSw; (try dsimp only at hSw); (try simp only [List.getElem_toArray, List.getElem_cons_zero, List.getElem_cons_succ]); go_simp; try with_reducible rfl)
                try simp only [Act.put, List.getElem_toArray, List.getElem_cons_zero, List.getElem_cons_succ, List.setIfInBounds_toArray, List.set_cons_zero, List.set_cons_succ]
                refine wpAnyH_done (by kernel_rfl) ?_ _
                exact tail gY pY cY vk W6 q6 ky6 ny
        case b174 =>
          try simp only [List.getElem_toArray, List.getElem_cons_zero, List.getElem_cons_succ]
          go_simp
          have q2 := q1.alloc (.cells #[.slice none 0 0, .int .i64 0] 26)
          have st := (Below.refl W1.heap.size W1).alloc (Nat.le_refl _) (.cells #[.slice none 0 0, .int .i64 0] 26)
          have ky2 := Cl.new W1 26 #[.slice none 0 0, .int .i64 0]
          have hg := q1.big
          clear st
          generalize W1.alloc _ = W2 at *
          generalize W1.heap.size = gY at *
          try go_simp
          refine hK.out _ _ ?s161 (fun hHeld2 => ?_)
          case s161 => (try dsimp only); (exact q2.S)
          clear hHeld hK K
          have hHeld := hHeld2
          clear hHeld2
          try simp only [Act.put, List.getElem_toArray, List.getElem_cons_zero, List.getElem_cons_succ, List.setIfInBounds_toArray, List.set_cons_zero, List.set_cons_succ]
          refine wpAnyH_ready (rs := [1]) (by kernel_rfl) (by simp) ?_
          refine (AllReadyH.cons rfl (fun K hK => ?b172) AllReadyH.nil)
          case b172 =>
            try simp only [List.getElem_toArray, List.getElem_cons_zero, List.getElem_cons_succ]
            go_simp
            refine (hroo _ ⟨_, rfl, hn.below q2.b⟩ (hE.below q2.b)).mono ?_
            rintro e W3 ⟨rfl, hb⟩
            have q3 := q2.below hb
            have ky3 := ky2.below hb ky2.lt
            clear hb
            try go_simp
            refine hK.out _ _ ?s162 (fun hHeld2 => ?_)
            case s162 => (try dsimp only); (exact q3.S)
            clear hHeld hK K
            have hHeld := hHeld2
            clear hHeld2
            try simp only [Act.put, List.getElem_toArray, List.getElem_cons_zero, List.getElem_cons_succ, List.setIfInBounds_toArray, List.set_cons_zero, List.set_cons_succ]
            refine wpAnyH_ready (rs := [3]) (by kernel_rfl) (by simp) ?_
            refine (AllReadyH.cons rfl (fun K hK => ?b171) AllReadyH.nil)
            case b171 =>
              try simp only [List.getElem_toArray, List.getElem_cons_zero, List.getElem_cons_succ]
              go_simp
              refine (hki _ ⟨_, rfl, hn.below q3.b⟩ (hE.below q3.b)).mono ?_
              rintro e W4 ⟨vk, L, rfl, hL, hLm, hb⟩
              have kt4 := hL.trees
              rw [hLm] at kt4
              clear hL hLm
              have q4 := q3.below hb
              have ky4 := ky3.below hb ky3.lt
              clear hb
              try go_simp
              refine hK.out _ _ ?s163 (fun hHeld2 => ?_)
              case s163 => (try dsimp only); (exact q4.S)
              clear hHeld hK K
              have hHeld := hHeld2
              clear hHeld2
              try simp only [Act.put, List.getElem_toArray, List.getElem_cons_zero, List.getElem_cons_succ, List.setIfInBounds_toArray, List.set_cons_zero, List.set_cons_succ]
              refine wpAnyH_ready (rs := [4]) (by kernel_rfl) (by simp) ?_
              refine (AllReadyH.cons rfl (fun K hK => ?b170) AllReadyH.nil)
              case b170 =>
                try simp only [List.getElem_toArray, List.getElem_cons_zero, List.getElem_cons_succ]
                go_simp
                refine (hof _ _ kt4 (hE.below q4.b)).mono ?_
                rintro e W5 ⟨pY, cY, CY, rfl, my5, hcy, hb⟩
                have q5 := q4.below hb
                have ky5 := ky4.below hb ky4.lt
                clear hb
                try go_simp
                refine hK.out _ _ ?s164 (fun hHeld2 => ?_)
                case s164 => (try dsimp only); (exact q5.S)
                clear hHeld hK K
                have hHeld := hHeld2
                clear hHeld2
                try simp only [Act.put, List.getElem_toArray, List.getElem_cons_zero, List.getElem_cons_succ, List.setIfInBounds_toArray, List.set_cons_zero, List.set_cons_succ]
                refine wpAnyH_take (i := 5) (v := ?t165v) rfl (by kernel_rfl) (by kernel_rfl) (by kernel_rfl) (fun _ _ _ h => h) (Or.inl ⟨by rfl, ?t165y⟩) (by assumption) ?t165t
                case t165y => (intro w hSw; (try dsimp only at hSw); (try simp only [List.getElem_toArray, List.getElem_cons_zero, List.getElem_cons_succ]); go_simp; try with_reducible rfl)
                try simp only [Act.put, List.getElem_toArray, List.getElem_cons_zero, List.getElem_cons_succ, List.setIfInBounds_toArray, List.set_cons_zero, List.set_cons_succ]
                refine wpAnyH_take (i := 6) (v := ?t166v) rfl (by kernel_rfl) (by kernel_rfl) (by kernel_rfl) (fun _ _ _ h => h) (Or.inl ⟨by rfl, ?t166y⟩) (by assumption) ?t166t
                case t166y => (intro w hSw; (try dsimp only at hSw); (try simp only [List.getElem_toArray, List.getElem_cons_zero, List.getElem_cons_succ]); go_simp; try with_reducible rfl)
                try simp only [Act.put, List.getElem_toArray, List.getElem_cons_zero, List.getElem_cons_succ, List.setIfInBounds_toArray, List.set_cons_zero, List.set_cons_succ]
                refine wpAnyH_take (i := 7) (v := ?t167v) rfl (by kernel_rfl) (by kernel_rfl) (by kernel_rfl) (fun _ _ _ h => h) (Or.inl ⟨by rfl, ?t167y⟩) (by assumption) ?t167t
                case t167y => (intro w hSw; (try dsimp only at hSw); (try simp only [List.getElem_toArray, List.getElem_cons_zero, List.getElem_cons_succ]); go_simp; try with_reducible rfl)
                try simp only [Act.put, List.getElem_toArray, List.getElem_cons_zero, List.getElem_cons_succ, List.setIfInBounds_toArray, List.set_cons_zero, List.set_cons_succ]
                refine wpAnyH_ready (rs := [9]) (by kernel_rfl) (by simp) ?_
                refine AllReadyH.cons rfl (fun K hK => ?_) AllReadyH.nil
                obtain ⟨⟨i0, i1⟩, jf⟩ := ky5.two
                try simp only [List.getElem_toArray, List.getElem_cons_zero, List.getElem_cons_succ]
                go_simp
                have q6 := q5.put hg (.slice pY (ofT (rootT T) (kidsT T)).nodes.length cY) (.int .i64 (ofT (rootT T) (kidsT T)).root)
                have ky6 : Cl ((W5.setCell ⟨gY, 0, none⟩ (.slice pY (ofT (rootT T) (kidsT T)).nodes.length cY)).setCell ⟨gY, 1, none⟩ (.int .i64 (ofT (rootT T) (kidsT T)).root)) gY 26 #[.slice pY (ofT (rootT T) (kidsT T)).nodes.length cY, .int .i64 (ofT (rootT T) (kidsT T)).root] := ky5.put2 (.slice pY (ofT (rootT T) (kidsT T)).nodes.length cY) (.int .i64 (ofT (rootT T) (kidsT T)).root)
                have my6 : Made _ ((W5.setCell ⟨gY, 0, none⟩ (.slice pY (ofT (rootT T) (kidsT T)).nodes.length cY)).setCell ⟨gY, 1, none⟩ (.int .i64 (ofT (rootT T) (kidsT T)).root)) _ _ := my5.ty ky5 (by decide) (by decide) (gb_put2 W5 gY (.slice pY (ofT (rootT T) (kidsT T)).nodes.length cY) (.int .i64 (ofT (rootT T) (kidsT T)).root))
                have ny := my6.nodes
                rw [hcy] at ny
                clear i0 i1 jf
                generalize ((W5.setCell ⟨gY, 0, none⟩ (.slice pY (ofT (rootT T) (kidsT T)).nodes.length cY)).setCell ⟨gY, 1, none⟩ (.int .i64 (ofT (rootT T) (kidsT T)).root)) = W6 at *
                try go_simp
                refine hK.out _ _ ?s168 (fun hHeld2 => ?_)
                case s168 => (try dsimp only); (exact q6.S)
                clear hHeld hK K
                have hHeld := hHeld2
                clear hHeld2
                try simp only [Act.put, List.getElem_toArray, List.getElem_cons_zero, List.getElem_cons_succ, List.setIfInBounds_toArray, List.set_cons_zero, List.set_cons_succ]
                refine wpAnyH_take (i := 10) (v := ?t169v) rfl (by kernel_rfl) (by kernel_rfl) (by kernel_rfl) (fun _ _ _ h => h) (Or.inl ⟨by rfl, ?t169y⟩) (by assumption) ?t169t
                case t169y => (intro w hSw; (try dsimp only at hSw); (try simp only [List.getElem_toArray, List.getElem_cons_zero, List.getElem_cons_succ]); go_simp; try with_reducible rfl)
                try simp only [Act.put, List.getElem_toArray, List.getElem_cons_zero, List.getElem_cons_succ, List.setIfInBounds_toArray, List.set_cons_zero, List.set_cons_succ]
                refine wpAnyH_done (by kernel_rfl) ?_ _
                exact tail gY pY cY vk W6 q6 ky6 ny
      case tail3 =>
        intro gY pY cY vk W9 q9 ky ny
        try dsimp only
        clear q0 hroo hki hof
        have hri := fun W (h1 : Tree W (treeV (.slice p0 T.nodes.length c0) T.root) T) h2 => right_at' (treeV (.slice p0 T.nodes.length c0) T.root) T W h1 hokT h2
        obtain ⟨⟨z0, z1⟩, zf⟩ := q9.kt.two
        cases hR : rightB T with
        | false =>
          simp only [hR] at hri
          go_wp2_with (go_at_call 18; refine (hri _ ⟨_, rfl, hn.below q9.b⟩ (hE.below q9.b)).mono ?_; rintro e w9 ⟨rfl, hb⟩; have b9 := (q9.below hb).b)
          go_ret
          exact ⟨rfl, b9⟩
        | true =>
          simp only [hR] at hri
          obtain rfl : bk = true := by rw [← HBK.out]; exact (back_of hR).1
          have hsT := back_same hR
          have hokY := of_ok (root_ok hokT) (kids_ok hokT) (by have := kids_total (T := T); have := HTL.out; omega) (by have := kids_total (T := T); have := HTL.out; omega)
          generalize ofT (rootT T) (kidsT T) = Y at *
          have hsy := fun W h1 h2 h3 => same_any (treeV (.slice pY Y.nodes.length cY) Y.root) (treeV (.slice p0 T.nodes.length c0) T.root) Y T W h1 h2 hokY hokT h3
          simp only [hsT] at hsy
          clear HBK hsT hR
          go_wp2_with (first
            | (go_at_call 18; refine (hri _ ⟨_, rfl, hn.below q9.b⟩ (hE.below q9.b)).mono ?_; rintro e w9 ⟨rfl, hb⟩; have q10 := q9.below hb; have ky10 := ky.below hb ky.lt; have ny10 := ny.below hb; clear hb z0 z1 zf; obtain ⟨⟨z0, z1⟩, zf⟩ := q10.kt.two; obtain ⟨⟨u0, u1⟩, uf⟩ := ky10.two)
            | (go_at_call 26; refine (hsy _ ⟨_, rfl, ny10⟩ ⟨_, rfl, hn.below q10.b⟩ (hE.below q10.b)).mono ?_; rintro e w10 ⟨rfl, hb⟩; have b10 := (q10.below hb).b))
          go_ret
          exact ⟨rfl, b10⟩

end Go.Proofs.YtpkjfdgjmcphmaaDoor

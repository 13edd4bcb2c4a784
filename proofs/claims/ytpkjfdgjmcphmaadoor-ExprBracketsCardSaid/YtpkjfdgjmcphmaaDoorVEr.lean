/- Package expr: what Make starts from and ends with. -/
import Derived.Test.YtpkjfdgjmcphmaaDoorVEq8
import Derived.StillTailTactics
import Derived.Test.YtpkjfdgjmcphmaaDoorVTki
import Derived.Test.YtpkjfdgjmcphmaaDoorVTz5
import Derived.Test.YtpkjfdgjmcphmaaDoorVTrs0
import Derived.Test.YtpkjfdgjmcphmaaDoorVTone
import Derived.Test.YtpkjfdgjmcphmaaDoorVTex
import Derived.BigQuiet
import Derived.Deep.QuietTactic
import Derived.Test.YtpkjfdgjmcphmaaDoorVTrow
namespace Go.Proofs.YtpkjfdgjmcphmaaDoor.Tm

theorem srt_len : ∀ (l : List Nat) (b i : Nat), Srt l → (∀ x ∈ l, b ≤ x ∧ x < i) → b ≤ i → l.length + b ≤ i
  | [], b, i, _, _, h => by simpa using h
  | a :: l, b, i, hs, hm, _ => by
    have h1 := hm a (by simp)
    have h2 := List.pairwise_cons.1 hs
    have := srt_len l (a + 1) i h2.2 (fun x hx => ⟨h2.1 x hx, (hm x (by simp [hx])).2⟩) (by omega)
    simp
    omega
theorem tops_len (ts : List (RT Nat)) : (tops ts).length ≤ (posts ts).length := by
  rw [posts_len]
  have := sizes_len ts
  simpa [tops] using this
mutual
theorem rd_many (s : St) : ∀ T : RT Nat, Rd s T → ∀ x ∈ post T, (s.rw x).many ≤ (post T).length
  | .mk a ts, h, x, hx => by
    rw [Rd] at h
    rw [post, List.mem_append] at hx
    rw [post, List.length_append]
    rcases hx with hx | hx
    · have := rds_many s ts h.2 x hx
      omega
    · rw [List.mem_singleton] at hx
      subst hx
      rw [h.1.many]
      have := tops_len ts
      omega
theorem rds_many (s : St) : ∀ ts : List (RT Nat), Rds s ts → ∀ x ∈ posts ts, (s.rw x).many ≤ (posts ts).length
  | [], _, x, hx => by simp [posts] at hx
  | t :: ts, h, x, hx => by
    rw [Rds] at h
    rw [posts, List.mem_append] at hx
    rw [posts, List.length_append]
    rcases hx with hx | hx
    · have := rd_many s t h.1 x hx
      omega
    · have := rds_many s ts h.2 x hx
      omega
end
theorem srt_top {T : RT Nat} (h : Srt (post T)) : ∀ x ∈ post T, x ≤ top T := by
  cases T with
  | mk a ts =>
    intro x hx
    rw [post] at h hx
    rcases List.mem_append.1 hx with h1 | h1
    · exact Nat.le_of_lt ((List.pairwise_append.1 h).2.2 x h1 a (by simp))
    · rw [List.mem_singleton] at h1
      exact Nat.le_of_eq h1
theorem cls_made {s : St} {T : RT Nat} (hr : Rd s T) (hs : Srt (post T)) : Cls s (post T) (top T) where
  root := top_post T
  le := srt_top hs
  kid := (rd_par T s hr hs).1
  par := (rd_par T s hr hs).2

/-- The bounds of what is gathered, at every node of a right tree. -/
theorem gok_all {g : Gm} {s : St} {wi i : Nat} {ks : List Nat} {ts : List (RT Nat)} (h : Rdy s ks ts i) (hi : i < g.n) (hn : g.n ≤ 2147483647) (hk : ∀ k ∈ ks, k < g.n) : Gok g s wi ks := by
  have hl : ks.length = ts.length := by have := congrArg List.length h.is; simpa [tops] using this
  have hg : ∀ q, Gat s (gti s wi (ts.take q)) (gatF s wi (ks.take q)) ∧ (posts (gti s wi (ts.take q))).Sublist (posts ts) := fun q => by
    have e : posts ts = posts (ts.take q) ++ posts (ts.drop q) := by rw [← posts_append, List.take_append_drop]
    have hsub : (posts (ts.take q)).Sublist (posts ts) := by rw [e]; exact List.sublist_append_left _ _
    refine ⟨gat_all ?_ ?_ (h.srt.sublist hsub), (gti_posts s wi _).trans hsub⟩
    · rw [List.map_take, h.is]
      simp [tops, List.map_take]
    · rw [Rds_iff]
      exact fun t ht => Rds_iff.1 h.rds t (List.mem_of_mem_take ht)
  have hm : ∀ (F : List (RT Nat)), (posts F).Sublist (posts ts) → (tops F).length ≤ i := fun F hF => by
    have h1 := srt_len (posts F) 0 i (h.srt.sublist hF) (fun x hx => ⟨Nat.zero_le _, h.low x (hF.subset hx)⟩) (Nat.zero_le _)
    have h2 := tops_len F
    omega
  refine ⟨fun q _ => ?_, fun q _ => ?_, fun k hk' => ?_, hk⟩
  · rw [(hg q).1.row.many]
    have := hm _ (hg q).2
    omega
  · by_cases he : tops (gti s wi (ts.take q)) = []
    · left
      rw [(hg q).1.row.many, he]
      rfl
    · obtain ⟨a, ha⟩ := last_some he
      right
      rw [(hg q).1.row.last a ha]
      have := h.low a ((hg q).2.subset (tops_posts a (List.mem_of_getLast? ha)))
      omega
  · have h1 : s.is k ∈ tops ts := by rw [← h.is]; exact List.mem_map_of_mem hk'
    have h2 := h.low _ (tops_posts _ h1)
    obtain ⟨t, ht, he⟩ := List.mem_map.1 h1
    have h3 := Rds_iff.1 h.rds t ht
    refine ⟨by omega, ?_⟩
    unfold partF
    split
    · rw [← he]
      have hsub : (post t).Sublist (posts ts) := by
        rw [posts_eq]
        rw [List.flatMap_def]
        exact List.sublist_flatten_of_mem (List.mem_map_of_mem ht)
      have h4 := rd_many s t h3 _ (top_post t)
      have h5 := srt_len (post t) 0 i (h.srt.sublist hsub) (fun x hx => ⟨Nat.zero_le _, h.low x (hsub.subset hx)⟩) (Nat.zero_le _)
      omega
    · simp

/-- What the maker's tree is, of what the nodes have come to. -/
theorem tree_made {s : St} {k : Nat} {T : RT Nat} {N : RT Hd} (h : Come s k T N) : (post T).map (ndOf s (post T)) = flat N ∧ (post T).length = size N := by
  have hp : (post T).map ((post T).idxOf ·) = List.range' 0 (size T) := by rw [← post_len]; exact srt_idx h.srt
  have h1 := (out_flat s ((post T).idxOf ·) T 0 h.rd hp).1
  refine ⟨?_, ?_⟩
  · rw [h.map] at h1
    exact h1
  · rw [post_len, ← h.map, size_map]
end Go.Proofs.YtpkjfdgjmcphmaaDoor.Tm
namespace Go.Proofs.YtpkjfdgjmcphmaaDoor
open Go.RowKit Bset Tm

theorem ints_off {G : List Nat} {w : World} {lo : Nat} {v : Value} {l : List Int} (h : w.ownsRow lo 3 1 v l.length (l.map (.int .i64))) (hG : ∀ b cs, w.heap[b]? = some (.cells cs 3 (0, 0)) → b ∉ G) : IntsOff G w v l := by
  rcases h.2 with ⟨rfl, h0⟩ | ⟨g, cap, cur, rfl, hb, hgg, rest⟩
  · have := List.eq_nil_of_length_eq_zero h0
    subst this
    exact ⟨none, 0, rfl, .inl rfl⟩
  · refine ⟨some ⟨g, 0, none⟩, cap, rfl, .inr ⟨g, 0, rfl, hG g cur hgg, fun j hj => ?_⟩⟩
    rw [Nat.zero_add, h.cellAt j (by omega)]
    simp [hj]
abbrev kvOf (C : List (Nd × Value)) (j : Nat) : Value := (C[j]?.map Prod.snd).getD (.slice none 0 0)
theorem nd9_made {lo : Nat} {w : World} {gN n c : Nat} {C : List (Nd × Value)} (h : Made lo w (.slice (some ⟨gN, 0, none⟩) n c) C) (hn : C.length = n) : Nd9 w gN n (hdAt (C.map Prod.fst)) (kvOf C) ∧ n ≤ c ∧ ∃ cs, w.heap[gN]? = some (.cells cs 38 (0, 0)) := by
  subst hn
  rcases h.row.2 with ⟨h0, _⟩ | ⟨g, cap, cur, e, hb, hgg, hnc, hcm, hsz, htk⟩
  · cases h0
  · obtain ⟨rfl, rfl⟩ : gN = g ∧ c = cap := by simpa using e
    refine ⟨⟨cur.size, fun j => (cur[j]?).getD undef, by rw [hsz]; exact Nat.mul_le_mul_right 9 hnc, ⟨cur, hgg, rfl, fun i hi => by simp [hi]⟩, fun j hj i hi => ?_⟩, hnc, _, hgg⟩
    have h1 : cur[j * 9 + i]? = (cellsN C)[j * 9 + i]? := by
      rw [← htk, List.getElem?_take_of_lt (by omega)]
      simp
    have h2 := cellsN_at C j i hj hi
    have h3 : hdAt (C.map Prod.fst) j = C[j].1.hd := hdAt_some (by simp [hj])
    have h4 : kvOf C j = C[j].2 := by simp [kvOf, hj]
    have h5 : i < (nodeC C[j].1.hd C[j].2).size := hi
    rw [h3, h4]
    show _ = some ((cur[j * 9 + i]?).getD undef)
    rw [h1, h2, Array.getElem?_eq_getElem h5]
    rfl
theorem mk_start {lo : Nat} {w0 w1 : World} {gN n c gm gI gR gX : Nat} {C : List (Nd × Value)} (h : Made lo w0 (.slice (some ⟨gN, 0, none⟩) n c) C) (hn : C.length = n) (hb : Below w0.heap.size w0 w1)
    (hm : Cl w1 gm 96 #[.slice (some ⟨gN, 0, none⟩) n c, .slice (some ⟨gI, 0, none⟩) n n, .slice (some ⟨gR, 0, none⟩) n n, .slice (some ⟨gX, 0, none⟩) n n]) (hI : w1.rowIs gI 3 n (fun _ => .int .i64 0)) (hR : w1.rowIs gR 108 (n * 3) (fun _ => .int .i64 0)) (hX : w1.rowIs gX 3 n (fun _ => .int .i64 0)) (hd : [gm, gI, gR, gX].Nodup) (hge : ∀ b ∈ [gm, gI, gR, gX], w0.heap.size ≤ b) :
    Mk ⟨gm, gN, gI, gR, gX, n, c⟩ (kvOf C) 0 (stF (C.map Prod.fst) 0) w1 ∧ n ≤ c ∧ ∀ j (hj : j < (C.map Prod.fst).length), IntsOff (Gm.all ⟨gm, gN, gI, gR, gX, n, c⟩) w1 (kvOf C j) (C.map Prod.fst)[j].kids := by
  obtain ⟨h9, hnc, cs, hcs⟩ := nd9_made h hn
  have hlt := h9.lt
  have hmb := h.below hb
  refine ⟨⟨hm, ⟨kvOf C, ⟨fun _ _ => rfl, fun j => ?_⟩, h9.of_block (hb.block gN hlt)⟩, ?_, ?_, ?_, ?_⟩, hnc, fun j hj => ?_⟩
  · by_cases hj : j < C.length
    · obtain ⟨p, c', e⟩ := own_slice (h.kids C[j] (List.getElem_mem hj))
      exact ⟨p, C[j].1.kids.length, c', by rw [show kvOf C j = C[j].2 by simp [kvOf, hj], e]⟩
    · exact ⟨none, 0, 0, by simp [kvOf, hj]⟩
  · exact hI
  · obtain ⟨cells, h1, h2, h3⟩ := hR
    refine ⟨cells, h1, h2, fun j hj => ?_⟩
    rw [h3 j hj]
    simp [rwAt, stF]
  · exact hX
  · have h4 := fun b hb' => hge b hb'
    have hx : ∀ b ∈ [gm, gI, gR, gX], b ≠ gN := fun b hb' e => by have := hge b hb'; omega
    simp only [List.nodup_cons, List.mem_cons, List.not_mem_nil, or_false, not_or, not_false_eq_true, List.nodup_nil, and_true, and_self, forall_eq_or_imp, forall_eq] at hd hx ⊢
    obtain ⟨x1, x2, x3, x4⟩ := hx
    exact ⟨⟨x1, hd.1⟩, ⟨fun e => x2 e.symm, fun e => x3 e.symm, fun e => x4 e.symm⟩, hd.2⟩
  · have hj' : j < C.length := by simpa using hj
    have e1 : (C.map Prod.fst)[j] = C[j].1 := by simp
    have e2 : kvOf C j = C[j].2 := by simp [kvOf, hj']
    rw [e1, e2]
    have hk := h.kids C[j] (List.getElem_mem hj')
    rcases hk.2 with ⟨ev, h0⟩ | ⟨g, cap, cur, ev, hbb, hgg, rest⟩
    · have : C[j].1.kids = [] := List.eq_nil_of_length_eq_zero h0
      rw [ev, this]
      exact ⟨none, 0, rfl, .inl rfl⟩
    · rw [ev]
      refine ⟨some ⟨g, 0, none⟩, cap, rfl, .inr ⟨g, 0, rfl, ?_, fun q hq => ?_⟩⟩
      · have hgl : g < w0.heap.size := lt_of_block hgg
        simp only [Gm.all, List.mem_cons, List.not_mem_nil, or_false, not_or]
        simp only [List.mem_cons, List.not_mem_nil, or_false, forall_eq_or_imp, forall_eq] at hge
        obtain ⟨y1, y2, y3, y4⟩ := hge
        refine ⟨by omega, fun e => ?_, by omega, by omega, by omega⟩
        rw [e, hcs] at hgg
        simp at hgg
      · rw [Nat.zero_add]
        have hown : w1.ownsRow lo 3 1 (.slice (some ⟨g, 0, none⟩) C[j].1.kids.length cap) C[j].1.kids.length (C[j].1.kids.map (Value.int .i64)) := ev ▸ hmb.kids C[j] (List.getElem_mem hj')
        rw [hown.cellAt q (by omega)]
        simp [hq]
end Go.Proofs.YtpkjfdgjmcphmaaDoor

/- Package expr: Make. -/
namespace Go.Proofs.YtpkjfdgjmcphmaaDoor
open Go.RowKit Bset Tm

theorem kind_fits {h : Hd} {m : Int} (hf : fits h m = true) : h.kind < 10 := by
  unfold fits at hf
  split at hf <;> first | omega | cases hf
theorem made_some {lo : Nat} {w : World} {p : Option Addr} {n c : Nat} {C : List (Nd × Value)} (h : Made lo w (.slice p n c) C) (hn : 0 < C.length) : ∃ gN, p = some ⟨gN, 0, none⟩ := by
  rcases h.row.2 with ⟨e, h0⟩ | ⟨g, cap, cur, e, _⟩
  · omega
  · exact ⟨g, by simpa using (Value.slice.inj e).1⟩
theorem made_range {lo : Nat} {w : World} {gN n c : Nat} {C : List (Nd × Value)} (h : Made lo w (.slice (some ⟨gN, 0, none⟩) n c) C) : lo ≤ gN ∧ gN < w.heap.size := by
  rcases h.row.2 with ⟨e, h0⟩ | ⟨g, cap, cur, e, hb, hg, _⟩
  · cases e
  · obtain ⟨rfl, _, _⟩ : gN = g ∧ n = C.length ∧ c = cap := by simpa using e
    exact ⟨hb, lt_of_block hg⟩
noncomputable def madeT (T : Ar) : Ar := if rightB T = true then arOf (nrm (tree T)) else noAr

set_option maxRecDepth 100000 in
set_option maxHeartbeats 8000000 in
theorem make_any (v : Value) (T : Ar) (w : World) (hv : Tree w v T) (hok : OkA T.nodes) (hlen : T.nodes.length ≤ 1073741824) (hE : Env w) :
    Calls Tryd.prog 60 #[v] w fun e w' => ∃ v', e = .returned (.tuple #[v', .bool (rightB T)]) ∧ MadeT w.heap.size w' v' (madeT T) ∧ Below w.heap.size w w' := by
  obtain ⟨nv, rfl, hn⟩ := hv
  obtain ⟨p0, c0, rfl⟩ := hn.len
  have hcl := fun w h1 h2 => clean_at (treeV (.slice p0 T.nodes.length c0) T.root) T w h1 hok h2
  have b0 := ((Below.refl w.heap.size w).alloc (Nat.le_refl _) (.cells #[.slice p0 T.nodes.length c0, .int .i64 T.root] 26)).alloc (by simp) (.cells #[.slice none 0 0, .int .i64 0] 26)
  have k0 := (Cl.new w 26 #[.slice p0 T.nodes.length c0, .int .i64 T.root]).alloc (.cells #[.slice none 0 0, .int .i64 0] 26)
  have n0 : Cl ((w.alloc (.cells #[.slice p0 T.nodes.length c0, .int .i64 T.root] 26)).alloc (.cells #[.slice none 0 0, .int .i64 0] 26)) (w.heap.size + 1) 26 #[.slice none 0 0, .int .i64 0] := Cl.new' (by simp) _ _
  have hv0 : Tree ((w.alloc (.cells #[.slice p0 T.nodes.length c0, .int .i64 T.root] 26)).alloc (.cells #[.slice none 0 0, .int .i64 0] 26)) (treeV (.slice p0 T.nodes.length c0) T.root) T := ⟨_, rfl, hn.below b0⟩
  have hE0 := hE.below b0
  obtain ⟨⟨z0, z1⟩, zf⟩ := k0.two
  unfold cleanT at hcl
  unfold madeT
  cases hR : rightB T with
  | false =>
    rw [if_neg (by simp)]
    simp only [hR, Bool.false_eq_true, if_false, show noAr.nodes = [] from rfl, show noAr.root = 0 from rfl, List.length_nil] at hcl
    go_enter Tryd.func60, Tryd.ntmps60
    go_wp2_with (go_at_call 25; refine (hcl _ hv0 hE0).mono ?_; rintro e w1 ⟨p, c, C, rfl, hm, hC, hb⟩
                 have n1 := n0.below hb n0.lt
                 have b1 := b0.trans (hb.mono b0.size)
                 have n2 := n1.alloc (.cells #[.slice p 0 c, .int .i64 0] 26)
                 have b2 := b1.alloc b1.size (.cells #[.slice p 0 c, .int .i64 0] 26)
                 have q2 := Cl.new w1 26 #[.slice p 0 c, .int .i64 0]
                 obtain ⟨⟨y0, y1⟩, yf⟩ := q2.two
                 obtain ⟨⟨x0, x1⟩, xf⟩ := n2.two
                 clear hb k0 n0 b0)
    exact end_tree_bool (n2.put2 _ _) rfl rfl rfl rfl ⟨_, rfl, MadeT.none _ _, below_put2 b2 (by omega) _ _⟩
  | true =>
    have hRT := rightB_iff.1 hR
    rw [if_pos rfl]
    simp only [hR, if_true, show ∀ t, (arOf t).nodes = flat t from fun _ => rfl, show ∀ t, (arOf t).root = (size t : Int) - 1 from fun _ => rfl, flat_length] at hcl
    have hfit := hRT.fit
    have hsz := hRT.size
    have hpos := size_pos (tree T)
    have hkd : ∀ i (h : i < (flat (tree T)).length), (flat (tree T))[i].hd.kind < 10 := fun i h => kind_fits ((flat_right _ hfit).fit i _ (by simp [h]))
    have hlow := (flat_right _ hfit).low
    have hokc := ok_clean hok
    unfold cleanT at hokc
    rw [if_pos hR] at hokc
    have hkl := hokc.kids
    change ∀ n ∈ flat (tree T), _ at hkl
    clear hokc hn hR
    generalize tree T = t at *
    clear hok
    generalize T.nodes.length = n at *
    obtain ⟨m, hnm⟩ : ∃ m, m = n - 1 := ⟨_, rfl⟩
    have e1 : (n : Int) - 1 = (m : Int) := by omega
    simp only [hsz, e1] at hcl
    have HNM := Lib.hid hnm
    clear hnm e1
    generalize T.root = rt at *
    have hk0 : ∀ j (h : j < (flat t).length), ∀ k ∈ (flat t)[j].kids, 0 ≤ k := fun j h k hk => (hlow j _ (by simp [h]) k hk).1
    have hkl' : ∀ j (h : j < (flat t).length), (flat t)[j].kids.length ≤ 4294967296 := fun j h => hkl _ (List.getElem_mem h)
    have hfl : (flat t).length = n := by rw [flat_length, hsz]
    obtain ⟨⟨TT, hcome, hTT⟩, hrdy⟩ := made_good hfit
    have hok' : ∀ (g : Gm), g.n = n → ∀ i, i < (flat t).length → Gok g (stF (flat t) i) ((stF (flat t) i).hd i).kind (kidsN (flat t) i) := fun g hg i hi => by
      obtain ⟨ts, hr⟩ := hrdy i (by omega)
      refine gok_all hr (by omega) (by omega) fun k hk => ?_
      rw [kidsN_some (show (flat t)[i]? = some (flat t)[i] by simp [hi])] at hk
      obtain ⟨z, hz, rfl⟩ := List.mem_map.1 hk
      have := hlow i _ (by simp [hi]) z hz
      omega
    have hn0 : ((n : Int) == 0) = false := by simp; omega
    have HK := Lib.hid hkd
    have HL := Lib.hid hlow
    clear hkl hrdy hkd hlow
    go_enter Tryd.func60, Tryd.ntmps60
    go_wp2_with (first
      | (go_at_call 25; refine (hcl _ hv0 hE0).mono ?_; rintro e w1 ⟨p, c, C, rfl, hm, hC, hb⟩
         obtain ⟨gN, rfl⟩ : ∃ gN, p = some ⟨gN, 0, none⟩ := made_some hm (by rw [show C.length = n from by rw [← hfl, ← hC, List.length_map]]; omega)
         have hgN := made_range hm
         have hE1 : w.heap.size + 1 < w1.heap.size := (n0.below hb n0.lt).lt
         have n1 := n0.below hb n0.lt
         have b1 := b0.trans (hb.mono b0.size)
         have n2 := n1.alloc (.cells #[.slice (some ⟨gN, 0, none⟩) n c, .int .i64 m] 26)
         have b2 := b1.alloc b1.size (.cells #[.slice (some ⟨gN, 0, none⟩) n c, .int .i64 m] 26)
         have q2 := Cl.new w1 26 #[.slice (some ⟨gN, 0, none⟩) n c, .int .i64 m]
         have m2 := hm.below ((Below.refl _ _).alloc (Nat.le_refl _) (.cells #[.slice (some ⟨gN, 0, none⟩) n c, .int .i64 m] 26))
         have hCl : C.length = n := by rw [← hfl, ← hC, List.length_map]
         obtain ⟨⟨y0, y1⟩, yf⟩ := q2.two
         clear hb k0 n0 b0 hm n1 b1 hv0 hE0 hcl)
      | (go_at_call 91; refine (newMaker_any gN n c _ (by omega)).mono ?_; rintro e w3 ⟨gm, gI, gR, gX, rfl, hcm, hrI, hrR, hrX, hnd, hge, hb3⟩
         obtain ⟨mk, hnc, hio⟩ := mk_start m2 hCl hb3 hcm hrI hrR hrX hnd hge
         rw [hC] at mk hio
         have n3 := n2.below hb3 n2.lt
         have q3 := q2.below hb3 q2.lt
         have b3 := b2.trans (hb3.mono b2.size)
         clear hcm hrI hrR hrX hnd)
      | (go_at_call 92; refine (come_any (flat t) ⟨gm, gN, gI, gR, gX, n, c⟩ (kvOf C) _ mk hfl.symm (show n ≤ _ by omega) hio hk0 hkl' (hok' _ rfl) HK.out).mono ?_; rintro e w4 ⟨rfl, mk4, f4⟩
         rw [hfl] at mk4
         simp only [World.size_alloc] at hgN hge
         simp only [List.mem_cons, List.not_mem_nil, or_false, forall_eq_or_imp, forall_eq] at hge
         obtain ⟨y1, y2, y3, y4⟩ := hge
         have n4 := f4.cl n3 (by simp only [List.mem_cons, List.not_mem_nil, or_false, not_or]; omega)
         have q4 := f4.cl q3 (by simp only [List.mem_cons, List.not_mem_nil, or_false, not_or]; omega)
         have b4 := f4.toBelow b3 (fun b hb => by simp only [List.mem_cons, List.not_mem_nil, or_false] at hb; omega) b3.size
         have hln4 := n4.lt
         clear n3 q3 b3 f4 n2 b2 q2 m2 hC hCl mk hio hb3))
    have hcell : w4.cell? ⟨gI, m, none⟩ = some (.int .i64 ((stF (flat t) n).is m : Nat)) := by rw [mk4.is.cell (show m < n by have := HNM.out; omega)]
    rw [hsz, ← HNM.out] at hcome
    rw [hcome.is] at hcell
    have htop : top TT < n := by have := hTT _ (top_post TT); omega
    have hmt := fun W (h : Mk ⟨gm, gN, gI, gR, gX, n, c⟩ (kvOf C) n (stF (flat t) n) W) => mtree_any _ _ _ _ (top TT) (post TT) W h htop (show n ≤ _ by omega) hnc (cls_made hcome.rd hcome.srt) hcome.srt (fun x hx => by
      have h1 := rd_many _ TT hcome.rd x hx
      have h2 := Tm.srt_len (post TT) 0 n hcome.srt (fun x hx => ⟨Nat.zero_le _, by have := hTT x hx; omega⟩) (Nat.zero_le _)
      omega)
    have hm0 : (0 : Int) ≤ (m : Int) := by omega
    have hm1 : (m : Int) < (n : Int) := by have := HNM.out; omega
    have hcell5 : w4.drew.cell? ⟨gI, m, none⟩ = some (.int .i64 ((top TT : Nat) : Int)) := hcell
    have mk5 := mk4.drew
    have q5 := q4.drew
    have n5 := n4.drew
    have b5 := b4.drew
    obtain ⟨m0, m1, m2, m3⟩ := mk4.four
    obtain ⟨⟨x0, x1⟩, xf⟩ := q4.two
    go_still_tail 9, (by kernel_rfl)
    change wpList _ _ _ _ _ w4.drew
    clear m0 m1 m2 m3 x0 x1 xf mk4 q4 n4 b4 hcell
    generalize w4.drew = w5 at *
    obtain ⟨m0, m1, m2, m3⟩ := mk5.four
    obtain ⟨⟨x0, x1⟩, xf⟩ := q5.two
    go_wp2_with (go_at_call 93; refine (hmt w5 mk5).mono ?_; rintro e w6 ⟨vv, CC, rfl, hM, hCC, hb6⟩
                 obtain ⟨pv, cv, rfl⟩ := own_slice hM.row
                 have n6 := n5.below hb6 n5.lt
                 have b6 := b5.trans (hb6.mono b5.size)
                 obtain ⟨⟨z0, z1⟩, zf⟩ := n6.two
                 clear hb6)
    have htm := tree_made hcome
    rw [htm.1] at hCC
    refine end_tree_bool (n6.put2 _ _) rfl rfl rfl rfl ⟨_, rfl, ⟨.slice pv CC.length cv, CC, ?_, (hM.mono b5.size).ty n6 (by decide) (by decide) (gb_put2 w6 _ _ _), hCC⟩, below_put2 b6 (by omega) _ _⟩
    rw [htm.2]
    rfl
end Go.Proofs.YtpkjfdgjmcphmaaDoor

/- Package expr: over, together, Seq, Choice. -/
namespace Go.Proofs.YtpkjfdgjmcphmaaDoor
open Go.RowKit Bset Tm

theorem total_mem {l : List Ar} {t : Ar} (h : t ∈ l) : t.nodes.length ≤ total l := by
  induction l with
  | nil => cases h
  | cons a l ih =>
    have e : total (a :: l) = a.nodes.length + total l := by simp [total]
    rcases List.mem_cons.1 h with rfl | h
    · omega
    · have := ih h
      omega
theorem ok_of {h : Hd} {l : List Ar} (hh : okP h 0) (hok : ∀ t ∈ l, OkA t.nodes) (htot : total l ≤ 1000000000) (hll : l.length ≤ 1000000000) : OkA (ofT h l).nodes ∧ (ofT h l).nodes.length ≤ total l + 1 := by
  unfold ofT
  cases hB : ofB h l with
  | false =>
    rw [if_neg (by simp)]
    exact ⟨okA_iff.2 ⟨by simp [noAr], fun n hn => by simp [noAr] at hn⟩, by simp [noAr]⟩
  | true =>
    rw [if_pos rfl]
    have hr : ∀ t ∈ l, RightT t := fun t ht => rightB_iff.1 (by
      unfold ofB at hB
      rw [Bool.and_eq_true, List.all_eq_true] at hB
      exact hB.2 t ht)
    have hs : size (.mk h (l.map tree)) = total l + 1 := by rw [size, sizes_total hr]
    refine ⟨ok_arOf ?_ (by omega), by simp only [arOf, flat_length]; omega⟩
    rw [Tm.allT]
    refine ⟨⟨hh.1, hh.2.1, by simp; omega⟩, Tm.allTs_iff.2 fun x hx => ?_⟩
    obtain ⟨t, ht, rfl⟩ := List.mem_map.1 hx
    exact ok_tree (hr t ht) (hok t ht)
theorem right_of {h : Hd} {l : List Ar} : rightB (ofT h l) = ofB h l := by
  cases hB : ofB h l with
  | false =>
    unfold ofT
    rw [hB, if_neg (by simp)]
    exact noAr_right
  | true =>
    have hr : ∀ t ∈ l, RightT t := fun t ht => rightB_iff.1 (by
      unfold ofB at hB
      rw [Bool.and_eq_true, List.all_eq_true] at hB
      exact hB.2 t ht)
    unfold ofT
    rw [hB, if_pos rfl]
    refine rightB_iff.2 (arOf_right (fit_mk' ?_ fun k hk => ?_))
    · unfold ofB at hB
      rw [Bool.and_eq_true] at hB
      rw [List.length_map]
      exact hB.1
    · obtain ⟨t, ht, rfl⟩ := List.mem_map.1 hk
      exact (hr t ht).fit

set_option maxRecDepth 100000 in
set_option maxHeartbeats 8000000 in
theorem over_any (h : Hd) (kv lv : Value) (l : List Ar) (w : World) (hl : Trees w lv l) (hh : okP h 0) (hok : ∀ t ∈ l, OkA t.nodes) (htot : total l ≤ 1000000000) (hll : l.length ≤ 1000000000) (hE : Env w) :
    Calls Tryd.prog 103 #[nodeV h kv, lv] w fun e w' => ∃ v, e = .returned (.tuple #[v, .bool (ofB h l)]) ∧ MadeT w.heap.size w' v (madeT (ofT h l)) ∧ Below w.heap.size w w' := by
  have hof := fun W (h1 : Trees W lv l) (h2 : Env W) => of_any h kv lv l W h1 hh hok (by omega) (by omega) h2
  obtain ⟨hoko, hlo⟩ := ok_of hh hok htot hll
  have hmk := fun v W (h1 : Tree W v (ofT h l)) (h2 : Env W) => make_any v (ofT h l) W h1 hoko (by omega) h2
  rw [right_of] at hmk
  have b0 := ((Below.refl w.heap.size w).alloc (Nat.le_refl _) (.cells (nodeC h kv) 38)).alloc (by simp) (.cells #[.slice none 0 0, .int .i64 0] 26)
  have k0 := (Cl.new w 38 (nodeC h kv)).alloc (.cells #[.slice none 0 0, .int .i64 0] 26)
  have n0 : Cl ((w.alloc (.cells (nodeC h kv) 38)).alloc (.cells #[.slice none 0 0, .int .i64 0] 26)) (w.heap.size + 1) 26 #[.slice none 0 0, .int .i64 0] := Cl.new' (by simp) _ _
  have hE0 := hE.below b0
  have hl0 := hl.below ((Below.refl w.heap.size w).alloc (Nat.le_refl _) (.cells (nodeC h kv) 38))
  have hl1 := hl0.below ((Below.refl _ (w.alloc (.cells (nodeC h kv) 38))).alloc (Nat.le_refl _) (.cells #[.slice none 0 0, .int .i64 0] 26))
  obtain ⟨⟨z0, z1, z2, z3, z4, z5, z6, z7, z8⟩, zf⟩ := k0.nine
  obtain ⟨T, hT⟩ : ∃ T, T = ofT h l := ⟨_, rfl⟩
  obtain ⟨B, hB⟩ : ∃ B, B = ofB h l := ⟨_, rfl⟩
  rw [← hT, ← hB] at hmk ⊢
  rw [← hT, ← hB] at hof
  clear hl hl0 hoko hlo hT hB
  go_enter Tryd.func103, Tryd.ntmps103
  go_wp2_with (first
    | (go_at_call 16; refine (hof _ hl1 hE0).mono ?_; rintro e w1 ⟨v, rfl, ⟨nv, C, rfl, hm, hC⟩, hb⟩
       obtain ⟨p, c, rfl⟩ := own_slice hm.row
       have n1 := (n0.below hb n0.lt).alloc (.cells #[.slice p C.length c, .int .i64 T.root] 26)
       have b1 := (b0.trans (hb.mono b0.size)).alloc (b0.trans (hb.mono b0.size)).size (.cells #[.slice p C.length c, .int .i64 T.root] 26)
       have q1 := Cl.new w1 26 #[.slice p C.length c, .int .i64 T.root]
       have m1 : Tree (w1.alloc (.cells #[.slice p C.length c, .int .i64 T.root] 26)) (treeV (.slice p C.length c) T.root) T := ⟨_, rfl, hC ▸ (hm.below ((Below.refl _ _).alloc (Nat.le_refl _) (.cells #[.slice p C.length c, .int .i64 T.root] 26))).nodes⟩
       have hE1 := hE.below b1
       obtain ⟨⟨y0, y1⟩, yf⟩ := q1.two
       clear hb k0 n0 b0 hE0 hl1)
    | (go_at_call 60; refine (hmk _ _ m1 hE1).mono ?_; rintro e w3 ⟨v, rfl, ⟨nv, C3, rfl, hm3, hC3⟩, hb3⟩
       obtain ⟨p3, c3, rfl⟩ := own_slice hm3.row
       have n3 := n1.below hb3 n1.lt
       have b3 := b1.trans (hb3.mono b1.size)
       have b1s := b1.size
       obtain ⟨⟨x0, x1⟩, xf⟩ := n3.two
       clear hb3))
  exact end_tree_bool (n3.put2 _ _) rfl rfl rfl rfl ⟨_, rfl, ⟨.slice p3 C3.length c3, C3, rfl, (hm3.mono b1s).ty n3 (by decide) (by decide) (gb_put2 w3 _ _ _), hC3⟩, below_put2 b3 (by omega) _ _⟩
end Go.Proofs.YtpkjfdgjmcphmaaDoor

/- bonsailaw04: TreeBack, its parts. -/
namespace Go.Proofs.YtpkjfdgjmcphmaaDoor
open Go.RowKit Bset Tm

theorem fit_mk {h : Hd} {l : List Ar} (hB : ofB h l = true) : fitT (.mk h (l.map tree)) = true := by
  unfold ofB at hB
  rw [Bool.and_eq_true, List.all_eq_true] at hB
  rw [fitT, Bool.and_eq_true, List.length_map]
  refine ⟨hB.1, fitTs_iff.2 fun t ht => ?_⟩
  obtain ⟨x, hx, rfl⟩ := List.mem_map.1 ht
  exact (rightB_iff.1 (hB.2 x hx)).fit
theorem ofT_eq {h : Hd} {l : List Ar} (hB : ofB h l = true) : ofT h l = arOf (.mk h (l.map tree)) := by
  unfold ofT
  rw [if_pos hB]
theorem arOf_rightB {t : RT Hd} (h : fitT t = true) : rightB (arOf t) = true := rightB_iff.2 (arOf_right h)
theorem arOf_clean {t : RT Hd} (h : fitT t = true) : cleanT (arOf t) = arOf t := by
  unfold cleanT
  rw [if_pos (arOf_rightB h), tree_arOf]
theorem arOf_kids {t : RT Hd} (h : fitT t = true) : kidsT (arOf t) = (kidsR t).map arOf := by
  unfold kidsT
  rw [if_pos (arOf_rightB h), tree_arOf]
theorem arOf_root {t : RT Hd} (h : fitT t = true) : rootT (arOf t) = top t := by
  unfold rootT
  rw [if_pos (arOf_rightB h), tree_arOf]
theorem arOf_size {t : RT Hd} (h : fitT t = true) : sizeT (arOf t) = size t := by
  unfold sizeT
  rw [if_pos (arOf_rightB h)]
  simp [arOf, flat_length]
theorem arOf_deep {t : RT Hd} (h : fitT t = true) : deepT (arOf t) = deep t := by
  unfold deepT
  rw [if_pos (arOf_rightB h), tree_arOf]

noncomputable def okB (h : Hd) (l : List Ar) (i : Nat) : Bool := fits h l.length && (l.take i).all rightB
theorem okB_zero (h : Hd) (l : List Ar) : okB h l 0 = fits h l.length := by simp [okB]
theorem okB_next {h : Hd} {l : List Ar} {i : Nat} (hi : i < l.length) : okB h l (i + 1) = (okB h l i && rightB l[i]) := by
  unfold okB
  rw [List.take_succ_eq_append_getElem hi, List.all_append]
  simp [Bool.and_assoc]
theorem okB_all (h : Hd) (l : List Ar) : okB h l l.length = ofB h l := by
  unfold okB ofB
  rw [List.take_of_length_le (Nat.le_refl _)]
noncomputable def szs (l : List Ar) : Nat := (l.map sizeT).sum
noncomputable def dps : List Ar → Nat
  | [] => 0
  | t :: l => max (deepT t) (dps l)
theorem dps_append (a b : List Ar) : dps (a ++ b) = max (dps a) (dps b) := by
  induction a with
  | nil => simp [dps]
  | cons t a ih => simp only [List.cons_append, dps, ih]; omega
theorem sizeT_le (t : Ar) : sizeT t ≤ t.nodes.length := by
  unfold sizeT
  split <;> omega
theorem deepT_le (t : Ar) : deepT t ≤ t.nodes.length := by
  unfold deepT
  split
  · rename_i h
    exact deep_le_n (rightB_iff.1 h)
  · omega
theorem szs_next {l : List Ar} {i : Nat} (hi : i < l.length) : szs (l.take (i + 1)) = szs (l.take i) + sizeT l[i] := by
  unfold szs
  rw [List.take_succ_eq_append_getElem hi, List.map_append, List.sum_append]
  simp
theorem dps_next {l : List Ar} {i : Nat} (hi : i < l.length) : dps (l.take (i + 1)) = max (dps (l.take i)) (deepT l[i]) := by
  rw [List.take_succ_eq_append_getElem hi, dps_append]
  simp [dps]
theorem szs_le (l : List Ar) : szs l ≤ total l := by
  unfold szs total
  induction l with
  | nil => simp
  | cons t l ih =>
    have := sizeT_le t
    simp only [List.map_cons, List.sum_cons]
    omega
theorem dps_le (l : List Ar) : dps l ≤ total l := by
  induction l with
  | nil => simp [dps]
  | cons t l ih =>
    have := deepT_le t
    unfold total at ih ⊢
    simp only [List.map_cons, List.sum_cons, dps]
    omega
theorem total_le_cnt (l : List Ar) : total l + l.length = cnt l := by
  unfold total cnt
  induction l with
  | nil => rfl
  | cons t l ih =>
    simp only [List.map_cons, List.sum_cons, List.length_cons]
    omega
theorem total_take_le (l : List Ar) (i : Nat) : total (l.take i) ≤ total l := by
  have h2 := List.take_append_drop i l
  have h3 : total l = total (l.take i) + total (l.drop i) := by
    unfold total
    rw [← List.sum_append, ← List.map_append, h2]
  omega
theorem szs_sizes {l : List Ar} (h : ∀ t ∈ l, rightB t = true) : szs l = sizes (l.map tree) := by
  induction l with
  | nil => rfl
  | cons t l ih =>
    have h1 := h t (by simp)
    have : sizeT t = size (tree t) := by rw [(rightB_iff.1 h1).size, sizeT, if_pos h1]
    rw [List.map_cons, sizes, ← ih (fun x hx => h x (by simp [hx])), ← this]
    simp [szs]
theorem dps_deeps {l : List Ar} (h : ∀ t ∈ l, rightB t = true) : dps l = deeps (l.map tree) := by
  induction l with
  | nil => rfl
  | cons t l ih =>
    have h1 := h t (by simp)
    have : deepT t = deep (tree t) := by rw [deepT, if_pos h1]
    rw [List.map_cons, deeps, ← ih (fun x hx => h x (by simp [hx])), ← this, dps]
theorem ofB_all {h : Hd} {l : List Ar} (hB : ofB h l = true) : ∀ t ∈ l, rightB t = true := by
  unfold ofB at hB
  rw [Bool.and_eq_true, List.all_eq_true] at hB
  exact hB.2
theorem of_size {h : Hd} {l : List Ar} (hB : ofB h l = true) : sizeT (ofT h l) = 1 + szs l := by
  rw [ofT_eq hB, arOf_size (fit_mk hB), szs_sizes (ofB_all hB), size, Nat.add_comm]
theorem of_deep {h : Hd} {l : List Ar} (hB : ofB h l = true) : deepT (ofT h l) = dps l + 1 := by
  rw [ofT_eq hB, arOf_deep (fit_mk hB), dps_deeps (ofB_all hB), deep]
theorem of_right {h : Hd} {l : List Ar} (hB : ofB h l = true) : rightB (ofT h l) = true := by rw [ofT_eq hB]; exact arOf_rightB (fit_mk hB)
theorem of_clean {h : Hd} {l : List Ar} (hB : ofB h l = true) : cleanT (ofT h l) = ofT h l := by rw [ofT_eq hB]; exact arOf_clean (fit_mk hB)
theorem of_root {h : Hd} {l : List Ar} (hB : ofB h l = true) : rootT (ofT h l) = h := by rw [ofT_eq hB, arOf_root (fit_mk hB)]; rfl
theorem of_kids {h : Hd} {l : List Ar} (hB : ofB h l = true) : kidsT (ofT h l) = l.map fun t => arOf (tree t) := by
  rw [ofT_eq hB, arOf_kids (fit_mk hB)]
  simp [kidsR]
theorem allT_mk {P : Hd → Nat → Prop} {h : Hd} {ks : List (RT Hd)} (h1 : P h ks.length) (h2 : ∀ t ∈ ks, allT P t) : allT P (.mk h ks) := by
  rw [allT]
  exact ⟨h1, allTs_iff.2 h2⟩
theorem of_ok {h : Hd} {l : List Ar} (hh : okP h 0) (hok : ∀ t ∈ l, OkA t.nodes) (hs : total l + 1 ≤ 4294967296) (hl : l.length ≤ 4294967296) : OkA (ofT h l).nodes := by
  unfold ofT
  split
  · rename_i hB
    refine ok_arOf (allT_mk ⟨hh.1, hh.2.1, by simpa using hl⟩ fun t ht => ?_) ?_
    · obtain ⟨x, hx, rfl⟩ := List.mem_map.1 ht
      exact ok_tree (rightB_iff.1 (ofB_all hB x hx)) (hok x hx)
    · rw [size, sizes_total fun t ht => rightB_iff.1 (ofB_all hB t ht)]
      exact hs
  · exact okA_iff.2 ⟨by simp [noAr], fun n hn => by simp [noAr] at hn⟩
theorem same_arOf {t : Ar} (h : rightB t = true) : sameT (arOf (tree t)) t = true :=
  same_iff.2 ⟨arOf_rightB (rightB_iff.1 h).fit, h, tree_arOf _⟩

/- Root and Kids of a tree, put together again. -/
theorem kids_none {T : Ar} (h : rightB T = false) : kidsT T = [] := by
  unfold kidsT
  rw [if_neg (by rw [h]; decide)]
theorem mem_kids {T : Ar} (h : rightB T = true) {x : Ar} (hx : x ∈ kidsT T) : ∃ t ∈ kidsR (tree T), x = arOf t := by
  unfold kidsT at hx
  rw [if_pos h] at hx
  obtain ⟨t, ht, rfl⟩ := List.mem_map.1 hx
  exact ⟨t, ht, rfl⟩
theorem size_mem {ts : List (RT Hd)} {t : RT Hd} (h : t ∈ ts) : size t ≤ sizes ts := by
  rw [sizes_eq]
  have key : ∀ {l : List Nat} {x : Nat}, x ∈ l → x ≤ l.sum := by
    intro l
    induction l with
    | nil => intro x h; cases h
    | cons a l ih =>
      intro x h
      rw [List.sum_cons]
      rcases List.mem_cons.1 h with rfl | h
      · omega
      · have := ih h
        omega
  exact key (List.mem_map.2 ⟨t, h, rfl⟩)
theorem tree_eta (t : RT Hd) : t = .mk (top t) (kidsR t) := by cases t; rfl
theorem kids_ok {T : Ar} (hok : OkA T.nodes) : ∀ x ∈ kidsT T, OkA x.nodes := by
  intro x hx
  cases hR : rightB T with
  | false => rw [kids_none hR] at hx; cases hx
  | true =>
    obtain ⟨t, ht, rfl⟩ := mem_kids hR hx
    have h1 := ok_tree (rightB_iff.1 hR) hok
    have h2 := (rightB_iff.1 hR).size
    rw [tree_eta (tree T), allT] at h1
    rw [tree_eta (tree T), size] at h2
    exact ok_arOf (allTs_iff.1 h1.2 t ht) (by have := size_mem ht; have := hok.len; omega)
theorem kids_total {T : Ar} : total (kidsT T) ≤ T.nodes.length ∧ (kidsT T).length ≤ T.nodes.length := by
  cases hR : rightB T with
  | false => rw [kids_none hR]; simp [total]
  | true =>
    have h2 := (rightB_iff.1 hR).size
    rw [tree_eta (tree T), size] at h2
    have h3 : total (kidsT T) = sizes (kidsR (tree T)) := by
      unfold kidsT total
      rw [if_pos hR, sizes_eq, List.map_map]
      congr 1
      refine List.map_congr_left fun t _ => ?_
      simp [arOf, flat_length]
    have h4 : (kidsT T).length = (kidsR (tree T)).length := by
      unfold kidsT
      rw [if_pos hR, List.length_map]
    have := sizes_len (kidsR (tree T))
    omega
theorem root_ok {T : Ar} (hok : OkA T.nodes) : okP (rootT T) 0 := by
  unfold rootT
  cases hR : rightB T with
  | false =>
    rw [if_neg (by decide)]
    exact ⟨by decide, by decide, by omega⟩
  | true =>
    have h1 := ok_tree (rightB_iff.1 hR) hok
    rw [tree_eta (tree T), allT] at h1
    rw [if_pos rfl]
    exact ⟨h1.1.1, h1.1.2.1, by omega⟩
theorem back_of {T : Ar} (hR : rightB T = true) : ofB (rootT T) (kidsT T) = true ∧ ofT (rootT T) (kidsT T) = arOf (tree T) := by
  have hf := (rightB_iff.1 hR).fit
  have hk : (kidsT T).map tree = kidsR (tree T) := by
    unfold kidsT
    rw [if_pos hR, List.map_map]
    conv => rhs; rw [← List.map_id (kidsR (tree T))]
    exact List.map_congr_left fun t _ => tree_arOf t
  have hr : rootT T = top (tree T) := by unfold rootT; rw [if_pos hR]
  have hB : ofB (rootT T) (kidsT T) = true := by
    rw [tree_eta (tree T), fitT, Bool.and_eq_true] at hf
    unfold ofB
    rw [Bool.and_eq_true, List.all_eq_true, hr]
    refine ⟨by rw [← hk, List.length_map] at hf; exact hf.1, fun x hx => ?_⟩
    obtain ⟨t, ht, rfl⟩ := mem_kids hR hx
    exact arOf_rightB (fitTs_iff.1 hf.2 t ht)
  refine ⟨hB, ?_⟩
  rw [ofT_eq hB, hk, hr, ← tree_eta]
theorem back_same {T : Ar} (hR : rightB T = true) : sameT (ofT (rootT T) (kidsT T)) T = true := by
  rw [(back_of hR).2]
  exact same_arOf hR
end Go.Proofs.YtpkjfdgjmcphmaaDoor

/- bonsailaw04: TreeBack: what lies where. -/
namespace Go.Proofs.YtpkjfdgjmcphmaaDoor
open Go.RowKit Bset Tm

theorem node_fresh {w : World} {h : Hd} {kv : Value} {ks : List Int} (hk : Ints w kv ks) : Nodes (w.alloc (.cells (nodeC h kv) 38)) (.slice (some ⟨w.heap.size, 0, none⟩) 1 1) [⟨h, ks⟩] := by
  have hc := Cl.new w 38 (nodeC h kv)
  have hk' := hk.below ((Below.refl _ _).alloc (Nat.le_refl _) (.cells (nodeC h kv) 38))
  refine ⟨_, 1, rfl, .inr ⟨w.heap.size, 0, rfl, fun j hj => ?_⟩⟩
  have : j = 0 := by simp at hj; omega
  subst this
  exact ⟨kv, ⟨hc.cell 0, hc.cell 1, hc.cell 2, hc.cell 3, hc.cell 4, hc.cell 5, hc.cell 6, hc.cell 7, hc.cell 8⟩, hk'⟩
theorem node_tree {w : World} {h : Hd} {kv : Value} {ks : List Int} (hk : Ints w kv ks) : Tree (w.alloc (.cells (nodeC h kv) 38)) (treeV (.slice (some ⟨w.heap.size, 0, none⟩) 1 1) 0) ⟨[⟨h, ks⟩], 0⟩ := ⟨_, rfl, node_fresh hk⟩
theorem ints_none (w : World) (p : Option Addr) (c : Nat) : Ints w (.slice p 0 c) [] := ⟨p, c, rfl, .inl rfl⟩

/-- The boxes that were handed in: a node, a tree. -/
structure Tq (w : World) (cN cT : Array Value) (W : World) : Prop where
  b : Below w.heap.size w W
  kn : Cl W w.heap.size 38 cN
  kt : Cl W (w.heap.size + 1) 26 cT
section
variable {w W W' : World} {cN cT : Array Value}
theorem Tq.below (h : Tq w cN cT W) (hb : Below W.heap.size W W') : Tq w cN cT W' := ⟨h.b.trans (hb.mono h.b.size), h.kn.below hb h.kn.lt, h.kt.below hb h.kt.lt⟩
theorem Tq.alloc (h : Tq w cN cT W) (o : Obj) : Tq w cN cT (W.alloc o) := h.below ((Below.refl _ _).alloc (Nat.le_refl _) o)
theorem Tq.drew (h : Tq w cN cT W) : Tq w cN cT W.drew := ⟨h.b.drew, h.kn, h.kt⟩
theorem Tq.big (h : Tq w cN cT W) : w.heap.size + 2 ≤ W.heap.size := by
  have := h.kt.lt
  omega
theorem Tq.put (h : Tq w cN cT W) {g : Nat} (hg : w.heap.size + 2 ≤ g) (u0 u1 : Value) : Tq w cN cT ((W.setCell ⟨g, 0, none⟩ u0).setCell ⟨g, 1, none⟩ u1) :=
  ⟨below_put2 h.b (by omega) u0 u1, (h.kn.other (p := ⟨g, 0, none⟩) (by simp; omega) u0).other (p := ⟨g, 1, none⟩) (by simp; omega) u1, (h.kt.other (p := ⟨g, 0, none⟩) (by simp; omega) u0).other (p := ⟨g, 1, none⟩) (by simp; omega) u1⟩
theorem Tq.start (w : World) (cN cT : Array Value) : Tq w cN cT ((w.alloc (.cells cN 38)).alloc (.cells cT 26)) :=
  ⟨((Below.refl _ w).alloc (Nat.le_refl _) _).alloc (by simp) _, (Cl.new w _ _).alloc _, Cl.new' (by simp) _ _⟩
end
theorem Tq.nil {w W : World} {h : Hd} {kv : Value} {cT : Array Value} (q : Tq w (nodeC h kv) cT W) : Tq w (nodeC h (.slice none 0 0)) cT (W.setCell ⟨w.heap.size, 8, none⟩ (.slice none 0 0)) :=
  ⟨q.b.setCell (p := ⟨w.heap.size, 8, none⟩) (Nat.le_refl _) _, q.kn.put 8 _, q.kt.other (p := ⟨w.heap.size, 8, none⟩) (by simp) _⟩
/-- .. and the tree that the statement has made. -/
structure T3 (w : World) (cN cT : Array Value) (gX : Nat) (vX : Value) (rX : Int) (C : List (Nd × Value)) (W : World) : Prop where
  q : Tq w cN cT W
  kx : Cl W gX 26 #[vX, .int .i64 rX]
  mx : Made (w.heap.size + 2) W vX C
  ne : w.heap.size + 2 ≤ gX
theorem T3.tree {w W : World} {cN cT : Array Value} {gX : Nat} {vX : Value} {X : Ar} {C : List (Nd × Value)} (h : T3 w cN cT gX vX X.root C W) (hC : C.map Prod.fst = X.nodes) : Tree W (treeV vX X.root) X :=
  ⟨_, rfl, hC ▸ h.mx.nodes⟩
theorem T3.below {w W W' : World} {cN cT : Array Value} {gX : Nat} {vX : Value} {rX : Int} {C : List (Nd × Value)} (h : T3 w cN cT gX vX rX C W) (hb : Below W.heap.size W W') : T3 w cN cT gX vX rX C W' :=
  ⟨h.q.below hb, h.kx.below hb h.kx.lt, h.mx.below hb, h.ne⟩
theorem T3.alloc {w W : World} {cN cT : Array Value} {gX : Nat} {vX : Value} {rX : Int} {C : List (Nd × Value)} (h : T3 w cN cT gX vX rX C W) (o : Obj) : T3 w cN cT gX vX rX C (W.alloc o) := h.below ((Below.refl _ _).alloc (Nat.le_refl _) o)
theorem T3.drew {w W : World} {cN cT : Array Value} {gX : Nat} {vX : Value} {rX : Int} {C : List (Nd × Value)} (h : T3 w cN cT gX vX rX C W) : T3 w cN cT gX vX rX C W.drew :=
  ⟨h.q.drew, h.kx, h.mx.keep fun _ _ _ => rfl, h.ne⟩
theorem T3.nil {w W : World} {h : Hd} {kv : Value} {cT : Array Value} {gX : Nat} {vX : Value} {rX : Int} {C : List (Nd × Value)} (t : T3 w (nodeC h kv) cT gX vX rX C W) : T3 w (nodeC h (.slice none 0 0)) cT gX vX rX C (W.setCell ⟨w.heap.size, 8, none⟩ (.slice none 0 0)) :=
  ⟨t.q.nil, t.kx.other (p := ⟨w.heap.size, 8, none⟩) (by have := t.ne; simp; omega) _, t.mx.store (p := ⟨w.heap.size, 8, none⟩) (by simp) _, t.ne⟩
theorem T3.S {w W : World} {h : Hd} {kv : Value} {cT : Array Value} {gX : Nat} {vX : Value} {rX : Int} {C : List (Nd × Value)} (t : T3 w (nodeC h kv) cT gX vX rX C W) :
    W.cell? ⟨w.heap.size, 0, none⟩ = some (.int .u8 h.kind) ∧ W.cell? ⟨w.heap.size, 1, none⟩ = some (.int .u64 (word (setN h.set) 0 : Nat)) ∧ W.cell? ⟨w.heap.size, 2, none⟩ = some (.int .u64 (word (setN h.set) 1 : Nat)) ∧ W.cell? ⟨w.heap.size, 3, none⟩ = some (.int .u64 (word (setN h.set) 2 : Nat)) ∧ W.cell? ⟨w.heap.size, 4, none⟩ = some (.int .u64 (word (setN h.set) 3 : Nat)) ∧
      W.cell? ⟨w.heap.size, 5, none⟩ = some (.string h.text) ∧ W.cell? ⟨w.heap.size, 6, none⟩ = some (.int .i64 h.lo) ∧ W.cell? ⟨w.heap.size, 7, none⟩ = some (.int .i64 h.hi) ∧ W.cell? ⟨w.heap.size, 8, none⟩ = some kv ∧ W.cell? ⟨gX, 0, none⟩ = some vX ∧ W.cell? ⟨gX, 1, none⟩ = some (.int .i64 rX) :=
  ⟨t.q.kn.cell 0, t.q.kn.cell 1, t.q.kn.cell 2, t.q.kn.cell 3, t.q.kn.cell 4, t.q.kn.cell 5, t.q.kn.cell 6, t.q.kn.cell 7, t.q.kn.cell 8, t.kx.cell 0, t.kx.cell 1⟩
theorem Tq.S {w W : World} {cN : Array Value} {v0 v1 : Value} (t : Tq w cN #[v0, v1] W) : W.cell? ⟨w.heap.size + 1, 0, none⟩ = some v0 ∧ W.cell? ⟨w.heap.size + 1, 1, none⟩ = some v1 :=
  ⟨t.kt.cell 0, t.kt.cell 1⟩
/-- Of, as its value stands. -/
theorem of_at (h : Hd) (kv lv : Value) (l : List Ar) (w : World) (hl : Trees w lv l) (hh : okP h 0) (hok : ∀ t ∈ l, OkA t.nodes) (htot : total l ≤ 1073741824) (hll : l.length ≤ 1073741824) (hE : Env w) :
    Calls Tryd.prog 16 #[nodeV h kv, lv] w fun e w' => ∃ p c C, e = .returned (.tuple #[treeV (.slice p (ofT h l).nodes.length c) (ofT h l).root, .bool (ofB h l)]) ∧ Made w.heap.size w' (.slice p (ofT h l).nodes.length c) C ∧ C.map Prod.fst = (ofT h l).nodes ∧ Below w.heap.size w w' := by
  refine (of_any h kv lv l w hl hh hok htot hll hE).mono ?_
  rintro e w' ⟨v', rfl, ⟨nv, C, rfl, hm, hc⟩, hb⟩
  obtain ⟨p, c, rfl⟩ := own_slice hm.row
  have hl : C.length = (ofT h l).nodes.length := by rw [← hc, List.length_map]
  rw [hl] at hm
  exact ⟨p, c, C, by rw [hl], hm, hc, hb⟩
/-- A list of trees in memory, one of them looked at. -/
theorem Trees.at {w : World} {p : Option Addr} {c : Nat} {l : List Ar} (h : Trees w (.slice p l.length c) l) {i : Nat} (hi : i < l.length) : ∃ b off nv, p = some ⟨b, off, none⟩ ∧ w.cell? ⟨b, off + i * 2, none⟩ = some nv ∧ w.cell? ⟨b, off + i * 2 + 1, none⟩ = some (.int .i64 l[i].root) ∧ Nodes w nv l[i].nodes := by
  obtain ⟨p', c', e, hh⟩ := h
  obtain ⟨rfl, _⟩ : p = p' ∧ c = c' := by simpa using e
  rcases hh with rfl | ⟨b, off, rfl, hc⟩
  · simp at hi
  · obtain ⟨nv, h0, h1, h2⟩ := hc i hi
    exact ⟨b, off, nv, rfl, h0, h1, h2⟩
end Go.Proofs.YtpkjfdgjmcphmaaDoor

/- Package expr: together, Seq, Choice. -/
namespace Go.Proofs.YtpkjfdgjmcphmaaDoor
open Go.RowKit Bset Tm

noncomputable def togT (k : Nat) : List Ar → Ar
  | [t] => madeT t
  | l => madeT (ofT (hdK k) l)
noncomputable def togB (k : Nat) : List Ar → Bool
  | [t] => rightB t
  | l => ofB (hdK k) l
theorem tog_one (k : Nat) (t : Ar) : togT k [t] = madeT t ∧ togB k [t] = rightB t := ⟨rfl, rfl⟩
theorem tog_more (k : Nat) {l : List Ar} (h : l.length ≠ 1) : togT k l = madeT (ofT (hdK k) l) ∧ togB k l = ofB (hdK k) l := by
  match l, h with
  | [], _ => exact ⟨rfl, rfl⟩
  | _ :: _ :: _, _ => exact ⟨rfl, rfl⟩
noncomputable def seqT (l : List Ar) : Ar := if l.length = 0 then leafT noHd else togT 4 l
noncomputable def seqB (l : List Ar) : Bool := if l.length = 0 then true else togB 4 l
noncomputable def choT (l : List Ar) : Ar := if l.length = 0 then leafT ⟨1, 0#256, ⟨#[]⟩, 0, 0⟩ else togT 5 l
noncomputable def choB (l : List Ar) : Bool := if l.length = 0 then true else togB 5 l

/-- Lists of trees that may be put together. -/
structure OkL (l : List Ar) : Prop where
  ok : ∀ t ∈ l, OkA t.nodes
  tot : total l ≤ 1000000000
  len : l.length ≤ 1000000000

set_option maxRecDepth 100000 in
set_option maxHeartbeats 8000000 in
theorem together_any (k : Nat) (hk : k < 256) (lv : Value) (l : List Ar) (w : World) (hl : Trees w lv l) (hL : OkL l) (hE : Env w) :
    Calls Tryd.prog 88 #[.int .u8 k, lv] w fun e w' => ∃ v, e = .returned (.tuple #[v, .bool (togB k l)]) ∧ MadeT w.heap.size w' v (togT k l) ∧ Below w.heap.size w w' := by
  have b0 := (Below.refl w.heap.size w).alloc (Nat.le_refl _) (.cells #[.slice none 0 0, .int .i64 0] 26)
  have n0 := Cl.new w 26 #[.slice none 0 0, .int .i64 0]
  have hl0 := hl.below b0
  have hE0 := hE.below b0
  obtain ⟨p0, c0, rfl⟩ := hl.len
  by_cases h1 : l.length = 1
  · obtain ⟨t, rfl⟩ : ∃ t, l = [t] := by
      match l, h1 with
      | [t], _ => exact ⟨t, rfl⟩
    rw [(tog_one k t).1, (tog_one k t).2]
    obtain ⟨b, off, nv, rfl, c1, c2, hN⟩ := hl0.at (i := 0) (by simp)
    have hot : OkA t.nodes := hL.ok t (by simp)
    have htl : t.nodes.length ≤ 1073741824 := by have := hL.tot; simp [total] at this; omega
    have hmk := fun v W (h1 : Tree W v t) (h2 : Env W) => make_any v t W h1 hot htl h2
    have ht0 : Tree _ (treeV nv t.root) t := ⟨nv, rfl, hN⟩
    obtain ⟨pn, cn, rfl⟩ := hN.len
    simp only [Nat.zero_mul, Nat.add_zero, List.getElem_cons_zero] at c1 c2 ht0
    simp only [List.length_cons, List.length_nil, Nat.zero_add]
    clear hl hl0 hN h1
    go_enter Tryd.func88, Tryd.ntmps88
    go_wp2_with (go_at_call 60; refine (hmk _ _ ht0 hE0).mono ?_; rintro e w3 ⟨v, rfl, ⟨nv, C3, rfl, hm3, hC3⟩, hb3⟩
                 obtain ⟨p3, c3, rfl⟩ := own_slice hm3.row
                 have n3 := n0.below hb3 n0.lt
                 have b3 := b0.trans (hb3.mono b0.size)
                 have b1s := b0.size
                 obtain ⟨⟨x0, x1⟩, xf⟩ := n3.two
                 clear hb3)
    exact end_tree_bool (n3.put2 _ _) rfl rfl rfl rfl ⟨_, rfl, ⟨.slice p3 C3.length c3, C3, rfl, (hm3.mono b1s).ty n3 (by decide) (by decide) (gb_put2 w3 _ _ _), hC3⟩, below_put2 b3 (by omega) _ _⟩
  · rw [(tog_more k h1).1, (tog_more k h1).2]
    have hov := fun W (h1 : Trees W (.slice p0 l.length c0) l) (h2 : Env W) => over_any (hdK k) (.slice none 0 0) _ l W h1 ⟨hk, Nat.zero_le _, by omega⟩ hL.ok hL.tot hL.len h2
    simp only [hdK, nodeV_zero] at hov ⊢
    have hne : ((l.length : Int) == 1) = false := by simp; omega
    clear hl
    go_enter Tryd.func88, Tryd.ntmps88
    go_wp2_with (go_at_call 103; refine (hov _ hl0 hE0).mono ?_; rintro e w3 ⟨v, rfl, ⟨nv, C3, rfl, hm3, hC3⟩, hb3⟩
                 obtain ⟨p3, c3, rfl⟩ := own_slice hm3.row
                 have n3 := n0.below hb3 n0.lt
                 have b3 := b0.trans (hb3.mono b0.size)
                 have b1s := b0.size
                 obtain ⟨⟨x0, x1⟩, xf⟩ := n3.two
                 clear hb3)
    exact end_tree_bool (n3.put2 _ _) rfl rfl rfl rfl ⟨_, rfl, ⟨.slice p3 C3.length c3, C3, rfl, (hm3.mono b1s).ty n3 (by decide) (by decide) (gb_put2 w3 _ _ _), hC3⟩, below_put2 b3 (by omega) _ _⟩

set_option maxRecDepth 100000 in
set_option maxHeartbeats 1000000 in
theorem set0_any (w : World) :
    Calls Tryd.prog 87 #[.agg #[.int .u64 0, .int .u64 0, .int .u64 0, .int .u64 0]] w fun e w' => ∃ v, e = .returned v ∧ MadeT w.heap.size w' v (leafT ⟨1, 0#256, ⟨#[]⟩, 0, 0⟩) ∧ Below w.heap.size w w' := by
  have b0 := ((Below.refl w.heap.size w).alloc (Nat.le_refl _) (.cells #[.int .u64 0, .int .u64 0, .int .u64 0, .int .u64 0] 35)).alloc (by simp) (.cells #[.slice none 0 0, .int .i64 0] 26)
  have k0 : Cl ((w.alloc (.cells #[.int .u64 0, .int .u64 0, .int .u64 0, .int .u64 0] 35)).alloc (.cells #[.slice none 0 0, .int .i64 0] 26)) (w.heap.size + 1) 26 #[.slice none 0 0, .int .i64 0] := Cl.new' (by simp) _ _
  have hl := fun w => leaf_any ⟨1, 0#256, ⟨#[]⟩, 0, 0⟩ (.slice none 0 0) (by decide) w
  simp only [nodeV_zero] at hl
  go_enter Tryd.func87, Tryd.ntmps87
  go_wp2_with (go_at_call 69; refine (hl _).mono ?_; rintro e w1 ⟨v, rfl, ⟨nv, C, rfl, hm, hc⟩, hb⟩; obtain ⟨p, c, rfl⟩ := own_slice hm.row; have k1 := k0.below hb k0.lt; have b1 := b0.trans (hb.mono b0.size); have hz := Lib.hid k0.lt; clear hb k0 b0; obtain ⟨⟨y0, y1⟩, yf⟩ := k1.two)
  exact end_tree (k1.put2 _ _) rfl rfl rfl ⟨_, rfl, ⟨_, _, rfl, (hm.put2 hz.out _ _).mono (by simp <;> omega), hc⟩, below_put2 b1 (by omega) _ _⟩

set_option maxRecDepth 100000 in
set_option maxHeartbeats 8000000 in
theorem seq_any (lv : Value) (l : List Ar) (w : World) (hl : Trees w lv l) (hL : OkL l) (hE : Env w) :
    Calls Tryd.prog 46 #[lv] w fun e w' => ∃ v, e = .returned (.tuple #[v, .bool (seqB l)]) ∧ MadeT w.heap.size w' v (seqT l) ∧ Below w.heap.size w w' := by
  have b0 := (Below.refl w.heap.size w).alloc (Nat.le_refl _) (.cells #[.slice none 0 0, .int .i64 0] 26)
  have n0 := Cl.new w 26 #[.slice none 0 0, .int .i64 0]
  have hl0 := hl.below b0
  have hE0 := hE.below b0
  obtain ⟨p0, c0, rfl⟩ := hl.len
  unfold seqT seqB
  by_cases h1 : l.length = 0
  · rw [if_pos h1, if_pos h1]
    have hem := fun W => empty_any W
    have hne : ((l.length : Int) == 0) = true := by rw [h1]; rfl
    clear hl hl0 h1
    go_enter Tryd.func46, Tryd.ntmps46
    go_wp2_with (go_at_call 17; refine (hem _).mono ?_; rintro e w3 ⟨v, rfl, ⟨nv, C3, rfl, hm3, hC3⟩, hb3⟩
                 obtain ⟨p3, c3, rfl⟩ := own_slice hm3.row
                 have n3 := n0.below hb3 n0.lt
                 have b3 := b0.trans (hb3.mono b0.size)
                 have b1s := b0.size
                 obtain ⟨⟨x0, x1⟩, xf⟩ := n3.two
                 clear hb3)
    exact end_tree_bool (n3.put2 _ _) rfl rfl rfl rfl ⟨_, rfl, ⟨.slice p3 C3.length c3, C3, rfl, (hm3.mono b1s).ty n3 (by decide) (by decide) (gb_put2 w3 _ _ _), hC3⟩, below_put2 b3 (by omega) _ _⟩
  · rw [if_neg h1, if_neg h1]
    have hov := fun W (h1 : Trees W (.slice p0 l.length c0) l) (h2 : Env W) => together_any 4 (by omega) _ l W h1 hL h2
    have hne : ((l.length : Int) == 0) = false := by simp; exact fun e => h1 (by rw [e]; rfl)
    clear hl
    go_enter Tryd.func46, Tryd.ntmps46
    go_wp2_with (go_at_call 88; refine (hov _ hl0 hE0).mono ?_; rintro e w3 ⟨v, rfl, ⟨nv, C3, rfl, hm3, hC3⟩, hb3⟩
                 obtain ⟨p3, c3, rfl⟩ := own_slice hm3.row
                 have n3 := n0.below hb3 n0.lt
                 have b3 := b0.trans (hb3.mono b0.size)
                 have b1s := b0.size
                 obtain ⟨⟨x0, x1⟩, xf⟩ := n3.two
                 clear hb3)
    exact end_tree_bool (n3.put2 _ _) rfl rfl rfl rfl ⟨_, rfl, ⟨.slice p3 C3.length c3, C3, rfl, (hm3.mono b1s).ty n3 (by decide) (by decide) (gb_put2 w3 _ _ _), hC3⟩, below_put2 b3 (by omega) _ _⟩
set_option maxRecDepth 100000 in
set_option maxHeartbeats 8000000 in
theorem choice_any (lv : Value) (l : List Ar) (w : World) (hl : Trees w lv l) (hL : OkL l) (hE : Env w) :
    Calls Tryd.prog 48 #[lv] w fun e w' => ∃ v, e = .returned (.tuple #[v, .bool (choB l)]) ∧ MadeT w.heap.size w' v (choT l) ∧ Below w.heap.size w w' := by
  have b0 := (Below.refl w.heap.size w).alloc (Nat.le_refl _) (.cells #[.slice none 0 0, .int .i64 0] 26)
  have n0 := Cl.new w 26 #[.slice none 0 0, .int .i64 0]
  have hl0 := hl.below b0
  have hE0 := hE.below b0
  obtain ⟨p0, c0, rfl⟩ := hl.len
  unfold choT choB
  by_cases h1 : l.length = 0
  · rw [if_pos h1, if_pos h1]
    have hem := fun W => set0_any W
    have hne : ((l.length : Int) == 0) = true := by rw [h1]; rfl
    clear hl hl0 h1
    go_enter Tryd.func48, Tryd.ntmps48
    go_wp2_with (go_at_call 87; refine (hem _).mono ?_; rintro e w3 ⟨v, rfl, ⟨nv, C3, rfl, hm3, hC3⟩, hb3⟩
                 obtain ⟨p3, c3, rfl⟩ := own_slice hm3.row
                 have n3 := n0.below hb3 n0.lt
                 have b3 := b0.trans (hb3.mono b0.size)
                 have b1s := b0.size
                 obtain ⟨⟨x0, x1⟩, xf⟩ := n3.two
                 clear hb3)
    exact end_tree_bool (n3.put2 _ _) rfl rfl rfl rfl ⟨_, rfl, ⟨.slice p3 C3.length c3, C3, rfl, (hm3.mono b1s).ty n3 (by decide) (by decide) (gb_put2 w3 _ _ _), hC3⟩, below_put2 b3 (by omega) _ _⟩
  · rw [if_neg h1, if_neg h1]
    have hov := fun W (h1 : Trees W (.slice p0 l.length c0) l) (h2 : Env W) => together_any 5 (by omega) _ l W h1 hL h2
    have hne : ((l.length : Int) == 0) = false := by simp; exact fun e => h1 (by rw [e]; rfl)
    clear hl
    go_enter Tryd.func48, Tryd.ntmps48
    go_wp2_with (go_at_call 88; refine (hov _ hl0 hE0).mono ?_; rintro e w3 ⟨v, rfl, ⟨nv, C3, rfl, hm3, hC3⟩, hb3⟩
                 obtain ⟨p3, c3, rfl⟩ := own_slice hm3.row
                 have n3 := n0.below hb3 n0.lt
                 have b3 := b0.trans (hb3.mono b0.size)
                 have b1s := b0.size
                 obtain ⟨⟨x0, x1⟩, xf⟩ := n3.two
                 clear hb3)
    exact end_tree_bool (n3.put2 _ _) rfl rfl rfl rfl ⟨_, rfl, ⟨.slice p3 C3.length c3, C3, rfl, (hm3.mono b1s).ty n3 (by decide) (by decide) (gb_put2 w3 _ _ _), hC3⟩, below_put2 b3 (by omega) _ _⟩
end Go.Proofs.YtpkjfdgjmcphmaaDoor

/- Package expr: what is put together, as trees. -/
namespace Go.Proofs.YtpkjfdgjmcphmaaDoor.Tm

theorem fits_ok {h : Hd} {m : Int} (hf : fits h m = true) : h.kind < 10 ∧ h.text.size ≤ 255 := by
  unfold fits at hf
  split at hf
  all_goals rename_i e
  · simp only [noText, Bool.and_eq_true, decide_eq_true_eq] at hf; omega
  · simp only [noText, Bool.and_eq_true, decide_eq_true_eq] at hf; omega
  · simp at hf; omega
  · simp only [Bool.and_eq_true] at hf
    have := Nm.may_size hf.2
    omega
  · simp only [noText, Bool.and_eq_true, decide_eq_true_eq] at hf; omega
  · simp only [noText, Bool.and_eq_true, decide_eq_true_eq] at hf; omega
  · simp only [noText, Bool.and_eq_true, decide_eq_true_eq] at hf; omega
  · simp only [noText, Bool.and_eq_true, decide_eq_true_eq] at hf; omega
  · simp only [noText, Bool.and_eq_true, decide_eq_true_eq] at hf; omega
  · simp only [Bool.and_eq_true] at hf
    have := Nm.may_size hf.2
    omega
  · cases hf
mutual
theorem fit_all (M : Nat) : ∀ t : RT Hd, fitT t = true → size t ≤ M → allT (fun h m => h.kind < 10 ∧ h.text.size ≤ 255 ∧ m ≤ M) t
  | .mk h ks, hf, hs => by
    rw [fitT, Bool.and_eq_true] at hf
    rw [size] at hs
    rw [allT]
    have h1 := fits_ok hf.1
    have h2 := sizes_len ks
    exact ⟨⟨h1.1, h1.2, by omega⟩, fits_all M ks hf.2 (by omega)⟩
theorem fits_all (M : Nat) : ∀ ts : List (RT Hd), fitTs ts = true → sizes ts ≤ M → allTs (fun h m => h.kind < 10 ∧ h.text.size ≤ 255 ∧ m ≤ M) ts
  | [], _, _ => by rw [allTs]; trivial
  | t :: ts, hf, hs => by
    rw [fitTs, Bool.and_eq_true] at hf
    rw [sizes] at hs
    rw [allTs]
    exact ⟨fit_all M t hf.1 (by omega), fits_all M ts hf.2 (by omega)⟩
end
mutual
theorem all_mono {P Q : Hd → Nat → Prop} (h : ∀ a m, P a m → Q a m) : ∀ t : RT Hd, allT P t → allT Q t
  | .mk a ks, hp => by
    rw [allT] at hp ⊢
    exact ⟨h _ _ hp.1, alls_mono h ks hp.2⟩
theorem alls_mono {P Q : Hd → Nat → Prop} (h : ∀ a m, P a m → Q a m) : ∀ ts : List (RT Hd), allTs P ts → allTs Q ts
  | [], _ => by rw [allTs]; trivial
  | t :: ts, hp => by
    rw [allTs] at hp ⊢
    exact ⟨all_mono h t hp.1, alls_mono h ts hp.2⟩
end
theorem size_kids (t : RT Hd) : sizes (kidsR t) + 1 = size t := by
  cases t
  rw [size]
  rfl
theorem pt_size (wi : Nat) (p : RT Hd) : sizes (pt wi p) ≤ size p := by
  unfold pt
  split
  · have := size_kids p
    omega
  · simp [sizes]
theorem gat_size (wi : Nat) (ps : List (RT Hd)) : sizes (gat wi ps) ≤ sizes ps := by
  induction ps with
  | nil => simp [gat]
  | cons p ps ih =>
    rw [gat_cons, sizes_append, sizes]
    have := pt_size wi p
    omega
theorem some1_size {l : List (RT Hd)} {a h : Hd} : size (some1 l (.mk a []) (.mk h)) ≤ sizes l + 1 := by
  match l with
  | [] => simp [some1, size, sizes]
  | [x] => simp [some1, sizes]
  | x :: y :: r => simp [some1, size]
mutual
theorem nrm_size : ∀ t : RT Hd, size (nrm t) ≤ size t
  | .mk h ks => by
    have h1 := nrms_size ks
    rw [nrm, size]
    unfold cm
    split
    · have h2 := gat_size 4 (nrms ks)
      have h3 := some1_size (l := gat 4 (nrms ks)) (a := noHd) (h := h)
      omega
    · have h2 := gat_size h.kind (nrms ks)
      rw [size]
      omega
theorem nrms_size : ∀ ts : List (RT Hd), sizes (nrms ts) ≤ sizes ts
  | [] => by rw [nrms]; exact Nat.le_refl _
  | t :: ts => by
    have h1 := nrm_size t
    have h2 := nrms_size ts
    rw [nrms, sizes, sizes]
    omega
end
theorem seqR_size (l : List (RT Hd)) : size (seqR l) ≤ sizes l + 1 := by
  have h1 := some1_size (l := gat 4 (l.map nrm)) (a := noHd) (h := hdK 4)
  have h2 := gat_size 4 (l.map nrm)
  have h3 := nrms_size l
  rw [nrms_eq] at h3
  unfold seqR
  omega
theorem choR_size (l : List (RT Hd)) : size (choR l) ≤ sizes l + 1 := by
  have h1 := some1_size (l := gat 5 (l.map nrm)) (a := hdK 1) (h := hdK 5)
  have h2 := gat_size 5 (l.map nrm)
  have h3 := nrms_size l
  rw [nrms_eq] at h3
  unfold choR
  omega
theorem flat_top (t : RT Hd) : ∃ ks, (flat t)[size t - 1]? = some ⟨top t, ks⟩ := by
  cases t with
  | mk a ts =>
    refine ⟨roots 0 ts, ?_⟩
    have e : size (.mk a ts : RT Hd) - 1 = (flatsAt 0 ts).length := by rw [flats_len, size]; omega
    rw [e]
    unfold flat
    rw [flatAt, List.getElem?_append_right (Nat.le_refl _)]
    simp [top]
end Go.Proofs.YtpkjfdgjmcphmaaDoor.Tm
namespace Go.Proofs.YtpkjfdgjmcphmaaDoor
open Go.RowKit Bset Tm

theorem ok_fit {t : RT Hd} (hf : fitT t = true) (hs : size t ≤ 4294967296) : OkA (arOf t).nodes :=
  ok_arOf (all_mono (fun a m h => ⟨by omega, by omega, by omega⟩) t (fit_all 4294967296 t hf hs)) hs
theorem madeT_yes {T : Ar} (h : rightB T = true) : madeT T = arOf (nrm (tree T)) := by unfold madeT; rw [if_pos h]
theorem madeT_no {T : Ar} (h : rightB T = false) : madeT T = noAr := by unfold madeT; rw [if_neg (by simp [h])]
theorem madeT_right (T : Ar) : rightB (madeT T) = rightB T := by
  cases h : rightB T with
  | false => rw [madeT_no h]; exact noAr_right
  | true => rw [madeT_yes h]; exact arOf_rightB (nrm_good _ (rightB_iff.1 h).fit).1
theorem trees_fit {l : List Ar} (h : l.all rightB = true) : ∀ t ∈ l.map tree, fitT t = true := fun t ht => by
  obtain ⟨T, hT, rfl⟩ := List.mem_map.1 ht
  exact (rightB_iff.1 (List.all_eq_true.1 h T hT)).fit
theorem tog_eq (k : Nat) (hk : k = 4 ∨ k = 5) (l : List Ar) (h0 : l.length ≠ 0) : togB k l = l.all rightB ∧ (l.all rightB = false → togT k l = noAr) ∧ (l.all rightB = true → togT k l = arOf (if l.length = 1 then nrm ((l.map tree).headD (.mk noHd [])) else nrm (.mk (hdK k) (l.map tree)))) := by
  by_cases h1 : l.length = 1
  · obtain ⟨t, rfl⟩ : ∃ t, l = [t] := by
      match l, h1 with
      | [t], _ => exact ⟨t, rfl⟩
    have e : [t].all rightB = rightB t := by simp
    rw [e, (tog_one k t).1, (tog_one k t).2]
    refine ⟨rfl, fun h => madeT_no h, fun h => ?_⟩
    rw [madeT_yes h]
    rfl
  · rw [(tog_more k h1).1, (tog_more k h1).2, if_neg h1]
    have e : ofB (hdK k) l = l.all rightB := by
      unfold ofB
      have hf := fits_both (m := (l.length : Int)) (by omega)
      rcases hk with rfl | rfl
      · rw [hf.1, Bool.true_and]
      · rw [hf.2, Bool.true_and]
    refine ⟨e, fun h => ?_, fun h => ?_⟩
    · rw [madeT_no]
      rw [right_of, e, h]
    · have hB : ofB (hdK k) l = true := by rw [e, h]
      rw [madeT_yes (by rw [right_of, hB]), ofT_eq hB, tree_arOf]
theorem seq_eq (l : List Ar) : seqB l = l.all rightB ∧ (l.all rightB = false → seqT l = noAr) ∧ (l.all rightB = true → seqT l = arOf (seqR (l.map tree))) := by
  unfold seqB seqT
  by_cases h0 : l.length = 0
  · have : l = [] := List.eq_nil_of_length_eq_zero h0
    subst this
    exact ⟨rfl, fun h => by simp at h, fun _ => rfl⟩
  · rw [if_neg h0, if_neg h0]
    obtain ⟨h1, h2, h3⟩ := tog_eq 4 (.inl rfl) l h0
    refine ⟨h1, h2, fun h => ?_⟩
    rw [h3 h]
    split
    · rename_i h4
      obtain ⟨t, rfl⟩ : ∃ t, l = [t] := by
        match l, h4 with
        | [t], _ => exact ⟨t, rfl⟩
      exact congrArg arOf (seqR_one (trees_fit h (tree t) (by simp))).symm
    · rw [seqR_many]
theorem cho_eq (l : List Ar) : choB l = l.all rightB ∧ (l.all rightB = false → choT l = noAr) ∧ (l.all rightB = true → choT l = arOf (choR (l.map tree))) := by
  unfold choB choT
  by_cases h0 : l.length = 0
  · have : l = [] := List.eq_nil_of_length_eq_zero h0
    subst this
    exact ⟨rfl, fun h => by simp at h, fun _ => rfl⟩
  · rw [if_neg h0, if_neg h0]
    obtain ⟨h1, h2, h3⟩ := tog_eq 5 (.inr rfl) l h0
    refine ⟨h1, h2, fun h => ?_⟩
    rw [h3 h]
    split
    · rename_i h4
      obtain ⟨t, rfl⟩ : ∃ t, l = [t] := by
        match l, h4 with
        | [t], _ => exact ⟨t, rfl⟩
      exact congrArg arOf (choR_one (trees_fit h (tree t) (by simp))).symm
    · rw [choR_many (trees_fit h) (by simp; omega)]
end Go.Proofs.YtpkjfdgjmcphmaaDoor

/- Package expr: kind, split, Parts, Head, Tail. -/
namespace Go.Proofs.YtpkjfdgjmcphmaaDoor
open Go.RowKit Bset Tm

set_option maxRecDepth 100000 in
set_option maxHeartbeats 8000000 in
theorem kind_any (v : Value) (t : RT Hd) (w : World) (hv : Tree w v (arOf t)) (hs : size t ≤ 4294967296) :
    Calls Tryd.prog 95 #[v] w fun e w' => e = .returned (.int .u8 (top t).kind) ∧ Below w.heap.size w w' := by
  obtain ⟨nv, rfl, hn⟩ := hv
  have hpos := size_pos t
  have hfl := flat_length t
  obtain ⟨ks, hks⟩ := flat_top t
  obtain ⟨m, hm⟩ : ∃ m, m = size t - 1 := ⟨_, rfl⟩
  have e1 : (arOf t).root = (m : Int) := by show (size t : Int) - 1 = _; omega
  rw [e1]
  rw [← hm] at hks
  have hml : m < (flat t).length := by omega
  have htm : (flat t)[m] = ⟨top t, ks⟩ := by
    have := List.getElem?_eq_getElem hml
    rw [this] at hks
    exact Option.some.inj hks
  obtain ⟨p, cap, rfl, hh⟩ := hn
  rcases hh with hh | ⟨b, off, rfl, hc⟩
  · have hh' : flat t = [] := hh
    rw [hh'] at hml
    simp at hml
  · obtain ⟨kv, hN, _⟩ := hc m hml
    have b0 := (Below.refl w.heap.size w).alloc (Nat.le_refl _) (.cells #[.slice (some ⟨b, off, none⟩) (arOf t).nodes.length cap, .int .i64 m] 26)
    have k0 := Cl.new w 26 #[.slice (some ⟨b, off, none⟩) (arOf t).nodes.length cap, .int .i64 m]
    have hN0 := hN.keep b0.block
    obtain ⟨x0, x1, x2, x3, x4, x5, x6, x7, x8⟩ := hN0
    have e2 : (arOf t).nodes[m].hd.kind = (top t).kind := by
      show (flat t)[m].hd.kind = _
      rw [htm]
    rw [e2] at x0
    obtain ⟨⟨y0, y1⟩, yf⟩ := k0.two
    have hnl : (arOf t).nodes.length = size t := hfl
    have hm0 : (0 : Int) ≤ (m : Int) := by omega
    have hm1 : (m : Int) < ((arOf t).nodes.length : Int) := by omega
    clear x1 x2 x3 x4 x5 x6 x7 x8 hN hc htm hks hm e2 e1 hnl hfl hpos
    go_enter Tryd.func95, Tryd.ntmps95
    go_wp2
    go_ret
    exact ⟨rfl, b0⟩

def splitL (k : Nat) (t : RT Hd) : List Ar := if (top t).kind = k then (kidsR t).map arOf else [arOf t]

set_option maxRecDepth 100000 in
set_option maxHeartbeats 8000000 in
theorem split_any (k : Nat) (_hk : k < 256) (v : Value) (t : RT Hd) (lo : Nat) (w : World) (hm : MadeT lo w v (arOf t)) (hlo : lo ≤ w.heap.size) (hf : fitT t = true) (hs : size t ≤ 4294967296) (hE : Env w) :
    Calls Tryd.prog 96 #[v, .int .u8 k] w fun e w' => ∃ v' L, e = .returned v' ∧ MadeTs lo w' v' L ∧ L.map Prod.snd = splitL k t ∧ Below w.heap.size w w' := by
  obtain ⟨nv, C, rfl, hM, hC⟩ := hm
  have hn : Nodes w nv (arOf t).nodes := hC ▸ hM.nodes
  obtain ⟨p0, c0, rfl⟩ := hn.len
  have hkd := fun W (h : Tree W (treeV (.slice p0 (arOf t).nodes.length c0) (arOf t).root) (arOf t)) => kind_any _ t W h hs
  have hki := fun W (h : Tree W (treeV (.slice p0 (arOf t).nodes.length c0) (arOf t).root) (arOf t)) (h2 : Env W) => kids_any _ (arOf t) W h (ok_fit hf hs) h2
  rw [arOf_kids hf] at hki
  have b0 := (Below.refl w.heap.size w).alloc (Nat.le_refl _) (.cells #[.slice p0 (arOf t).nodes.length c0, .int .i64 (arOf t).root] 26)
  have k0 := Cl.new w 26 #[.slice p0 (arOf t).nodes.length c0, .int .i64 (arOf t).root]
  have hv0 : Tree (w.alloc (.cells #[.slice p0 (arOf t).nodes.length c0, .int .i64 (arOf t).root] 26)) (treeV (.slice p0 (arOf t).nodes.length c0) (arOf t).root) (arOf t) := ⟨_, rfl, hn.below b0⟩
  have hE0 := hE.below b0
  obtain ⟨⟨y0, y1⟩, yf⟩ := k0.two
  generalize (arOf t).nodes.length = n at *
  generalize hrt : (arOf t).root = rt at *
  have HRT := Lib.hid hrt
  clear hrt
  have hkk : (top t).kind < 256 := by
    have := (fits_ok (fit_kids hf).1).1
    omega
  unfold splitL
  by_cases h1 : (top t).kind = k
  · rw [if_pos h1]
    rw [h1] at hkd
    clear hn hkk h1
    go_enter Tryd.func96, Tryd.ntmps96
    go_wp2_with (first
      | (go_at_call 95; refine (hkd _ hv0).mono ?_; rintro e w1 ⟨rfl, hb⟩
         have b1 := b0.trans (hb.mono b0.size)
         have k1 := k0.below hb k0.lt
         have hv1 := hv0.below hb
         obtain ⟨⟨z0, z1⟩, zf⟩ := k1.two
         have hE1 := hE0.below hb
         clear hb b0 k0 hE0)
      | (go_at_call 24; refine (hki _ hv1 hE1).mono ?_; rintro e w2 ⟨v', L, rfl, hL, hLm, hb⟩
         have b2 := b1.trans (hb.mono b1.size)))
    go_ret
    exact ⟨_, L, rfl, ⟨hL.1.mono (by have := b1.size; omega), fun x hx => by
      obtain ⟨D, h1, h2⟩ := hL.2 x hx
      exact ⟨D, h1.mono (by have := b1.size; omega), h2⟩⟩, hLm, b2⟩
  · rw [if_neg h1]
    have h2 : ((k : Int) = ((top t).kind : Int)) = False := by simp; omega
    have h3 : (((top t).kind : Int) = (k : Int)) = False := by simp; omega
    go_enter Tryd.func96, Tryd.ntmps96
    go_wp2_with (go_at_call 95; refine (hkd _ hv0).mono ?_; rintro e w1 ⟨rfl, hb⟩
                 have b1 := b0.trans (hb.mono b0.size)
                 have k1 := k0.below hb k0.lt
                 obtain ⟨⟨z0, z1⟩, zf⟩ := k1.two
                 have hv1 := hv0.below hb
                 clear hb k0 hE0)
    go_ret
    have b2 := b1.alloc b1.size (.cells #[.slice p0 n c0, .int .i64 rt] 26)
    have hrow := World.ownsRow_lit w1 (base := lo) (e := 26) (size := 2) #[.slice p0 n c0, .int .i64 rt] 1 (by have := b1.size; omega) (by unfold maxLen; omega) rfl
    have hM2 := hM.below b2
    have e : cellsT [(Value.slice p0 n c0, arOf t)] = (#[Value.slice p0 n c0, .int .i64 rt]).toList := by rw [← HRT.out]; rfl
    rw [← e] at hrow
    exact ⟨_, [(.slice p0 n c0, arOf t)], rfl, ⟨hrow, fun x hx => by
      rw [List.mem_singleton] at hx
      subst hx
      exact ⟨C, hM2, hC⟩⟩, rfl, b2⟩
end Go.Proofs.YtpkjfdgjmcphmaaDoor

/- Package expr: Parts, Head, Tail. -/
namespace Go.Proofs.YtpkjfdgjmcphmaaDoor
open Go.RowKit Bset Tm

noncomputable def partsL (T : Ar) : List Ar := if rightB T = true then (if (top (nrm (tree T))).kind = 0 then [] else splitL 4 (nrm (tree T))) else []
theorem mades_nil (lo : Nat) (w : World) : MadeTs lo w (.slice none 0 0) [] := ⟨World.ownsRow_nil _ _ _ _, fun _ h => by cases h⟩

set_option maxRecDepth 100000 in
set_option maxHeartbeats 8000000 in
theorem parts_any (v : Value) (T : Ar) (w : World) (hv : Tree w v T) (hok : OkA T.nodes) (hlen : T.nodes.length ≤ 1073741824) (hE : Env w) :
    Calls Tryd.prog 63 #[v] w fun e w' => ∃ v' L, e = .returned v' ∧ MadeTs w.heap.size w' v' L ∧ L.map Prod.snd = partsL T ∧ Below w.heap.size w w' := by
  obtain ⟨nv, rfl, hn⟩ := hv
  obtain ⟨p0, c0, rfl⟩ := hn.len
  have hmk := fun W (h1 : Tree W (treeV (.slice p0 T.nodes.length c0) T.root) T) (h2 : Env W) => make_any _ T W h1 hok hlen h2
  have b0 := (Below.refl w.heap.size w).alloc (Nat.le_refl _) (.cells #[.slice p0 T.nodes.length c0, .int .i64 T.root] 26)
  have k0 := Cl.new w 26 #[.slice p0 T.nodes.length c0, .int .i64 T.root]
  have hv0 : Tree (w.alloc (.cells #[.slice p0 T.nodes.length c0, .int .i64 T.root] 26)) (treeV (.slice p0 T.nodes.length c0) T.root) T := ⟨_, rfl, hn.below b0⟩
  have hE0 := hE.below b0
  obtain ⟨⟨y0, y1⟩, yf⟩ := k0.two
  unfold partsL
  cases hR : rightB T with
  | false =>
    rw [if_neg (by simp)]
    rw [hR] at hmk
    clear hn hR
    go_enter Tryd.func63, Tryd.ntmps63
    go_wp2_with (go_at_call 60; refine (hmk _ hv0 hE0).mono ?_; rintro e w1 ⟨v1, rfl, ⟨nv1, C1, rfl, hm1, hC1⟩, hb⟩
                 obtain ⟨p1, c1, rfl⟩ := own_slice hm1.row
                 have b1 := b0.trans (hb.mono b0.size)
                 have b2 := b1.alloc b1.size (.cells #[.slice p1 C1.length c1, .int .i64 (madeT T).root] 26))
    go_ret
    exact ⟨_, [], rfl, mades_nil _ _, rfl, b2⟩
  | true =>
    rw [if_pos rfl]
    rw [hR] at hmk
    have hfit := (nrm_good _ (rightB_iff.1 hR).fit).1
    have hsz : size (nrm (tree T)) ≤ 1073741824 := by
      have h1 := nrm_size (tree T)
      have h2 := (rightB_iff.1 hR).size
      omega
    rw [madeT_yes hR] at hmk
    generalize nrm (tree T) = M at *
    have hkd := fun v W (h : Tree W v (arOf M)) => kind_any v M W h (by omega)
    have hsp := fun v W (h : MadeT w.heap.size W v (arOf M)) (hl : w.heap.size ≤ W.heap.size) (h2 : Env W) => split_any 4 (by omega) v M w.heap.size W h hl hfit (by omega) h2
    generalize splitL 4 M = LL at *
    clear hn hR
    have mid : ∀ (K : Nat) (hK : K = (top M).kind) (R : List Ar), (R = if K = 0 then [] else LL) → Calls Tryd.prog 63 #[treeV (.slice p0 T.nodes.length c0) T.root] w fun e w' => ∃ v' L, e = .returned v' ∧ MadeTs w.heap.size w' v' L ∧ L.map Prod.snd = R ∧ Below w.heap.size w w' := by
      intro K hK R hR
      rw [← hK] at hkd
      by_cases h0 : K = 0
      · subst h0
        rw [if_pos rfl] at hR
        subst hR
        clear hK
        go_enter Tryd.func63, Tryd.ntmps63
        go_wp2_with (first
          | (go_at_call 60; refine (hmk _ hv0 hE0).mono ?_; rintro e w1 ⟨v1, rfl, ⟨nv1, C1, rfl, hm1, hC1⟩, hb⟩
             obtain ⟨p1, c1, rfl⟩ := own_slice hm1.row
             have b1 := b0.trans (hb.mono b0.size)
             have b2 := b1.alloc b1.size (.cells #[.slice p1 C1.length c1, .int .i64 (arOf M).root] 26)
             have q2 := Cl.new w1 26 #[.slice p1 C1.length c1, .int .i64 (arOf M).root]
             have hv2 : Tree (w1.alloc (.cells #[.slice p1 C1.length c1, .int .i64 (arOf M).root] 26)) (treeV (.slice p1 C1.length c1) (arOf M).root) (arOf M) := ⟨_, rfl, hC1 ▸ (hm1.below ((Below.refl _ _).alloc (Nat.le_refl _) _)).nodes⟩
             obtain ⟨⟨x0, x1⟩, xf⟩ := q2.two
             clear hb b0 k0)
          | (go_at_call 95; refine (hkd _ _ hv2).mono ?_; rintro e w3 ⟨rfl, hb⟩
             have b3 := b2.trans (hb.mono b2.size)))
        go_ret
        exact ⟨_, [], rfl, mades_nil _ _, rfl, b3⟩
      · rw [if_neg h0] at hR
        subst hR
        have h3 : ((K : Int) = 0) = False := by simp; omega
        have HK := Lib.hid hK
        clear hK
        go_enter Tryd.func63, Tryd.ntmps63
        go_wp2_with (first
          | (go_at_call 60; refine (hmk _ hv0 hE0).mono ?_; rintro e w1 ⟨v1, rfl, ⟨nv1, C1, rfl, hm1, hC1⟩, hb⟩
             obtain ⟨p1, c1, rfl⟩ := own_slice hm1.row
             have b1 := b0.trans (hb.mono b0.size)
             have b2 := b1.alloc b1.size (.cells #[.slice p1 C1.length c1, .int .i64 (arOf M).root] 26)
             have q2 := Cl.new w1 26 #[.slice p1 C1.length c1, .int .i64 (arOf M).root]
             have hv2 : Tree (w1.alloc (.cells #[.slice p1 C1.length c1, .int .i64 (arOf M).root] 26)) (treeV (.slice p1 C1.length c1) (arOf M).root) (arOf M) := ⟨_, rfl, hC1 ▸ (hm1.below ((Below.refl _ _).alloc (Nat.le_refl _) _)).nodes⟩
             have hmt2 : MadeT w.heap.size (w1.alloc (.cells #[.slice p1 C1.length c1, .int .i64 (arOf M).root] 26)) (treeV (.slice p1 C1.length c1) (arOf M).root) (arOf M) := ⟨_, C1, rfl, (hm1.below ((Below.refl _ _).alloc (Nat.le_refl _) _)).mono b0.size, hC1⟩
             obtain ⟨⟨x0, x1⟩, xf⟩ := q2.two
             clear hb b0 k0)
          | (go_at_call 95; refine (hkd _ _ hv2).mono ?_; rintro e w3 ⟨rfl, hb⟩
             have b3 := b2.trans (hb.mono b2.size)
             have q3 := q2.below hb q2.lt
             have hmt3 := hmt2.below hb
             have hE3 := hE.below b3
             obtain ⟨⟨u0, u1⟩, uf⟩ := q3.two
             clear hb q2)
          | (go_at_call 96; refine (hsp _ _ hmt3 b3.size hE3).mono ?_; rintro e w4 ⟨v4, L4, rfl, ht4, hL4, hb⟩
             have b4 := b3.trans (hb.mono b3.size)))
        go_ret
        exact ⟨_, L4, rfl, ht4, hL4, b4⟩
    exact mid _ rfl _ rfl
end Go.Proofs.YtpkjfdgjmcphmaaDoor

/- Package expr: Head, Tail. -/
namespace Go.Proofs.YtpkjfdgjmcphmaaDoor
open Go.RowKit Bset Tm

theorem total_arOf (l : List (RT Hd)) : total (l.map arOf) = sizes l := by
  induction l with
  | nil => rfl
  | cons t l ih =>
    have e : total ((t :: l).map arOf) = (flat t).length + total (l.map arOf) := by simp [total, arOf]
    rw [e, ih, sizes, flat_length]
theorem okL_fit {l : List (RT Hd)} (h : ∀ t ∈ l, fitT t = true) (hs : sizes l ≤ 1000000000) : OkL (l.map arOf) where
  ok := fun T hT => by
    obtain ⟨t, ht, rfl⟩ := List.mem_map.1 hT
    have h1 := total_mem hT
    rw [total_arOf] at h1
    have h2 : (arOf t).nodes.length = size t := flat_length t
    exact ok_fit (h t ht) (by omega)
  tot := by rw [total_arOf]; exact hs
  len := by have := sizes_len l; simp; omega
/-- The parts, as trees. -/
noncomputable def partsR (t : RT Hd) : List (RT Hd) := if (top (nrm t)).kind = 0 then [] else if (top (nrm t)).kind = 4 then kidsR (nrm t) else [nrm t]
theorem partsL_eq {T : Ar} (h : rightB T = true) : partsL T = (partsR (tree T)).map arOf := by
  unfold partsL partsR splitL
  rw [if_pos h]
  split
  · rfl
  · split <;> rfl
theorem partsR_good {t : RT Hd} (h : fitT t = true) : (∀ x ∈ partsR t, fitT x = true) ∧ sizes (partsR t) ≤ size t := by
  have h1 := (nrm_good t h).1
  have h2 := nrm_size t
  have h3 := size_kids (nrm t)
  unfold partsR
  split
  · exact ⟨fun x hx => (by cases hx), by simp [sizes]⟩
  · split
    · exact ⟨(fit_kids h1).2, by omega⟩
    · exact ⟨fun x hx => by rw [List.mem_singleton] at hx; subst hx; exact h1, by simp [sizes]; omega⟩
theorem okL_parts (T : Ar) (h : T.nodes.length ≤ 1000000000) : OkL (partsL T) := by
  cases hR : rightB T with
  | false =>
    unfold partsL
    rw [hR, if_neg (by simp)]
    exact ⟨fun t ht => (by cases ht), by simp [total], by simp⟩
  | true =>
    have hr := rightB_iff.1 hR
    rw [partsL_eq hR]
    have := partsR_good hr.fit
    have := hr.size
    exact okL_fit (partsR_good hr.fit).1 (by omega)
theorem okL_tail {t : Ar} {r : List Ar} (h : OkL (t :: r)) : OkL r where
  ok := fun x hx => h.ok x (by simp [hx])
  tot := by
    have h1 := h.tot
    have e : total (t :: r) = t.nodes.length + total r := by simp [total]
    omega
  len := by have := h.len; simp at this; omega
theorem mades_at {lo : Nat} {w : World} {v : Value} {x : Value × Ar} {r : List (Value × Ar)} (h : MadeTs lo w v (x :: r)) : ∃ g cap, v = .slice (some ⟨g, 0, none⟩) (r.length + 1) cap ∧ r.length + 1 ≤ cap ∧ w.cell? ⟨g, 0, none⟩ = some x.1 ∧ w.cell? ⟨g, 1, none⟩ = some (.int .i64 x.2.root) ∧ g < w.heap.size ∧ MadeT lo w (treeV x.1 x.2.root) x.2 := by
  obtain ⟨C, hC1, hC2⟩ := h.2 x (by simp)
  rcases h.1.2 with ⟨_, h0⟩ | ⟨g, cap, cur, rfl, hb, hg, hnc, rest⟩
  · cases h0
  · have c0 := h.1.cellAt 0 (by simp <;> omega)
    have c1 := h.1.cellAt 1 (by simp <;> omega)
    obtain ⟨e0, e1⟩ := cellsT_at (x :: r) 0 (by simp)
    simp only [Nat.zero_mul, Nat.zero_add, List.getElem_cons_zero] at e0 e1
    rw [e0] at c0
    rw [e1] at c1
    exact ⟨g, cap, rfl, hnc, c0, c1, lt_of_block hg, _, C, rfl, hC1, hC2⟩

theorem trees_few {w : World} {p : Option Addr} {c : Nat} {r : List Ar} (h : r.length = 0) : Trees w (.slice p r.length c) r := ⟨p, c, rfl, .inl (List.eq_nil_of_length_eq_zero h)⟩
theorem mades_tail {lo : Nat} {w : World} {v : Value} {x : Value × Ar} {r : List (Value × Ar)} (h : MadeTs lo w v (x :: r)) : ∃ g cap, v = .slice (some ⟨g, 0, none⟩) (r.length + 1) cap ∧ r.length + 1 ≤ cap ∧ ∀ c, Trees w (.slice (some ⟨g, 2, none⟩) r.length c) (r.map Prod.snd) := by
  have ht := h.trees
  rcases h.1.2 with ⟨_, h0⟩ | ⟨g, cap, cur, rfl, hb, hg, hnc, rest⟩
  · cases h0
  · refine ⟨g, cap, rfl, hnc, fun c => ⟨some ⟨g, 2, none⟩, c, by simp, .inr ⟨g, 2, rfl, fun j hj => ?_⟩⟩⟩
    obtain ⟨p, c', e, hh⟩ := ht
    rcases hh with hh | ⟨b, off, rfl, hc⟩
    · cases hh
    · obtain ⟨rfl, rfl⟩ : g = b ∧ 0 = off := by simp at e; exact ⟨e.1.1, e.1.2⟩
      obtain ⟨nv, q0, q1, q2⟩ := hc (j + 1) (by simp at hj ⊢; omega)
      have e1 : (2 : Nat) + j * 2 = 0 + (j + 1) * 2 := by omega
      refine ⟨nv, by rw [e1]; exact q0, by rw [e1]; exact q1, q2⟩

set_option maxRecDepth 100000 in
set_option maxHeartbeats 8000000 in
theorem head_any (v : Value) (T : Ar) (w : World) (hv : Tree w v T) (hok : OkA T.nodes) (hlen : T.nodes.length ≤ 1073741824) (hE : Env w) :
    Calls Tryd.prog 65 #[v] w fun e w' => ∃ v', e = .returned (.tuple #[v', .bool (!(partsL T).isEmpty)]) ∧ MadeT w.heap.size w' v' ((partsL T).headD noAr) ∧ Below w.heap.size w w' := by
  obtain ⟨nv, rfl, hn⟩ := hv
  obtain ⟨p0, c0, rfl⟩ := hn.len
  have hmk := fun W (h1 : Tree W (treeV (.slice p0 T.nodes.length c0) T.root) T) (h2 : Env W) => parts_any _ T W h1 hok hlen h2
  have b0 := ((Below.refl w.heap.size w).alloc (Nat.le_refl _) (.cells #[.slice p0 T.nodes.length c0, .int .i64 T.root] 26)).alloc (by simp) (.cells #[.slice none 0 0, .int .i64 0] 26)
  have k0 := (Cl.new w 26 #[.slice p0 T.nodes.length c0, .int .i64 T.root]).alloc (.cells #[.slice none 0 0, .int .i64 0] 26)
  have n0 : Cl ((w.alloc (.cells #[.slice p0 T.nodes.length c0, .int .i64 T.root] 26)).alloc (.cells #[.slice none 0 0, .int .i64 0] 26)) (w.heap.size + 1) 26 #[.slice none 0 0, .int .i64 0] := Cl.new' (by simp) _ _
  have hv0 : Tree ((w.alloc (.cells #[.slice p0 T.nodes.length c0, .int .i64 T.root] 26)).alloc (.cells #[.slice none 0 0, .int .i64 0] 26)) (treeV (.slice p0 T.nodes.length c0) T.root) T := ⟨_, rfl, hn.below b0⟩
  have hE0 := hE.below b0
  obtain ⟨⟨y0, y1⟩, yf⟩ := k0.two
  generalize partsL T = P at *
  clear hn
  cases P with
  | nil =>
    go_enter Tryd.func65, Tryd.ntmps65
    go_wp2_with (go_at_call 63; refine (hmk _ hv0 hE0).mono ?_; rintro e w1 ⟨v1, L, rfl, hT, hL, hb⟩
                 obtain rfl : L = [] := List.map_eq_nil_iff.1 hL
                 obtain ⟨p1, c1, rfl⟩ := own_slice hT.1
                 have n1 := n0.below hb n0.lt
                 have b1 := b0.trans (hb.mono b0.size)
                 obtain ⟨⟨x0, x1⟩, xf⟩ := n1.two
                 clear hb)
    exact end_tree_bool (n1.put2 _ _) rfl rfl rfl rfl ⟨_, rfl, MadeT.none _ _, below_put2 b1 (by omega) _ _⟩
  | cons t r =>
    go_enter Tryd.func65, Tryd.ntmps65
    go_wp2_with (go_at_call 63; refine (hmk _ hv0 hE0).mono ?_; rintro e w1 ⟨v1, L, rfl, hT, hL, hb⟩
                 obtain ⟨x, R, rfl⟩ : ∃ x R, L = x :: R := by
                   cases L with
                   | nil => simp at hL
                   | cons x R => exact ⟨x, R, rfl⟩
                 obtain ⟨hx, hR⟩ : x.2 = t ∧ R.map Prod.snd = r := by simpa using hL
                 subst hx
                 obtain ⟨g, cap, rfl, hnc, d0, d1, hgl, ⟨nv2, C2, e2, hM2, hC2⟩⟩ := mades_at hT
                 obtain rfl : x.1 = nv2 := by simpa using e2
                 obtain ⟨p2, c2, e3⟩ := own_slice hM2.row
                 rw [e3] at d0 hM2
                 have h3 : (((R.length + 1 : Nat) : Int) == 0) = false := by simp; omega
                 have h4 : (0 : Int) < ((R.length + 1 : Nat) : Int) := by omega
                 generalize R.length + 1 = N at *
                 have n1 := n0.below hb n0.lt
                 have b1 := b0.trans (hb.mono b0.size)
                 have b0s := b0.size
                 obtain ⟨⟨x0, x1⟩, xf⟩ := n1.two
                 clear hb e2)
    exact end_tree_bool (n1.put2 _ _) rfl rfl rfl rfl ⟨_, rfl, ⟨_, C2, rfl, (hM2.mono b0s).ty n1 (by decide) (by decide) (gb_put2 w1 _ _ _), hC2⟩, below_put2 b1 (by omega) _ _⟩

set_option maxRecDepth 100000 in
set_option maxHeartbeats 8000000 in
theorem tail_any (v : Value) (T : Ar) (w : World) (hv : Tree w v T) (hok : OkA T.nodes) (hlen : T.nodes.length ≤ 1000000000) (hE : Env w) :
    Calls Tryd.prog 66 #[v] w fun e w' => ∃ v', e = .returned (.tuple #[v', .bool (!(partsL T).isEmpty && seqB (partsL T).tail)]) ∧ MadeT w.heap.size w' v' (if (partsL T).isEmpty = true then noAr else seqT (partsL T).tail) ∧ Below w.heap.size w w' := by
  obtain ⟨nv, rfl, hn⟩ := hv
  obtain ⟨p0, c0, rfl⟩ := hn.len
  have hmk := fun W (h1 : Tree W (treeV (.slice p0 T.nodes.length c0) T.root) T) (h2 : Env W) => parts_any _ T W h1 hok (by omega) h2
  have b0 := ((Below.refl w.heap.size w).alloc (Nat.le_refl _) (.cells #[.slice p0 T.nodes.length c0, .int .i64 T.root] 26)).alloc (by simp) (.cells #[.slice none 0 0, .int .i64 0] 26)
  have k0 := (Cl.new w 26 #[.slice p0 T.nodes.length c0, .int .i64 T.root]).alloc (.cells #[.slice none 0 0, .int .i64 0] 26)
  have n0 : Cl ((w.alloc (.cells #[.slice p0 T.nodes.length c0, .int .i64 T.root] 26)).alloc (.cells #[.slice none 0 0, .int .i64 0] 26)) (w.heap.size + 1) 26 #[.slice none 0 0, .int .i64 0] := Cl.new' (by simp) _ _
  have hv0 : Tree ((w.alloc (.cells #[.slice p0 T.nodes.length c0, .int .i64 T.root] 26)).alloc (.cells #[.slice none 0 0, .int .i64 0] 26)) (treeV (.slice p0 T.nodes.length c0) T.root) T := ⟨_, rfl, hn.below b0⟩
  have hE0 := hE.below b0
  obtain ⟨⟨y0, y1⟩, yf⟩ := k0.two
  have hP := okL_parts T hlen
  generalize partsL T = P at *
  clear hn
  cases P with
  | nil =>
    go_enter Tryd.func66, Tryd.ntmps66
    go_wp2_with (go_at_call 63; refine (hmk _ hv0 hE0).mono ?_; rintro e w1 ⟨v1, L, rfl, hT, hL, hb⟩
                 obtain rfl : L = [] := List.map_eq_nil_iff.1 hL
                 obtain ⟨p1, c1, rfl⟩ := own_slice hT.1
                 have n1 := n0.below hb n0.lt
                 have b1 := b0.trans (hb.mono b0.size)
                 obtain ⟨⟨x0, x1⟩, xf⟩ := n1.two
                 clear hb)
    exact end_tree_bool (n1.put2 _ _) rfl rfl rfl rfl ⟨_, rfl, MadeT.none _ _, below_put2 b1 (by omega) _ _⟩
  | cons t r =>
    have hsq := fun v W (h1 : Trees W v r) (h2 : Env W) => seq_any v r W h1 (okL_tail hP) h2
    clear hP
    go_enter Tryd.func66, Tryd.ntmps66
    go_wp2_with (first
      | (go_at_call 63; refine (hmk _ hv0 hE0).mono ?_; rintro e w1 ⟨v1, L, rfl, hT, hL, hb⟩
         obtain ⟨x, R, rfl⟩ : ∃ x R, L = x :: R := by
           cases L with
           | nil => simp at hL
           | cons x R => exact ⟨x, R, rfl⟩
         obtain ⟨hx, hR⟩ : x.2 = t ∧ R.map Prod.snd = r := by simpa using hL
         obtain ⟨g, cap, rfl, hnc, htl⟩ := mades_tail hT
         rw [hR] at htl
         have h3 : (((R.length + 1 : Nat) : Int) == 0) = false := by simp; omega
         have hRl := congrArg List.length hR
         rw [List.length_map] at hRl
         rw [hRl] at htl hnc h3
         rw [hRl]
         have n1 := n0.below hb n0.lt
         have b1 := b0.trans (hb.mono b0.size)
         have hE1 := hE0.below hb
         clear hb hT hL hx hR)
      | (go_at_call 46; refine (hsq _ _ (by first | exact htl _ | exact trees_few (by omega)) hE1).mono ?_; rintro e w3 ⟨v3, rfl, ⟨nv3, C3, rfl, hm3, hC3⟩, hb3⟩
         obtain ⟨p3, c3, rfl⟩ := own_slice hm3.row
         have n3 := n1.below hb3 n1.lt
         have b3 := b1.trans (hb3.mono b1.size)
         have b1s := b1.size
         obtain ⟨⟨x0, x1⟩, xf⟩ := n3.two
         clear hb3))
    all_goals exact end_tree_bool (n3.put2 _ _) rfl rfl rfl rfl ⟨_, rfl, ⟨.slice p3 C3.length c3, C3, rfl, (hm3.mono b1s).ty n3 (by decide) (by decide) (gb_put2 w3 _ _ _), hC3⟩, below_put2 b3 (by omega) _ _⟩
end Go.Proofs.YtpkjfdgjmcphmaaDoor

/- Package expr: about, Rep; the statements' text, of. -/
namespace Go.Proofs.YtpkjfdgjmcphmaaDoor
open Go.RowKit Bset Tm

set_option maxRecDepth 100000 in
set_option maxHeartbeats 8000000 in
theorem about_any (h : Hd) (kv v : Value) (T : Ar) (w : World) (hv : Tree w v T) (hh : okP h 0) (hok : OkA T.nodes) (hlen : T.nodes.length ≤ 1000000000) (hE : Env w) :
    Calls Tryd.prog 90 #[nodeV h kv, v] w fun e w' => ∃ v', e = .returned (.tuple #[v', .bool (ofB h [T])]) ∧ MadeT w.heap.size w' v' (madeT (ofT h [T])) ∧ Below w.heap.size w w' := by
  obtain ⟨nv, rfl, hn⟩ := hv
  obtain ⟨p0, c0, rfl⟩ := hn.len
  have hov := fun lv W (h1 : Trees W lv [T]) (h2 : Env W) => over_any h kv lv [T] W h1 hh (fun t ht => by rw [List.mem_singleton] at ht; subst ht; exact hok) (by simpa [total] using hlen) (by simp) h2
  have b0 := (((Below.refl w.heap.size w).alloc (Nat.le_refl _) (.cells (nodeC h kv) 38)).alloc (by simp) (.cells #[.slice p0 T.nodes.length c0, .int .i64 T.root] 26)).alloc (by simp <;> omega) (.cells #[.slice none 0 0, .int .i64 0] 26)
  have k0 := ((Cl.new w 38 (nodeC h kv)).alloc (.cells #[.slice p0 T.nodes.length c0, .int .i64 T.root] 26)).alloc (.cells #[.slice none 0 0, .int .i64 0] 26)
  have q0 : Cl _ (w.heap.size + 1) 26 #[.slice p0 T.nodes.length c0, .int .i64 T.root] := (Cl.new' (w := w.alloc (.cells (nodeC h kv) 38)) (by simp) 26 #[.slice p0 T.nodes.length c0, .int .i64 T.root]).alloc (.cells #[.slice none 0 0, .int .i64 0] 26)
  have n0 : Cl _ (w.heap.size + 1 + 1) 26 #[.slice none 0 0, .int .i64 0] := Cl.new' (w := (w.alloc (.cells (nodeC h kv) 38)).alloc (.cells #[.slice p0 T.nodes.length c0, .int .i64 T.root] 26)) (by simp) 26 #[.slice none 0 0, .int .i64 0]
  have hv0 : Tree _ (treeV (.slice p0 T.nodes.length c0) T.root) T := ⟨_, rfl, hn.below b0⟩
  have hE0 := hE.below b0
  obtain ⟨⟨z0, z1, z2, z3, z4, z5, z6, z7, z8⟩, zf⟩ := k0.nine
  obtain ⟨⟨y0, y1⟩, yf⟩ := q0.two
  have ht1 := trees_one' hv0
  have b1 := b0.alloc b0.size (.cells #[.slice p0 T.nodes.length c0, .int .i64 T.root] 26)
  have n1 := n0.alloc (.cells #[.slice p0 T.nodes.length c0, .int .i64 T.root] 26)
  have hE1 := hE.below b1
  obtain ⟨B, hB⟩ : ∃ B, B = ofB h [T] := ⟨_, rfl⟩
  obtain ⟨X, hX⟩ : ∃ X, X = ofT h [T] := ⟨_, rfl⟩
  rw [← hB, ← hX] at hov ⊢
  clear hn hB hX k0 q0 n0 b0 hE0 hv0
  go_enter Tryd.func90, Tryd.ntmps90
  iterate 18 go_step
  generalize (((w.alloc _).alloc _).alloc _) = W3 at *
  go_wp2_with (go_at_call 103; refine (hov _ _ ht1 hE1).mono ?_; rintro e w3 ⟨v, rfl, ⟨nv, C3, rfl, hm3, hC3⟩, hb3⟩
               obtain ⟨p3, c3, rfl⟩ := own_slice hm3.row
               have n3 := n1.below hb3 n1.lt
               have b3 := b1.trans (hb3.mono b1.size)
               have b1s := b1.size
               obtain ⟨⟨x0, x1⟩, xf⟩ := n3.two
               clear hb3)
  exact end_tree_bool (n3.put2 _ _) rfl rfl rfl rfl ⟨_, rfl, ⟨.slice p3 C3.length c3, C3, rfl, (hm3.mono b1s).ty n3 (by decide) (by decide) (gb_put2 w3 _ _ _), hC3⟩, below_put2 b3 (by omega) _ _⟩

abbrev repH (a b : Int) : Hd := ⟨6, 0#256, ⟨#[]⟩, a, b⟩
set_option maxRecDepth 100000 in
set_option maxHeartbeats 8000000 in
theorem rep_any (a b : Int) (v : Value) (T : Ar) (w : World) (hv : Tree w v T) (hok : OkA T.nodes) (hlen : T.nodes.length ≤ 1000000000) (hE : Env w) :
    Calls Tryd.prog 52 #[v, .int .i64 a, .int .i64 b] w fun e w' => ∃ v', e = .returned (.tuple #[v', .bool (ofB (repH a b) [T])]) ∧ MadeT w.heap.size w' v' (madeT (ofT (repH a b) [T])) ∧ Below w.heap.size w w' := by
  obtain ⟨nv, rfl, hn⟩ := hv
  obtain ⟨p0, c0, rfl⟩ := hn.len
  have hov := fun W (h1 : Tree W (treeV (.slice p0 T.nodes.length c0) T.root) T) (h2 : Env W) => about_any (repH a b) (.slice none 0 0) _ T W h1 ⟨by show (6 : Nat) < 256; omega, Nat.zero_le _, by omega⟩ hok hlen h2
  simp only [nodeV_zero] at hov
  have b0 := ((Below.refl w.heap.size w).alloc (Nat.le_refl _) (.cells #[.slice p0 T.nodes.length c0, .int .i64 T.root] 26)).alloc (by simp) (.cells #[.slice none 0 0, .int .i64 0] 26)
  have k0 := (Cl.new w 26 #[.slice p0 T.nodes.length c0, .int .i64 T.root]).alloc (.cells #[.slice none 0 0, .int .i64 0] 26)
  have n0 : Cl _ (w.heap.size + 1) 26 #[.slice none 0 0, .int .i64 0] := Cl.new' (w := w.alloc (.cells #[.slice p0 T.nodes.length c0, .int .i64 T.root] 26)) (by simp) 26 #[.slice none 0 0, .int .i64 0]
  have hv0 : Tree _ (treeV (.slice p0 T.nodes.length c0) T.root) T := ⟨_, rfl, hn.below b0⟩
  have hE0 := hE.below b0
  obtain ⟨⟨y0, y1⟩, yf⟩ := k0.two
  obtain ⟨B, hB⟩ : ∃ B, B = ofB (repH a b) [T] := ⟨_, rfl⟩
  obtain ⟨X, hX⟩ : ∃ X, X = ofT (repH a b) [T] := ⟨_, rfl⟩
  rw [← hB, ← hX] at hov ⊢
  clear hn hB hX k0
  go_enter Tryd.func52, Tryd.ntmps52
  go_wp2_with (go_at_call 90; refine (hov _ hv0 hE0).mono ?_; rintro e w3 ⟨v, rfl, ⟨nv, C3, rfl, hm3, hC3⟩, hb3⟩
               obtain ⟨p3, c3, rfl⟩ := own_slice hm3.row
               have n3 := n0.below hb3 n0.lt
               have b3 := b0.trans (hb3.mono b0.size)
               have b1s := b0.size
               obtain ⟨⟨x0, x1⟩, xf⟩ := n3.two
               clear hb3)
  exact end_tree_bool (n3.put2 _ _) rfl rfl rfl rfl ⟨_, rfl, ⟨.slice p3 C3.length c3, C3, rfl, (hm3.mono b1s).ty n3 (by decide) (by decide) (gb_put2 w3 _ _ _), hC3⟩, below_put2 b3 (by omega) _ _⟩

set_option maxRecDepth 100000 in
set_option maxHeartbeats 1000000 in
theorem ltext_any (s : ByteArray) (hs : s.size ≤ 281474976710656) (w : World) :
    Calls Tryd.prog 86 #[.string s] w fun e w' => ∃ v, e = .returned v ∧ MadeT w.heap.size w' v (leafT ⟨2, 0#256, s, 0, 0⟩) ∧ Below w.heap.size w w' := by
  have k0 := Cl.new w 26 #[.slice none 0 0, .int .i64 0]
  have b0 := (Below.refl w.heap.size w).alloc (Nat.le_refl _) (.cells #[.slice none 0 0, .int .i64 0] 26)
  have hl := fun w => text_any s hs w
  go_enter Tryd.func86, Tryd.ntmps86
  go_wp2_with (go_at_call 15; refine (hl _).mono ?_; rintro e w1 ⟨v, rfl, ⟨nv, C, rfl, hm, hc⟩, hb⟩; obtain ⟨p, c, rfl⟩ := own_slice hm.row; have k1 := k0.below hb k0.lt; have b1 := b0.trans (hb.mono b0.size); have hz := Lib.hid k0.lt; clear hb k0 b0; obtain ⟨⟨y0, y1⟩, yf⟩ := k1.two)
  exact end_tree (k1.put2 _ _) rfl rfl rfl ⟨_, rfl, ⟨_, _, rfl, (hm.put2 hz.out _ _).mono (by simp), hc⟩, below_put2 b1 (Nat.le_refl _) _ _⟩
set_option maxRecDepth 100000 in
set_option maxHeartbeats 8000000 in
theorem lof_any (k : Nat) (hk : k < 256) (lv : Value) (l : List Ar) (w : World) (hl : Trees w lv l) (hL : OkL l) (hE : Env w) :
    Calls Tryd.prog 85 #[.int .u8 k, lv] w fun e w' => ∃ v, e = .returned v ∧ MadeT w.heap.size w' v (ofT (hdK k) l) ∧ Below w.heap.size w w' := by
  have hov := fun W (h1 : Trees W lv l) (h2 : Env W) => of_any (hdK k) (.slice none 0 0) lv l W h1 ⟨hk, Nat.zero_le _, by omega⟩ hL.ok (by have := hL.tot; omega) (by have := hL.len; omega) h2
  simp only [hdK, nodeV_zero] at hov ⊢
  obtain ⟨B, hB⟩ : ∃ B, B = ofB ⟨k, 0#256, ⟨#[]⟩, 0, 0⟩ l := ⟨_, rfl⟩
  obtain ⟨X, hX⟩ : ∃ X, X = ofT ⟨k, 0#256, ⟨#[]⟩, 0, 0⟩ l := ⟨_, rfl⟩
  rw [← hX] at hov ⊢
  rw [← hB] at hov
  have b0 := (Below.refl w.heap.size w).alloc (Nat.le_refl _) (.cells #[.slice none 0 0, .int .i64 0] 26)
  have n0 := Cl.new w 26 #[.slice none 0 0, .int .i64 0]
  have hl0 := hl.below b0
  have hE0 := hE.below b0
  obtain ⟨p0, c0, rfl⟩ := hl.len
  clear hl hB hX
  go_enter Tryd.func85, Tryd.ntmps85
  go_wp2_with (go_at_call 16; refine (hov _ hl0 hE0).mono ?_; rintro e w1 ⟨v, rfl, ⟨nv, C, rfl, hm, hC⟩, hb⟩
               obtain ⟨p, c, rfl⟩ := own_slice hm.row
               have n1 := (n0.below hb n0.lt).alloc (.cells #[.slice p C.length c, .int .i64 X.root] 26)
               have b1 := (b0.trans (hb.mono b0.size)).alloc (b0.trans (hb.mono b0.size)).size (.cells #[.slice p C.length c, .int .i64 X.root] 26)
               have q1 := Cl.new w1 26 #[.slice p C.length c, .int .i64 X.root]
               have m1 := hm.below ((Below.refl _ _).alloc (Nat.le_refl _) (.cells #[.slice p C.length c, .int .i64 X.root] 26))
               have b0s := b0.size
               obtain ⟨⟨y0, y1⟩, yf⟩ := q1.two
               obtain ⟨⟨x0, x1⟩, xf⟩ := n1.two
               clear hb n0 b0 hE0 hl0)
  exact end_tree (n1.put2 _ _) rfl rfl rfl ⟨_, rfl, ⟨_, C, rfl, (m1.mono b0s).ty n1 (by decide) (by decide) (gb_put2 _ _ _ _), hC⟩, below_put2 b1 (by omega) _ _⟩
end Go.Proofs.YtpkjfdgjmcphmaaDoor

/- The statements' Exact and is. -/
namespace Go.Proofs.YtpkjfdgjmcphmaaDoor
open Go.RowKit Bset Tm

noncomputable def exactL (a b : List Ar) : Bool := decide (a.length = b.length) && (List.range a.length).all fun i => exactT (a.getD i noAr) (b.getD i noAr)
theorem exactL_iff {a b : List Ar} : exactL a b = true ↔ a.length = b.length ∧ ∀ i, i < a.length → exactT (a.getD i noAr) (b.getD i noAr) = true := by
  unfold exactL
  simp
theorem exactL_one (a b : Ar) : exactL [a] [b] = exactT a b := by simp [exactL]

set_option maxRecDepth 100000 in
set_option maxHeartbeats 8000000 in
theorem exact5_any (v1 v2 : Value) (a b : List Ar) (w : World) (h1 : Trees w v1 a) (h2 : Trees w v2 b) (hok : ∀ t ∈ a, OkA t.nodes) (hla : a.length ≤ 1000000000) (_hlb : b.length ≤ 1000000000) :
    Calls Tryd.prog 50 #[v1, v2] w fun e w' => e = .returned (.bool (exactL a b)) ∧ Below w.heap.size w w' := by
  obtain ⟨p1, c1, rfl⟩ := h1.len
  obtain ⟨p2, c2, rfl⟩ := h2.len
  by_cases hl : a.length = b.length
  · have hne : ((a.length : Int) != (b.length : Int)) = false := by simp [hl]
    have hne' : ((a.length : Int) = (b.length : Int)) = True := by simp [hl]
    have HL := Lib.hid hl
    clear hl
    go_enter Tryd.func50, Tryd.ntmps50
    go_wp2
    go_loopw [5] (fun v W => ∃ i : Nat, v = .int .i64 i ∧ i ≤ a.length ∧ (∀ j, j < i → exactT (a.getD j noAr) (b.getD j noAr) = true) ∧ Below w.heap.size w W) (fun v _ => a.length - (intOf v).toNat)
    case atStart => exact ⟨0, rfl, Nat.zero_le _, fun j hj => by omega, Below.refl _ _⟩
    case round =>
      obtain ⟨i, rfl, hi, hall, hB⟩ := hrel
      by_cases hlt : i < a.length
      · have hlt2 : i < b.length := by have := HL.out; omega
        obtain ⟨b1, o1, nv1, rfl, d0, d1, hN1⟩ := (h1.below hB).at hlt
        obtain ⟨b2, o2, nv2, rfl, e0, e1, hN2⟩ := (h2.below hB).at hlt2
        obtain ⟨q1, r1, rfl⟩ := hN1.len
        obtain ⟨q2, r2, rfl⟩ := hN2.len
        have hex := fun W (h1 : Tree W (treeV (.slice q1 a[i].nodes.length r1) a[i].root) a[i]) (h2 : Tree W (treeV (.slice q2 b[i].nodes.length r2) b[i].root) b[i]) => exact_any _ _ a[i] b[i] W h1 h2 (hok _ (List.getElem_mem hlt))
        have t1 : Tree wr (treeV (.slice q1 a[i].nodes.length r1) a[i].root) a[i] := ⟨_, rfl, hN1⟩
        have t2 : Tree wr (treeV (.slice q2 b[i].nodes.length r2) b[i].root) b[i] := ⟨_, rfl, hN2⟩
        have g1 : a.getD i noAr = a[i] := by simp [hlt]
        have g2 : b.getD i noAr = b[i] := by simp [hlt2]
        have hi0 : (0 : Int) ≤ (i : Int) := by omega
        have hi1 : (i : Int) < (a.length : Int) := by omega
        have hi2 : (i : Int) < (b.length : Int) := by omega
        generalize a[i] = ta at *
        generalize b[i] = tb at *
        obtain ⟨E, hE⟩ : ∃ E, exactT ta tb = E := ⟨_, rfl⟩
        rw [hE] at hex
        have HE := Lib.hid hE
        have HG1 := Lib.hid g1
        have HG2 := Lib.hid g2
        clear hE g1 g2 hN1 hN2
        go_wp2
        go_still_tail 8, (by kernel_rfl)
        change wpList _ _ _ _ _ wr.drew
        have t1' : Tree wr.drew (treeV (.slice q1 ta.nodes.length r1) ta.root) ta := t1.keep fun _ _ => rfl
        have t2' : Tree wr.drew (treeV (.slice q2 tb.nodes.length r2) tb.root) tb := t2.keep fun _ _ => rfl
        have hB' := hB.drew
        clear t1 t2 hB d0 d1 e0 e1
        generalize wr.drew = w5 at *
        cases E with
        | false =>
          go_wp2_with (go_at_call 35; refine (hex _ t1' t2').mono ?_; rintro e w6 ⟨rfl, hb6⟩; have b6 := hB'.trans (hb6.mono hB'.size))
          go_ret
          refine ⟨?_, b6⟩
          have : exactL a b = false := by
            rw [Bool.eq_false_iff]
            intro h
            have := (exactL_iff.1 h).2 i hlt
            rw [HG1.out, HG2.out, HE.out] at this
            cases this
          rw [this]
          rfl
        | true =>
          go_wp2_with (go_at_call 35; refine (hex _ t1' t2').mono ?_; rintro e w6 ⟨rfl, hb6⟩; have b6 := hB'.trans (hb6.mono hB'.size))
          refine ⟨⟨i + 1, by go_num, hlt, fun j hj => ?_, b6⟩, by first | exact meas_next hlt | exact meas_next' hlt⟩
          by_cases hji : j = i
          · subst hji
            rw [HG1.out, HG2.out, HE.out]
          · exact hall j (by omega)
      · have hie : i = a.length := by omega
        have h5 : ((i : Int) < (a.length : Int)) = False := by simp; omega
        have HI := Lib.hid hie
        clear hie
        go_wp2
        go_ret
        refine ⟨?_, hB⟩
        have : exactL a b = true := exactL_iff.2 ⟨HL.out, fun j hj => hall j (by have := HI.out; omega)⟩
        rw [this]
        rfl
  · have hne : ((a.length : Int) != (b.length : Int)) = true := by simp; omega
    have hne' : ((a.length : Int) = (b.length : Int)) = False := by simp; omega
    have HL := Lib.hid hl
    clear hl
    go_enter Tryd.func50, Tryd.ntmps50
    go_wp2
    go_ret
    refine ⟨?_, Below.refl _ _⟩
    have : exactL a b = false := by
      rw [Bool.eq_false_iff]
      exact fun h => HL.out (exactL_iff.1 h).1
    rw [this]
    rfl

end Go.Proofs.YtpkjfdgjmcphmaaDoor

/- The statements' is. -/
namespace Go.Proofs.YtpkjfdgjmcphmaaDoor
open Go.RowKit Bset Tm

set_option maxRecDepth 100000 in
set_option maxHeartbeats 8000000 in
theorem is_any (v1 v2 : Value) (a b : Ar) (ok : Bool) (w : World) (h1 : Tree w v1 a) (h2 : Tree w v2 b) (hok : OkA a.nodes) :
    Calls Tryd.prog 62 #[v1, .bool ok, v2] w fun e w' => e = .returned (.bool (ok && exactT a b)) ∧ Below w.heap.size w w' := by
  obtain ⟨nv1, rfl, hn1⟩ := h1
  obtain ⟨nv2, rfl, hn2⟩ := h2
  obtain ⟨p1, c1, rfl⟩ := hn1.len
  obtain ⟨p2, c2, rfl⟩ := hn2.len
  have b0 := ((Below.refl w.heap.size w).alloc (Nat.le_refl _) (.cells #[.slice p1 a.nodes.length c1, .int .i64 a.root] 26)).alloc (by simp) (.cells #[.slice p2 b.nodes.length c2, .int .i64 b.root] 26)
  have k0 := (Cl.new w 26 #[.slice p1 a.nodes.length c1, .int .i64 a.root]).alloc (.cells #[.slice p2 b.nodes.length c2, .int .i64 b.root] 26)
  have q0 : Cl _ (w.heap.size + 1) 26 #[.slice p2 b.nodes.length c2, .int .i64 b.root] := Cl.new' (w := w.alloc (.cells #[.slice p1 a.nodes.length c1, .int .i64 a.root] 26)) (by simp) 26 #[.slice p2 b.nodes.length c2, .int .i64 b.root]
  have t1 : Tree _ (treeV (.slice p1 a.nodes.length c1) a.root) a := ⟨_, rfl, hn1.below b0⟩
  have t2 : Tree _ (treeV (.slice p2 b.nodes.length c2) b.root) b := ⟨_, rfl, hn2.below b0⟩
  obtain ⟨⟨x0, x1⟩, xf⟩ := k0.two
  obtain ⟨⟨y0, y1⟩, yf⟩ := q0.two
  cases ok with
  | false =>
    clear t1 t2 k0 q0 hn1 hn2
    go_enter Tryd.func62, Tryd.ntmps62
    iterate 14 go_step
    generalize ((w.alloc _).alloc _) = W2 at *
    go_wp2
    go_ret
    exact ⟨rfl, b0⟩
  | true =>
    have hex := fun v1 v2 W (h1 : Trees W v1 [a]) (h2 : Trees W v2 [b]) => exact5_any v1 v2 [a] [b] W h1 h2 (fun t ht => by rw [List.mem_singleton] at ht; subst ht; exact hok) (by simp) (by simp)
    rw [exactL_one] at hex
    rw [Bool.true_and]
    have l1 := trees_one' t1
    have t2' := t2.below ((Below.refl _ _).alloc (Nat.le_refl _) (.cells #[.slice p1 a.nodes.length c1, .int .i64 a.root] 26))
    have l2 := trees_one' t2'
    have l1' := l1.below ((Below.refl _ _).alloc (Nat.le_refl _) (.cells #[.slice p2 b.nodes.length c2, .int .i64 b.root] 26))
    have b1 := b0.alloc b0.size (.cells #[.slice p1 a.nodes.length c1, .int .i64 a.root] 26)
    have b2 := b1.alloc b1.size (.cells #[.slice p2 b.nodes.length c2, .int .i64 b.root] 26)
    have q1 := q0.alloc (.cells #[.slice p1 a.nodes.length c1, .int .i64 a.root] 26)
    obtain ⟨⟨u0, u1⟩, uf⟩ := q1.two
    obtain ⟨E, hE⟩ : ∃ E, E = exactT a b := ⟨_, rfl⟩
    rw [← hE] at hex ⊢
    clear hE hn1 hn2 l1 t1 t2 t2' q0 k0 b0 b1 hok
    go_enter Tryd.func62, Tryd.ntmps62
    iterate 14 go_step
    generalize ((w.alloc _).alloc _) = W2 at *
    rw [World.size_alloc] at l2
    go_wp2_with (go_at_call 50; refine (hex _ _ _ l1' l2).mono ?_; rintro e w6 ⟨rfl, hb6⟩; have b6 := b2.trans (hb6.mono b2.size))
    go_ret
    exact ⟨rfl, b6⟩
end Go.Proofs.YtpkjfdgjmcphmaaDoor

/- The statements' large. -/
namespace Go.Proofs.YtpkjfdgjmcphmaaDoor
open Go.RowKit Bset Tm

/-- Few nodes, kids, and short texts. -/
def fewN (n : Nd) : Prop := n.kids.length ≤ 400 ∧ n.hd.text.size ≤ 8020
def fewT (t : Ar) : Prop := t.nodes.length ≤ 400 ∧ ∀ n ∈ t.nodes, fewN n

set_option maxRecDepth 100000 in
set_option maxHeartbeats 8000000 in
theorem large_any (lv : Value) (l : List Ar) (w : World) (hl : Trees w lv l) (hln : l.length ≤ 9223372036854775807) (hok : ∀ t ∈ l, t.nodes.length ≤ 9223372036854775807 ∧ ∀ n ∈ t.nodes, n.kids.length ≤ 9223372036854775807 ∧ n.hd.text.size ≤ 140737488355328) :
    Calls Tryd.prog 43 #[lv] w fun e w' => ∃ b, e = .returned (.bool b) ∧ (b = false → l.length ≤ 400 ∧ ∀ t ∈ l, fewT t) ∧ Below w.heap.size w w' := by
  obtain ⟨p0, c0, rfl⟩ := hl.len
  go_enter Tryd.func43, Tryd.ntmps43
  go_wp2
  go_loopw [3, 4, 5] (fun v3 v4 _ W => ∃ (N i : Nat), v3 = .int .i64 N ∧ v4 = .int .i64 i ∧ i ≤ l.length ∧ i ≤ N ∧ N ≤ 2000 ∧ (N < 400 → ∀ j (h : j < i) (h' : j < l.length), fewT l[j]) ∧ Below w.heap.size w W) (fun _ v _ _ => l.length - (intOf v).toNat)
  case atStart => exact ⟨0, 0, rfl, rfl, Nat.zero_le _, Nat.zero_le _, by omega, fun _ j hj => by omega, Below.refl _ _⟩
  case round =>
    obtain ⟨N, i, rfl, rfl, hi, hiN, hN, hall, hB⟩ := hrel
    by_cases hlt : i < l.length
    · by_cases h4 : N < 400
      · have d1 : decide ((i : Int) < (l.length : Int)) = true := by simp; omega
        have d2 : decide ((N : Int) < 400) = true := by simp; omega
        obtain ⟨b, off, nv, rfl, e0, e1, hNv⟩ := (hl.below hB).at hlt
        obtain ⟨q, r, rfl⟩ := hNv.len
        have hi0 : (0 : Int) ≤ (i : Int) := by omega
        have hi1 : (i : Int) < (l.length : Int) := by omega
        have hti := hok _ (List.getElem_mem hlt)
        have hNl := hNv.len
        generalize hti' : l[i] = t at *
        have HT := Lib.hid hti'
        clear hti'
        obtain ⟨n, hn⟩ : ∃ n, n = t.nodes.length := ⟨_, rfl⟩
        rw [← hn] at hti
        simp only [← hn] at e0 hNv
        have HN := Lib.hid hn
        clear hn hNl
        go_wp2
        go_loopw [3, 5] (fun v3 v5 W => ∃ (M k : Nat), v3 = .int .i64 M ∧ v5 = .int .i64 k ∧ k ≤ n ∧ N + 1 + min 400 n ≤ M ∧ M ≤ 2000 ∧ (M < 400 → ∀ j (h : j < k) (h' : j < t.nodes.length), fewN t.nodes[j]) ∧ Below w.heap.size w W) (fun _ v _ => n - (intOf v).toNat)
        case atStart => exact ⟨N + 1 + min 400 n, 0, by congr 1; omega, rfl, Nat.zero_le _, Nat.le_refl _, by omega, fun _ j hj => by omega, hB⟩
        case round =>
          obtain ⟨M, k, rfl, rfl, hk, hNM, hM, hkall, hB2⟩ := hrel
          have hlt' := hlt
          obtain ⟨b2, off2, nv2, ep, e0', e1', hNv'⟩ := (hl.below hB2).at hlt
          obtain ⟨rfl, rfl⟩ : b = b2 ∧ off = off2 := by simp at ep; exact ep
          rw [HT.out] at hNv' e1'
          obtain ⟨q2, r2, rfl⟩ := hNv'.len
          rw [← HN.out] at e0'
          clear e0 e1 hNv ep
          by_cases hkn : k < n
          · by_cases h5 : M < 400
            · have d3 : decide ((k : Int) < (n : Int)) = true := by simp; omega
              have d4 : decide ((M : Int) < 400) = true := by simp; omega
              have hkl : k < t.nodes.length := by have := HN.out; omega
              obtain ⟨p9, c9, e9, hh⟩ := hNv'
              rcases hh with hh | ⟨b9, o9, e9', hc9⟩
              · rw [hh] at hkl
                simp at hkl
              · obtain ⟨rfl, _⟩ : q2 = p9 ∧ r2 = c9 := by simpa using e9
                subst e9'
                obtain ⟨kv, ⟨x0, x1, x2, x3, x4, x5, x6, x7, x8⟩, hI⟩ := hc9 k hkl
                obtain ⟨p8, c8, rfl⟩ := hI.len
                have hnd := hti.2 _ (List.getElem_mem hkl)
                generalize hnd' : t.nodes[k] = nd at *
                have HND := Lib.hid hnd'
                clear hnd' hI hc9 e9 x0 x1 x2 x3 x4 x6 x7
                have hk0 : (0 : Int) ≤ (k : Int) := by omega
                have hk1 : (k : Int) < (n : Int) := by omega
                go_wp2
                go_still_tail 26, (by kernel_rfl)
                change wpList _ _ _ _ _ wr.drew
                have hB3 := hB2.drew
                clear hB2 e0' e1' x5 x8
                generalize wr.drew = w5 at *
                go_wp2
                refine ⟨⟨M + min 400 nd.kids.length + min 400 (nd.hd.text.size / 20), k + 1, ?_, by go_num, hkn, by omega, by omega, fun h j hj hj' => ?_, hB3⟩, by first | exact meas_next hkn | exact meas_next' hkn⟩
                · congr 1
                  rw [IntWalk.i64_in ((nd.hd.text.size : Int) / 20) (by omega), IntWalk.i64_in ((M : Int) + min 400 (nd.kids.length : Int)) (by omega), IntWalk.i64_in _ (by omega)]
                  omega
                · by_cases hjk : j = k
                  · subst hjk
                    rw [HND.out]
                    exact ⟨by omega, by omega⟩
                  · exact hkall (by omega) j (by omega) hj'
            · have d3 : decide ((k : Int) < (n : Int)) = true := by simp; omega
              have d4 : decide ((M : Int) < 400) = false := by simp; omega
              go_wp2
              exact ⟨⟨M, i + 1, rfl, by go_num, hlt, by omega, hM, fun h => absurd h h5, hB2⟩, by first | exact meas_next hlt | exact meas_next' hlt⟩
          · have d3 : decide ((k : Int) < (n : Int)) = false := by simp; omega
            go_wp2
            refine ⟨⟨M, i + 1, rfl, by go_num, hlt, by omega, hM, fun h j hj hj' => ?_, hB2⟩, by first | exact meas_next hlt | exact meas_next' hlt⟩
            by_cases hji : j = i
            · subst hji
              rw [HT.out]
              refine ⟨by have := HN.out; omega, fun x hx => ?_⟩
              obtain ⟨y, hy, rfl⟩ := List.mem_iff_getElem.1 hx
              exact hkall h y (by have := HN.out; omega) hy
            · exact hall (by omega) j (by omega) hj'
      · have d1 : decide ((i : Int) < (l.length : Int)) = true := by simp; omega
        have d2 : decide ((N : Int) < 400) = false := by simp; omega
        have d3 : (400 : Int) ≤ (N : Int) := by omega
        go_wp2
        go_ret
        exact ⟨_, rfl, fun h => by simp at h, hB⟩
    · have d1 : decide ((i : Int) < (l.length : Int)) = false := by simp; omega
      go_wp2
      go_ret
      refine ⟨_, rfl, fun h => ?_, hB⟩
      have h2 : N < 400 := by simp at h; omega
      refine ⟨by omega, fun t ht => ?_⟩
      obtain ⟨j, hj, rfl⟩ := List.mem_iff_getElem.1 ht
      exact hall h2 j (by omega) hj
end Go.Proofs.YtpkjfdgjmcphmaaDoor

/- Package expr's calls on right trees; boxes of trees. -/
namespace Go.Proofs.YtpkjfdgjmcphmaaDoor
open Go.RowKit Bset Tm

/-- A right tree that is not great. -/
structure Few (M : Nat) (t : RT Hd) : Prop where
  fit : fitT t = true
  size : size t ≤ M
theorem few_sizes {M : Nat} {l : List (RT Hd)} (h : ∀ t ∈ l, Few M t) : sizes l ≤ l.length * M := by
  induction l with
  | nil => simp [sizes]
  | cons t l ih =>
    have h1 := (h t (by simp)).size
    have h2 := ih fun x hx => h x (by simp [hx])
    rw [sizes, List.length_cons, Nat.add_mul]
    omega
theorem few_ok {M : Nat} (hM : M ≤ 1000) {l : List (RT Hd)} (h : ∀ t ∈ l, Few M t) (hl : l.length ≤ 1000) : OkL (l.map arOf) :=
  okL_fit (fun t ht => (h t ht).fit) (by
    have h1 := few_sizes h
    have h2 := Nat.mul_le_mul hl hM
    omega)
theorem all_right {l : List (RT Hd)} (h : ∀ t ∈ l, fitT t = true) : (l.map arOf).all rightB = true := by
  rw [List.all_eq_true]
  intro T hT
  obtain ⟨t, ht, rfl⟩ := List.mem_map.1 hT
  exact arOf_rightB (h t ht)
theorem map_tree (l : List (RT Hd)) : (l.map arOf).map tree = l := by
  rw [List.map_map]
  conv => rhs; rw [← List.map_id l]
  exact List.map_congr_left fun t _ => tree_arOf t
theorem seq_ar (lv : Value) (l : List (RT Hd)) (w : World) (hl : Trees w lv (l.map arOf)) (hL : OkL (l.map arOf)) (hf : ∀ t ∈ l, fitT t = true) (hE : Env w) :
    Calls Tryd.prog 46 #[lv] w fun e w' => ∃ v, e = .returned (.tuple #[v, .bool true]) ∧ MadeT w.heap.size w' v (arOf (seqR l)) ∧ Below w.heap.size w w' := by
  have h := seq_any lv _ w hl hL hE
  have hr := all_right hf
  rw [(seq_eq _).1, (seq_eq _).2.2 hr, hr, map_tree] at h
  exact h
theorem cho_ar (lv : Value) (l : List (RT Hd)) (w : World) (hl : Trees w lv (l.map arOf)) (hL : OkL (l.map arOf)) (hf : ∀ t ∈ l, fitT t = true) (hE : Env w) :
    Calls Tryd.prog 48 #[lv] w fun e w' => ∃ v, e = .returned (.tuple #[v, .bool true]) ∧ MadeT w.heap.size w' v (arOf (choR l)) ∧ Below w.heap.size w w' := by
  have h := choice_any lv _ w hl hL hE
  have hr := all_right hf
  rw [(cho_eq _).1, (cho_eq _).2.2 hr, hr, map_tree] at h
  exact h
theorem of_ar (k : Nat) (hk : k = 4 ∨ k = 5) (lv : Value) (l : List (RT Hd)) (h2 : 2 ≤ l.length) (w : World) (hl : Trees w lv (l.map arOf)) (hL : OkL (l.map arOf)) (hf : ∀ t ∈ l, fitT t = true) (hE : Env w) :
    Calls Tryd.prog 85 #[.int .u8 k, lv] w fun e w' => ∃ v, e = .returned v ∧ MadeT w.heap.size w' v (arOf (.mk (hdK k) l)) ∧ Below w.heap.size w w' := by
  have h := lof_any k (by omega) lv _ w hl hL hE
  have hB : ofB (hdK k) (l.map arOf) = true := by
    unfold ofB
    rw [all_right hf, Bool.and_true, List.length_map]
    have hx := fits_both (m := (l.length : Int)) (by omega)
    rcases hk with rfl | rfl
    · exact hx.1
    · exact hx.2
  rw [ofT_eq hB, map_tree] at h
  exact h
theorem ok_few {M : Nat} (hM : M ≤ 1000000) {t : RT Hd} (h : Few M t) : OkA (arOf t).nodes ∧ (arOf t).nodes.length ≤ 1000000 := by
  have h1 : (arOf t).nodes.length = size t := flat_length t
  have h2 := h.size
  exact ⟨ok_fit h.fit (by omega), by omega⟩
theorem head_ar (v : Value) (t : RT Hd) {M : Nat} (hM : M ≤ 1000000) (h : Few M t) (w : World) (hv : Tree w v (arOf t)) (hE : Env w) :
    Calls Tryd.prog 65 #[v] w fun e w' => ∃ v', e = .returned (.tuple #[v', .bool (!(partsR t).isEmpty)]) ∧ MadeT w.heap.size w' v' (((partsR t).map arOf).headD noAr) ∧ Below w.heap.size w w' := by
  have h1 := ok_few hM h
  have h2 := head_any v _ w hv h1.1 (by omega) hE
  rw [partsL_eq (arOf_rightB h.fit), tree_arOf] at h2
  simpa using h2
theorem tail_ar (v : Value) (t : RT Hd) {M : Nat} (hM : M ≤ 1000000) (h : Few M t) (w : World) (hv : Tree w v (arOf t)) (hE : Env w) :
    Calls Tryd.prog 66 #[v] w fun e w' => ∃ v', e = .returned (.tuple #[v', .bool (!(partsR t).isEmpty)]) ∧ MadeT w.heap.size w' v' (if (partsR t).isEmpty = true then noAr else arOf (seqR (partsR t).tail)) ∧ Below w.heap.size w w' := by
  have h1 := ok_few hM h
  have h2 := tail_any v _ w hv h1.1 (by omega) hE
  have hf : ∀ x ∈ (partsR t).tail, fitT x = true := fun x hx => (partsR_good h.fit).1 x (List.mem_of_mem_tail hx)
  have hr := all_right hf
  have ht : ((partsR t).map arOf).tail = (partsR t).tail.map arOf := List.map_tail.symm
  rw [partsL_eq (arOf_rightB h.fit), tree_arOf, ht, (seq_eq _).1, (seq_eq _).2.2 hr, hr, map_tree] at h2
  simpa using h2

/-- Trees in boxes, and trees at hand. -/
structure Bq (w0 : World) (L : List (Nat × Value × Ar)) (F : List (Value × Ar)) (W : World) : Prop where
  b : Below w0.heap.size w0 W
  c : ∀ x ∈ L, Cl W x.1 26 #[x.2.1, .int .i64 x.2.2.root] ∧ Tree W (treeV x.2.1 x.2.2.root) x.2.2
  f : ∀ x ∈ F, Tree W (treeV x.1 x.2.root) x.2
namespace Bq
variable {w0 W W' : World} {L : List (Nat × Value × Ar)} {F : List (Value × Ar)}
theorem start (w : World) : Bq w [] [] w := ⟨Below.refl _ _, fun _ h => (by cases h), fun _ h => (by cases h)⟩
theorem below (h : Bq w0 L F W) (hb : Below W.heap.size W W') : Bq w0 L F W' :=
  ⟨h.b.trans (hb.mono h.b.size), fun x hx => ⟨(h.c x hx).1.below hb (h.c x hx).1.lt, (h.c x hx).2.below hb⟩, fun x hx => (h.f x hx).below hb⟩
theorem alloc (h : Bq w0 L F W) (o : Obj) : Bq w0 L F (W.alloc o) := h.below ((Below.refl _ _).alloc (Nat.le_refl _) o)
theorem loose (h : Bq w0 L F W) {v : Value} {T : Ar} (ht : Tree W (treeV v T.root) T) : Bq w0 L ((v, T) :: F) W :=
  ⟨h.b, h.c, fun x hx => by
    rcases List.mem_cons.1 hx with rfl | hx
    · exact ht
    · exact h.f x hx⟩
theorem none (h : Bq w0 L F W) : Bq w0 L [] W := ⟨h.b, h.c, fun _ h => by cases h⟩
theorem box (h : Bq w0 L F W) {v : Value} {T : Ar} (ht : Tree W (treeV v T.root) T) : Bq w0 ((W.heap.size, v, T) :: L) F (W.alloc (.cells #[v, .int .i64 T.root] 26)) := by
  have hb := (Below.refl _ W).alloc (Nat.le_refl _) (.cells #[v, .int .i64 T.root] 26)
  have h1 := h.below hb
  refine ⟨h1.b, fun x hx => ?_, h1.f⟩
  rcases List.mem_cons.1 hx with rfl | hx
  · exact ⟨Cl.new W _ _, ht.below hb⟩
  · exact h1.c x hx
theorem take (h : Bq w0 L F W) {x : Nat × Value × Ar} (hx : x ∈ L) : Bq w0 L ((x.2.1, x.2.2) :: F) W := h.loose (h.c x hx).2
end Bq
end Go.Proofs.YtpkjfdgjmcphmaaDoor

/- The statements' awake. -/
namespace Go.Proofs.YtpkjfdgjmcphmaaDoor
open Go.RowKit Bset Tm

abbrev txR (c : UInt8) : RT Hd := .mk ⟨2, 0#256, ⟨#[c]⟩, 0, 0⟩ []
abbrev ruR (c : UInt8) : RT Hd := .mk ⟨3, 0#256, ⟨#[c]⟩, 0, 0⟩ []
theorem Bq.got {w0 W W' : World} {L : List (Nat × Value × Ar)} {F : List (Value × Ar)} (h : Bq w0 L F W) (hb : Below W.heap.size W W') {v : Value} {T : Ar} {lo : Nat} (hm : MadeT lo W' v T) : ∃ p c, v = treeV (.slice p T.nodes.length c) T.root ∧ Bq w0 L ((.slice p T.nodes.length c, T) :: F) W' := by
  obtain ⟨nv, C, rfl, hM, hC⟩ := hm
  obtain ⟨p, c, rfl⟩ := own_slice hM.row
  have hl : C.length = T.nodes.length := by rw [← hC, List.length_map]
  refine ⟨p, c, by rw [hl], (h.below hb).loose ⟨_, by rw [hl], hC ▸ hM.nodes⟩⟩

theorem okl_few (l : List (RT Hd)) (h : (l.all fitT && decide (sizes l ≤ 1000)) = true) : OkL (l.map arOf) ∧ ∀ t ∈ l, fitT t = true := by
  rw [Bool.and_eq_true, List.all_eq_true, decide_eq_true_eq] at h
  exact ⟨okL_fit h.1 (by omega), h.1⟩
theorem few_few (t : RT Hd) (h : (fitT t && decide (size t ≤ 1000)) = true) : Few 1000 t := by
  rw [Bool.and_eq_true, decide_eq_true_eq] at h
  exact ⟨h.1, h.2⟩
theorem text_ar (c : UInt8) (w : World) :
    Calls Tryd.prog 86 #[.string ⟨#[c]⟩] w fun e w' => ∃ v, e = .returned v ∧ MadeT w.heap.size w' v (arOf (txR c)) ∧ Below w.heap.size w w' := ltext_any ⟨#[c]⟩ (by show (1 : Nat) ≤ _; omega) w
theorem rule_ar (c : UInt8) (w : World) :
    Calls Tryd.prog 67 #[.string ⟨#[c]⟩] w fun e w' => ∃ v, e = .returned v ∧ MadeT w.heap.size w' v (arOf (ruR c)) ∧ Below w.heap.size w w' := rule_any ⟨#[c]⟩ (by show (1 : Nat) ≤ _; omega) w
theorem empty_ar (w : World) :
    Calls Tryd.prog 17 #[] w fun e w' => ∃ v, e = .returned v ∧ MadeT w.heap.size w' v (arOf (.mk noHd [])) ∧ Below w.heap.size w w' := empty_any w
theorem set_ar (w : World) :
    Calls Tryd.prog 87 #[.agg #[.int .u64 0, .int .u64 0, .int .u64 0, .int .u64 0]] w fun e w' => ∃ v, e = .returned v ∧ MadeT w.heap.size w' v (arOf (.mk (hdK 1) [])) ∧ Below w.heap.size w w' := set0_any w
section
variable {w0 W : World} {L : List (Nat × Value × Ar)} {F : List (Value × Ar)} {v0 v1 v2 v3 v4 : Value} {T0 T1 T2 T3 T4 : Ar}
theorem Bq.f0 (h : Bq w0 L ((v0, T0) :: F) W) : Tree W (treeV v0 T0.root) T0 := h.f _ (.head _)
theorem Bq.f1 (h : Bq w0 L ((v0, T0) :: (v1, T1) :: F) W) : Tree W (treeV v1 T1.root) T1 := h.f _ (.tail _ (.head _))
theorem Bq.f2 (h : Bq w0 L ((v0, T0) :: (v1, T1) :: (v2, T2) :: F) W) : Tree W (treeV v2 T2.root) T2 := h.f _ (.tail _ (.tail _ (.head _)))
theorem Bq.f3 (h : Bq w0 L ((v0, T0) :: (v1, T1) :: (v2, T2) :: (v3, T3) :: F) W) : Tree W (treeV v3 T3.root) T3 := h.f _ (.tail _ (.tail _ (.tail _ (.head _))))
theorem Bq.f4 (h : Bq w0 L ((v0, T0) :: (v1, T1) :: (v2, T2) :: (v3, T3) :: (v4, T4) :: F) W) : Tree W (treeV v4 T4.root) T4 := h.f _ (.tail _ (.tail _ (.tail _ (.tail _ (.head _)))))
end
end Go.Proofs.YtpkjfdgjmcphmaaDoor

/- What regions make of trees: where it lies, and that it stays. -/
namespace Go.Proofs.YtpkjfdgjmcphmaaDoor
open Go Go.RowKit Bset Tm

theorem Like.refl (B lo hi : Nat) (w : World) : Like B lo hi w w := ⟨Nat.le_refl _, fun _ _ => rfl, fun _ _ _ => rfl⟩
theorem Cl.like {B lo hi : Nat} {w w' : World} {g : Nat} {t : TypeId} {cs : Array Value} (h : Cl w g t cs) (hl : Like B lo hi w w') (h1 : lo ≤ g) (h2 : g < hi) : Cl w' g t cs := by
  unfold Cl at *
  rw [hl.own g h1 h2]
  exact h

/-- A tree whose memory was made in the blocks from lo on, ahead of hi. -/
def TreeAt (lo hi : Nat) (w : World) (v : Value) (T : Ar) : Prop := ∃ w1 : World, w1.heap.size = hi ∧ MadeT lo w1 v T ∧ ∀ b, lo ≤ b → b < hi → w.heap[b]? = w1.heap[b]?
theorem TreeAt.of {lo : Nat} {w : World} {v : Value} {T : Ar} (h : MadeT lo w v T) : TreeAt lo w.heap.size w v T := ⟨w, rfl, h, fun _ _ _ => rfl⟩
theorem TreeAt.like {B lo hi : Nat} {w w' : World} {v : Value} {T : Ar} (h : TreeAt lo hi w v T) (hl : Like B lo hi w w') : TreeAt lo hi w' v T := by
  obtain ⟨w1, h1, h2, h3⟩ := h
  exact ⟨w1, h1, h2, fun b hb hb2 => (hl.own b hb hb2).trans (h3 b hb hb2)⟩
theorem TreeAt.made {lo hi : Nat} {w : World} {v : Value} {T : Ar} (h : TreeAt lo hi w v T) : MadeT lo w v T := by
  obtain ⟨w1, h1, ⟨nv, C, rfl, hM, hC⟩, h3⟩ := h
  exact ⟨nv, C, rfl, hM.keep fun b hb hb2 => h3 b hb (by omega), hC⟩
theorem TreeAt.tree {lo hi : Nat} {w : World} {v : Value} {T : Ar} (h : TreeAt lo hi w v T) : ∃ p c, v = treeV (.slice p T.nodes.length c) T.root ∧ Tree w (treeV (.slice p T.nodes.length c) T.root) T := by
  obtain ⟨nv, C, rfl, hM, hC⟩ := h.made
  obtain ⟨p, c, rfl⟩ := own_slice hM.row
  have hl : C.length = T.nodes.length := by rw [← hC, List.length_map]
  exact ⟨p, c, by rw [hl], _, by rw [hl], hC ▸ hM.nodes⟩
theorem trees_in2 {w : World} {g : Nat} {v1 v2 : Value} {T U : Ar} (hc : Cl w g 26 #[v1, .int .i64 T.root, v2, .int .i64 U.root]) (h1 : Tree w (treeV v1 T.root) T) (h2 : Tree w (treeV v2 U.root) U) : Trees w (.slice (some ⟨g, 0, none⟩) 2 2) [T, U] := by
  obtain ⟨n1, e1, g1⟩ := h1
  obtain ⟨n2, e2, g2⟩ := h2
  obtain rfl : v1 = n1 := by simpa using e1
  obtain rfl : v2 = n2 := by simpa using e2
  refine ⟨_, _, rfl, .inr ⟨_, _, rfl, fun j hj => ?_⟩⟩
  have hj2 : j = 0 ∨ j = 1 := by simp at hj; omega
  rcases hj2 with rfl | rfl
  · exact ⟨v1, hc.cell 0, hc.cell 1, g1⟩
  · exact ⟨v2, hc.cell 2, hc.cell 3, g2⟩
theorem trees_in3 {w : World} {g : Nat} {v1 v2 v3 : Value} {T U X : Ar} (hc : Cl w g 26 #[v1, .int .i64 T.root, v2, .int .i64 U.root, v3, .int .i64 X.root]) (h1 : Tree w (treeV v1 T.root) T) (h2 : Tree w (treeV v2 U.root) U) (h3 : Tree w (treeV v3 X.root) X) : Trees w (.slice (some ⟨g, 0, none⟩) 3 3) [T, U, X] := by
  obtain ⟨n1, e1, g1⟩ := h1
  obtain ⟨n2, e2, g2⟩ := h2
  obtain ⟨n3, e3, g3⟩ := h3
  obtain rfl : v1 = n1 := by simpa using e1
  obtain rfl : v2 = n2 := by simpa using e2
  obtain rfl : v3 = n3 := by simpa using e3
  refine ⟨_, _, rfl, .inr ⟨_, _, rfl, fun j hj => ?_⟩⟩
  have hj2 : j = 0 ∨ j = 1 ∨ j = 2 := by simp at hj; omega
  rcases hj2 with rfl | rfl | rfl
  · exact ⟨v1, hc.cell 0, hc.cell 1, g1⟩
  · exact ⟨v2, hc.cell 2, hc.cell 3, g2⟩
  · exact ⟨v3, hc.cell 4, hc.cell 5, g3⟩
theorem trees_in2x {w : World} {g : Nat} {v1 v2 u1 u2 n1 n2 : Value} {T U : Ar} (hc : Cl w g 26 #[v1, .int .i64 T.root, v2, .int .i64 U.root]) (a1 : u1 = treeV v1 T.root) (b1 : u1 = treeV n1 T.root) (h1 : Tree w (treeV n1 T.root) T) (a2 : u2 = treeV v2 U.root) (b2 : u2 = treeV n2 U.root) (h2 : Tree w (treeV n2 U.root) U) : Trees w (.slice (some ⟨g, 0, none⟩) 2 2) [T, U] := by
  obtain rfl : v1 = n1 := by simpa using a1.symm.trans b1
  obtain rfl : v2 = n2 := by simpa using a2.symm.trans b2
  exact trees_in2 hc h1 h2
theorem Writes.put2 {w : World} {g : Nat} (v1 v2 : Value) : Writes g (g + 1) w ((w.setCell ⟨g, 0, none⟩ v1).setCell ⟨g, 1, none⟩ v2) := by
  refine ⟨rfl, rfl, rfl, by simp [World.setCell], fun k hk => ?_⟩
  have : k ≠ g := by omega
  rw [Below.heap_setCell _ _ _ _ this, Below.heap_setCell _ _ _ _ this]
theorem Bq.add {w0 W : World} {L : List (Nat × Value × Ar)} {F : List (Value × Ar)} (h : Bq w0 L F W) {g : Nat} {v : Value} {T : Ar} (hc : Cl W g 26 #[v, .int .i64 T.root]) (ht : Tree W (treeV v T.root) T) : Bq w0 ((g, v, T) :: L) F W :=
  ⟨h.b, fun x hx => by
    rcases List.mem_cons.1 hx with rfl | hx
    · exact ⟨hc, ht⟩
    · exact h.c x hx, h.f⟩
end Go.Proofs.YtpkjfdgjmcphmaaDoor

/- What awake's calls come to. -/
namespace Go.Proofs.YtpkjfdgjmcphmaaDoor
open Go.RowKit Bset Tm

abbrev emR : RT Hd := .mk noHd []
abbrev abcR : RT Hd := .mk (hdK 4) [txR 97, txR 98, txR 99]
abbrev bcR : RT Hd := .mk (hdK 4) [txR 98, txR 99]
abbrev xyR : RT Hd := .mk (hdK 5) [ruR 120, ruR 121]
abbrev xyzR : RT Hd := .mk (hdK 5) [ruR 120, ruR 121, ruR 122]
abbrev repR : RT Hd := .mk (repH 0 (-1)) [ruR 120]
theorem aw1 : seqR [txR 97, emR, bcR] = abcR := rfl
theorem aw2 : seqR [] = emR := rfl
theorem aw3 : seqR [emR] = emR := rfl
theorem aw4 : choR [xyR, ruR 122] = xyzR := rfl
theorem aw5 : choR [] = .mk (hdK 1) [] := rfl
theorem aw6 : partsR abcR = [txR 97, txR 98, txR 99] := rfl
theorem aw7 : seqR [txR 98, txR 99] = bcR := rfl
theorem aw8 : partsR repR = [repR] := rfl
theorem aw9 : ofB (repH 0 (-1)) [arOf (ruR 120)] = true := by
  unfold ofB
  have := all_right (l := [ruR 120]) (by decide +kernel)
  simp only [List.map] at this
  rw [this]
  decide +kernel
theorem aw10 : madeT (ofT (repH 0 (-1)) [arOf (ruR 120)]) = arOf repR := by
  rw [ofT_eq aw9, madeT_yes (arOf_rightB (by decide +kernel)), tree_arOf]
  rw [show [arOf (ruR 120)].map tree = [ruR 120] from map_tree [ruR 120]]
  exact congrArg arOf (nrm_self repR (by decide +kernel) (by decide +kernel))
theorem aw11 : ofB (repH 3 2) [arOf (ruR 120)] = false := by
  unfold ofB
  rw [show fits (repH 3 2) (([arOf (ruR 120)].length : Nat) : Int) = false by decide +kernel]
  rfl
section
variable (v : Value) (w : World)
theorem head_abc (hv : Tree w v (arOf abcR)) (hE : Env w) :
    Calls Tryd.prog 65 #[v] w fun e w' => ∃ v', e = .returned (.tuple #[v', .bool true]) ∧ MadeT w.heap.size w' v' (arOf (txR 97)) ∧ Below w.heap.size w w' := by
  have h := head_ar v abcR (M := 1000) (by omega) (few_few _ (by decide +kernel)) w hv hE
  rw [aw6] at h
  exact h
theorem tail_abc (hv : Tree w v (arOf abcR)) (hE : Env w) :
    Calls Tryd.prog 66 #[v] w fun e w' => ∃ v', e = .returned (.tuple #[v', .bool true]) ∧ MadeT w.heap.size w' v' (arOf bcR) ∧ Below w.heap.size w w' := by
  have h := tail_ar v abcR (M := 1000) (by omega) (few_few _ (by decide +kernel)) w hv hE
  rw [aw6] at h
  exact h
theorem head_rep (hv : Tree w v (arOf repR)) (hE : Env w) :
    Calls Tryd.prog 65 #[v] w fun e w' => ∃ v', e = .returned (.tuple #[v', .bool true]) ∧ MadeT w.heap.size w' v' (arOf repR) ∧ Below w.heap.size w w' := by
  have h := head_ar v repR (M := 1000) (by omega) (few_few _ (by decide +kernel)) w hv hE
  rw [aw8] at h
  exact h
theorem tail_rep (hv : Tree w v (arOf repR)) (hE : Env w) :
    Calls Tryd.prog 66 #[v] w fun e w' => ∃ v', e = .returned (.tuple #[v', .bool true]) ∧ MadeT w.heap.size w' v' (arOf emR) ∧ Below w.heap.size w w' := by
  have h := tail_ar v repR (M := 1000) (by omega) (few_few _ (by decide +kernel)) w hv hE
  rw [aw8] at h
  exact h
theorem rep_x (hv : Tree w v (arOf (ruR 120))) (hE : Env w) :
    Calls Tryd.prog 52 #[v, .int .i64 0, .int .i64 (-1)] w fun e w' => ∃ v', e = .returned (.tuple #[v', .bool true]) ∧ MadeT w.heap.size w' v' (arOf repR) ∧ Below w.heap.size w w' := by
  have ho := ok_few (M := 1000) (by omega) (few_few (ruR 120) (by decide +kernel))
  have h := rep_any 0 (-1) v _ w hv ho.1 (by omega) hE
  rw [aw9, aw10] at h
  exact h
theorem rep_no (hv : Tree w v (arOf (ruR 120))) (hE : Env w) :
    Calls Tryd.prog 52 #[v, .int .i64 3, .int .i64 2] w fun e w' => ∃ v', e = .returned (.tuple #[v', .bool false]) ∧ MadeT w.heap.size w' v' (madeT (ofT (repH 3 2) [arOf (ruR 120)])) ∧ Below w.heap.size w w' := by
  have ho := ok_few (M := 1000) (by omega) (few_few (ruR 120) (by decide +kernel))
  have h := rep_any 3 2 v _ w hv ho.1 (by omega) hE
  rw [aw11] at h
  exact h
theorem is_same (v2 : Value) (t : RT Hd) (ht : (fitT t && decide (size t ≤ 1000)) = true) (h1 : Tree w v (arOf t)) (h2 : Tree w v2 (arOf t)) :
    Calls Tryd.prog 62 #[v, .bool true, v2] w fun e w' => e = .returned (.bool true) ∧ Below w.heap.size w w' := by
  have ho := ok_few (M := 1000) (by omega) (few_few t ht)
  have h := is_any v v2 _ _ true w h1 h2 ho.1
  rw [exact_self] at h
  exact h
end
end Go.Proofs.YtpkjfdgjmcphmaaDoor

/- Seq and Choice of three: the maths; lists of right arenas. -/
namespace Go.Proofs.YtpkjfdgjmcphmaaDoor
open Go.RowKit Bset Tm

theorem nrm_seqR {l : List (RT Hd)} (h : ∀ t ∈ l, fitT t = true) : nrm (seqR l) = seqR l := nrm_self _ (seqR_good h).1 (seqR_good h).2
theorem nrm_choR {l : List (RT Hd)} (h : ∀ t ∈ l, fitT t = true) : nrm (choR l) = choR l := nrm_self _ (choR_good h).1 (choR_good h).2
theorem seqR_in {l l' r : List (RT Hd)} (hl : ∀ t ∈ l, fitT t = true) : seqR (l' ++ seqR l :: r) = seqR (l' ++ l ++ r) := by
  have e : gat 4 ((l' ++ seqR l :: r).map nrm) = gat 4 ((l' ++ l ++ r).map nrm) := by
    rw [List.map_append, List.map_cons, gat_append, gat_cons, nrm_seqR hl, seqR_parts hl, List.map_append, List.map_append, gat_append, gat_append, List.append_assoc]
  show some1 (gat 4 _) _ _ = some1 (gat 4 _) _ _
  rw [e]
theorem choR_in {l l' r : List (RT Hd)} (hl : ∀ t ∈ l, fitT t = true) (h0 : l ≠ []) : choR (l' ++ choR l :: r) = choR (l' ++ l ++ r) := by
  have e : gat 5 ((l' ++ choR l :: r).map nrm) = gat 5 ((l' ++ l ++ r).map nrm) := by
    rw [List.map_append, List.map_cons, gat_append, gat_cons, nrm_choR hl, choR_ways hl h0, List.map_append, List.map_append, gat_append, gat_append, List.append_assoc]
  show some1 (gat 5 _) _ _ = some1 (gat 5 _) _ _
  rw [e]
theorem two_fit {s t : RT Hd} (hs : fitT s = true) (ht : fitT t = true) : ∀ x ∈ [s, t], fitT x = true := fun x hx => by
  rcases List.mem_cons.1 hx with rfl | hx
  · exact hs
  · rw [List.mem_singleton.1 hx]; exact ht
theorem seq_left {s t u : RT Hd} (hs : fitT s = true) (ht : fitT t = true) : seqR [seqR [s, t], u] = seqR [s, t, u] := seqR_in (l' := []) (r := [u]) (two_fit hs ht)
theorem seq_right {s t u : RT Hd} (ht : fitT t = true) (hu : fitT u = true) : seqR [s, seqR [t, u]] = seqR [s, t, u] := seqR_in (l' := [s]) (r := []) (two_fit ht hu)
theorem cho_left {s t u : RT Hd} (hs : fitT s = true) (ht : fitT t = true) : choR [choR [s, t], u] = choR [s, t, u] := choR_in (l' := []) (r := [u]) (two_fit hs ht) (by simp)
theorem cho_right {s t u : RT Hd} (ht : fitT t = true) (hu : fitT u = true) : choR [s, choR [t, u]] = choR [s, t, u] := choR_in (l' := [s]) (r := []) (two_fit ht hu) (by simp)

/-- A right arena that is not great. -/
structure Fine (M : Nat) (T : Ar) : Prop where
  right : rightB T = true
  ok : OkA T.nodes
  size : T.nodes.length ≤ M
theorem fine_arOf {M : Nat} {t : RT Hd} (hM : M ≤ 1000000) (hf : fitT t = true) (hs : size t ≤ M) : Fine M (arOf t) :=
  ⟨arOf_rightB hf, ok_fit hf (by omega), by have : (arOf t).nodes.length = size t := flat_length t; omega⟩
theorem fine_okL {M : Nat} (hM : M ≤ 1000000) {l : List Ar} (h : ∀ T ∈ l, Fine M T) (hl : l.length ≤ 1000) : OkL l where
  ok := fun T hT => (h T hT).ok
  tot := by
    have : ∀ l : List Ar, (∀ T ∈ l, Fine M T) → total l ≤ l.length * M := by
      intro l
      induction l with
      | nil => intro _; simp [total]
      | cons T l ih =>
        intro h
        have h1 := (h T (by simp)).size
        have h2 := ih fun x hx => h x (by simp [hx])
        have h3 : total (T :: l) = T.nodes.length + total l := by simp [total]
        rw [h3, List.length_cons, Nat.add_mul]
        omega
    have h1 := this l h
    have h2 := Nat.mul_le_mul hl hM
    omega
  len := by omega
theorem fine_right {M : Nat} {l : List Ar} (h : ∀ T ∈ l, Fine M T) : l.all rightB = true := List.all_eq_true.2 fun T hT => (h T hT).right
theorem fine_fit {M : Nat} {T : Ar} (h : Fine M T) : fitT (tree T) = true := trees_fit (l := [T]) (by simp [h.right]) _ (by simp)
theorem fine_size {M : Nat} {T : Ar} (h : Fine M T) : size (tree T) ≤ M := by
  rw [(rightB_iff.1 h.right).size]
  exact h.size
theorem seq_fine (lv : Value) {M : Nat} (hM : M ≤ 1000000) (l : List Ar) (w : World) (hl : Trees w lv l) (h : ∀ T ∈ l, Fine M T) (hlen : l.length ≤ 1000) (hE : Env w) :
    Calls Tryd.prog 46 #[lv] w fun e w' => ∃ v, e = .returned (.tuple #[v, .bool true]) ∧ MadeT w.heap.size w' v (arOf (seqR (l.map tree))) ∧ Below w.heap.size w w' := by
  have h1 := seq_any lv _ w hl (fine_okL hM h hlen) hE
  rw [(seq_eq _).1, (seq_eq _).2.2 (fine_right h), fine_right h] at h1
  exact h1
theorem cho_fine (lv : Value) {M : Nat} (hM : M ≤ 1000000) (l : List Ar) (w : World) (hl : Trees w lv l) (h : ∀ T ∈ l, Fine M T) (hlen : l.length ≤ 1000) (hE : Env w) :
    Calls Tryd.prog 48 #[lv] w fun e w' => ∃ v, e = .returned (.tuple #[v, .bool true]) ∧ MadeT w.heap.size w' v (arOf (choR (l.map tree))) ∧ Below w.heap.size w w' := by
  have h1 := choice_any lv _ w hl (fine_okL hM h hlen) hE
  rw [(cho_eq _).1, (cho_eq _).2.2 (fine_right h), fine_right h] at h1
  exact h1
theorem is_self (v v2 : Value) (w : World) (T : Ar) (hok : OkA T.nodes) (h1 : Tree w v T) (h2 : Tree w v2 T) :
    Calls Tryd.prog 62 #[v, .bool true, v2] w fun e w' => e = .returned (.bool true) ∧ Below w.heap.size w w' := by
  have h := is_any v v2 _ _ true w h1 h2 hok
  rw [exact_self] at h
  exact h
end Go.Proofs.YtpkjfdgjmcphmaaDoor

/- Boxes of trees that are written over. -/
namespace Go.Proofs.YtpkjfdgjmcphmaaDoor
open Go.RowKit Bset Tm

theorem trees_twoG {w : World} {g : Nat} {v1 v2 : Value} {T U : Ar} (h1 : Tree w (treeV v1 T.root) T) (h2 : Tree w (treeV v2 U.root) U) (hg : g = w.heap.size) : Trees (w.alloc (.cells #[v1, .int .i64 T.root, v2, .int .i64 U.root] 26)) (.slice (some ⟨g, 0, none⟩) 2 2) [T, U] := by
  subst hg
  exact trees_two h1 h2
theorem trees_threeG {w : World} {g : Nat} {v1 v2 v3 : Value} {T U V : Ar} (h1 : Tree w (treeV v1 T.root) T) (h2 : Tree w (treeV v2 U.root) U) (h3 : Tree w (treeV v3 V.root) V) (hg : g = w.heap.size) : Trees (w.alloc (.cells #[v1, .int .i64 T.root, v2, .int .i64 U.root, v3, .int .i64 V.root] 26)) (.slice (some ⟨g, 0, none⟩) 3 3) [T, U, V] := by
  subst hg
  exact trees_three h1 h2 h3

/-- Boxes of trees: each tree is the caller's, or was made since. -/
structure By (w0 : World) (L : List (Nat × Value × Ar)) (W : World) : Prop where
  b : Below w0.heap.size w0 W
  at' : ∀ (i : Nat) (x : Nat × Value × Ar), L[i]? = some x → w0.heap.size ≤ x.1 ∧ Cl W x.1 26 #[x.2.1, .int .i64 x.2.2.root] ∧ (Tree w0 (treeV x.2.1 x.2.2.root) x.2.2 ∨ MadeT w0.heap.size W (treeV x.2.1 x.2.2.root) x.2.2)
  apart : ∀ (i j : Nat) (x y : Nat × Value × Ar), L[i]? = some x → L[j]? = some y → i ≠ j → x.1 ≠ y.1
namespace By
variable {w0 W W' : World} {L : List (Nat × Value × Ar)}
theorem start (w : World) : By w [] w := ⟨Below.refl _ _, fun i x h => (by simp at h), fun i j x y h => (by simp at h)⟩
theorem below (h : By w0 L W) (hb : Below W.heap.size W W') : By w0 L W' :=
  ⟨h.b.trans (hb.mono h.b.size), fun i x hx => ⟨(h.at' i x hx).1, (h.at' i x hx).2.1.below hb (h.at' i x hx).2.1.lt, (h.at' i x hx).2.2.imp id fun m => m.below hb⟩, h.apart⟩
theorem alloc (h : By w0 L W) (o : Obj) : By w0 L (W.alloc o) := h.below ((Below.refl _ W).alloc (Nat.le_refl _) o)
theorem cl (h : By w0 L W) (i : Nat) {x : Nat × Value × Ar} (hx : L[i]? = some x) : Cl W x.1 26 #[x.2.1, .int .i64 x.2.2.root] := (h.at' i x hx).2.1
theorem tree (h : By w0 L W) (i : Nat) {x : Nat × Value × Ar} (hx : L[i]? = some x) : Tree W (treeV x.2.1 x.2.2.root) x.2.2 := by
  rcases (h.at' i x hx).2.2 with h1 | h1
  · exact h1.below h.b
  · exact h1.tree
theorem cells (h : By w0 L W) (i : Nat) {x : Nat × Value × Ar} (hx : L[i]? = some x) : W.cell? ⟨x.1, 0, none⟩ = some x.2.1 ∧ W.cell? ⟨x.1, 1, none⟩ = some (.int .i64 x.2.2.root) := (h.cl i hx).two.1
theorem free (h : By w0 L W) (i : Nat) {x : Nat × Value × Ar} (hx : L[i]? = some x) : W.frozen? ⟨x.1, 0, none⟩ = false ∧ W.frozen? ⟨x.1, 1, none⟩ = false := ⟨(h.cl i hx).free 0, (h.cl i hx).free 1⟩
/-- One more box. -/
theorem more (h : By w0 L W) {v : Value} {T : Ar} (ht : Tree w0 (treeV v T.root) T ∨ MadeT w0.heap.size W (treeV v T.root) T) : By w0 ((W.heap.size, v, T) :: L) (W.alloc (.cells #[v, .int .i64 T.root] 26)) := by
  have hb := (Below.refl _ W).alloc (Nat.le_refl _) (.cells #[v, .int .i64 T.root] 26)
  have h1 := h.below hb
  refine ⟨h1.b, fun i x hx => ?_, fun i j x y hx hy hij => ?_⟩
  · cases i with
    | zero =>
      obtain rfl : (W.heap.size, v, T) = x := by simpa using hx
      exact ⟨h.b.size, Cl.new W _ _, ht.imp id fun m => m.below hb⟩
    | succ i => exact h1.at' i x (by simpa using hx)
  · have lt : ∀ (k : Nat) (z : Nat × Value × Ar), L[k]? = some z → z.1 < W.heap.size := fun k z hz => (h.at' k z hz).2.1.lt
    cases i with
    | zero =>
      obtain rfl : (W.heap.size, v, T) = x := by simpa using hx
      cases j with
      | zero => exact absurd rfl hij
      | succ j =>
        have := lt j y (by simpa using hy)
        exact fun e => by dsimp only at e; omega
    | succ i =>
      cases j with
      | zero =>
        obtain rfl : (W.heap.size, v, T) = y := by simpa using hy
        have := lt i x (by simpa using hx)
        exact fun e => by dsimp only at e; omega
      | succ j => exact h.apart i j x y (by simpa using hx) (by simpa using hy) (by omega)
theorem made (h : By w0 L W) {W' : World} (hb : Below W.heap.size W W') {v : Value} {T : Ar} (hm : MadeT W.heap.size W' v T) : ∃ p c, v = treeV (.slice p T.nodes.length c) T.root ∧ By w0 L W' ∧ MadeT w0.heap.size W' (treeV (.slice p T.nodes.length c) T.root) T := by
  obtain ⟨nv, C, rfl, hM, hC⟩ := hm
  obtain ⟨p, c, rfl⟩ := own_slice hM.row
  have hl : C.length = T.nodes.length := by rw [← hC, List.length_map]
  exact ⟨p, c, by rw [hl], h.below hb, _, C, by rw [hl], hM.mono h.b.size, hC⟩
/-- A box is written over. -/
theorem over (h : By w0 L W) (k : Nat) {x : Nat × Value × Ar} (hx : L[k]? = some x) {v : Value} {T : Ar} (hm : MadeT w0.heap.size W (treeV v T.root) T) :
    By w0 (L.set k (x.1, v, T)) ((W.setCell ⟨x.1, 0, none⟩ v).setCell ⟨x.1, 1, none⟩ (.int .i64 T.root)) := by
  have hk := h.at' k x hx
  have hkl : k < L.length := by
    rcases Nat.lt_or_ge k L.length with h1 | h1
    · exact h1
    · simp [List.getElem?_eq_none h1] at hx
  have km : ∀ {u : Value} {U : Ar}, MadeT w0.heap.size W u U → MadeT w0.heap.size ((W.setCell ⟨x.1, 0, none⟩ v).setCell ⟨x.1, 1, none⟩ (.int .i64 T.root)) u U := fun {u U} ⟨nv, C, e, m, hc⟩ => ⟨nv, C, e, m.ty hk.2.1 (by decide) (by decide) (gb_put2 W _ _ _), hc⟩
  refine ⟨(h.b.setCell (p := ⟨x.1, 0, none⟩) hk.1 v).setCell (p := ⟨x.1, 1, none⟩) hk.1 _, fun i y hy => ?_, fun i j y z hy hz hij => ?_⟩
  · by_cases hik : k = i
    · subst hik
      rw [List.getElem?_set_self hkl] at hy
      obtain rfl : (x.1, v, T) = y := by simpa using hy
      exact ⟨hk.1, (hk.2.1.put 0 v).put 1 _, .inr (km hm)⟩
    · rw [List.getElem?_set_ne hik] at hy
      have hi := h.at' i y hy
      have hne := h.apart i k y x hy hx (Ne.symm hik)
      exact ⟨hi.1, (hi.2.1.other (p := ⟨x.1, 0, none⟩) hne _).other (p := ⟨x.1, 1, none⟩) hne _, hi.2.2.imp id km⟩
  · have key : ∀ (n : Nat) (q : Nat × Value × Ar), (L.set k (x.1, v, T))[n]? = some q → ∃ q', L[n]? = some q' ∧ q'.1 = q.1 := fun n q hq => by
      by_cases hnk : k = n
      · subst hnk
        rw [List.getElem?_set_self hkl] at hq
        obtain rfl : (x.1, v, T) = q := by simpa using hq
        exact ⟨x, hx, rfl⟩
      · rw [List.getElem?_set_ne hnk] at hq
        exact ⟨q, hq, rfl⟩
    obtain ⟨y', h1, e1⟩ := key i y hy
    obtain ⟨z', h2, e2⟩ := key j z hz
    rw [← e1, ← e2]
    exact h.apart i j y' z' h1 h2 hij
end By
end Go.Proofs.YtpkjfdgjmcphmaaDoor

/- Package tree: Of. -/
import Derived.Test.YtpkjfdgjmcphmaaDoorVTx
namespace Go.Proofs.YtpkjfdgjmcphmaaDoor
open Go.RowKit Bset Tm

/-- A list of trees, to be read. -/
def Trees (w : World) (v : Value) (l : List Ar) : Prop :=
  ∃ p cap, v = .slice p l.length cap ∧ (l = [] ∨ ∃ b off, p = some ⟨b, off, none⟩ ∧ ∀ j (h : j < l.length), ∃ nv, w.cell? ⟨b, off + j * 2, none⟩ = some nv ∧ w.cell? ⟨b, off + j * 2 + 1, none⟩ = some (.int .i64 l[j].root) ∧ Nodes w nv l[j].nodes)
theorem Trees.keep {w w' : World} {v : Value} {l : List Ar} (h : Trees w v l) (hk : ∀ b, b < w.heap.size → w'.heap[b]? = w.heap[b]?) : Trees w' v l := by
  obtain ⟨p, cap, e, h⟩ := h
  refine ⟨p, cap, e, h.imp id ?_⟩
  rintro ⟨b, off, e, h⟩
  refine ⟨b, off, e, fun j hj => ?_⟩
  obtain ⟨nv, h1, h2, h3⟩ := h j hj
  exact ⟨nv, (World.cell?_of_block (w := w) (hk b (cell_lt h1))).trans h1, (World.cell?_of_block (w := w) (hk b (cell_lt h2))).trans h2, h3.keep hk⟩
theorem Trees.below {w w' : World} {v : Value} {l : List Ar} (h : Trees w v l) (hb : Below w.heap.size w w') : Trees w' v l := h.keep hb.block
theorem Trees.len {w : World} {v : Value} {l : List Ar} (h : Trees w v l) : ∃ p c, v = .slice p l.length c := by
  obtain ⟨p, c, e, _⟩ := h
  exact ⟨p, c, e⟩

theorem cl_lo {w w' : World} {g lo' : Nat} {t t' : TypeId} {cs : Array Value} {size' : Nat} {v' : Value} {n' : Nat} {xs' : List Value} (h : Cl w g t cs) (h' : w.ownsRow lo' t' size' v' n' xs') (hlo : g < lo') (hg : w.grownBy w' v'.ownBlock) : Cl w' g t cs :=
  (hg.block g h.lt fun e => by have := (h'.lt g e.symm).1; omega).trans h
theorem kept_dis {w w' : World} {lo : Nat} {t : TypeId} {size : Nat} {v : Value} {n : Nat} {xs : List Value} {r : Option Nat} (h : w.ownsRow lo t size v n xs) (hg : w.grownBy w' r) (hd : ∀ g, r = some g → v.ownBlock ≠ some g) : w'.ownsRow lo t size v n xs := by
  refine h.kept hg ?_
  cases hv : v.ownBlock with
  | none => exact .inl rfl
  | some b => exact .inr fun e => hd b e.symm hv
/-- What Of tells. -/
noncomputable def ofB (h : Hd) (l : List Ar) : Bool := fits h l.length && l.all rightB
noncomputable def ofT (h : Hd) (l : List Ar) : Ar := if ofB h l = true then arOf (.mk h (l.map tree)) else noAr
def total (l : List Ar) : Nat := (l.map fun t => t.nodes.length).sum
theorem total_take {l : List Ar} {i : Nat} (h : i < l.length) : total (l.take (i + 1)) = total (l.take i) + l[i].nodes.length ∧ total (l.take (i + 1)) ≤ total l := by
  have h1 : total (l.take (i + 1)) = total (l.take i) + l[i].nodes.length := by
    unfold total
    rw [List.take_succ_eq_append_getElem h, List.map_append, List.sum_append]
    simp
  refine ⟨h1, ?_⟩
  have h2 := List.take_append_drop (i + 1) l
  have h3 : total l = total (l.take (i + 1)) + total (l.drop (i + 1)) := by
    unfold total
    rw [← List.sum_append, ← List.map_append, h2]
  omega
theorem sizes_total {l : List Ar} (h : ∀ t ∈ l, RightT t) : sizes (l.map tree) = total l := by
  induction l with
  | nil => rfl
  | cons t l ih =>
    rw [List.map_cons, sizes, ih (fun x hx => h x (by simp [hx])), (h t (by simp)).size]
    simp [total]
theorem all_take {l : List Ar} {i : Nat} (hi : i < l.length) (h : ∀ t ∈ l.take i, RightT t) (h1 : RightT l[i]) : ∀ t ∈ l.take (i + 1), RightT t := by
  intro t ht
  rw [List.take_succ_eq_append_getElem hi, List.mem_append, List.mem_singleton] at ht
  rcases ht with ht | rfl
  · exact h t ht
  · exact h1
theorem mv_flat (t : RT Hd) (b : Nat) : (flat t).map (mv ((b : Int) - 0)) = flatAt b t := flat_mv _ t 0 b (by omega)

theorem end_tree_bool {fn : Func} {R : Ending → World → Prop} {a : Act} {w : World} {tm tb : Tmp} {g : Nat} {T : TypeId} {v0 v1 : Value} {x : Value} (hc : Cl w g T #[v0, v1])
    (hr : fn.results = #[.cell tm 26, .tmp tb]) (ht : a.tmps[tm]?.getD undef = .pointer (some ⟨g, 0, none⟩)) (hx : a.tmps[tb]?.getD undef = x) (hd : a.defers = []) (hR : R (.returned (.tuple #[.agg #[v0, v1], x])) w) : bodyPost Tryd.prog fn R .ret a w := by
  obtain ⟨⟨y0, y1⟩, yf⟩ := hc.two
  exact bodyPost_ret (v := .tuple #[.agg #[v0, v1], x]) (by simp [results, hr, ht, hx, go_sem, y0, y1]) hd hR

set_option maxRecDepth 100000 in
set_option maxHeartbeats 8000000 in
theorem of_any (h : Hd) (kv lv : Value) (l : List Ar) (w : World) (hl : Trees w lv l) (hh : okP h 0) (hok : ∀ t ∈ l, OkA t.nodes) (htot : total l ≤ 1073741824) (hll : l.length ≤ 1073741824) (hE : Env w) :
    Calls Tryd.prog 16 #[nodeV h kv, lv] w fun e w' => ∃ v, e = .returned (.tuple #[v, .bool (ofB h l)]) ∧ MadeT w.heap.size w' v (ofT h l) ∧ Below w.heap.size w w' := by
  obtain ⟨p0, c0, e0, hl⟩ := hl
  subst e0
  have hF := fun w h1 h2 => fits_any h hh.1 (by have := hh.2.1; omega) kv l.length w h1 h2
  have b0 := ((Below.refl w.heap.size w).alloc (Nat.le_refl _) (.cells (nodeC h kv) 38)).alloc (by simp) (.cells #[.slice none 0 0, .int .i64 0] 26)
  have k0 := (Cl.new w 38 (nodeC h kv)).alloc (.cells #[.slice none 0 0, .int .i64 0] 26)
  have n0 : Cl ((w.alloc (.cells (nodeC h kv) 38)).alloc (.cells #[.slice none 0 0, .int .i64 0] 26)) (w.heap.size + 1) 26 #[.slice none 0 0, .int .i64 0] := Cl.new' (by simp) _ _
  have hE0 := hE.below b0
  cases hf : fits h l.length with
  | false =>
    have ho : ofB h l = false := by simp [ofB, hf]
    rw [ofT, ho, if_neg (by simp)]
    simp only [hf] at hF
    clear hf ho
    go_enter Tryd.func16, Tryd.ntmps16
    go_wp2_with (go_at_call 21; refine (hF _ hE0.tab hE0.pos).mono ?_; rintro e w1 ⟨rfl, hb⟩; have n1 := n0.below hb n0.lt; have b1 := b0.trans (hb.mono b0.size); clear hb k0 n0 b0; obtain ⟨⟨z0, z1⟩, zf⟩ := n1.two)
    exact end_tree_bool (n1.put2 _ _) rfl rfl rfl rfl ⟨_, rfl, MadeT.none _ _, below_put2 b1 (by omega) _ _⟩
  | true =>
    have ho : ofB h l = l.all rightB := by simp [ofB, hf]
    have HO := Lib.hid ho
    simp only [hf] at hF
    clear hf ho
    obtain ⟨iN, hiN, hzN0, hzN1, hzN2⟩ := info_parts infoNode
    obtain ⟨iI, hiI, hzI0, hzI1, hzI2⟩ := info_parts infoInt
    have f0 := fld0
    go_enter Tryd.func16, Tryd.ntmps16
    go_wp2_with (go_at_call 21; refine (hF _ hE0.tab hE0.pos).mono ?_; rintro e w1 ⟨rfl, hb⟩; have n1 := n0.below hb n0.lt; have k1 := k0.below hb k0.lt; have b1 := b0.trans (hb.mono b0.size); clear hb k0 n0 b0)
    have b1s : w.heap.size + 2 ≤ w1.heap.size := n1.lt
    go_loopw [6, 7, 18] (fun v6 v7 v18 W => ∃ (i : Nat) (B : List (Nd × Value)), v18 = .int .i64 i ∧ i ≤ l.length ∧ (∀ t ∈ l.take i, RightT t) ∧ Below w.heap.size w W ∧ Cl W w.heap.size 38 (nodeC h kv) ∧ Cl W (w.heap.size + 1) 26 #[.slice none 0 0, .int .i64 0] ∧ Made (w.heap.size + 2) W v6 B ∧ B.map Prod.fst = flatsAt 0 ((l.take i).map tree) ∧ W.ownsRow (w.heap.size + 2) 3 1 v7 i ((roots 0 ((l.take i).map tree)).map (Value.int .i64)) ∧ ∀ x ∈ B, ∀ g, v7.ownBlock = some g → x.2.ownBlock ≠ some g)
      (fun _ _ v _ => l.length - (intOf v).toNat)
    case atStart => exact ⟨0, [], rfl, Nat.zero_le _, fun t ht => by simp at ht, b1, k1, n1, Made.nil _ _, rfl, World.ownsRow_nil _ _ _ _, fun x hx => by simp at hx⟩
    case round =>
      clear b1 k1 n1
      obtain ⟨i, B, rfl, hi, hrt, hB, hk, hn, hM, hBm, hR, hdis⟩ := hrel
      have hBl : B.length = total (l.take i) := by
        have := congrArg List.length hBm
        rw [flats_len, sizes_total hrt] at this
        simpa using this
      by_cases hlt : i < l.length
      · rcases hl with rfl | ⟨b, off, rfl, hcell⟩
        · simp at hlt
        · obtain ⟨nv, hc0, hc1, hN⟩ := hcell i hlt
          obtain ⟨p2, c2, rfl⟩ := hN.len
          replace hc0 := (hB.cell (p := ⟨b, off + i * 2, none⟩) (cell_lt hc0)).trans hc0
          replace hc1 := (hB.cell (p := ⟨b, off + i * 2 + 1, none⟩) (cell_lt hc1)).trans hc1
          have hoki := hok _ (List.getElem_mem hlt)
          have hr := fun (w : World) (h1 : Tree w (treeV (.slice p2 l[i].nodes.length c2) l[i].root) l[i]) (h2 : Env w) => right_at' (treeV (.slice p2 l[i].nodes.length c2) l[i].root) l[i] w h1 hoki h2
          have hcl := fun (w : World) (h1 : Tree w (treeV (.slice p2 l[i].nodes.length c2) l[i].root) l[i]) (h2 : Env w) => clean_any (treeV (.slice p2 l[i].nodes.length c2) l[i].root) l[i] w h1 hoki h2
          have q1 := Cl.new wr 26 #[.slice p2 l[i].nodes.length c2, .int .i64 l[i].root]
          have BW1 := hB.alloc hB.size (.cells #[.slice p2 l[i].nodes.length c2, .int .i64 l[i].root] 26)
          have hk1 := hk.alloc (.cells #[.slice p2 l[i].nodes.length c2, .int .i64 l[i].root] 26)
          have hn1 := hn.alloc (.cells #[.slice p2 l[i].nodes.length c2, .int .i64 l[i].root] 26)
          have hM1 := hM.below ((Below.refl _ _).alloc (Nat.le_refl _) (.cells #[.slice p2 l[i].nodes.length c2, .int .i64 l[i].root] 26))
          have hR1 := hR.alloc (.cells #[.slice p2 l[i].nodes.length c2, .int .i64 l[i].root] 26)
          have hT1 : Tree (wr.alloc (.cells #[.slice p2 l[i].nodes.length c2, .int .i64 l[i].root] 26)) (treeV (.slice p2 l[i].nodes.length c2) l[i].root) l[i] := ⟨_, rfl, hN.below BW1⟩
          have hi0 : (0 : Int) ≤ (i : Int) := by omega
          have hi1 : (i : Int) < (l.length : Int) := by omega
          obtain ⟨t1, t2⟩ := total_take hlt
          have T1 := Lib.hid t1
          have T2 := Lib.hid t2
          have HBl := Lib.hid hBl
          have HBm := Lib.hid hBm
          clear hcell hN hB hk hn hM hR t1 t2 hBl hBm
          cases hri : rightB l[i] with
          | false =>
            have hob : ofB h l = false := by
              rw [HO.out, List.all_eq_false]
              exact ⟨l[i], List.getElem_mem hlt, by simp [hri]⟩
            have HOB := Lib.hid hob
            simp only [hri] at hr
            clear hob hri
            go_wp2_with (go_at_call 18; refine (hr _ hT1 (hE.below BW1)).mono ?_; rintro e w2 ⟨rfl, hb⟩; have n2 := hn1.below hb hn1.lt; have b2 := BW1.trans (hb.mono BW1.size); clear hb hk1 hn1 hM1 hR1 hT1 q1 hcl; obtain ⟨⟨z0, z1⟩, zf⟩ := n2.two)
            refine end_tree_bool (n2.put2 _ _) rfl rfl rfl rfl ⟨_, by rw [HOB.out]; rfl, ?_, below_put2 b2 (by omega) _ _⟩
            rw [ofT, HOB.out, if_neg (by simp)]
            exact MadeT.none _ _
          | true =>
            have hcn := clean_nodes hri
            have hRTi := rightB_iff.1 hri
            have hokc := ok_clean hoki
            have hck : ∀ n ∈ (cleanT l[i]).nodes, ∀ k ∈ n.kids, 0 ≤ k ∧ k ≤ 4294967296 := by
              intro n hn k hk
              rw [hcn] at hn
              obtain ⟨j, hj, rfl⟩ := List.mem_iff_getElem.1 hn
              have h1 := flat_low (tree l[i]) 0 j _ (by rw [List.getElem?_eq_getElem (by exact hj)]; rfl) k hk
              have h2 := hokc.len
              rw [hcn] at h2
              omega
            have HCN := Lib.hid hcn
            simp only [hri] at hr
            clear hri hcn
            go_wp2_with (first
              | (go_at_call 18; refine (hr _ hT1 (hE.below BW1)).mono ?_; rintro e w2 ⟨rfl, hb⟩
                 have q2 := q1.below hb q1.lt
                 have hT2 := hT1.below hb
                 have hk2 := hk1.below hb hk1.lt
                 have hn2 := hn1.below hb hn1.lt
                 have hM2 := hM1.below hb
                 have hR2 := own_below hR1 hb
                 have BW2 := BW1.trans (hb.mono BW1.size)
                 clear hb q1 hT1 hk1 hn1 hM1 hR1 BW1 hr
                 obtain ⟨⟨x0, x1⟩, xf⟩ := q2.two)
              | (go_at_call 25; refine (hcl _ hT2 (hE.below BW2)).mono ?_; rintro e w3 ⟨v3, rfl, ⟨nv3, C3, rfl, hm3, hx3⟩, hb⟩
                 obtain ⟨p3, c3, rfl⟩ := own_slice hm3.row
                 have hk3 := hk2.below hb hk2.lt
                 have hn3 := hn2.below hb hn2.lt
                 have hM3 := hM2.below hb
                 have hR3 := own_below hR2 hb
                 have BW3 := BW2.trans (hb.mono BW2.size)
                 have hlo3 := hb.size
                 have hv2 := hM2.row.lt
                 have hr2 := hR2.lt
                 have hput := put_any (w.heap.size + 2) u6 (.slice p3 C3.length c3) B (cleanT l[i]).nodes 0 w3 hM3 hn3.lt (fun W hW => by
                   have := (hm3.keep (fun b hb hlt => hW.block b hlt (fun e => by have := (hv2 b e.symm).2; omega))).nodes
                   rwa [hx3] at this) (by have := HBl.out; have := T1.out; have := T2.out; have := hRTi.size; have h9 := congrArg List.length HCN.out; rw [flat_length] at h9; omega) (fun n hn => by have := hokc.text n hn; omega) hokc.kids (fun n hn k hk => by have := hck n hn k hk; omega) (by omega)
                 clear hb q2 hT2 hk2 hn2 hM2 hR2 hcl x0 x1 xf))
            refine hput.mono ?_
            rintro e w4 ⟨v4, C4, rfl, hM4, hC4, hgb, hob, hks⟩
            obtain ⟨p4, c4, rfl⟩ := own_slice hM4.row
            have hk4 := cl_lo hk3 hM3.row (by omega) hgb
            have hn4 := cl_type hn3 hM3.row (by decide) hgb
            have hR4 := own_type hR3 hM3.row (by decide) hgb
            have BW4 := BW3.grown hgb BW3.size (fun g e => by have := (hM3.row.lt g e).1; omega)
            have hm4 : (B ++ C4).map Prod.fst = flatsAt 0 ((l.take (i + 1)).map tree) := by
              rw [List.map_append, HBm.out, hC4, HCN.out, mv_flat, List.take_succ_eq_append_getElem hlt, List.map_append, flatsAt_append, sizes_total hrt, HBl.out, Nat.zero_add]
              simp [flatsAt]
            have hl4 : (B ++ C4).length = total (l.take (i + 1)) := by
              have h9 := congrArg List.length hC4
              rw [List.length_map, List.length_map, HCN.out, flat_length, hRTi.size] at h9
              rw [List.length_append, h9, HBl.out, T1.out]
            have hdis4 : ∀ x ∈ B ++ C4, ∀ g, u7.ownBlock = some g → x.2.ownBlock ≠ some g := by
              intro x hx g hg hxg
              rcases List.mem_append.1 hx with hx | hx
              · exact hdis x hx g hg hxg
              · have h7 := ((hks x hx).lt g hxg).1
                have h8 := (hr2 g hg).2
                omega
            obtain ⟨B4, hB4⟩ : ∃ B4, B4 = B ++ C4 := ⟨_, rfl⟩
            rw [← hB4] at hM4 hm4 hl4 hdis4 ⊢
            have hw4 : IntKind.i64.wrap ((B4.length : Int) - 1) = (B4.length : Int) - 1 := IntWalk.i64_in _ (by have := T2.out; omega)
            have HL4 := Lib.hid hl4
            have HM4 := Lib.hid hm4
            clear hput hk3 hn3 hM3 hR3 BW3 hl4 hm4 hks hdis hm3 hx3 hgb hob hC4 hB4
            go_wp2_with (first
              | (at_builtin; refine wpList_append_own_at _ rfl _ _ 36 rfl (w.heap.size + 2) 3 iI (.int .i64 0) 1 8 Tryd.underlying36 hiI hzI0 hzI1 hzI2 rfl (by decide) _ _ _ rfl (hR4.alloc _) ⟨w4.heap.size, 0, none⟩ 1 1 [.int .i64 ((B4.length : Int) - 1)] rfl rfl (cell_one_new _ _ _) (fun u hu => by (rw [List.mem_singleton.1 hu]; rfl)) (by unfold maxLen; omega) (by omega) (by have := hn4.lt; simp; omega) ?_
                 intro v7 w6 hown hgrow hiff hblk))
            have hr5 := hR4.alloc (.cells #[.int .i64 ((B4.length : Int) - 1)] 3)
            have hBp : 0 < size (tree l[i]) := size_pos _
            refine ⟨⟨i + 1, B4, by go_num, by omega, all_take hlt hrt hRTi, ?_, ?_, ?_, ⟨?_, fun x hx => ?_⟩, HM4.out, ?_, fun x hx g hg hxg => ?_⟩, by simp [intOf]; omega⟩
            · exact (BW4.alloc BW4.size (.cells #[.int .i64 ((B4.length : Int) - 1)] 3)).grown hgrow (by simp; have := BW4.size; omega) (fun g e => by have := (hR4.lt g e).1; omega)
            · exact cl_lo (hk4.alloc _) hr5 (by omega) hgrow
            · exact cl_lo (hn4.alloc _) hr5 (by omega) hgrow
            · exact own_type (hM4.row.alloc _) hr5 (by decide) hgrow
            · exact kept_dis ((hM4.kids x hx).alloc _) hgrow (fun g hg => hdis4 x hx g hg)
            · have h5 : roots 0 ((l.take (i + 1)).map tree) = roots 0 ((l.take i).map tree) ++ [(B4.length : Int) - 1] := by
                rw [List.take_succ_eq_append_getElem hlt, List.map_append, roots_append, sizes_total hrt, HL4.out, T1.out]
                congr 1
                rw [hRTi.size] at hBp
                simp only [List.map_cons, List.map_nil, roots, hRTi.size]
                congr 1
                omega
              rw [h5, List.map_append]
              exact hown
            · have h6 := ((hM4.kids x hx).lt g hxg).2
              rcases hblk with h7 | h7
              · exact hdis4 x hx g (h7.symm.trans hg) hxg
              · have h8 := h7.symm.trans hg
                simp at h8
                omega
      · obtain rfl : i = l.length := by omega
        rw [List.take_of_length_le (Nat.le_refl _)] at hrt hBl hBm hR
        have hob : ofB h l = true := by
          rw [HO.out, List.all_eq_true]
          exact fun t ht => rightB_iff.2 (hrt t ht)
        have hot : ofT h l = arOf (.mk h (l.map tree)) := by rw [ofT, if_pos hob]
        have HOB := Lib.hid hob
        have HOT := Lib.hid hot
        have HBm := Lib.hid hBm
        have HBl := Lib.hid hBl
        have hbare := fun w => bare_any h kv (by have := hh.2.1; omega) w
        obtain ⟨p7, c7, rfl⟩ := own_slice hR
        clear hob hot hBm hBl hl
        go_wp2_with (first
          | ((with_reducible refine wpList_load9 hk ?_ (.tmp 2) ?_ ?_ ?_); rfl; rfl; rfl)
          | (go_at_call 71; refine (hbare _).mono ?_; rintro e w2 ⟨rfl, hb⟩
             have hk2 := hk.below hb hk.lt
             have hn2 := hn.below hb hn.lt
             have hM2 := hM.below hb
             have hR2 := own_below hR hb
             have B2 := hB.trans (hb.mono hB.size)
             clear hb hk hn hM hR hB)
          | ((with_reducible refine wpList_store9 hk2 ?_ (.tmp 2) (.tmp 39) ?_ h none 0 0 ?_ ?_ ?_); rfl; rfl; rfl; rfl; intro w3 hk3 hgb _
             have hn3 := hn2.gb hgb (by omega)
             have hM3 := hM2.gb hgb (by omega)
             have hR3 := own_gb hR2 hgb (by omega)
             have B3 := below_gb B2 hgb (Nat.le_refl _) B2.size
             have z8 := hk3.nine.1.2.2.2.2.2.2.2.2
             have zf := hk3.nine.2
             have hld := hk3.put9_8 (.slice p7 l.length c7)
             have hn5 := ((hn3.other (p := ⟨w.heap.size, 8, none⟩) (by simp) (.slice p7 l.length c7)).alloc (.cells (nodeC h (.slice p7 l.length c7)) 38))
             have hM5 := ((hM3.store (p := ⟨w.heap.size, 8, none⟩) (by simp) (.slice p7 l.length c7)).below ((Below.refl _ _).alloc (Nat.le_refl _) (.cells (nodeC h (.slice p7 l.length c7)) 38)))
             have hR5 := (own_keep hR3 (fun b hb _ => Below.heap_setCell w3 ⟨w.heap.size, 8, none⟩ (.slice p7 l.length c7) b (by simp; omega))).alloc (.cells (nodeC h (.slice p7 l.length c7)) 38)
             have B5 := (B3.setCell (p := ⟨w.heap.size, 8, none⟩) (Nat.le_refl _) (.slice p7 l.length c7)).alloc (by rw [World.size_setCell]; exact B3.size) (.cells (nodeC h (.slice p7 l.length c7)) 38)
             have hnew := node_new (w3.setCell ⟨w.heap.size, 8, none⟩ (.slice p7 l.length c7)) h (.slice p7 l.length c7) 38
             rw [World.size_setCell] at hnew
             have hlo5 : w.heap.size + 2 ≤ w3.heap.size := hn3.lt
             clear hgb hk2 hn2 hM2 hR2 B2 hn3 hM3 hR3 B3)
          | ((with_reducible refine wpList_load9 hld ?_ (.tmp 2) ?_ ?_ ?_); rfl; rfl; rfl)
          | (at_builtin; refine wpList_append_own_at _ rfl _ _ 24 rfl (w.heap.size + 2) 38 iN (.agg nodeZ) 9 96 Tryd.underlying24 hiN hzN0 hzN1 hzN2 rfl (by decide) _ _ _ rfl hM5.row ⟨w3.heap.size, 0, none⟩ 1 1 (nodeC h (.slice p7 l.length c7)).toList rfl rfl hnew (node_one _ rfl) (by unfold maxLen; have := HBl.out; omega) (by have := HBl.out; omega) (by simp; omega) ?_
             intro v6 w6 hown hgrow hiff hblk
             have hn6 := cl_lo hn5 hM5.row (by omega) hgrow
             have B6 := B5.grown hgrow B5.size (fun g e => by have := (hM5.row.lt g e).1; omega)
             have hM6 : Made (w.heap.size + 2) w6 v6 (B ++ [(⟨h, roots 0 (l.map tree)⟩, .slice p7 l.length c7)]) := by
               refine ⟨?_, fun x hx => ?_⟩
               · rw [List.length_append, cellsN_append]
                 exact hown
               · rcases List.mem_append.1 hx with hx | hx
                 · exact own_type (hM5.kids x hx) hM5.row (by decide) hgrow
                 · rw [List.mem_singleton.1 hx]
                   have h5 := own_type hR5 hM5.row (by decide) hgrow
                   have h6 : (roots 0 (l.map tree)).length = l.length := by rw [roots_len, List.length_map]
                   show w6.ownsRow _ _ _ _ (roots 0 (l.map tree)).length _
                   rw [h6]
                   exact h5
             obtain ⟨p8, c8, rfl⟩ := own_slice hown
             clear hown hgrow hiff hblk hn5 hM5 hR5 B5 hld hnew z8 zf hk3)
          | (go_at_call 72; refine (rooted_any _ (B.length + 1) _ (by have := HBl.out; omega) _).mono ?_; rintro e w7 ⟨rfl, hb⟩
             have hn7 := hn6.below hb hn6.lt
             have hM7 := hM6.below hb
             have B7 := B6.trans (hb.mono B6.size)
             clear hb hn6 hM6 B6
             obtain ⟨⟨z0, z1⟩, zf⟩ := hn7.two))
        have hroot : (arOf (.mk h (l.map tree))).root = (B.length : Int) := by
          simp only [arOf, size, sizes_total hrt]
          rw [HBl.out]
          omega
        refine end_tree_bool (hn7.put2 _ _) rfl rfl rfl rfl ⟨_, by rw [HOB.out]; rfl, ?_, below_put2 B7 (by omega) _ _⟩
        rw [HOT.out]
        exact ⟨_, _, by rw [hroot], (hM7.put2 (by omega) _ _).mono (by omega), by rw [List.map_append, HBm.out]; rfl⟩
end Go.Proofs.YtpkjfdgjmcphmaaDoor

/- Package tree: put. -/
import Derived.Test.YtpkjfdgjmcphmaaDoorTo
namespace Go.Proofs.YtpkjfdgjmcphmaaDoor
open Go.RowKit Bset Tm

theorem mv_take (A : List Nd) (c : Int) (q : Nat) (h : q < A.length) : (A.take (q + 1)).map (mv c) = (A.take q).map (mv c) ++ [mv c A[q]] := by
  rw [List.take_succ_eq_append_getElem h, List.map_append, List.map_singleton]

theorem node_new (w : World) (h : Hd) (kv : Value) (t : TypeId) : ∀ j u, (nodeC h kv).toList[j]? = some u → (w.alloc (.cells (nodeC h kv) t)).cell? ((⟨w.heap.size, 0, none⟩ : Addr).add j) = some u := by
  intro j u hj
  rw [show (⟨w.heap.size, 0, none⟩ : Addr).add j = ⟨w.heap.size, j, none⟩ by by_cases h0 : j = 0 <;> simp [Addr.add, h0], (Cl.new w t (nodeC h kv)).cell]
  simpa using hj
theorem node_one (h : Hd) {kv : Value} (hk : kv.oneCell' = true) : ∀ u ∈ (nodeC h kv).toList, u.oneCell' = true := by
  intro u hu
  simp only [List.mem_cons, List.not_mem_nil, or_false] at hu
  rcases hu with rfl | rfl | rfl | rfl | rfl | rfl | rfl | rfl | rfl <;> first | rfl | exact hk
theorem gb_cond {w W : World} {v v0 v1 : Value} (h : v0.ownBlock = v.ownBlock ∨ ∃ g, v0.ownBlock = some g ∧ w.heap.size ≤ g) (hw : w.heap.size ≤ W.heap.size) (h1 : v1.ownBlock = v0.ownBlock ∨ v1.ownBlock = some W.heap.size) : v1.ownBlock = v.ownBlock ∨ ∃ g, v1.ownBlock = some g ∧ w.heap.size ≤ g := by
  rcases h1 with h1 | h1
  · rw [h1]
    exact h
  · exact .inr ⟨_, h1, hw⟩

set_option maxRecDepth 100000 in
set_option maxHeartbeats 4000000 in
theorem put_any (lo : Nat) (v nv : Value) (B : List (Nd × Value)) (A : List Nd) (first : Int) (w : World) (hv : Made lo w v B) (hlo : lo ≤ w.heap.size) (hn : ∀ W, w.grownBy W v.ownBlock → Nodes W nv A) (hsz : B.length + A.length ≤ 4294967296)
    (htext : ∀ n ∈ A, n.hd.text.size ≤ 281474976710656) (hkl : ∀ n ∈ A, n.kids.length ≤ 4294967296) (hkb : ∀ n ∈ A, ∀ k ∈ n.kids, -4611686018427387904 ≤ k ∧ k ≤ 4611686018427387904) (hf : 0 ≤ first ∧ first ≤ 4294967296) :
    Calls Tryd.prog 70 #[v, nv, .int .i64 first] w fun e w' => ∃ v' C, e = .returned v' ∧ Made lo w' v' (B ++ C) ∧ C.map Prod.fst = A.map (mv (B.length - first)) ∧ w.grownBy w' v.ownBlock ∧ (v'.ownBlock = v.ownBlock ∨ ∃ g, v'.ownBlock = some g ∧ w.heap.size ≤ g) ∧ ∀ x ∈ C, w'.ownsRow w.heap.size 3 1 x.2 x.1.kids.length (x.1.kids.map (Value.int .i64)) := by
  obtain ⟨p0, c0, e0⟩ := own_slice hv.row
  obtain ⟨p, cap, e, _⟩ := hn w (gb_refl _ _)
  subst e
  obtain ⟨d, hd⟩ : ∃ d, d = (B.length : Int) - first := ⟨_, rfl⟩
  have hdb : -4611686018427387904 ≤ d ∧ d < 4611686018427387904 := by omega
  have hw : IntKind.i64.wrap ((B.length : Int) - first) = d := by rw [hd]; exact IntWalk.i64_in _ (by omega)
  rw [← hd]
  clear hd
  subst e0
  go_enter Tryd.func70, Tryd.ntmps70
  go_wp2
  obtain ⟨v, hv0⟩ : ∃ v, v = Value.slice p0 B.length c0 := ⟨_, rfl⟩
  rw [← hv0] at hv hn ⊢
  have HV0 := Lib.hid hv0
  clear hv0
  obtain ⟨i0, hi, hz0, hz1, hz2⟩ := info_parts infoNode
  go_loopw [0, 16] (fun v0 v16 W => ∃ (q : Nat) (C : List (Nd × Value)), v16 = .int .i64 q ∧ q ≤ A.length ∧ Made lo W v0 (B ++ C) ∧ C.map Prod.fst = (A.take q).map (mv d) ∧ w.grownBy W v.ownBlock ∧ (v0.ownBlock = v.ownBlock ∨ ∃ g, v0.ownBlock = some g ∧ w.heap.size ≤ g) ∧ Cl W w.heap.size 3 #[.int .i64 d] ∧ ∀ x ∈ C, W.ownsRow w.heap.size 3 1 x.2 x.1.kids.length (x.1.kids.map (Value.int .i64)))
    (fun _ v _ => A.length - (intOf v).toNat)
  case atStart =>
    refine ⟨0, [], rfl, Nat.zero_le _, ?_, by simp, gb_of_below ((Below.refl _ _).alloc (Nat.le_refl _) _), .inl rfl, Cl.new w _ _, fun _ h => by simp at h⟩
    rw [List.append_nil]
    exact hv.below ((Below.refl _ _).alloc (Nat.le_refl _) _)
  case round =>
    clear hv
    obtain ⟨q, C, rfl, hq, hM, hC, hgb, hob, hcl, hks⟩ := hrel
    by_cases hlt : q < A.length
    · obtain ⟨p', cap', e, hh⟩ := hn wr hgb
      obtain ⟨rfl, _, rfl⟩ : p = p' ∧ A.length = A.length ∧ cap = cap' := by simpa using e
      rcases hh with rfl | ⟨b, off, rfl, hcell⟩
      · simp at hlt
      · obtain ⟨kv, hN, hI⟩ := hcell q hlt
        obtain ⟨p2, cap2, rfl⟩ := hI.len
        obtain ⟨c0, c1, c2, c3, c4, c5, c6, c7, c8⟩ := hN
        have B1 := (Below.refl wr.heap.size wr).alloc (Nat.le_refl _) (.cells (nodeC A[q].hd (.slice p2 A[q].kids.length cap2)) 38)
        have hI1 := hI.below B1
        have hM1 := hM.below B1
        have hcl1 := hcl.below B1 hcl.lt
        have hgb1 := gb_trans hgb (gb_of_below (r := none) B1) (fun g e => by cases e)
        have hmem : A[q] ∈ A := List.getElem_mem hlt
        have hCl : C.length = q := by
          have := congrArg List.length hC
          simp at this
          omega
        have hnext := mv_take A d q hlt
        have hmv := moved_any A[q].hd (.slice p2 A[q].kids.length cap2) A[q].kids 97 #[.pointer (some ⟨w.heap.size, 0, none⟩)] (· + d) (wr.alloc (.cells (nodeC A[q].hd (.slice p2 A[q].kids.length cap2)) 38)) hI1 (hkl _ hmem) (htext _ hmem) cf_put (fun k hk W hW => putc_any k d w.heap.size W (hcl1.below hW hcl1.lt).one.1 (hkb _ hmem k hk) hdb)
        have HN := Lib.hid hnext
        have HC := Lib.hid hC
        clear hnext hC hcell e
        go_wp2_with (first
          | (go_at_call 81; refine hmv.mono ?_; rintro e w2 ⟨kv2, rfl, hkv, hb⟩
             have hB2 := hb
             have hM2 := (hM1.below hb).below ((Below.refl _ _).alloc (Nat.le_refl _) (.cells (nodeC A[q].hd kv2) 38))
             clear hmv)
          | (at_builtin; refine wpList_append_own_at _ rfl _ _ 24 rfl lo 38 i0 (.agg nodeZ) 9 96 Tryd.underlying24 hi hz0 hz1 hz2 rfl (by decide) _ _ _ rfl hM2.row ⟨w2.heap.size, 0, none⟩ 1 1 (nodeC A[q].hd kv2).toList rfl rfl (node_new _ _ _ _) (node_one _ (own_one hkv)) (by unfold maxLen; simp; omega) (by simp; omega) (by simp; have := hB2.size; have := hgb1.size; omega) ?_
             intro v' w3 hown hgrow hiff hblk))
        have hB3 := hB2.alloc hB2.size (.cells (nodeC A[q].hd kv2) 38)
        refine ⟨⟨q + 1, C ++ [(mv d A[q], kv2)], by go_num, by omega, ⟨?_, fun x hx => ?_⟩, ?_, ?_, ?_, ?_, fun x hx => ?_⟩, by simp [intOf]; omega⟩
        · rw [← List.append_assoc, cellsN_append, List.length_append]
          simpa [cellsN, mv] using hown
        · rw [← List.append_assoc, List.mem_append, List.mem_singleton] at hx
          rcases hx with hx | rfl
          · exact own_type (hM2.kids x hx) hM2.row (by decide) hgrow
          · have h1 := hkv.alloc (.cells (nodeC A[q].hd kv2) 38)
            have h2 := own_type h1 hM2.row (by decide) hgrow
            have h3 : (mv d A[q]).kids.length = A[q].kids.length := by simp [mv]
            rw [h3]
            exact h2.mono (by have := hgb1.size; omega)
        · rw [List.map_append, HC.out, HN.out]
          rfl
        · exact gb_trans (gb_trans hgb1 (gb_of_below (r := none) (by exact hB3.mono (Nat.le_refl _))) (fun g e => by cases e)) hgrow (fun g e => by
            rcases hob with h1 | ⟨g', h1, h2⟩
            · exact .inl (h1.symm.trans e)
            · have h3 := h1.symm.trans e
              cases h3
              exact .inr h2)
        · exact gb_cond hob (Nat.le_trans hgb1.size hB3.size) hblk
        · exact cl_type ((hcl1.below hB2 hcl1.lt).alloc _) hM2.row (by decide) hgrow
        · rw [List.mem_append, List.mem_singleton] at hx
          rcases hx with hx | rfl
          · exact own_type ((own_below (own_below (hks x hx) B1) hB2).alloc _) hM2.row (by decide) hgrow
          · have h1 := hkv.alloc (.cells (nodeC A[q].hd kv2) 38)
            have h2 := own_type h1 hM2.row (by decide) hgrow
            have h3 : (mv d A[q]).kids.length = A[q].kids.length := by simp [mv]
            rw [h3]
            exact h2.mono hgb1.size
    · obtain rfl : q = A.length := by omega
      rw [List.take_of_length_le (Nat.le_refl _)] at hC
      have HC := Lib.hid hC
      clear hC
      go_wp2
      go_ret
      rw [HV0.out] at hgb hob
      exact ⟨_, C, rfl, hM, HC.out, hgb, hob, hks⟩
end Go.Proofs.YtpkjfdgjmcphmaaDoor

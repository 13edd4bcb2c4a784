/- Package expr: come. -/
import Derived.Test.YtpkjfdgjmcphmaaDoorVEp
import Derived.Laws.EntriesVeiled
import Derived.RangeFuncNested
import Derived.RangeFuncBound
import Derived.RangeFuncCalls
import Derived.RangeFuncLeaves
import Derived.Shelf.Abstract
import Derived.Shelf.RegionOpen
import Derived.WalkKit
import Derived.OwnWalkIn
import Derived.TacticsInMore
import Derived.LoopNIn
import Derived.LoopIn
namespace Go.Proofs.YtpkjfdgjmcphmaaDoor
open Go.RowKit Bset Tm

abbrev fnV (f : Nat) : Value := .func (.func f) #[] #[]
def comId (k : Nat) : Nat := if k < 4 then 117 else if k = 4 then 118 else 119
abbrev comA : Array Value := #[fnV 117, fnV 117, fnV 117, fnV 117, fnV 118, fnV 119, fnV 119, fnV 119, fnV 119, fnV 119]
theorem comA_at (k : Nat) (hk : k < 10) : comA[k]? = some (fnV (comId k)) := by
  match k, hk with
  | 0, _ => rfl
  | 1, _ => rfl
  | 2, _ => rfl
  | 3, _ => rfl
  | 4, _ => rfl
  | 5, _ => rfl
  | 6, _ => rfl
  | 7, _ => rfl
  | 8, _ => rfl
  | 9, _ => rfl
theorem comA_at' {kd fid : Nat} (h : fid = comId kd) (hk : kd < 10) : comA[kd]? = some (fnV fid) := by
  rw [h]
  exact comA_at kd hk
theorem cf_com (k : Nat) (args : Array Value) (W : World) : (callFunc (comId k) args).run Tryd.prog W = .ok (.enter (comId k) args) W := by
  unfold comId
  split
  · kernel_rfl
  · split
    · kernel_rfl
    · kernel_rfl

theorem end_coms {fn : Func} {R : Ending → World → Prop} {a : Act} {w : World} {tm : Tmp} {g : Nat} {T : TypeId} {v0 v1 v2 v3 v4 v5 v6 v7 v8 v9 : Value} (hc : Cl w g T #[v0, v1, v2, v3, v4, v5, v6, v7, v8, v9])
    (hr : fn.results = #[.cell tm 105]) (ht : a.tmps[tm]?.getD undef = .pointer (some ⟨g, 0, none⟩)) (hd : a.defers = []) (hR : R (.returned (.agg #[v0, v1, v2, v3, v4, v5, v6, v7, v8, v9])) w) : bodyPost Tryd.prog fn R .ret a w := by
  have y0 := hc.cell 0
  have y1 := hc.cell 1
  have y2 := hc.cell 2
  have y3 := hc.cell 3
  have y4 := hc.cell 4
  have y5 := hc.cell 5
  have y6 := hc.cell 6
  have y7 := hc.cell 7
  have y8 := hc.cell 8
  have y9 := hc.cell 9
  simp at y0 y1 y2 y3 y4 y5 y6 y7 y8 y9
  exact bodyPost_ret (v := .agg #[v0, v1, v2, v3, v4, v5, v6, v7, v8, v9]) (by simp [results, hr, ht, go_sem, y0, y1, y2, y3, y4, y5, y6, y7, y8, y9]) hd hR

set_option maxRecDepth 100000 in
set_option maxHeartbeats 4000000 in
theorem comings_any (w : World) :
    Calls Tryd.prog 106 #[] w fun e w' => e = .returned (.agg comA) ∧ Below w.heap.size w w' := by
  have b0 := (Below.refl w.heap.size w).alloc (Nat.le_refl _) (.cells comA 105)
  have k0 := Cl.new w 105 comA
  go_enter Tryd.func106, Tryd.ntmps106
  go_wp2
  exact end_coms k0 rfl rfl rfl ⟨rfl, b0⟩

/-- What a node comes to, by its kind. -/
theorem com_any (g : Gm) (kv : Nat → Value) (s : St) (i : Nat) (G : Rw × (Nat → Nat)) (w : World) (h : Mk g kv i ⟨s.hd, s.is, s.rw, G.2⟩ w) (hi : i < g.n) (hn : g.n ≤ 2147483647) :
    Calls Tryd.prog (comId (s.hd i).kind) #[.pointer (some ⟨g.m, 0, none⟩), .int .i64 i, rowV G.1] w fun e w' => ∃ k s', e = .returned (.int .i64 (k : Nat)) ∧ Mk g kv (i + 1) s' w' ∧ Fr [g.N, g.R] w w' ∧ ⟨s'.hd, upd s'.is i k, s'.rw, s'.nx⟩ = comeF s i G := by
  unfold comId comeF
  by_cases h4 : (s.hd i).kind < 4
  · rw [if_pos h4, if_neg (by omega), if_neg (by omega)]
    refine (mleaf_any _ i G.1 w).mono ?_
    rintro e w' ⟨rfl, hb⟩
    exact ⟨i, _, rfl, (h.below hb).next (Nat.le_succ _), Fr.below hb, rfl⟩
  · rw [if_neg h4]
    by_cases h5 : (s.hd i).kind = 4
    · rw [if_pos h5, if_pos h5]
      refine (mseq_any g kv _ i G.1 w h hi (by omega)).mono ?_
      rintro e w' ⟨k, s', rfl, h1, h2, h3⟩
      refine ⟨k, s', rfl, h1, h2, ?_⟩
      split at h3
      · rename_i e
        rw [if_pos e]
        obtain ⟨rfl, rfl⟩ := Prod.mk.inj h3
        rfl
      · rename_i e
        rw [if_neg e]
        split at h3
        · rename_i e
          rw [if_pos e]
          obtain ⟨rfl, rfl⟩ := Prod.mk.inj h3
          rfl
        · rename_i e
          rw [if_neg e]
          obtain ⟨rfl, rfl⟩ := Prod.mk.inj h3
          rfl
    · rw [if_neg h5, if_neg h5, if_pos (by omega)]
      refine (holder_any g kv i _ i G.1 w h hi (by omega)).mono ?_
      rintro e w' ⟨rfl, h1, h2⟩
      exact ⟨i, _, rfl, h1.next (Nat.le_succ _), h2.less fun b _ hb => by simp at hb; simp [hb], rfl⟩

set_option maxRecDepth 100000 in
set_option maxHeartbeats 8000000 in
theorem come_any (A : List Nd) (g : Gm) (kv : Nat → Value) (w : World) (h0 : Mk g kv 0 (stF A 0) w) (hgn : g.n = A.length) (hn : g.n ≤ 2147483647) (hkv : ∀ j (h : j < A.length), IntsOff g.all w (kv j) A[j].kids) (hk0 : ∀ j (h : j < A.length), ∀ k ∈ A[j].kids, 0 ≤ k)
    (hkl : ∀ j (h : j < A.length), A[j].kids.length ≤ 4294967296) (hok : ∀ i, i < A.length → Gok g (stF A i) ((stF A i).hd i).kind (kidsN A i)) (hkd : ∀ i (h : i < A.length), A[i].hd.kind < 10) :
    Calls Tryd.prog 92 #[.pointer (some ⟨g.m, 0, none⟩)] w fun e w' => e = .returned (.tuple #[]) ∧ Mk g kv A.length (stF A A.length) w' ∧ Fr [g.N, g.I, g.R, g.X] w w' := by
  go_enter Tryd.func92, Tryd.ntmps92
  go_wp2_with (go_at_call 106; refine (comings_any _).mono ?_; rintro e w1 ⟨rfl, hb⟩
               have h1 := (h0.below hb).alloc (.cells comA 105)
               have kT := Cl.new w1 105 comA
               have f1 := ((Fr.refl [g.N, g.I, g.R, g.X] w).add hb).alloc (.cells comA 105)
               obtain ⟨m0, m1, m2, m3⟩ := h1.four
               have hnT := (h0.below hb).off4 (Nat.le_refl _)
               clear hb h0)
  generalize w1.alloc _ = W1 at *
  generalize w1.heap.size = gT at *
  clear m0 m1 m2 m3
  have HOK := Lib.hid hok
  clear hok
  go_loopw [3, 4, 11] (fun _ _ v11 W => ∃ i : Nat, v11 = .int .i64 i ∧ i ≤ g.n ∧ Mk g kv i (stF A i) W ∧ Cl W gT 105 comA ∧ Fr [g.N, g.I, g.R, g.X] w W) (fun _ _ v _ => g.n - (intOf v).toNat)
  case atStart => exact ⟨0, rfl, Nat.zero_le _, h1, kT, f1⟩
  case round =>
  clear h1 kT f1
  obtain ⟨i, rfl, hi, hM, kT, hF⟩ := hrel
  by_cases hlt : i < g.n
  · have hA : i < A.length := by omega
    obtain ⟨kv', hk1, hk2⟩ := hM.nd
    obtain ⟨⟨c0, c1, c2, c3, c4, c5, c6, c7, c8⟩, cf⟩ := hk2.at hlt
    rw [hk1.1 i (Nat.le_refl _)] at c8
    have hns := stF_new A i i (Nat.le_refl _)
    rw [hdAt_some (show A[i]? = some A[i] by simp [hA])] at hns
    have hgo := HOK.out i hA
    have hKN : kidsN A i = A[i].kids.map Int.toNat := kidsN_some (by simp [hA])
    rw [hKN] at hgo
    have hstep : stF A (i + 1) = comeF (stF A i) i (gatF (stF A i) ((stF A i).hd i).kind (A[i].kids.map Int.toNat)) := by rw [← hKN]; rfl
    have hko := (hkv i hA).fr hF fun b _ hb => by
      simp only [List.mem_cons, List.not_mem_nil, or_false] at hb
      simp only [Gm.all, List.mem_cons, List.not_mem_nil, or_false]
      omega
    have hkd' := hkd i hA
    have hkl' := hkl i hA
    have hk0' := hk0 i hA
    rw [← hns.1] at hkd'
    obtain ⟨s, hs⟩ : ∃ s, s = stF A i := ⟨_, rfl⟩
    rw [← hs] at hM hk2 c0 c1 c2 c3 c4 c5 c6 c7 hgo hstep hkd'
    obtain ⟨ks, hks⟩ : ∃ ks, ks = A[i].kids := ⟨_, rfl⟩
    rw [← hks] at hgo hstep hko hkl' hk0'
    obtain ⟨pk, ck, hkvi, hkk⟩ := hko
    have hkvI : IntsOff g.all wr (.slice pk ks.length ck) ks := ⟨pk, ck, rfl, hkk⟩
    rw [hkvi] at c8
    have hi0 : (0 : Int) ≤ (i : Int) := by omega
    have hi1 : (i : Int) < (g.n : Int) := by omega
    obtain ⟨kd, hkde⟩ : ∃ kd, kd = (s.hd i).kind := ⟨_, rfl⟩
    have hM1 := hM.alloc (.cells (nodeC (s.hd i) (.slice pk ks.length ck)) 38)
    have kT1 := kT.alloc (.cells (nodeC (s.hd i) (.slice pk ks.length ck)) 38)
    have kB1 := Cl.new wr 38 (nodeC (s.hd i) (.slice pk ks.length ck))
    have hF1 := hF.alloc (.cells (nodeC (s.hd i) (.slice pk ks.length ck)) 38)
    have hkv1 := hkvI.fr (Fr.below (G := []) ((Below.refl _ _).alloc (Nat.le_refl _) (.cells (nodeC (s.hd i) (.slice pk ks.length ck)) 38))) (fun _ _ h => by cases h)
    have hnB := hM.off4 (Nat.le_refl _)
    have HST := Lib.hid hstep
    have HGO := Lib.hid hgo
    clear hk1 hk2 hns hKN hstep hgo hs hks hkk hkvI
    go_wp2
    generalize wr.alloc _ = W2 at *
    generalize wr.heap.size = gB at *
    rw [← hkde] at HGO HST hkd'
    clear c0 c1 c2 c3 c4 c5 c6 c7 c8 cf hM kT hF
    have hgat := fun W (hW : Mk g kv i s W) (hI : IntsOff g.all W (kv i) ks) => gathered_any g kv i s ks W hW hlt hn hI hk0' hkl' (by rw [← hkde]; exact HGO.out)
    rw [← hkde] at hgat
    obtain ⟨G, hG⟩ : ∃ G, G = gatF s kd (ks.map Int.toNat) := ⟨_, rfl⟩
    simp only [← hG] at hgat
    rw [← hG] at HST
    have hcom := fun W (hW : Mk g kv i ⟨s.hd, s.is, s.rw, G.2⟩ W) => com_any g kv s i G W hW hlt hn
    rw [← hkde] at hcom
    have hcf := cf_com kd
    obtain ⟨fid, hfid⟩ : ∃ f, f = comId kd := ⟨_, rfl⟩
    have hcell := comA_at kd hkd'
    rw [← hfid] at hcom hcf hcell
    have hkd0 : (0 : Int) ≤ (kd : Int) := by omega
    have hkd1 : (kd : Int) < 10 := by omega
    have hkb : W2.cell? ⟨gB, 0, none⟩ = some (.int .u8 kd) := by rw [kB1.cell 0, hkde]; rfl
    have hkt : W2.cell? ⟨gT, kd, none⟩ = some (fnV fid) := by rw [kT1.cell kd]; exact hcell
    have HFI := Lib.hid hfid
    clear hfid hcell HGO hG kB1 hkde
    refine wp_region_held_drew (S := (fun w' => w'.cell? ⟨g.m, 1, none⟩ = some (.slice (some ⟨g.I, 0, none⟩) g.n g.n) ∧ w'.cell? ⟨gB, 0, none⟩ = some (.int .u8 kd) ∧ w'.cell? ⟨gT, kd, none⟩ = some (fnV fid))) (by kernel_rfl) (⟨hM1.drew.four.2.1, hkb, hkt⟩) (fun hHeld => ?_)
    have hM2 := hM1.drew
    have hF2 := hF1.drew
    have hkv2 : IntsOff g.all W2.drew (kv i) ks := hkvi ▸ hkv1
    have hgbT : gB < W2.drew.heap.size ∧ gT < W2.drew.heap.size := ⟨cell_lt (w := W2) hkb, kT1.lt⟩
    have hkb2 : W2.drew.cell? ⟨gB, 0, none⟩ = some (.int .u8 kd) := hkb
    have kT2 := kT1.drew
    clear hM1 hF1 hkv1 hkb hkt kT1
    refine wpAnyH_take (i := 0) (v := ?t1v) rfl (by kernel_rfl) (by kernel_rfl) (by kernel_rfl) (fun _ _ _ h => h) (Or.inl ⟨by rfl, ?t1y⟩) (by assumption) ?t1t
    case t1y => (intro w hSw; (try dsimp only at hSw); (try simp only [List.getElem_toArray, List.getElem_cons_zero]); go_simp; try with_reducible rfl)
    try simp only [Act.put, List.getElem_toArray, List.getElem_cons_zero, List.setIfInBounds_toArray, List.set_cons_zero, List.set_cons_succ]
    refine wpAnyH_take (i := 1) (v := ?t2v) rfl (by kernel_rfl) (by kernel_rfl) (by kernel_rfl) (fun _ _ _ h => h) (Or.inl ⟨by rfl, ?t2y⟩) (by assumption) ?t2t
    case t2y => (intro w hSw; (try dsimp only at hSw); (try simp only [List.getElem_toArray, List.getElem_cons_zero, List.getElem_cons_succ]); go_simp; try with_reducible rfl)
    try simp only [Act.put, List.getElem_toArray, List.getElem_cons_zero, List.getElem_cons_succ, List.setIfInBounds_toArray, List.set_cons_zero, List.set_cons_succ]
    refine wpAnyH_take (i := 2) (v := ?t3v) rfl (by kernel_rfl) (by kernel_rfl) (by kernel_rfl) (fun _ _ _ h => h) (Or.inl ⟨by rfl, ?t3y⟩) (by assumption) ?t3t
    case t3y => (intro w hSw; (try dsimp only at hSw); (try simp only [List.getElem_toArray, List.getElem_cons_zero, List.getElem_cons_succ]); go_simp; try with_reducible rfl)
    try simp only [Act.put, List.getElem_toArray, List.getElem_cons_zero, List.getElem_cons_succ, List.setIfInBounds_toArray, List.set_cons_zero, List.set_cons_succ]
    refine wpAnyH_take (i := 3) (v := ?t4v) rfl (by kernel_rfl) (by kernel_rfl) (by kernel_rfl) (fun _ _ _ h => h) (Or.inl ⟨by rfl, ?t4y⟩) (by assumption) ?t4t
    case t4y => (intro w hSw; (try dsimp only at hSw); (try simp only [List.getElem_toArray, List.getElem_cons_zero, List.getElem_cons_succ]); go_simp; try with_reducible rfl)
    try simp only [Act.put, List.getElem_toArray, List.getElem_cons_zero, List.getElem_cons_succ, List.setIfInBounds_toArray, List.set_cons_zero, List.set_cons_succ]
    refine wpAnyH_take (i := 4) (v := ?t5v) rfl (by kernel_rfl) (by kernel_rfl) (by kernel_rfl) (fun _ _ _ h => h) (Or.inl ⟨by rfl, ?t5y⟩) (by assumption) ?t5t
    case t5y => (intro w hSw; (try dsimp only at hSw); (try simp only [List.getElem_toArray, List.getElem_cons_zero, List.getElem_cons_succ]); go_simp; try with_reducible rfl)
    try simp only [Act.put, List.getElem_toArray, List.getElem_cons_zero, List.getElem_cons_succ, List.setIfInBounds_toArray, List.set_cons_zero, List.set_cons_succ]
    refine wpAnyH_take (i := 5) (v := ?t6v) rfl (by kernel_rfl) (by kernel_rfl) (by kernel_rfl) (fun _ _ _ h => h) (Or.inl ⟨by rfl, ?t6y⟩) (by assumption) ?t6t
    case t6y => (intro w hSw; (try dsimp only at hSw); (try simp only [List.getElem_toArray, List.getElem_cons_zero, List.getElem_cons_succ]); go_simp; try with_reducible rfl)
    try simp only [Act.put, List.getElem_toArray, List.getElem_cons_zero, List.getElem_cons_succ, List.setIfInBounds_toArray, List.set_cons_zero, List.set_cons_succ]
    refine wpAnyH_take (i := 6) (v := ?t7v) rfl (by kernel_rfl) (by kernel_rfl) (by kernel_rfl) (fun _ _ _ h => h) (Or.inl ⟨by rfl, ?t7y⟩) (by assumption) ?t7t
    case t7y => (intro w hSw; (try dsimp only at hSw); (try simp only [List.getElem_toArray, List.getElem_cons_zero, List.getElem_cons_succ]); go_simp; try with_reducible rfl)
    try simp only [Act.put, List.getElem_toArray, List.getElem_cons_zero, List.getElem_cons_succ, List.setIfInBounds_toArray, List.set_cons_zero, List.set_cons_succ]
    refine wpAnyH_take (i := 7) (v := ?t8v) rfl (by kernel_rfl) (by kernel_rfl) (by kernel_rfl) (fun _ _ _ h => h) (Or.inl ⟨by rfl, ?t8y⟩) (by assumption) ?t8t
    case t8y => (intro w hSw; (try dsimp only at hSw); (try simp only [List.getElem_toArray, List.getElem_cons_zero, List.getElem_cons_succ]); go_simp; try with_reducible rfl)
    try simp only [Act.put, List.getElem_toArray, List.getElem_cons_zero, List.getElem_cons_succ, List.setIfInBounds_toArray, List.set_cons_zero, List.set_cons_succ]
    refine wpAnyH_take (i := 8) (v := ?t9v) rfl (by kernel_rfl) (by kernel_rfl) (by kernel_rfl) (fun _ _ _ h => h) (Or.inl ⟨by rfl, ?t9y⟩) (by assumption) ?t9t
    case t9y => (intro w hSw; (try dsimp only at hSw); (try simp only [List.getElem_toArray, List.getElem_cons_zero, List.getElem_cons_succ]); go_simp; try with_reducible rfl)
    try simp only [Act.put, List.getElem_toArray, List.getElem_cons_zero, List.getElem_cons_succ, List.setIfInBounds_toArray, List.set_cons_zero, List.set_cons_succ]
    refine wpAnyH_take (i := 9) (v := ?t10v) rfl (by kernel_rfl) (by kernel_rfl) (by kernel_rfl) (fun _ _ _ h => h) (Or.inl ⟨by rfl, ?t10y⟩) (by assumption) ?t10t
    case t10y => (intro w hSw; (try dsimp only at hSw); (try simp only [List.getElem_toArray, List.getElem_cons_zero, List.getElem_cons_succ]); go_simp; try with_reducible rfl)
    try simp only [Act.put, List.getElem_toArray, List.getElem_cons_zero, List.getElem_cons_succ, List.setIfInBounds_toArray, List.set_cons_zero, List.set_cons_succ]
    refine wpAnyH_take (i := 10) (v := ?t11v) rfl (by kernel_rfl) (by kernel_rfl) (by kernel_rfl) (fun _ _ _ h => h) (Or.inl ⟨by rfl, ?t11y⟩) (by assumption) ?t11t
    case t11y => (intro w hSw; (try dsimp only at hSw); (try simp only [List.getElem_toArray, List.getElem_cons_zero, List.getElem_cons_succ]); go_simp; try with_reducible rfl)
    try simp only [Act.put, List.getElem_toArray, List.getElem_cons_zero, List.getElem_cons_succ, List.setIfInBounds_toArray, List.set_cons_zero, List.set_cons_succ]
    refine wpAnyH_take (i := 11) (v := ?t12v) rfl (by kernel_rfl) (by kernel_rfl) (by kernel_rfl) (fun _ _ _ h => h) (Or.inl ⟨by rfl, ?t12y⟩) (by assumption) ?t12t
    case t12y => (intro w hSw; (try dsimp only at hSw); (try simp only [List.getElem_toArray, List.getElem_cons_zero, List.getElem_cons_succ]); go_simp; try with_reducible rfl)
    try simp only [Act.put, List.getElem_toArray, List.getElem_cons_zero, List.getElem_cons_succ, List.setIfInBounds_toArray, List.set_cons_zero, List.set_cons_succ]
    refine wpAnyH_take (i := 12) (v := ?t13v) rfl (by kernel_rfl) (by kernel_rfl) (by kernel_rfl) (fun _ _ _ h => h) (Or.inl ⟨by rfl, ?t13y⟩) (by assumption) ?t13t
    case t13y => (intro w hSw; (try dsimp only at hSw); (try simp only [List.getElem_toArray, List.getElem_cons_zero, List.getElem_cons_succ]); go_simp; try with_reducible rfl)
    try simp only [Act.put, List.getElem_toArray, List.getElem_cons_zero, List.getElem_cons_succ, List.setIfInBounds_toArray, List.set_cons_zero, List.set_cons_succ]
    refine wpAnyH_ready (rs := [13]) (by kernel_rfl) (by simp) ?_
    refine AllReadyH.cons rfl (fun K hK => ?_) AllReadyH.nil
    try simp only [List.getElem_toArray, List.getElem_cons_zero, List.getElem_cons_succ]
    go_simp
    refine (hgat _ hM2 hkv2).mono ?_
    rintro e W3 ⟨rfl, hM3, f3⟩
    have kb3 : W3.cell? ⟨gB, 0, none⟩ = some (.int .u8 kd) := (World.cell?_of_block (w := W2.drew) (f3.block gB hgbT.1 (by simp; exact hnB.1))).trans hkb2
    have kT3 := f3.cl kT2 (by simp; exact hnT.1)
    have hF3 := hF2.trans (f3.less fun b _ hb => by simp at hb; simp [hb])
    try go_simp
    refine hK.out _ _ ?s14 (fun hHeld2 => ?_)
    case s14 => (try dsimp only); (exact ⟨hM3.four.2.1, kb3, (kT3.cell kd).trans (comA_at' HFI.out hkd')⟩)
    clear hHeld hK K
    have hHeld := hHeld2
    clear hHeld2
    try simp only [Act.put, List.getElem_toArray, List.getElem_cons_zero, List.getElem_cons_succ, List.setIfInBounds_toArray, List.set_cons_zero, List.set_cons_succ]
    refine wpAnyH_ready (rs := [14]) (by kernel_rfl) (by simp) ?_
    refine AllReadyH.cons rfl (fun K hK => ?_) AllReadyH.nil
    try simp only [List.getElem_toArray, List.getElem_cons_zero, List.getElem_cons_succ]
    go_simp
    refine (hcom _ hM3).mono ?_
    rintro e W4 ⟨k, s', rfl, hM4, f4, he4⟩
    have hgb3 : gB < W3.heap.size := cell_lt (w := W3) kb3
    have kb4 : W4.cell? ⟨gB, 0, none⟩ = some (.int .u8 kd) := (World.cell?_of_block (w := W3) (f4.block gB hgb3 (by simp; exact ⟨hnB.2.1, hnB.2.2.1⟩))).trans kb3
    have kT4 := f4.cl kT3 (by simp; exact ⟨hnT.2.1, hnT.2.2.1⟩)
    have hF4 := hF3.trans (f4.less fun b _ hb => by simp at hb; rcases hb with rfl | rfl <;> simp)
    have y4 := hM4.is.cell hlt
    have yf4 := hM4.is.frozen
    try go_simp
    refine hK.out _ _ ?s15 (fun hHeld2 => ?_)
    case s15 => (try dsimp only); (exact ⟨hM4.four.2.1, kb4, (kT4.cell kd).trans (comA_at' HFI.out hkd')⟩)
    clear hHeld hK K
    have hHeld := hHeld2
    clear hHeld2
    try simp only [Act.put, List.getElem_toArray, List.getElem_cons_zero, List.getElem_cons_succ, List.setIfInBounds_toArray, List.set_cons_zero, List.set_cons_succ]
    refine wpAnyH_take (i := 15) (v := ?t16v) rfl (by kernel_rfl) (by kernel_rfl) (by kernel_rfl) (fun _ _ _ h => h) (Or.inl ⟨by rfl, ?t16y⟩) (by assumption) ?t16t
    case t16y => (intro w hSw; (try dsimp only at hSw); (try simp only [List.getElem_toArray, List.getElem_cons_zero, List.getElem_cons_succ]); go_simp; try with_reducible rfl)
    try simp only [Act.put, List.getElem_toArray, List.getElem_cons_zero, List.getElem_cons_succ, List.setIfInBounds_toArray, List.set_cons_zero, List.set_cons_succ]
    refine wpAnyH_ready (rs := [16]) (by kernel_rfl) (by simp) ?_
    refine AllReadyH.cons rfl (fun K hK => ?_) AllReadyH.nil
    try simp only [List.getElem_toArray, List.getElem_cons_zero, List.getElem_cons_succ]
    go_simp
    have hM5 := hM4.setIs i k
    have hF5 := hF4.store (p := ⟨g.I, i, none⟩) (.inl (by simp)) (.int .i64 (k : Nat))
    have kT5 := kT4.other (p := ⟨g.I, i, none⟩) hnT.2.2.2 (.int .i64 (k : Nat))
    have kb5 := (World.cell?_of_block (w := W4) (Below.heap_setCell W4 ⟨g.I, i, none⟩ (.int .i64 (k : Nat)) gB hnB.2.2.2)).trans kb4
    try go_simp
    refine hK.out _ _ ?s17 (fun hHeld2 => ?_)
    case s17 => (try dsimp only); (exact ⟨hM5.four.2.1, kb5, (kT5.cell kd).trans (comA_at' HFI.out hkd')⟩)
    clear hHeld hK K
    have hHeld := hHeld2
    clear hHeld2
    try simp only [Act.put, List.getElem_toArray, List.getElem_cons_zero, List.getElem_cons_succ, List.setIfInBounds_toArray, List.set_cons_zero, List.set_cons_succ]
    refine wpAnyH_done (by kernel_rfl) ?_ _
    rw [he4, ← HST.out] at hM5
    go_wp2
    have hin : i + 1 ≤ g.n := hlt
    exact ⟨⟨i + 1, by go_num, hin, hM5, kT5, hF5⟩, by first | exact meas_next hin | exact meas_next' hin⟩
  · obtain rfl : i = g.n := by omega
    rw [hgn] at hM
    go_wp2
    go_end0
    exact ⟨rfl, hM, hF⟩
end Go.Proofs.YtpkjfdgjmcphmaaDoor

/- Package expr: the iterator over a node's kids. -/
namespace Go.Proofs.YtpkjfdgjmcphmaaDoor
open Go.RowKit Go.Shelf Bset Tm

attribute [local go_sem] Oper.semAt_some

/-- Blocks ahead of n₀ stay, but for these. -/
def Kq (G : List Nat) (n₀ : Nat) (W W' : World) : Prop := ∀ b, b < n₀ → b ∉ G → W'.heap[b]? = W.heap[b]?
theorem Kq.refl (G : List Nat) (n₀ : Nat) (W : World) : Kq G n₀ W W := fun _ _ _ => rfl
theorem Kq.trans {G : List Nat} {n₀ : Nat} {A B C : World} (h : Kq G n₀ A B) (k : Kq G n₀ B C) : Kq G n₀ A C := fun b hb hg => (k b hb hg).trans (h b hb hg)
theorem Kq.obj {G : List Nat} {n₀ : Nat} {w : World} (hn : n₀ ≤ w.heap.size) (W : World) (l : Nat) (o o' : Obj) (hl : w.heap.size ≤ l) (_ : W.heap[l]? = some o) (_ : o.isCells = false) (_ : o.isWalk = false) : Kq G n₀ W (W.putObj l o') :=
  fun b hb _ => World.putObj_heap_other (by omega)
theorem Mk.blocks {g : Gm} {kv : Nat → Value} {i : Nat} {s : St} {w w' : World} (h : Mk g kv i s w) (hb : ∀ b ∈ g.all, w'.heap[b]? = w.heap[b]?) : Mk g kv i s w' := by
  obtain ⟨kv', h1, h2⟩ := h.nd
  exact ⟨(hb _ (by simp)).trans h.m, ⟨kv', h1, h2.of_block (hb _ (by simp))⟩, h.is.of_block (hb _ (by simp)), h.rw.of_block (hb _ (by simp)), h.nx.of_block (hb _ (by simp)), h.dis⟩

/-- What the iterator reads. -/
structure It (g : Gm) (kv : Nat → Value) (st : Nat) (s : St) (i b1 b2 : Nat) (W : World) : Prop where
  k : Mk g kv st s W
  c1 : Cl W b1 92 #[.pointer (some ⟨g.m, 0, none⟩)]
  c2 : Cl W b2 3 #[.int .i64 (i : Nat)]
theorem It.kq {g : Gm} {kv : Nat → Value} {st : Nat} {s : St} {i b1 b2 : Nat} {W W' : World} {G : List Nat} {n₀ : Nat} (h : It g kv st s i b1 b2 W) (hk : Kq G n₀ W W') (h0 : ∀ b ∈ b1 :: b2 :: g.all, b < n₀ ∧ b ∉ G) : It g kv st s i b1 b2 W' :=
  ⟨h.k.blocks fun b hb => hk b (h0 b (List.mem_cons_of_mem _ (List.mem_cons_of_mem _ hb))).1 (h0 b (List.mem_cons_of_mem _ (List.mem_cons_of_mem _ hb))).2, (hk _ (h0 b1 (by simp)).1 (h0 b1 (by simp)).2).trans h.c1, (hk _ (h0 b2 (by simp)).1 (h0 b2 (by simp)).2).trans h.c2⟩
theorem It.drewN {g : Gm} {kv : Nat → Value} {st : Nat} {s : St} {i b1 b2 : Nat} {W : World} (h : It g kv st s i b1 b2 W) (n : Nat) : It g kv st s i b1 b2 (W.drewN n) := ⟨h.k.drewN n, h.c1, h.c2⟩
theorem It.drew {g : Gm} {kv : Nat → Value} {st : Nat} {s : St} {i b1 b2 : Nat} {W : World} (h : It g kv st s i b1 b2 W) : It g kv st s i b1 b2 W.drew := ⟨h.k.drew, h.c1, h.c2⟩

def ith (nx : Nat → Nat) : Nat → Nat → Nat
  | 0, a => a
  | q + 1, a => ith nx q (nx a)
theorem ith_next (nx : Nat → Nat) : ∀ q a, ith nx (q + 1) a = nx (ith nx q a)
  | 0, _ => rfl
  | q + 1, a => ith_next nx q (nx a)
theorem follow_len (nx : Nat → Nat) : ∀ m a, (Tm.follow nx m a).length = m
  | 0, _ => rfl
  | m + 1, a => by simp [Tm.follow, follow_len nx m]
theorem follow_get (nx : Nat → Nat) : ∀ m a q, q < m → (Tm.follow nx m a)[q]? = some (ith nx q a)
  | 0, _, q, h => by omega
  | m + 1, a, 0, _ => rfl
  | m + 1, a, q + 1, h => by
    rw [Tm.follow, List.getElem?_cons_succ, follow_get nx m (nx a) q (by omega)]
    rfl
/-- A number below N. -/
abbrev Bel (N : Nat) := { x : Nat // x < N }

set_option maxRecDepth 100000 in
set_option maxHeartbeats 1000000 in
theorem mkids_any (g : Gm) (i : Nat) (w : World) :
    Calls Tryd.prog 109 #[.pointer (some ⟨g.m, 0, none⟩), .int .i64 i] w fun e w' => e = .returned (.func (.func 121) #[] #[.pointer (some ⟨w.heap.size, 0, none⟩), .pointer (some ⟨w.heap.size + 1, 0, none⟩)]) ∧ w' = (w.alloc (.cells #[.pointer (some ⟨g.m, 0, none⟩)] 92)).alloc (.cells #[.int .i64 i] 3) := by
  go_enter Tryd.func109, Tryd.ntmps109
  go_wp2
  go_ret
  exact ⟨rfl, rfl⟩

theorem abide_drew {α : Type} {B : Nat} {J : List α → World → Prop} (h : AbidesFrom B J) {s : List α} {W : World} (hs : J s W) : J s W.drew := h s W W.drew none hs ⟨rfl, rfl, rfl, Nat.le_refl _, fun _ _ _ => rfl⟩ (fun r e => by cases e)

set_option maxRecDepth 100000 in
set_option maxHeartbeats 2000000 in
theorem kids1_in (l n₀ b1 b2 : Nat) (G : List Nat) (g : Gm) (kv : Nat → Value) (st : Nat) (s : St) (i N M : Nat) (J Jx : List (Bel N) → World → Prop) (hi : i < g.n) (_hn : g.n ≤ 2147483647) (hm : (s.rw i).many ≤ 2147483647) (hM : (s.rw i).many ≤ M)
    (hN : ∀ k ∈ KF s i, k < N ∧ k < g.n) (h0 : ∀ b ∈ b1 :: b2 :: g.all, b < n₀ ∧ b ∉ G) (hJd : ∀ s W, J s W → J s W.drew)
    (hY : ∀ pre x W, J pre W → pre.length < M → YieldAt Fence.wide 2 Tryd.prog l #[.int .i64 x.1] W fun e W' =>
      (e = .returned (.bool true) ∧ J (pre ++ [x]) W' ∧ Kq G n₀ W W') ∨ (e = .returned (.bool false) ∧ Jx (pre ++ [x]) W'))
    (W : World) (hI : It g kv st s i b1 b2 W) (hJ : J [] W) :
    CallsIn Fence.wide 3 Tryd.prog 121 #[.func (.yield l) #[] #[], .pointer (some ⟨b1, 0, none⟩), .pointer (some ⟨b2, 0, none⟩)] W fun e W' => (∃ v, e = .returned v) ∧
      ((∃ ys : List (Bel N), ys.map (·.1) = KF s i ∧ J ys W') ∨ (∃ pre : List (Bel N), pre.map (·.1) <+: KF s i ∧ Jx pre W')) := by
  obtain ⟨L, hL⟩ : ∃ L, L = KF s i := ⟨_, rfl⟩
  rw [← hL] at hN ⊢
  have HLK := Lib.hid hL
  clear hL
  obtain ⟨p0, p1⟩ := hI.c1.oneC
  obtain ⟨d0, d1⟩ := hI.c2.oneC
  obtain ⟨m0, m1, m2, m3⟩ := hI.k.four
  obtain ⟨r0, r1, r2⟩ := hI.k.rowAt hi
  have hi0 : (0 : Int) ≤ (i : Int) := by omega
  have hi1 : (i : Int) < (g.n : Int) := by omega
  refine callsIn_of_wp Tryd.func121 rfl trivial ?_ rfl
  simp only [Tryd.ntmps121, List.size_toArray, List.length_cons, List.length_nil, Nat.reduceAdd, Nat.reduceSub, Array.replicate_succ, Array.replicate_zero, List.push_toArray, List.append_toArray, List.nil_append, List.cons_append]
  gi_wp2
  gi_region
  gi_wp2
  gi_region
  gi_wp2
  have hK : KF s i = Tm.follow s.nx (s.rw i).many (s.rw i).first := rfl
  have hlen : (KF s i).length = (s.rw i).many := follow_len _ _ _
  have hget := fun q (h : q < (s.rw i).many) => follow_get s.nx (s.rw i).many (s.rw i).first q h
  rw [← hK] at hget
  obtain ⟨m, hme⟩ : ∃ m, m = (s.rw i).many := ⟨_, rfl⟩
  obtain ⟨a, hae⟩ : ∃ a, a = (s.rw i).first := ⟨_, rfl⟩
  rw [← hme, ← hae]
  rw [← hme] at hm hM hlen
  rw [← hme, ← hae] at hget
  rw [← HLK.out] at hlen hget
  have hJ0 := hJd _ _ (hJd _ _ hJ)
  have hI0 := hI.drew.drew
  have HN := Lib.hid hN
  have HG := Lib.hid hget
  have HL := Lib.hid hlen
  clear hN hget hlen hK hme hae p0 p1 d0 d1 m0 m1 m2 m3 r0 r1 r2 hI hJ
  gi_loopw [4, 21] (fun v4 v21 wr => ∃ (q : Nat) (pr : List (Bel N)), v21 = .int .i64 q ∧ v4 = .int .i64 (ith s.nx q a : Nat) ∧ q ≤ m ∧ pr.map (·.1) = L.take q ∧ J pr wr ∧ It g kv st s i b1 b2 wr) (fun _ v _ => m - (intOf v).toNat)
  case atStart => exact ⟨0, [], rfl, rfl, Nat.zero_le _, rfl, hJ0, hI0⟩
  case round =>
    clear hJ0 hI0
    obtain ⟨q, pr, rfl, rfl, hq, hpr, hJ, hI⟩ := hrel
    by_cases hlt : q < m
    · have hg := HG.out q hlt
      have hmem := List.mem_of_getElem? hg
      obtain ⟨hx1, hx2⟩ := HN.out _ hmem
      obtain ⟨x, hx⟩ : ∃ x, x = ith s.nx q a := ⟨_, rfl⟩
      rw [← hx] at hg hx1 hx2 ⊢
      have hnx : ith s.nx (q + 1) a = s.nx x := by rw [ith_next, hx]
      have htk : L.take (q + 1) = L.take q ++ [x] := by
        obtain ⟨h1, h2⟩ := List.getElem?_eq_some_iff.1 hg
        rw [List.take_succ_eq_append_getElem h1, h2]
      have hlen : pr.length < M := by
        have h1 := congrArg List.length hpr
        have h2 := HL.out
        simp at h1
        omega
      obtain ⟨fn, tmps, assign, body, hy, hR⟩ := hY pr ⟨x, hx1⟩ wr hJ hlen
      dsimp only at hy
      have hx0 : (0 : Int) ≤ (x : Int) := by omega
      have hx3 : (x : Int) < (g.n : Int) := by omega
      have hq0 : (q : Int) < (m : Int) := by omega
      have hwq : IntKind.i64.wrap ((q : Int) + 1) = ((q + 1 : Nat) : Int) := by rw [IntWalk.i64_in _ (by omega)]; omega
      have HNX := Lib.hid hnx
      have HTK := Lib.hid htk
      have HPR := Lib.hid hpr
      have hqn : q + 1 ≤ m := hlt
      clear hg hmem hx hnx htk hpr hlt
      gi_wp2
      have hpr' : (pr ++ [(⟨x, hx1⟩ : Bel N)]).map (·.1) = L.take (q + 1) := by
        rw [List.map_append, HPR.out, HTK.out]
        rfl
      refine hR.mono ?_
      rintro e W3 (⟨rfl, hJ3, hk3⟩ | ⟨rfl, hJx3⟩)
      · have hI3 := hI.kq hk3 h0
        obtain ⟨p0, p1⟩ := hI3.c1.oneC
        obtain ⟨m0, m1, m2, m3⟩ := hI3.k.four
        have n0 := hI3.k.nx.cell hx2
        gi_wp2
        exact ⟨⟨q + 1, pr ++ [⟨x, hx1⟩], by go_num, by rw [HNX.out], hqn, hpr', hJ3, hI3⟩, by first | exact meas_next hqn | exact meas_next' hqn⟩
      · gi_wp2
        refine bodyPost_ret (results_none rfl _ _ _) rfl ?_
        exact ⟨⟨_, rfl⟩, .inr ⟨pr ++ [⟨x, hx1⟩], by rw [hpr']; exact List.take_prefix _ _, hJx3⟩⟩
    · obtain rfl : q = m := by omega
      gi_wp2
      go_end0
      exact ⟨⟨_, rfl⟩, .inl ⟨pr, by rw [hpr, List.take_of_length_le (by rw [HL.out]; exact Nat.le_refl _)], hJ⟩⟩

theorem kids_stops (n₀ b1 b2 : Nat) (G : List Nat) (g : Gm) (kv : Nat → Value) (st : Nat) (s : St) (i N M : Nat) (w : World) (hi : i < g.n) (hn : g.n ≤ 2147483647) (hm : (s.rw i).many ≤ 2147483647) (hM : (s.rw i).many ≤ M)
    (hN : ∀ k ∈ KF s i, k < N ∧ k < g.n) (h0 : ∀ b ∈ b1 :: b2 :: g.all, b < n₀ ∧ b ∉ G) (hI : It g kv st s i b1 b2 w) :
    SeqStopsK Fence.wide 3 Tryd.prog 121 #[.pointer (some ⟨b1, 0, none⟩), .pointer (some ⟨b2, 0, none⟩)] (fun x : Bel N => #[Value.int .i64 x.1]) (Kq G n₀) (fun ys => ys.map (·.1) = KF s i) (fun pre => pre.map (·.1) <+: KF s i) M w :=
  fun l J Jx W hW hJ _ hY hJ0 =>
    kids1_in l n₀ b1 b2 G g kv st s i N M J Jx hi hn hm hM hN h0 (fun _ _ h => abide_drew hJ h) hY W ⟨hI.k.below hW, hI.c1.below hW hI.c1.lt, hI.c2.below hW hI.c2.lt⟩ hJ0
end Go.Proofs.YtpkjfdgjmcphmaaDoor

/- Package expr: within. -/
namespace Go.Proofs.YtpkjfdgjmcphmaaDoor
open Go.RowKit Go.Shelf Bset Tm

attribute [local go_sem] Oper.semAt_some

/-- The marks that ranges over a function leave. -/
def mark (D : Nat) : Deferred := { target := .collected D, args := #[] }
structure Mks (L : List Nat) (W : World) : Prop where
  nd : L.Nodup
  all : ∀ D ∈ L, W.heap[D]? = some (.deferred (some []))
theorem Mks.nil (W : World) : Mks [] W := ⟨List.nodup_nil, fun _ h => by cases h⟩
theorem Mks.cons {L : List Nat} {W0 W : World} {D : Nat} (h : Mks L W0) (hk : ∀ b, b < W0.heap.size → b ∈ L → W.heap[b]? = W0.heap[b]?) (hD : W0.heap.size ≤ D) (hm : W.heap[D]? = some (.deferred (some []))) : Mks (D :: L) W := by
  refine ⟨List.nodup_cons.2 ⟨fun hd => ?_, h.nd⟩, fun E hE => ?_⟩
  · have := lt_of_block (h.all D hd)
    omega
  · rcases List.mem_cons.1 hE with rfl | hE
    · exact hm
    · exact (hk E (lt_of_block (h.all E hE)) hE).trans (h.all E hE)
theorem Mks.keep {L : List Nat} {W0 W : World} (h : Mks L W0) (hk : ∀ b, b < W0.heap.size → b ∈ L → W.heap[b]? = W0.heap[b]?) : Mks L W :=
  ⟨h.nd, fun E hE => (hk E (lt_of_block (h.all E hE)) hE).trans (h.all E hE)⟩

theorem leaves_marks {F : Fence} {n : Nat} {fn : Func} {tmps : Array Value} {R : Ending → World → Prop} (Ψ : World → Prop) :
    ∀ (L : List Nat) (W : World), Mks L W → Ψ W → (∀ D ∈ L, ∀ V, V.heap[D]? = some (.deferred (some [])) → Ψ V → Ψ (V.putObj D (.deferred none))) →
      (∀ V, Ψ V → ∃ v, (results fn tmps).run Tryd.prog V = .ok v V ∧ R (.returned v) V) → LeavesInM F n Tryd.prog fn tmps R (L.map mark) .returning W
  | [], W, _, h, _, he => he W h
  | D :: L, W, hm, h, hs, he => by
    have hD := hm.all D (by simp)
    have hnd := List.nodup_cons.1 hm.nd
    refine ⟨by simp, .inl ⟨D, W.putObj D (.deferred none), rfl, run_takeDeferred hD, ?_⟩⟩
    refine leaves_marks Ψ L _ ⟨hnd.2, fun E hE => ?_⟩ (hs D (by simp) W hD h) (fun E hE => hs E (by simp [hE])) he
    have hne : E ≠ D := fun e => hnd.1 (e ▸ hE)
    rw [World.putObj_heap_other hne]
    exact hm.all E (by simp [hE])

theorem Fr.obj {G : List Nat} {w w' : World} (h : Fr G w w') {l : Nat} (hl : w.heap.size ≤ l) (o : Obj) : Fr G w (w'.putObj l o) :=
  ⟨h.os, h.tape, h.output, by simpa using h.size, fun b hb hg => (World.putObj_heap_other (by omega)).trans (h.block b hb hg)⟩
theorem Fr.grown {G : List Nat} {w w' w'' : World} (h : Fr G w w') {row : Option Nat} (hg : w'.grownBy w'' row) (hr : ∀ r, row = some r → w.heap.size ≤ r) : Fr G w w'' :=
  ⟨hg.os.trans h.os, hg.tape.trans h.tape, hg.output.trans h.output, Nat.le_trans h.size hg.size, fun b hb hn => (hg.block b (Nat.lt_of_lt_of_le hb h.size) fun e => by have := hr b e.symm; omega).trans (h.block b hb hn)⟩

/-- Who is marked, the nodes from t on gone over. -/
def Mr (s : St) (S : List Nat) (r t j : Nat) : Prop := j = r ∨ ∃ y ∈ S, t ≤ y ∧ j ∈ KF s y
noncomputable def mrB (s : St) (S : List Nat) (r t j : Nat) : Bool := @decide (Mr s S r t j) (Classical.propDecidable _)
theorem mrB_iff {s : St} {S : List Nat} {r t j : Nat} : mrB s S r t j = true ↔ Mr s S r t j := by unfold mrB; simp
/-- What stands within a root. -/
structure Cls (s : St) (S : List Nat) (r : Nat) : Prop where
  root : r ∈ S
  le : ∀ x ∈ S, x ≤ r
  kid : ∀ x ∈ S, ∀ k ∈ KF s x, k ∈ S ∧ k < x
  par : ∀ x ∈ S, x ≠ r → ∃ y ∈ S, x ∈ KF s y
theorem mr_start {s : St} {S : List Nat} {r : Nat} (h : Cls s S r) (j : Nat) : mrB s S r (r + 1) j = decide (j = r) := by
  rw [Bool.eq_iff_iff, mrB_iff, decide_eq_true_eq]
  constructor
  · rintro (h1 | ⟨y, hy, h2, _⟩)
    · exact h1
    · have := h.le y hy
      omega
  · exact .inl
theorem mr_at {s : St} {S : List Nat} {r t : Nat} (h : Cls s S r) : mrB s S r (t + 1) t = decide (t ∈ S) := by
  rw [Bool.eq_iff_iff, mrB_iff, decide_eq_true_eq]
  constructor
  · rintro (rfl | ⟨y, hy, _, h2⟩)
    · exact h.root
    · exact (h.kid y hy t h2).1
  · intro ht
    by_cases e : t = r
    · exact .inl e
    · obtain ⟨y, hy, h2⟩ := h.par t ht e
      exact .inr ⟨y, hy, (h.kid y hy t h2).2, h2⟩
theorem mr_skip {s : St} {S : List Nat} {r t : Nat} (ht : t ∉ S) (j : Nat) : mrB s S r t j = mrB s S r (t + 1) j := by
  rw [Bool.eq_iff_iff, mrB_iff, mrB_iff]
  constructor
  · rintro (h1 | ⟨y, hy, h2, h3⟩)
    · exact .inl h1
    · exact .inr ⟨y, hy, by
        rcases Nat.lt_or_ge t y with h4 | h4
        · exact h4
        · exact absurd ((show y = t by omega) ▸ hy) ht, h3⟩
  · rintro (h1 | ⟨y, hy, h2, h3⟩)
    · exact .inl h1
    · exact .inr ⟨y, hy, by omega, h3⟩
theorem mr_kids {s : St} {S : List Nat} {r t : Nat} (ht : t ∈ S) (j : Nat) : mrB s S r t j = (mrB s S r (t + 1) j || (KF s t).any (· == j)) := by
  rw [Bool.eq_iff_iff, Bool.or_eq_true, mrB_iff, mrB_iff, List.any_eq_true]
  constructor
  · rintro (h1 | ⟨y, hy, h2, h3⟩)
    · exact .inl (.inl h1)
    · by_cases e : y = t
      · exact .inr ⟨j, e ▸ h3, by simp⟩
      · exact .inl (.inr ⟨y, hy, by omega, h3⟩)
  · rintro ((h1 | ⟨y, hy, h2, h3⟩) | ⟨x, hx, h2⟩)
    · exact .inl h1
    · exact .inr ⟨y, hy, by omega, h3⟩
    · exact .inr ⟨t, ht, Nat.le_refl _, by have : x = j := by simpa using h2
                                           exact this ▸ hx⟩
theorem mr_end {s : St} {S : List Nat} {r : Nat} (h : Cls s S r) (j : Nat) : mrB s S r 0 j = decide (j ∈ S) := by
  rw [Bool.eq_iff_iff, mrB_iff, decide_eq_true_eq]
  constructor
  · rintro (rfl | ⟨y, hy, _, h2⟩)
    · exact h.root
    · exact (h.kid y hy j h2).1
  · intro hj
    by_cases e : j = r
    · exact .inl e
    · obtain ⟨y, hy, h2⟩ := h.par j hj e
      exact .inr ⟨y, hy, Nat.zero_le _, h2⟩

theorem make_bools (n : Nat) (h : n ≤ 4294967296) (w : World) : (Instr.makeSlice 72 (.int .i64 (n : Int)) (.int .i64 (n : Int))).run Tryd.prog w = .ok (.slice (some ⟨w.heap.size, 0, none⟩) n n) (w.alloc (.cells (madeCells #[.bool false] n) 4)) :=
  run_make_row' (P := Tryd.prog) 72 4 (.bool false) 1 Tryd.underlying72 infoBool rfl .i64 .i64 n (by omega) (by omega) w

set_option maxRecDepth 100000 in
set_option maxHeartbeats 4000000 in
theorem within_in (g : Gm) (kv : Nat → Value) (st : Nat) (s : St) (r : Nat) (S : List Nat) (w : World) (h : Mk g kv st s w) (hr : r < g.n) (hn : g.n ≤ 2147483647) (hC : Cls s S r) (hm : ∀ x ∈ S, (s.rw x).many ≤ 2147483647) :
    CallsIn Fence.wide 4 Tryd.prog 108 #[.pointer (some ⟨g.m, 0, none⟩), .int .i64 r] w fun e w' => ∃ gS, e = .returned (.slice (some ⟨gS, 0, none⟩) (r + 1) (r + 1)) ∧ w'.rowIs gS 4 (r + 1) (fun j => .bool (decide (j ∈ S))) ∧ w.heap.size ≤ gS ∧ Below w.heap.size w w' := by
  have h1 : 1 ≤ 4 := by omega
  obtain ⟨N, hN⟩ : ∃ N, N = r + 1 := ⟨_, rfl⟩
  rw [← hN]
  have hmk := make_bools N (by omega)
  have hw1 : IntKind.i64.wrap ((r : Int) + 1) = (N : Int) := by rw [IntWalk.i64_in _ (by omega)]; omega
  have hr0 : (0 : Int) ≤ (r : Int) := by omega
  have hr1 : (r : Int) < (N : Int) := by omega
  have x0 := World.rowIs_made w (.bool false) N 4
  have x1 := (x0.alloc (.cells #[.slice (some ⟨w.heap.size, 0, none⟩) N N] 72)).cell (show r < N by omega)
  have x2 := (x0.alloc (.cells #[.slice (some ⟨w.heap.size, 0, none⟩) N N] 72)).frozen
  have HN := Lib.hid hN
  clear hN
  refine callsIn_of_wp_marks Tryd.func108 rfl trivial ?_ rfl
  simp only [Tryd.ntmps108, List.size_toArray, List.length_cons, List.length_nil, Nat.reduceAdd, Nat.reduceSub, Array.replicate_succ, Array.replicate_zero, List.push_toArray, List.append_toArray, List.nil_append, List.cons_append]
  gi_wp2
  have k0 : Cl ((w.alloc (.cells ((madeCells #[.bool false] N).setIfInBounds r (.bool true)) 4)).alloc (.cells #[.slice (some ⟨w.heap.size, 0, none⟩) N N] 72)) (w.heap.size + 1) 72 #[.slice (some ⟨w.heap.size, 0, none⟩) N N] := Cl.new' (by simp) _ _
  have b0 : Below w.heap.size w ((w.alloc (.cells ((madeCells #[.bool false] N).setIfInBounds r (.bool true)) 4)).alloc (.cells #[.slice (some ⟨w.heap.size, 0, none⟩) N N] 72)) := ((Below.refl _ w).alloc (Nat.le_refl _) _).alloc (by simp) _
  have r0 : World.rowIs ((w.alloc (.cells ((madeCells #[.bool false] N).setIfInBounds r (.bool true)) 4)).alloc (.cells #[.slice (some ⟨w.heap.size, 0, none⟩) N N] 72)) w.heap.size 4 N (fun j => .bool (mrB s S r N j)) := by
    have hsz : ((madeCells #[Value.bool false] N).setIfInBounds r (.bool true)).size = N := by simp [size_madeCells]
    have h2 := World.rowIs_alloc w ((madeCells #[Value.bool false] N).setIfInBounds r (.bool true)) 4 (fun j => .bool (mrB s S r N j)) (fun i hi => by
      rw [hsz] at hi
      have hms := mr_start hC i
      rw [← HN.out] at hms
      rw [hms, Array.getElem?_setIfInBounds]
      by_cases e : r = i
      · subst e
        simp [size_madeCells, hi]
      · rw [if_neg e, decide_eq_false (fun e2 => e e2.symm)]
        simp [madeCells, hi, Nat.mod_one])
    rw [hsz] at h2
    exact h2.alloc _
  have hs0 : w.heap.size + 2 ≤ ((w.alloc (.cells ((madeCells #[.bool false] N).setIfInBounds r (.bool true)) 4)).alloc (.cells #[.slice (some ⟨w.heap.size, 0, none⟩) N N] 72)).heap.size := by simp
  generalize World.alloc _ _ = W0 at *
  clear x0 x1 x2 hmk hw1
  refine wpIn_loop (fun a W => ∃ (x : Int) (t : Nat) (L : List Nat) (u7 u15 u16 u17 u18 u19 u20 u21 u22 u23 u24 u25 u26 u27 u28 u29 u30 u31 : Value), a = { tmps := #[.pointer (some ⟨g.m, 0, none⟩), .int .i64 r, undef, undef, .slice none 0 0, .pointer (some ⟨w.heap.size + 1, 0, none⟩), .int .i64 x, u7, .int .i64 r, .int .i64 N, .slice (some ⟨w.heap.size, 0, none⟩) N N, .slice (some ⟨w.heap.size, 0, none⟩) N N, .int .i64 r, .pointer (some ⟨w.heap.size, r, none⟩), .int .i64 r, u15, u16, u17, u18, u19, u20, u21, u22, u23, u24, u25, u26, u27, u28, u29, u30, u31], defers := L.map mark } ∧ x = (t : Int) - 1 ∧ t ≤ N ∧ W.rowIs w.heap.size 4 N (fun j => .bool (mrB s S r t j)) ∧ Cl W (w.heap.size + 1) 72 #[.slice (some ⟨w.heap.size, 0, none⟩) N N] ∧ Mks L W ∧ (∀ D ∈ L, w.heap.size + 2 ≤ D) ∧ Below w.heap.size w W) (fun a _ => (intOf (a.tmps.getD 6 undef) + 1).toNat) ?start ?round
  case start => exact ⟨r, N, [], _, _, _, _, _, _, _, _, _, _, _, _, _, _, _, _, _, _, rfl, by have := HN.out; omega, Nat.le_refl _, r0, k0, Mks.nil _, (fun _ h => by cases h), b0⟩
  case round =>
  clear k0 b0 r0 hs0
  rintro a W ⟨x, t, L, u7, u15, u16, u17, u18, u19, u20, u21, u22, u23, u24, u25, u26, u27, u28, u29, u30, u31, rfl, hx, ht, hrow, hV, hmks, hge, hB⟩
  obtain ⟨v0, vf⟩ := hV.oneC
  cases t with
  | zero =>
    obtain rfl : x = -1 := by omega
    clear hx
    gi_wp2
    show LeavesInM Fence.wide 4 Tryd.prog _ _ _ (L.map mark) .returning W
    refine leaves_marks (fun V => V.rowIs w.heap.size 4 N (fun j => .bool (decide (j ∈ S))) ∧ Below w.heap.size w V) L W hmks ⟨hrow.congr fun j _ => by rw [mr_end hC], hB⟩ (fun D hD V hV2 ⟨g1, g2⟩ => ?_) (fun V ⟨g1, g2⟩ => ⟨_, results_tmp rfl _ _ _, w.heap.size, rfl, g1, Nat.le_refl _, g2⟩)
    have hD2 := hge D hD
    exact ⟨g1.of_block (World.putObj_heap_other (by omega)), g2.grown (grownBy_putObj' V D _) g2.size (fun k e => by cases e; omega)⟩
  | succ t =>
    obtain rfl : x = (t : Int) := by omega
    clear hx
    have htN : t < N := by omega
    have c0 := hrow.cell htN
    rw [mr_at hC] at c0
    have ht0 : (0 : Int) ≤ (t : Int) := by omega
    have ht1 : (t : Int) < (N : Int) := by omega
    have hwt : IntKind.i64.wrap ((t : Int) - 1) = (t : Int) - 1 := by rw [IntWalk.i64_in _ (by have := HN.out; omega)]
    by_cases htS : t ∈ S
    · rw [decide_eq_true htS] at c0
      have hM := h.below hB
      have hmt := hm t htS
      gi_wp2_with (refine ⟨trivial, ?_⟩; gi_at_call 109; refine (callsIn_wide.2 (mkids_any g t W)).mono ?_; rintro e w' ⟨rfl, rfl⟩)
      have hWs := hV.lt
      have hM2 := (hM.alloc (.cells #[.pointer (some ⟨g.m, 0, none⟩)] 92)).alloc (.cells #[.int .i64 t] 3)
      have q1 : Cl ((W.alloc (.cells #[.pointer (some ⟨g.m, 0, none⟩)] 92)).alloc (.cells #[.int .i64 t] 3)) W.heap.size 92 #[.pointer (some ⟨g.m, 0, none⟩)] := (Cl.new W _ _).alloc _
      have q2 : Cl ((W.alloc (.cells #[.pointer (some ⟨g.m, 0, none⟩)] 92)).alloc (.cells #[.int .i64 t] 3)) (W.heap.size + 1) 3 #[.int .i64 t] := Cl.new' (by simp) _ _
      have hrow2 := (hrow.alloc (.cells #[.pointer (some ⟨g.m, 0, none⟩)] 92)).alloc (.cells #[.int .i64 t] 3)
      have hV2 := (hV.alloc (.cells #[.pointer (some ⟨g.m, 0, none⟩)] 92)).alloc (.cells #[.int .i64 t] 3)
      have f2 := ((Fr.refl [w.heap.size] W).alloc (.cells #[.pointer (some ⟨g.m, 0, none⟩)] 92)).alloc (.cells #[.int .i64 t] 3)
      have hsz2 : ((W.alloc (.cells #[.pointer (some ⟨g.m, 0, none⟩)] 92)).alloc (.cells #[.int .i64 t] 3)).heap.size = W.heap.size + 2 := by simp
      have hall : ∀ b ∈ W.heap.size :: (W.heap.size + 1) :: g.all, b < W.heap.size + 2 ∧ b ∉ [w.heap.size] := fun b hb => by
        rw [List.mem_cons, List.mem_cons] at hb
        rw [List.mem_singleton]
        rcases hb with rfl | rfl | hb
        · omega
        · omega
        · have := h.lt b hb
          omega
      generalize hW1 : (W.alloc (.cells #[.pointer (some ⟨g.m, 0, none⟩)] 92)).alloc (.cells #[.int .i64 t] 3) = W1 at *
      clear hW1
      refine wpIn_rangeFunc_ownG rfl h1 (gf := 121) (lb := #[.pointer (some ⟨W.heap.size, 0, none⟩), .pointer (some ⟨W.heap.size + 1, 0, none⟩)]) rfl trivial (enters_of Tryd.func121 (by kernel_rfl) rfl)
        (kids_stops (W.heap.size + 2) W.heap.size (W.heap.size + 1) [w.heap.size] g kv st s t N (s.rw t).many W1 (by have := HN.out; omega) hn hmt (Nat.le_refl _) (fun k hk => by have := (hC.kid t htS k hk).2; have := HN.out; omega) hall ⟨hM2, q1, q2⟩) Kq.trans (Kq.obj (by omega)) (Below.refl _ _) (fun _ => rfl)
        (fun pre V => V.rowIs w.heap.size 4 N (fun j => .bool (mrB s S r (t + 1) j || (pre.map (·.1)).any (· == j))) ∧ Cl V (w.heap.size + 1) 72 #[.slice (some ⟨w.heap.size, 0, none⟩) N N] ∧ Fr [w.heap.size] W1 V)
        (fun _ _ _ => False)
        (fun pre V V' row ⟨a1, a2, a3⟩ hg hr' => ?own) (fun _ _ _ _ _ hs _ _ => hs) ⟨hrow2.congr fun j _ => by simp, hV2, Fr.refl _ _⟩ ?a1 ?assign ?body ?done ?stop
      case assign =>
        intro l x V K hK
        gi_wp2
        exact hK
      case own =>
        have key : ∀ b, b < W1.heap.size → b < V.heap.size → V'.heap[b]? = V.heap[b]? := fun b hb hlt => hg.block b hlt fun e => by have := (hr' b e.symm).1; omega
        exact ⟨a1.of_block (key _ (by omega) a1.lt), (key _ (by omega) a2.lt).trans a2, a3.grown hg fun r e => (hr' r e).1⟩
      case body =>
        rintro l pre x V ⟨a1, a2, a3⟩ hlt
        obtain ⟨v0, vf⟩ := a2.oneC
        have e0 := a1.cell x.2
        have e1 := a1.frozen
        have hx0 : (0 : Int) ≤ (x.1 : Int) := by omega
        have hx1 : (x.1 : Int) < (N : Int) := by have := x.2; omega
        have hWs1 : w.heap.size < W1.heap.size := by omega
        gi_wp2
        refine ⟨KeepsFrom.of_grownBy (gb_set (gb_refl V (some w.heap.size)) x.1 (.bool true)) (fun j e => by cases e; exact hWs1), fun b hb hn => Below.heap_setCell _ _ _ _ (fun e => hn (by rw [e]; simp)), (a1.set x.1 _).congr fun j _ => ?_, a2.other (p := ⟨w.heap.size, x.1, none⟩) (by simp) _, a3.store (p := ⟨w.heap.size, x.1, none⟩) (.inl (by simp)) _⟩
        by_cases e : j = x.1
        · simp [e]
        · have e' : (x.1 == j) = false := by
            rw [beq_eq_false_iff_ne]
            exact fun h => e h.symm
          simp [e, e']
      case done =>
        rintro D ys V hD hys ⟨a1, a2, a3⟩ hK
        dsimp only
        have f3 := f2.trans a3
        have hnL : ∀ b, b ∈ L → b ∉ [w.heap.size] := fun b hb hn => by
          have := hge b hb
          have := List.mem_singleton.1 hn
          omega
        have hmks1 := (hmks.keep (W := W1) fun b hb hL => f2.block b hb (hnL b hL)).cons (fun b hb hL => a3.block b hb (hnL b hL)) hD hK
        have hB3 := Fr.toBelow hB f3 (fun b hb => by rw [List.mem_singleton.1 hb]; exact Nat.le_refl _) hB.size
        have hge3 : ∀ E ∈ D :: L, w.heap.size + 2 ≤ E := fun E hE => by
          rcases List.mem_cons.1 hE with rfl | hE
          · omega
          · exact hge E hE
        have hys' : ys.map (·.1) = KF s t := hys
        rw [hys'] at a1
        have a1' := a1.congr (g := fun j => .bool (mrB s S r t j)) fun j _ => by rw [mr_kids htS]
        clear a1 c0 v0 vf hrow hV
        gi_wp2
        exact ⟨⟨(t : Int) - 1, t, D :: L, _, _, _, _, _, _, _, _, _, _, _, _, _, _, _, _, _, _, rfl, rfl, by omega, a1', a2, hmks1, hge3, hB3⟩, by simp [intOf]⟩
      case stop =>
        rintro D c pre V _ _ hf _
        exact hf.elim
    · rw [decide_eq_false htS] at c0
      gi_wp2
      exact ⟨⟨(t : Int) - 1, t, L, _, _, _, _, _, _, _, _, _, _, _, _, _, _, _, _, _, _, rfl, rfl, by omega, hrow.congr fun j _ => by rw [mr_skip htS], hV, hmks, hge, hB⟩, by simp [intOf]⟩

theorem mwithin_any (g : Gm) (kv : Nat → Value) (st : Nat) (s : St) (r : Nat) (S : List Nat) (w : World) (h : Mk g kv st s w) (hr : r < g.n) (hn : g.n ≤ 2147483647) (hC : Cls s S r) (hm : ∀ x ∈ S, (s.rw x).many ≤ 2147483647) :
    Calls Tryd.prog 108 #[.pointer (some ⟨g.m, 0, none⟩), .int .i64 r] w fun e w' => ∃ gS, e = .returned (.slice (some ⟨gS, 0, none⟩) (r + 1) (r + 1)) ∧ w'.rowIs gS 4 (r + 1) (fun j => .bool (decide (j ∈ S))) ∧ w.heap.size ≤ gS ∧ Below w.heap.size w w' :=
  callsIn_wide.1 (within_in g kv st s r S w h hr hn hC hm)
end Go.Proofs.YtpkjfdgjmcphmaaDoor

/- Package expr: what stays, in a row. -/
namespace Go.Proofs.YtpkjfdgjmcphmaaDoor
open Go.RowKit Go.Shelf Bset Tm

attribute [local go_sem] Oper.semAt_some

theorem srt_step : ∀ {S : List Nat} {i : Nat}, Srt S → i ∈ S → S.filter (fun x => decide (x < i + 1)) = S.filter (fun x => decide (x < i)) ++ [i] ∧ (S.filter (fun x => decide (x < i))).length = S.idxOf i
  | [], _, _, h => by cases h
  | a :: S, i, hs, h => by
    have h1 := List.pairwise_cons.1 hs
    rcases List.mem_cons.1 h with rfl | h
    · have e : ∀ m, m ≤ i + 1 → S.filter (fun x => decide (x < m)) = [] := fun m hm => by
        rw [List.filter_eq_nil_iff]
        intro x hx
        have := h1.1 x hx
        simp
        omega
      rw [List.filter_cons_of_pos (by simp), List.filter_cons_of_neg (by simp), e _ (Nat.le_refl _), e _ (by omega)]
      simp
    · have hlt := h1.1 i h
      obtain ⟨h2, h3⟩ := srt_step h1.2 h
      rw [List.filter_cons_of_pos (by simp; omega), List.filter_cons_of_pos (by simp; omega), h2, List.length_cons, h3]
      refine ⟨rfl, ?_⟩
      rw [List.idxOf_cons, show (a == i) = false by rw [beq_eq_false_iff_ne]; omega]
      rfl
theorem srt_skip {S : List Nat} {i : Nat} (h : i ∉ S) : S.filter (fun x => decide (x < i + 1)) = S.filter (fun x => decide (x < i)) := by
  refine List.filter_congr fun x hx => ?_
  have : x ≠ i := fun e => h (e ▸ hx)
  rw [Bool.eq_iff_iff, decide_eq_true_eq, decide_eq_true_eq]
  omega
theorem srt_idx {S : List Nat} (h : Srt S) : S.map (S.idxOf ·) = List.range' 0 S.length := by
  apply List.ext_getElem
  · simp
  · intro j h1 h2
    simp at h1
    rw [List.getElem_map, List.getElem_range', Nat.zero_add, Nat.one_mul]
    exact (Srt.nodup h).idxOf_getElem j h1
/-- What is told of a node that stays. -/
def ndOf (s : St) (S : List Nat) (j : Nat) : Nd := ⟨s.hd j, (KF s j).map fun k => ((S.idxOf k : Nat) : Int)⟩
def plF (S : List Nat) (i j : Nat) : Nat := if j ∈ S ∧ j < i then S.idxOf j else 0
theorem plF_kids {s : St} {S : List Nat} {r i : Nat} (h : Cls s S r) (hi : i ∈ S) : (KF s i).map (fun k => ((plF S i k : Nat) : Int)) = (KF s i).map fun k => ((S.idxOf k : Nat) : Int) :=
  List.map_congr_left fun k hk => by
    unfold plF
    rw [if_pos (h.kid i hi k hk)]
theorem plF_next {S : List Nat} {i : Nat} (hi : i ∈ S) (j : Nat) : plF S (i + 1) j = if j = i then S.idxOf i else plF S i j := by
  unfold plF
  by_cases e : j = i
  · subst e
    rw [if_pos ⟨hi, by omega⟩, if_pos rfl]
  · rw [if_neg e]
    by_cases h : j ∈ S ∧ j < i
    · rw [if_pos h, if_pos ⟨h.1, by omega⟩]
    · rw [if_neg h, if_neg (fun h2 => h ⟨h2.1, by omega⟩)]
theorem plF_skip {S : List Nat} {i : Nat} (hi : i ∉ S) (j : Nat) : plF S (i + 1) j = plF S i j := by
  unfold plF
  by_cases h : j ∈ S ∧ j < i
  · rw [if_pos h, if_pos ⟨h.1, by omega⟩]
  · rw [if_neg h, if_neg (fun h2 => h ⟨h2.1, by
      have : j ≠ i := fun e => hi (e ▸ h2.1)
      omega⟩)]

theorem srt_ge : ∀ (S : List Nat) (m : Nat), Srt S → (∀ x ∈ S, m ≤ x) → ∀ j (h : j < S.length), m + j ≤ S[j]
  | [], _, _, _, j, h => by simp at h
  | a :: S, m, hs, hm, 0, _ => by simpa using hm a (by simp)
  | a :: S, m, hs, hm, j + 1, h => by
    have h1 := List.pairwise_cons.1 hs
    have h2 := hm a (by simp)
    have := srt_ge S (m + 1) h1.2 (fun x hx => by have := h1.1 x hx; omega) j (by simpa using h)
    rw [List.getElem_cons_succ]
    omega
theorem srt_len {S : List Nat} {b : Nat} (hs : Srt S) (hb : ∀ x ∈ S, x < b) : S.length ≤ b := by
  rcases Nat.eq_zero_or_pos S.length with h | h
  · omega
  · have h1 := srt_ge S 0 hs (fun _ _ => Nat.zero_le _) (S.length - 1) (by omega)
    have h2 := hb _ (List.getElem_mem (show S.length - 1 < S.length by omega))
    omega
theorem own_cells {w w' : World} {lo : Nat} {t : TypeId} {size : Nat} {v : Value} {n : Nat} {xs : List Value} (h : w.ownsRow lo t size v n xs) (hk : ∀ (b : Nat) cs t f, w.heap[b]? = some (Obj.cells cs t f) → w'.heap[b]? = w.heap[b]?) : w'.ownsRow lo t size v n xs := by
  refine ⟨h.1, ?_⟩
  rcases h.2 with hn | ⟨g, cap, cur, rfl, hb, hgg, rest⟩
  · exact .inl hn
  · exact .inr ⟨g, cap, cur, rfl, hb, (hk _ _ _ _ hgg).trans hgg, rest⟩
theorem Made.cells {lo : Nat} {w w' : World} {v : Value} {B : List (Nd × Value)} (h : Made lo w v B) (hk : ∀ (b : Nat) cs t f, w.heap[b]? = some (Obj.cells cs t f) → w'.heap[b]? = w.heap[b]?) : Made lo w' v B :=
  ⟨own_cells h.row hk, fun x hx => own_cells (h.kids x hx) hk⟩
theorem obj_cells {V : World} {D : Nat} {o : Obj} (h : V.heap[D]? = some (.deferred (some []))) : ∀ (b : Nat) cs t f, V.heap[b]? = some (Obj.cells cs t f) → (V.putObj D o).heap[b]? = V.heap[b]? := fun b cs t f hb => by
  refine World.putObj_heap_other fun e => ?_
  subst e
  rw [h] at hb
  cases hb
theorem res_tree {fn : Func} {tmps : Array Value} {V : World} {tm : Tmp} {g : Nat} {T : TypeId} {v0 v1 : Value} (hc : Cl V g T #[v0, v1]) (hr : fn.results = #[.cell tm 26]) (ht : tmps[tm]?.getD undef = .pointer (some ⟨g, 0, none⟩)) : (results fn tmps).run Tryd.prog V = .ok (.agg #[v0, v1]) V := by
  obtain ⟨⟨y0, y1⟩, yf⟩ := hc.two
  simp [results, hr, ht, go_sem, y0, y1]
theorem keeps_append {B : Nat} {w w' : World} {lo : Nat} {t : TypeId} {size : Nat} {v : Value} {n : Nat} {xs : List Value} (h : w.ownsRow lo t size v n xs) (hg : w.grownBy w' v.ownBlock) : KeepsFrom B w w' :=
  ⟨hg.size, fun k o _ hk ho => (hg.block k (lt_of_block hk) (fun e => by
    rcases h.2 with ⟨rfl, _⟩ | ⟨g, cap, cur, rfl, _, hgg, _⟩
    · simp [Value.ownBlock] at e
    · have : k = g := by simpa [Value.ownBlock] using e
      subst this
      rw [hk] at hgg
      cases hgg
      simp [Obj.isCells] at ho)).trans hk⟩

theorem opIn_append_own_at {F : Fence} {nF : Nat} {P : Program} {w : World} {o : Oper} {a : Act} {Q : Exit → Act → World → Prop} {K : Act → World → Prop} (s x : Operand) (t : TypeId)
    (ho : o.op = .call { callee := .builtin .append, args := #[s, x], argTypes := #[t, t] })
    (base : Nat) (e : TypeId) (i : TypeInfo) (z : Value) (size bytes : Nat) (ht : P.underlying t = some (.slice e)) (hi : P.info? e = some i) (hz : i.zero = some z)
    (hsize : i.size = size) (hby : i.bytes = bytes) (hzs : z.cells.size = size) (hsz : 0 < size)
    (v : Value) (n : Nat) (xs : List Value) (hs : a.eval s = v) (hown : w.ownsRow base e size v n xs)
    (ad : Addr) (m c : Nat) (news : List Value) (hx : a.eval x = .slice (some ad) m c) (hl : news.length = m * size) (hnews : ∀ j u, news[j]? = some u → w.cell? (ad.add j) = some u) (h1 : ∀ u ∈ news, u.oneCell' = true)
    (h63 : n + m ≤ maxLen) (hbytes : (n + m) * bytes ≤ 140737488355328) (hbase : base ≤ w.heap.size)
    (h : ∀ v' w', w'.ownsRow base e size v' (n + m) (xs ++ news) → w.grownBy w' v.ownBlock → (v' = .slice none 0 0 ↔ v = .slice none 0 0 ∧ m = 0) → (v'.ownBlock = v.ownBlock ∨ v'.ownBlock = some w.heap.size) → K (a.put o.dst v') w') :
    Oper.wpIn F nF P o a w K Q := by
  obtain ⟨v', w', hr, h2, h3, h4, h5⟩ := run_append_own_at (P := P) w base t o.type e i z size bytes ht hi hz hsize hby hzs hsz v n xs hown ad m c news hl hnews h1 h63 hbytes hbase
  unfold Oper.wpIn
  refine ⟨by simp [Oper.about, ho, resolve, Target.leads, Sem.run_pure], ?_⟩
  rw [Oper.semAt_plain F _ _ (by rw [ho]; intro c hc'; cases hc')]
  simp [execOp, ho, resolve, invoke, builtin, hs, hx, hr, Result.andThen]
  exact h v' w' h2 h3 h4 h5
end Go.Proofs.YtpkjfdgjmcphmaaDoor

/- Package set's Runs: the bytes' runs, in a slice of the call's own. -/
import Derived.RangeFuncBox
import Derived.Maps.AppendAt
import Derived.Laws.OwnMore
import Derived.Test.YtkhokhmdiagckaaDoorEach
import Derived.Test.YtkhokhmdiagckaaDoorKeep
import Derived.Test.YtkhokhmdiagckaaDoorRunsM
namespace Go.Proofs.YtkhokhmdiagckaaDoor
open Go.RowKit Go.Shelf Bset

attribute [local go_sem] Oper.semAt_some

/-- Runs as cells. -/
def runC (rs : List (Nat × Nat)) : List Value := rs.flatMap fun p => [.int .u8 (p.1 : Nat), .int .u8 (p.2 : Nat)]

theorem runC_snoc (rs : List (Nat × Nat)) (a c : Nat) : runC (rs ++ [(a, c)]) = runC rs ++ [.int .u8 (a : Nat), .int .u8 (c : Nat)] := by
  unfold runC
  simp

theorem runC_len (rs : List (Nat × Nat)) : (runC rs).length = rs.length * 2 := by
  unfold runC
  induction rs with
  | nil => rfl
  | cons p rs ih => simp [ih]; omega

theorem infoRun : (Tryd.prog.info? 68).map (fun i => (i.zero, i.size, i.bytes)) = some (some (.agg #[.int .u8 0, .int .u8 0]), 2, 2) := by kernel_rfl

theorem cell_two_new (w : World) (x y : Value) (t : TypeId) : ∀ j u, [x, y][j]? = some u → (w.alloc (.cells #[x, y] t)).cell? ((⟨w.heap.size, 0, none⟩ : Addr).add j) = some u := by
  intro j u hj
  match j, hj with
  | 0, hj =>
    simp at hj
    subst hj
    simp [Addr.add]
  | 1, hj =>
    simp at hj
    subst hj
    simp [Addr.add]

/-- What the round knows of the runs made so far. -/
def HoldsRuns (w : World) (rs : List (Nat × Nat)) (W : World) : Prop :=
  ∃ v, Boxed W (w.heap.size + 1) 66 v ∧ W.ownsRow w.heap.size 68 2 v rs.length (runC rs) ∧ (v = .slice none 0 0 ↔ rs = [])

set_option maxRecDepth 100000 in
set_option maxHeartbeats 2000000 in
theorem runs_in (S : Nat → Bool) (w : World) (hT : TabIn w) (hg0 : 0 < w.heap.size) :
    CallsIn Fence.wide 4 Tryd.prog 26 #[setV S] w fun e w' => ∃ v, e = .returned v ∧ w'.ownsRow w.heap.size 68 2 v (runsOf S).length (runC (runsOf S)) ∧ (v = .slice none 0 0 ↔ runsOf S = []) ∧ Below w.heap.size w w' := by
  have h1 : 1 ≤ 4 := by omega
  obtain ⟨i0, hi, hz0, hz1, hz2⟩ := info_parts infoRun
  refine callsIn_of_wp_marks Tryd.func26 rfl trivial ?_ rfl
  simp only [Tryd.ntmps26, List.size_toArray, List.length_cons, List.length_nil, Nat.reduceAdd, Nat.reduceSub, Array.replicate_succ, Array.replicate_zero, List.push_toArray, List.append_toArray, List.nil_append, List.cons_append]
  gi_wp2_with (refine ⟨trivial, ?_⟩; gi_at_call 36; refine (callsIn_wide.2 (each_any S _)).mono ?_; rintro e w' ⟨rfl, rfl⟩)
  obtain ⟨W0, hW0⟩ : ∃ W0, (((w.alloc (.cells (setC S) 24)).alloc (.cells #[.slice none 0 0] 66)).alloc (.cells (setC S) 24)) = W0 := ⟨_, rfl⟩
  have b1 : Boxed W0 (w.heap.size + 1) 66 (.slice none 0 0) := by rw [← hW0]; exact (Cl.new' (by simp) _ _).alloc _
  have c3 : Cl W0 (w.heap.size + 1 + 1) 24 (setC S) := by rw [← hW0]; exact Cl.new' (by simp) _ _
  have hB0 : Below w.heap.size w W0 := by rw [← hW0]; exact (((Below.refl _ w).alloc (Nat.le_refl _) _).alloc (by simp) _).alloc (by simp; omega) _
  have hz : W0.heap.size = w.heap.size + 3 := by rw [← hW0]; simp
  rw [hW0]
  clear hW0
  refine wpIn_rangeFunc_ownG rfl h1 (gf := 40) (lb := #[.pointer (some ⟨w.heap.size + 1 + 1, 0, none⟩)]) rfl trivial (enters_of Tryd.func40 (by kernel_rfl) rfl)
    (each_stops (w.heap.size + 1 + 1) w.heap.size S _ hg0 (by omega) c3 (hT.below hB0 hg0)) belowK_t (belowK_b (by omega)) (Below.refl _ _) (fun _ => rfl)
    (fun pre W => HoldsRuns w (runsL (pre.map (·.1))) W ∧ Below w.heap.size w W)
    (fun _ _ _ => False)
    (OwnFrom.and (Own.from (holdsRow_own w.heap.size (w.heap.size + 1) 66 68 2 (fun pre : List By => (runsL (pre.map (·.1))).length) (fun pre => runC (runsL (pre.map (·.1)))) (fun pre v => v = .slice none 0 0 ↔ runsL (pre.map (·.1)) = [])) _) (ownFrom_below (Nat.le_refl _) (by omega)))
    (fun _ _ _ _ _ hs _ _ => hs)
    ⟨⟨_, b1, World.ownsRow_nil _ _ _ _, by simp [runsL]⟩, hB0⟩
    (fun x => { tmps := #[setV S, .pointer (some ⟨w.heap.size, 0, none⟩), .slice none 0 0, .pointer (some ⟨w.heap.size + 1, 0, none⟩), .int .u8 x.1, undef, setV S, .func (.func 40) #[] #[.pointer (some ⟨w.heap.size + 1 + 1, 0, none⟩)], .int .u8 x.1, undef, undef, undef, undef, undef, undef, undef, undef, undef, undef, undef, undef, undef, undef, undef, undef, undef, undef, undef, undef, undef, undef, undef, undef, undef, undef, undef], defers := [] }) ?assign ?body ?done ?stop
  case assign =>
    intro l x W K hK
    gi_wp2
    exact hK
  case body =>
    rintro l pre x W ⟨⟨v, hv, hrow, hnil⟩, hB⟩ hlt
    have hc := hv.cell
    have hf := hv.frozen
    rcases (runsL (pre.map (·.1))).eq_nil_or_concat with hr | ⟨rs, ⟨a, c⟩, hr⟩
    · have hv0 := hnil.2 hr
      subst hv0
      rw [hr] at hrow
      have hnew : runsL ((pre ++ [x]).map (·.1)) = [(x.1, x.1)] := by rw [List.map_append, List.map_cons, List.map_nil, runsL_snoc, hr]; rfl
      have HR := Lib.hid hnew
      replace hrow : W.ownsRow w.heap.size 68 2 (.slice none 0 0) 0 [] := hrow
      clear hr hnil hnew
      gi_wp2_with (gi_at_builtin; refine wpListIn_append_own _ rfl _ _ 66 rfl w.heap.size 68 i0 (.agg #[.int .u8 0, .int .u8 0]) 2 2 Tryd.underlying66 hi hz0 hz1 hz2 rfl (by decide) _ _ _ rfl (hrow.alloc _) ⟨W.heap.size, 0, none⟩ 1 1 [.int .u8 x.1, .int .u8 x.1] rfl rfl (cell_two_new _ _ _ _) (by simp [Value.oneCell']) (by unfold maxLen; omega) (by omega) (by have := hB.size; simp; omega) ?_; intro v' w1 hown' hgrow _; obtain ⟨g', cap', rfl⟩ := ownsRow_succ hown'; obtain ⟨hv1, hv2, hr2, hk2, hb2⟩ := hv.appended (by decide) hrow hB.size (by omega) hown' hgrow; have hc1 := hv1.cell; have hf1 := hv1.frozen)
      refine ⟨hk2.from _, hb2, ⟨_, hv2, ?_, ?_⟩, hB.trans hb2⟩
      · rw [HR.out]
        exact hr2
      · rw [HR.out]
        simp
    · rw [List.concat_eq_append] at hr
      have hlen : rs.length + 1 ≤ 256 := by
        have h1 := runsL_len (pre.map (·.1))
        rw [hr] at h1
        simp at h1
        omega
      rw [hr, runC_snoc, List.length_append] at hrow
      obtain ⟨K, hK⟩ : ∃ K, K = rs.length := ⟨_, rfl⟩
      have hcl : (runC rs).length = K * 2 := by rw [runC_len, hK]
      rw [← hK] at hrow hlen
      replace hrow : W.ownsRow w.heap.size 68 2 v (K + 1) (runC rs ++ [.int .u8 (a : Nat), .int .u8 (c : Nat)]) := hrow
      obtain ⟨g, cap, rfl⟩ := ownsRow_succ hrow
      have hcell : W.cell? ⟨g, K * 2 + 1, none⟩ = some (.int .u8 (c : Nat)) := by
        rw [hrow.cellAt (K * 2 + 1) (by omega), List.getElem?_append_right (by omega), hcl, show K * 2 + 1 - K * 2 = 1 from by omega]
        rfl
      have hfz := hrow.frozenAt (K * 2 + 1)
      obtain ⟨d, hd⟩ : ∃ d, d = (c + 1) % 256 := ⟨_, rfl⟩
      have hw : IntKind.u8.wrap ((c : Int) + 1) = (d : Int) := by rw [IntKind.wrap_u8']; omega
      have hKi : (K : Int) + 1 ≤ 256 := by omega
      have HR := Lib.hid hr
      have HC := Lib.hid hcl
      have HK := Lib.hid hK
      have HD := Lib.hid hd
      clear hr hnil hcl hK hd
      by_cases hx : d = x.1
      · have t1 : ((d : Int) == (x.1 : Int)) = true := by simp [hx]
        have t2 : (d == x.1) = true := by simp [hx]
        have HX := Lib.hid hx
        clear hx
        gi_wp2
        have hnew : runsL ((pre ++ [x]).map (·.1)) = rs ++ [(a, x.1)] := by
          rw [List.map_append, List.map_cons, List.map_nil, runsL_snoc, HR.out]
          exact addRun_on rs a c x.1 (by rw [← HD.out]; exact HX.out)
        obtain ⟨hrow2, hgr⟩ := hrow.stored (K * 2 + 1) (.int .u8 x.1)
        have hset : (runC rs ++ [Value.int .u8 (a : Nat), .int .u8 (c : Nat)]).set (K * 2 + 1) (.int .u8 x.1) = runC (rs ++ [(a, x.1)]) := by
          have h1 := HC.out
          rw [List.set_append_right _ _ (by omega), h1, show K * 2 + 1 - K * 2 = 1 from by omega, runC_snoc]
          rfl
        rw [hset] at hrow2
        have hgB : w.heap.size ≤ g := by
          rcases hrow.2 with ⟨h', _⟩ | ⟨g', cap', cur, h', hb, _⟩
          · cases h'
          · cases h'
            exact hb
        refine ⟨(KeepsOthers.setCell _ _ _).from _, (Below.refl _ W).setCell (p := ⟨g, K * 2 + 1, none⟩) hgB _, ⟨_, hv.kept hgr (hv.not_row (by decide) hrow), ?_, ?_⟩, hB.setCell (p := ⟨g, K * 2 + 1, none⟩) hgB _⟩
        · rw [hnew, List.length_append, ← HK.out]
          exact hrow2
        · rw [hnew]
          simp
      · have t1 : ((d : Int) == (x.1 : Int)) = false := by simp; omega
        have t2 : (d == x.1) = false := by simp; omega
        have HX := Lib.hid hx
        clear hx
        gi_wp2_with (gi_at_builtin; refine wpListIn_append_own _ rfl _ _ 66 rfl w.heap.size 68 i0 (.agg #[.int .u8 0, .int .u8 0]) 2 2 Tryd.underlying66 hi hz0 hz1 hz2 rfl (by decide) _ _ _ rfl (hrow.alloc _) ⟨W.heap.size, 0, none⟩ 1 1 [.int .u8 x.1, .int .u8 x.1] rfl rfl (cell_two_new _ _ _ _) (by simp [Value.oneCell']) (by unfold maxLen; omega) (by omega) (by have := hB.size; simp; omega) ?_; intro v' w1 hown' hgrow _; obtain ⟨g', cap', rfl⟩ := ownsRow_succ hown'; obtain ⟨hv1, hv2, hr2, hk2, hb2⟩ := hv.appended (by decide) hrow hB.size (by omega) hown' hgrow; have hc1 := hv1.cell; have hf1 := hv1.frozen)
        have hnew : runsL ((pre ++ [x]).map (·.1)) = rs ++ [(a, c)] ++ [(x.1, x.1)] := by
          rw [List.map_append, List.map_cons, List.map_nil, runsL_snoc, HR.out]
          exact addRun_new rs a c x.1 (by rw [← HD.out]; exact HX.out)
        refine ⟨hk2.from _, hb2, ⟨_, hv2, ?_, ?_⟩, hB.trans hb2⟩
        · rw [hnew, List.length_append, List.length_append, ← HK.out, runC_snoc, runC_snoc]
          exact hr2
        · rw [hnew]
          simp
  case done =>
    rintro D ys W hD hys ⟨⟨v, hv, hrow, hnil⟩, hB⟩ hK
    have hc := hv.cell
    have hl : runsL (ys.map (·.1)) = runsOf S := by unfold runsOf; rw [hys]
    rw [hl] at hrow hnil
    clear hl
    gi_wp2
    refine ⟨by simp, .inl ⟨_, _, rfl, run_takeDeferred hK, ?_⟩⟩
    exact ⟨_, results_tmp rfl _ _ _, v, rfl, ownsRow_putObj hrow _ hK rfl, hnil, hB.trans (belowK_b (w := w) (Nat.le_refl _) W D _ _ (by omega) hK rfl rfl)⟩
  case stop =>
    rintro D c pre W _ _ h _
    exact h.elim
/-- **Runs(s): s's runs, in a slice of the call's own.** -/
theorem runs_any (S : Nat → Bool) (w : World) (hT : TabIn w) (hg0 : 0 < w.heap.size) :
    Calls Tryd.prog 26 #[setV S] w fun e w' => ∃ v, e = .returned v ∧ w'.ownsRow w.heap.size 68 2 v (runsOf S).length (runC (runsOf S)) ∧ (v = .slice none 0 0 ↔ runsOf S = []) ∧ Below w.heap.size w w' :=
  callsIn_wide.1 (runs_in S w hT hg0)
end Go.Proofs.YtkhokhmdiagckaaDoor

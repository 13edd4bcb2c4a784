/- bonsailaw01.SetRuns, walked. -/
import Derived.Test.YtgekfdmamingjaaDoorAwake
import Derived.Deep.RegionHeld3
namespace Go.Proofs.YtgekfdmamingjaaDoor
open Go.RowKit Bset

/-- What a round of the law's loop knows: the set that has been made of the first runs; the runs' cells; the argument. -/
structure RunState (w : World) (S : Nat → Bool) (B g : Nat) (rs pre : List (Nat × Nat)) (W : World) : Prop where
  out : Cl W B 26 (setC (covers pre))
  box : Cl W w.heap.size 26 (setC S)
  row : ∀ j u, (runC rs)[j]? = some u → W.cell? ⟨g, j, none⟩ = some u
  glt : g < W.heap.size
  ne : g ≠ B
  hB : w.heap.size < B
  lies : Lies w W

theorem RunState.step {w W W' : World} {S : Nat → Bool} {B g : Nat} {rs pre : List (Nat × Nat)} (h : RunState w S B g rs pre W) (hb : Below W.heap.size W W') : RunState w S B g rs pre W' where
  out := h.out.below hb h.out.lt
  box := h.box.below hb h.box.lt
  row := fun j u hu => (hb.cell (p := ⟨g, j, none⟩) h.glt).trans (h.row j u hu)
  glt := Nat.lt_of_lt_of_le h.glt hb.size
  ne := h.ne
  hB := h.hB
  lies := h.lies.step hb

theorem RunState.drew {w W : World} {S : Nat → Bool} {B g : Nat} {rs pre : List (Nat × Nat)} (h : RunState w S B g rs pre W) : RunState w S B g rs pre W.drew := ⟨h.out, h.box, h.row, h.glt, h.ne, h.hB, h.lies.drew⟩
theorem RunState.drewN {w W : World} {S : Nat → Bool} {B g : Nat} {rs pre : List (Nat × Nat)} (h : RunState w S B g rs pre W) (n : Nat) : RunState w S B g rs pre (W.drewN n) := ⟨h.out, h.box, h.row, h.glt, h.ne, h.hB, ⟨h.lies.tab, h.lies.pos, bdrewN h.lies.low⟩⟩

/-- The same, of whatever set lies there. -/
structure RunState2 (w : World) (S : Nat → Bool) (B g : Nat) (rs : List (Nat × Nat)) (T : Nat → Bool) (W : World) : Prop where
  out : Cl W B 26 (setC T)
  box : Cl W w.heap.size 26 (setC S)
  row : ∀ j u, (runC rs)[j]? = some u → W.cell? ⟨g, j, none⟩ = some u
  glt : g < W.heap.size
  ne : g ≠ B
  hB : w.heap.size < B
  lies : Lies w W

theorem RunState2.step {w W W' : World} {S T : Nat → Bool} {B g : Nat} {rs : List (Nat × Nat)} (h : RunState2 w S B g rs T W) (hb : Below W.heap.size W W') : RunState2 w S B g rs T W' where
  out := h.out.below hb h.out.lt
  box := h.box.below hb h.box.lt
  row := fun j u hu => (hb.cell (p := ⟨g, j, none⟩) h.glt).trans (h.row j u hu)
  glt := Nat.lt_of_lt_of_le h.glt hb.size
  ne := h.ne
  hB := h.hB
  lies := h.lies.step hb
theorem RunState2.drew {w W : World} {S T : Nat → Bool} {B g : Nat} {rs : List (Nat × Nat)} (h : RunState2 w S B g rs T W) : RunState2 w S B g rs T W.drew := ⟨h.out, h.box, h.row, h.glt, h.ne, h.hB, h.lies.drew⟩
theorem RunState2.drewN {w W : World} {S T : Nat → Bool} {B g : Nat} {rs : List (Nat × Nat)} (h : RunState2 w S B g rs T W) (n : Nat) : RunState2 w S B g rs T (W.drewN n) := ⟨h.out, h.box, h.row, h.glt, h.ne, h.hB, ⟨h.lies.tab, h.lies.pos, bdrewN h.lies.low⟩⟩
theorem RunState2.cells {w W : World} {S T : Nat → Bool} {B g : Nat} {rs : List (Nat × Nat)} (h : RunState2 w S B g rs T W) :
    W.cell? ⟨B, 0, none⟩ = some (.int .u64 (word T 0 : Nat)) ∧ W.cell? ⟨B, 1, none⟩ = some (.int .u64 (word T 1 : Nat)) ∧ W.cell? ⟨B, 2, none⟩ = some (.int .u64 (word T 2 : Nat)) ∧ W.cell? ⟨B, 3, none⟩ = some (.int .u64 (word T 3 : Nat)) ∧
    W.frozen? ⟨B, 0, none⟩ = false ∧ W.frozen? ⟨B, 1, none⟩ = false ∧ W.frozen? ⟨B, 2, none⟩ = false ∧ W.frozen? ⟨B, 3, none⟩ = false :=
  ⟨h.out.word 0 (by decide), h.out.word 1 (by decide), h.out.word 2 (by decide), h.out.word 3 (by decide), h.out.free 0, h.out.free 1, h.out.free 2, h.out.free 3⟩

theorem cell_setCell_ne {W : World} {g j : Nat} {p : Addr} (u : Value) (h : g ≠ p.block) : (W.setCell p u).cell? ⟨g, j, none⟩ = W.cell? ⟨g, j, none⟩ := by
  simp only [World.cell?, Below.heap_setCell W p u g h]

theorem RunState2.put {w W : World} {S T : Nat → Bool} {B g : Nat} {rs : List (Nat × Nat)} (h : RunState2 w S B g rs T W) (hg0 : 0 < w.heap.size) (T2 : Nat → Bool) :
    RunState2 w S B g rs T2 ((((W.setCell ⟨B, 0, none⟩ (.int .u64 (word T2 0 : Nat))).setCell ⟨B, 1, none⟩ (.int .u64 (word T2 1 : Nat))).setCell ⟨B, 2, none⟩ (.int .u64 (word T2 2 : Nat))).setCell ⟨B, 3, none⟩ (.int .u64 (word T2 3 : Nat))) where
  out := (((h.out.put 0 _).put 1 _).put 2 _).put 3 _
  box := by
    have hB : w.heap.size ≠ B := Nat.ne_of_lt h.hB
    exact (((h.box.other (p := ⟨B, 0, none⟩) hB _).other (p := ⟨B, 1, none⟩) hB _).other (p := ⟨B, 2, none⟩) hB _).other (p := ⟨B, 3, none⟩) hB _
  row := fun j u hu => by
    rw [cell_setCell_ne _ h.ne, cell_setCell_ne _ h.ne, cell_setCell_ne _ h.ne, cell_setCell_ne _ h.ne]
    exact h.row j u hu
  glt := by
    rw [World.size_setCell, World.size_setCell, World.size_setCell, World.size_setCell]
    exact h.glt
  ne := h.ne
  hB := h.hB
  lies := by
    have hB : w.heap.size ≤ B := Nat.le_of_lt h.hB
    exact (((h.lies.setCell (p := ⟨B, 0, none⟩) hB hg0 _).setCell (p := ⟨B, 1, none⟩) hB hg0 _).setCell (p := ⟨B, 2, none⟩) hB hg0 _).setCell (p := ⟨B, 3, none⟩) hB hg0 _

theorem runC_mid (pre post : List (Nat × Nat)) (a c : Nat) : (runC (pre ++ (a, c) :: post))[pre.length * 2]? = some (.int .u8 (a : Nat)) ∧ (runC (pre ++ (a, c) :: post))[pre.length * 2 + 1]? = some (.int .u8 (c : Nat)) := by
  have e : runC (pre ++ (a, c) :: post) = runC pre ++ (Value.int .u8 (a : Nat) :: Value.int .u8 (c : Nat) :: runC post) := by
    unfold runC
    simp
  have hl := runC_len pre
  rw [e]
  constructor
  · rw [List.getElem?_append_right (by omega), hl, Nat.sub_self]
    rfl
  · rw [List.getElem?_append_right (by omega), hl, show pre.length * 2 + 1 - pre.length * 2 = 1 from by omega]
    rfl

set_option maxRecDepth 100000 in
set_option maxHeartbeats 8000000 in
theorem setRuns_walk (S : Nat → Bool) (w : World) (hT : TabIn w) (hg0 : 0 < w.heap.size) :
    Calls Tryd.prog 7 #[setV S] w fun e w' => e = .returned (.bool true) ∧ Below w.heap.size w w' := by
  have L0 := (Lies.start hT hg0).alloc (.cells (setC S) 26)
  have x0 := Cl.new w 26 (setC S)
  go_enter Tryd.func7, Tryd.ntmps7
  go_wp2_with (fail)
  refine (awake_any _ L0.tab L0.pos).mono ?_
  rintro e W1 ⟨rfl, hb1⟩
  have L1 := L0.step hb1
  have x1 := x0.below hb1 x0.lt
  have y0 := x1.word 0 (by decide)
  have y1 := x1.word 1 (by decide)
  have y2 := x1.word 2 (by decide)
  have y3 := x1.word 3 (by decide)
  have hlt := x1.lt
  clear L0 x0 hb1
  go_wp2_with (fail)
  have L2 := L1.alloc (.cells #[.int .u64 0, .int .u64 0, .int .u64 0, .int .u64 0] 26)
  have x2 := x1.alloc (.cells #[.int .u64 0, .int .u64 0, .int .u64 0, .int .u64 0] 26)
  have o2 := Cl.new W1 26 #[.int .u64 0, .int .u64 0, .int .u64 0, .int .u64 0]
  refine (runs_any S _ L2.tab L2.pos).mono ?_
  rintro e W2 ⟨v, rfl, hrow, hnil, hb2⟩
  have L3 := L2.step hb2
  have x3 := x2.below hb2 x2.lt
  have o3 := o2.below hb2 o2.lt
  rw [← setC_none, ← covers_nil] at o3
  clear L1 L2 x1 x2 o2 y0 y1 y2 y3 
  have hgood := runs_good S
  have hcov := runs_covers S
  have hsum := runs_sum S
  have hlen := runs_len S
  generalize runsOf S = rs at hrow hnil hgood hcov hsum hlen
  obtain ⟨A, cap, g, rfl, hA, hcell, hglt⟩ : ∃ A cap g, v = .slice A rs.length cap ∧ (rs ≠ [] → A = some ⟨g, 0, none⟩) ∧ (∀ j u, (runC rs)[j]? = some u → W2.cell? ⟨g, j, none⟩ = some u) ∧ (g < W2.heap.size ∧ g ≠ W1.heap.size) := by
    rcases hrow.2 with ⟨rfl, h0⟩ | ⟨g, cap, cur, rfl, hgb, hgg, _⟩
    · have e : rs = [] := List.eq_nil_of_length_eq_zero h0
      subst e
      exact ⟨none, 0, w.heap.size, rfl, fun h => absurd rfl h, fun j u hu => by simp [runC] at hu, by have := hb2.size; simp at this; omega, by omega⟩
    · refine ⟨_, cap, g, rfl, fun _ => rfl, fun j u hu => ?_, (Array.getElem?_eq_some_iff.1 hgg).1, by simp at hgb; omega⟩
      have hj : j < rs.length * 2 := by
        rw [← runC_len]
        exact (List.getElem?_eq_some_iff.1 hu).1
      rw [hrow.cellAt j hj]
      exact hu
  have hs0 : RunState w S W1.heap.size g rs [] W2 := ⟨o3, x3, hcell, hglt.1, hglt.2, hlt, L3⟩
  clear hrow hnil hcell hglt o3 x3 L3 hb2
  generalize hB : W1.heap.size = B at hs0 ⊢
  clear hB hlt
  go_wp2_with (fail)
  go_loopw [4, 6] (fun n i wr => ∃ pre post, rs = pre ++ post ∧ i = .int .i64 pre.length ∧ n = .int .i64 (sumR pre) ∧ RunState w S B g rs pre wr)
    (fun _ i _ => rs.length - (intOf i).toNat)
  case atStart =>
    exact ⟨[], rs, rfl, rfl, rfl, hs0⟩
  case round =>
    obtain ⟨pre, post, hrs, rfl, rfl, hst⟩ := hrel
    cases post with
    | nil =>
      rw [List.append_nil] at hrs
      subst hrs
      have hcv : sameS (covers rs) S = true := sameS_iff.2 hcov
      have e1 := fun w => run_eql_set w (covers rs) S
      rw [hcv] at e1
      have o0 := hst.out.word 0 (by decide)
      have o1 := hst.out.word 1 (by decide)
      have o2 := hst.out.word 2 (by decide)
      have o3 := hst.out.word 3 (by decide)
      have y0 := hst.box.word 0 (by decide)
      have y1 := hst.box.word 1 (by decide)
      have y2 := hst.box.word 2 (by decide)
      have y3 := hst.box.word 3 (by decide)
      rw [hsum]
      have hlow := hst.lies.low
      clear hcv hcov hsum hgood hA hs0 hst
      generalize rs.length = n at hlen ⊢
      generalize covers rs = cv at e1 o0 o1 o2 o3
      go_wp2_with (go_at_call 14; refine (len_any S _).mono ?_; rintro e w' ⟨rfl, hb⟩)
      go_ret
      exact ⟨rfl, hlow.trans (hb.mono hlow.size)⟩
    | cons p post =>
      obtain ⟨a, c⟩ := p
      have hA2 := hA (by rw [hrs]; simp)
      subst hA2
      obtain ⟨g1, g2, g3⟩ := hgood pre a c post hrs
      obtain ⟨m1, m2⟩ := runC_mid pre post a c
      rw [← hrs] at m1 m2
      have r1 := hst.row _ _ m1
      have r2 := hst.row _ _ m2
      have hlt : pre.length < rs.length := by rw [hrs]; simp
      have hprev : pre.length = 0 ∨ ∃ j a' c' : Nat, pre.length = j + 1 ∧ c' + 2 ≤ a ∧ wr.cell? ⟨g, j * 2 + 1, none⟩ = some (.int .u8 (c' : Nat)) := by
        rcases pre.eq_nil_or_concat with rfl | ⟨pre', ⟨a', c'⟩, rfl⟩
        · exact .inl rfl
        · rw [List.concat_eq_append] at hrs g3
          refine .inr ⟨pre'.length, a', c', by simp, g3 pre' a' c' rfl, hst.row _ _ ?_⟩
          rw [hrs, List.append_assoc]
          exact (runC_mid pre' ((a, c) :: post) a' c').2
      have hsn := sumR_snoc pre a c
      have hcs := covers_snoc pre a c
      have hl2 : (pre ++ [(a, c)]).length = pre.length + 1 := by simp
      have hrs2 : rs = (pre ++ [(a, c)]) ++ post := by rw [hrs]; simp
      have hsb := sumR_head hgood hrs hlen
      generalize hP : pre ++ [(a, c)] = pre2 at hsn hcs hl2 hrs2
      generalize hk : pre.length = k at r1 r2 m1 m2 hlt hprev hl2 ⊢
      generalize hs : sumR pre = sm at hsn hsb ⊢
      generalize hC : covers pre = cv at hcs
      have hst2 := hst
      replace hst2 : Cl wr B 26 (setC cv) := by rw [← hC]; exact hst.out
      have q0 := hst2.word 0 (by decide)
      have q1 := hst2.word 1 (by decide)
      have q2 := hst2.word 2 (by decide)
      have q3 := hst2.word 3 (by decide)
      have hki : (k : Int) < (rs.length : Int) := by omega
      have hk0 : (0 : Int) ≤ (k : Int) := by omega
      have t1 : decide ((c : Int) < (a : Int)) = false := by simp; omega
      have t1' : decide (c < a) = false := by simp; omega
      have hc8 : (c : Int) < 256 := by omega
      have ha8 : (a : Int) < 256 := by omega
      obtain ⟨sm2, hsm2⟩ : ∃ sm2, sm2 = sm + (c : Int) - (a : Int) + 1 := ⟨_, rfl⟩
      replace hst : RunState2 w S B g rs cv wr := ⟨hst2, hst.box, hst.row, hst.glt, hst.ne, hst.hB, hst.lies⟩
      have hsz := hst2.lt
      obtain ⟨w1, w2, w3⟩ : IntKind.i64.wrap (sm + (c : Int)) = sm + (c : Int) ∧ IntKind.i64.wrap (sm + (c : Int) - (a : Int)) = sm + (c : Int) - (a : Int) ∧ IntKind.i64.wrap (sm + (c : Int) - (a : Int) + 1) = sm2 :=
        ⟨IntWalk.i64_in _ (by omega), IntWalk.i64_in _ (by omega), by rw [hsm2]; exact IntWalk.i64_in _ (by omega)⟩
      have w4 : IntKind.i64.wrap ((k : Int) + 1) = (k : Int) + 1 := IntWalk.i64_in _ (by omega)
      have hs2' : sumR pre2 = sm2 := by rw [hsn, hsm2]
      have H1 := Lib.hid hP
      have H2 := Lib.hid hk
      have H3 := Lib.hid hs
      have H4 := Lib.hid hC
      have H5 := Lib.hid hs2'
      have H6 := Lib.hid hcs
      have H7 := Lib.hid hl2
      have H8 := Lib.hid hrs2
      have H9 := Lib.hid hrs
      have H10 := Lib.hid hA
      have H11 := Lib.hid hsum
      have H12 := Lib.hid hcov
      have H13 := Lib.hid hgood
      have M1 := Lib.hid m1
      have M2 := Lib.hid m2
      generalize hn : rs.length = n at hlt hki hlen ⊢
      have H14 := Lib.hid hn
      clear hP hk hs hC hsn hcs hl2 hrs2 hrs hA hsum hcov hgood m1 m2 g3 hsm2 hn hs2'
      rcases hprev with hk | ⟨j, a', c', hk, hgap, r3⟩
      · have t3 : decide ((0 : Int) < (k : Int)) = false := by simp; omega
        have t3' : decide (0 < k) = false := by simp; omega
        have H15 := Lib.hid hk
        clear hk
        go_wp2_with (fail)
        go_quiet (fail)
        go_wp2_with (fail)
        go_region_with (first
          | (go_at_call 10; refine (range_any a c (by omega) (by omega) _).mono ?_; rintro e w' ⟨rfl, hb⟩; have hs1 := ((hst.drewN nq).drew).step hb; obtain ⟨p0, p1, p2, p3, f0, f1, f2, f3⟩ := hs1.cells)
          | (go_at_call 30; refine (or_any _ _ _).mono ?_; rintro e w' ⟨rfl, hb⟩; have hs2 := hs1.step hb; obtain ⟨p0, p1, p2, p3, f0, f1, f2, f3⟩ := hs2.cells))
        all_goals
          have hs3 := hs2.put hg0 (fun n => cv n || (decide (a ≤ n) && decide (n ≤ c)))
          have n1 := hs3.row _ _ M1.out
          have n2 := hs3.row _ _ M2.out
          generalize ((((w'.setCell ⟨B, 0, none⟩ (.int .u64 (word (fun n => cv n || (decide (a ≤ n) && decide (n ≤ c))) 0 : Nat))).setCell ⟨B, 1, none⟩ (.int .u64 (word (fun n => cv n || (decide (a ≤ n) && decide (n ≤ c))) 1 : Nat))).setCell ⟨B, 2, none⟩ (.int .u64 (word (fun n => cv n || (decide (a ≤ n) && decide (n ≤ c))) 2 : Nat))).setCell ⟨B, 3, none⟩ (.int .u64 (word (fun n => cv n || (decide (a ≤ n) && decide (n ≤ c))) 3 : Nat))) = wn at hs3 n1 n2 ⊢
          clear p0 p1 p2 p3 f0 f1 f2 f3 q0 q1 q2 q3 r1 r2 hs2 hs1
          go_wp2_with (fail)
          go_quiet (fail)
          go_wp2
          go_roundw
          case rel =>
            refine ⟨pre2, post, H8.out, ?_, ?_, ?_⟩
            · rw [H7.out]
              go_num
            · rw [H5.out]
            · have hs4 := hs3.drewN nq
              rw [← H6.out] at hs4
              exact ⟨hs4.out, hs4.box, hs4.row, hs4.glt, hs4.ne, hs4.hB, hs4.lies⟩
          case measure => simp [intOf]; omega
      · have t3 : decide ((0 : Int) < (k : Int)) = true := by simp; omega
        have t3' : decide (0 < k) = true := by simp; omega
        have w5 : IntKind.i64.wrap ((k : Int) - 1) = (j : Int) := by rw [IntWalk.i64_in _ (by omega)]; omega
        have w6 : IntKind.i64.wrap ((c' : Int) + 2) = (c' : Int) + 2 := IntWalk.i64_in _ (by omega)
        have t4 : decide ((a : Int) < (c' : Int) + 2) = false := by simp; omega
        have t4' : decide (a < c' + 2) = false := by simp; omega
        have hj0 : (0 : Int) ≤ (j : Int) := by omega
        have hjn : (j : Int) < (n : Int) := by omega
        have H15 := Lib.hid hk
        clear hk
        go_wp2_with (fail)
        go_quiet (fail)
        go_wp2_with (fail)
        go_region_with (first
          | (go_at_call 10; refine (range_any a c (by omega) (by omega) _).mono ?_; rintro e w' ⟨rfl, hb⟩; have hs1 := ((hst.drewN nq).drew).step hb; obtain ⟨p0, p1, p2, p3, f0, f1, f2, f3⟩ := hs1.cells)
          | (go_at_call 30; refine (or_any _ _ _).mono ?_; rintro e w' ⟨rfl, hb⟩; have hs2 := hs1.step hb; obtain ⟨p0, p1, p2, p3, f0, f1, f2, f3⟩ := hs2.cells))
        all_goals
          have hs3 := hs2.put hg0 (fun n => cv n || (decide (a ≤ n) && decide (n ≤ c)))
          have n1 := hs3.row _ _ M1.out
          have n2 := hs3.row _ _ M2.out
          generalize ((((w'.setCell ⟨B, 0, none⟩ (.int .u64 (word (fun n => cv n || (decide (a ≤ n) && decide (n ≤ c))) 0 : Nat))).setCell ⟨B, 1, none⟩ (.int .u64 (word (fun n => cv n || (decide (a ≤ n) && decide (n ≤ c))) 1 : Nat))).setCell ⟨B, 2, none⟩ (.int .u64 (word (fun n => cv n || (decide (a ≤ n) && decide (n ≤ c))) 2 : Nat))).setCell ⟨B, 3, none⟩ (.int .u64 (word (fun n => cv n || (decide (a ≤ n) && decide (n ≤ c))) 3 : Nat))) = wn at hs3 n1 n2 ⊢
          clear p0 p1 p2 p3 f0 f1 f2 f3 q0 q1 q2 q3 r1 r2 hs2 hs1
          go_wp2_with (fail)
          go_quiet (fail)
          go_wp2
          go_roundw
          case rel =>
            refine ⟨pre2, post, H8.out, ?_, ?_, ?_⟩
            · rw [H7.out]
              go_num
            · rw [H5.out]
            · have hs4 := hs3.drewN nq
              rw [← H6.out] at hs4
              exact ⟨hs4.out, hs4.box, hs4.row, hs4.glt, hs4.ne, hs4.hB, hs4.lies⟩
          case measure => simp [intOf]; omega
end Go.Proofs.YtgekfdmamingjaaDoor

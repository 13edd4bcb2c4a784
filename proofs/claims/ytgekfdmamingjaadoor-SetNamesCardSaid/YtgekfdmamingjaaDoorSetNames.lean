/- bonsailaw01.SetNames, walked. -/
import Derived.Test.YtgekfdmamingjaaDoorNamesM
import Derived.Deep.RegionHeld3
import Derived.Lib.SmallJoins
namespace Go.Proofs.YtgekfdmamingjaaDoor
open Go.RowKit Bset

theorem n_keep {w W W' : World} {B bx : Nat} {X Y : Nat → Bool} (hb : Below W.heap.size W W') (h : Cl W B 3 nA ∧ W.cell? ⟨bx, 0, none⟩ = some (.int .u64 (word X 0 : Nat)) ∧ W.cell? ⟨bx, 1, none⟩ = some (.int .u64 (word X 1 : Nat)) ∧ W.cell? ⟨bx, 2, none⟩ = some (.int .u64 (word X 2 : Nat)) ∧ W.cell? ⟨bx, 3, none⟩ = some (.int .u64 (word X 3 : Nat)) ∧ W.cell? ⟨bx + 1, 0, none⟩ = some (.int .u64 (word Y 0 : Nat)) ∧ W.cell? ⟨bx + 1, 1, none⟩ = some (.int .u64 (word Y 1 : Nat)) ∧ W.cell? ⟨bx + 1, 2, none⟩ = some (.int .u64 (word Y 2 : Nat)) ∧ W.cell? ⟨bx + 1, 3, none⟩ = some (.int .u64 (word Y 3 : Nat)) ∧ Lies w W) : Cl W' B 3 nA ∧ W'.cell? ⟨bx, 0, none⟩ = some (.int .u64 (word X 0 : Nat)) ∧ W'.cell? ⟨bx, 1, none⟩ = some (.int .u64 (word X 1 : Nat)) ∧ W'.cell? ⟨bx, 2, none⟩ = some (.int .u64 (word X 2 : Nat)) ∧ W'.cell? ⟨bx, 3, none⟩ = some (.int .u64 (word X 3 : Nat)) ∧ W'.cell? ⟨bx + 1, 0, none⟩ = some (.int .u64 (word Y 0 : Nat)) ∧ W'.cell? ⟨bx + 1, 1, none⟩ = some (.int .u64 (word Y 1 : Nat)) ∧ W'.cell? ⟨bx + 1, 2, none⟩ = some (.int .u64 (word Y 2 : Nat)) ∧ W'.cell? ⟨bx + 1, 3, none⟩ = some (.int .u64 (word Y 3 : Nat)) ∧ Lies w W' := by
  obtain ⟨hA, a0, a1, a2, a3, b0, b1, b2, b3, hL⟩ := h
  have l0 := World.block_lt_of_cell? W _ a0
  have l1 := World.block_lt_of_cell? W _ b0
  exact ⟨hA.below hb hA.lt, (hb.cell (p := ⟨bx, 0, none⟩) l0).trans a0, (hb.cell (p := ⟨bx, 1, none⟩) l0).trans a1, (hb.cell (p := ⟨bx, 2, none⟩) l0).trans a2, (hb.cell (p := ⟨bx, 3, none⟩) l0).trans a3, (hb.cell (p := ⟨bx + 1, 0, none⟩) l1).trans b0, (hb.cell (p := ⟨bx + 1, 1, none⟩) l1).trans b1, (hb.cell (p := ⟨bx + 1, 2, none⟩) l1).trans b2, (hb.cell (p := ⟨bx + 1, 3, none⟩) l1).trans b3, hL.step hb⟩
theorem n_alloc {w W : World} {B bx : Nat} {X Y : Nat → Bool} (o : Obj) (h : Cl W B 3 nA ∧ W.cell? ⟨bx, 0, none⟩ = some (.int .u64 (word X 0 : Nat)) ∧ W.cell? ⟨bx, 1, none⟩ = some (.int .u64 (word X 1 : Nat)) ∧ W.cell? ⟨bx, 2, none⟩ = some (.int .u64 (word X 2 : Nat)) ∧ W.cell? ⟨bx, 3, none⟩ = some (.int .u64 (word X 3 : Nat)) ∧ W.cell? ⟨bx + 1, 0, none⟩ = some (.int .u64 (word Y 0 : Nat)) ∧ W.cell? ⟨bx + 1, 1, none⟩ = some (.int .u64 (word Y 1 : Nat)) ∧ W.cell? ⟨bx + 1, 2, none⟩ = some (.int .u64 (word Y 2 : Nat)) ∧ W.cell? ⟨bx + 1, 3, none⟩ = some (.int .u64 (word Y 3 : Nat)) ∧ Lies w W) : Cl (W.alloc o) B 3 nA ∧ (W.alloc o).cell? ⟨bx, 0, none⟩ = some (.int .u64 (word X 0 : Nat)) ∧ (W.alloc o).cell? ⟨bx, 1, none⟩ = some (.int .u64 (word X 1 : Nat)) ∧ (W.alloc o).cell? ⟨bx, 2, none⟩ = some (.int .u64 (word X 2 : Nat)) ∧ (W.alloc o).cell? ⟨bx, 3, none⟩ = some (.int .u64 (word X 3 : Nat)) ∧ (W.alloc o).cell? ⟨bx + 1, 0, none⟩ = some (.int .u64 (word Y 0 : Nat)) ∧ (W.alloc o).cell? ⟨bx + 1, 1, none⟩ = some (.int .u64 (word Y 1 : Nat)) ∧ (W.alloc o).cell? ⟨bx + 1, 2, none⟩ = some (.int .u64 (word Y 2 : Nat)) ∧ (W.alloc o).cell? ⟨bx + 1, 3, none⟩ = some (.int .u64 (word Y 3 : Nat)) ∧ Lies w (W.alloc o) := n_keep ((Below.refl _ W).alloc (Nat.le_refl _) o) h
theorem n_drew {w W : World} {B bx : Nat} {X Y : Nat → Bool} (h : Cl W B 3 nA ∧ W.cell? ⟨bx, 0, none⟩ = some (.int .u64 (word X 0 : Nat)) ∧ W.cell? ⟨bx, 1, none⟩ = some (.int .u64 (word X 1 : Nat)) ∧ W.cell? ⟨bx, 2, none⟩ = some (.int .u64 (word X 2 : Nat)) ∧ W.cell? ⟨bx, 3, none⟩ = some (.int .u64 (word X 3 : Nat)) ∧ W.cell? ⟨bx + 1, 0, none⟩ = some (.int .u64 (word Y 0 : Nat)) ∧ W.cell? ⟨bx + 1, 1, none⟩ = some (.int .u64 (word Y 1 : Nat)) ∧ W.cell? ⟨bx + 1, 2, none⟩ = some (.int .u64 (word Y 2 : Nat)) ∧ W.cell? ⟨bx + 1, 3, none⟩ = some (.int .u64 (word Y 3 : Nat)) ∧ Lies w W) : Cl W.drew B 3 nA ∧ W.drew.cell? ⟨bx, 0, none⟩ = some (.int .u64 (word X 0 : Nat)) ∧ W.drew.cell? ⟨bx, 1, none⟩ = some (.int .u64 (word X 1 : Nat)) ∧ W.drew.cell? ⟨bx, 2, none⟩ = some (.int .u64 (word X 2 : Nat)) ∧ W.drew.cell? ⟨bx, 3, none⟩ = some (.int .u64 (word X 3 : Nat)) ∧ W.drew.cell? ⟨bx + 1, 0, none⟩ = some (.int .u64 (word Y 0 : Nat)) ∧ W.drew.cell? ⟨bx + 1, 1, none⟩ = some (.int .u64 (word Y 1 : Nat)) ∧ W.drew.cell? ⟨bx + 1, 2, none⟩ = some (.int .u64 (word Y 2 : Nat)) ∧ W.drew.cell? ⟨bx + 1, 3, none⟩ = some (.int .u64 (word Y 3 : Nat)) ∧ Lies w W.drew := by
  obtain ⟨hA, a0, a1, a2, a3, b0, b1, b2, b3, hL⟩ := h
  exact ⟨hA, a0, a1, a2, a3, b0, b1, b2, b3, hL.drew⟩
theorem n_A {w W : World} {B bx : Nat} {X Y : Nat → Bool} (h : Cl W B 3 nA ∧ W.cell? ⟨bx, 0, none⟩ = some (.int .u64 (word X 0 : Nat)) ∧ W.cell? ⟨bx, 1, none⟩ = some (.int .u64 (word X 1 : Nat)) ∧ W.cell? ⟨bx, 2, none⟩ = some (.int .u64 (word X 2 : Nat)) ∧ W.cell? ⟨bx, 3, none⟩ = some (.int .u64 (word X 3 : Nat)) ∧ W.cell? ⟨bx + 1, 0, none⟩ = some (.int .u64 (word Y 0 : Nat)) ∧ W.cell? ⟨bx + 1, 1, none⟩ = some (.int .u64 (word Y 1 : Nat)) ∧ W.cell? ⟨bx + 1, 2, none⟩ = some (.int .u64 (word Y 2 : Nat)) ∧ W.cell? ⟨bx + 1, 3, none⟩ = some (.int .u64 (word Y 3 : Nat)) ∧ Lies w W) : Cl W B 3 nA := h.1
theorem n_L {w W : World} {B bx : Nat} {X Y : Nat → Bool} (h : Cl W B 3 nA ∧ W.cell? ⟨bx, 0, none⟩ = some (.int .u64 (word X 0 : Nat)) ∧ W.cell? ⟨bx, 1, none⟩ = some (.int .u64 (word X 1 : Nat)) ∧ W.cell? ⟨bx, 2, none⟩ = some (.int .u64 (word X 2 : Nat)) ∧ W.cell? ⟨bx, 3, none⟩ = some (.int .u64 (word X 3 : Nat)) ∧ W.cell? ⟨bx + 1, 0, none⟩ = some (.int .u64 (word Y 0 : Nat)) ∧ W.cell? ⟨bx + 1, 1, none⟩ = some (.int .u64 (word Y 1 : Nat)) ∧ W.cell? ⟨bx + 1, 2, none⟩ = some (.int .u64 (word Y 2 : Nat)) ∧ W.cell? ⟨bx + 1, 3, none⟩ = some (.int .u64 (word Y 3 : Nat)) ∧ Lies w W) : Lies w W := h.2.2.2.2.2.2.2.2.2

set_option maxRecDepth 100000 in
set_option maxHeartbeats 8000000 in
theorem setNames_walk (w : World) (hT : TabIn w) (hg : 0 < w.heap.size) :
    Calls Tryd.prog 3 #[] w fun e w' => e = .returned (.bool true) ∧ Below w.heap.size w w' := by
  have L0 := Lies.start hT hg
  go_enter Tryd.func3, Tryd.ntmps3
  go_wp2_with (fail)
  refine (awake_L L0).mono ?_
  rintro e W1 ⟨rfl, hb1⟩
  have L1 := L0.step hb1
  clear L0 hb1
  go_wp2_with (fail)
  have L2 := L1.alloc (.cells nA 3)
  have A2 := Cl.new W1 3 nA
  clear L1
  generalize W1.alloc (.cells nA 3) = W2 at L2 A2 ⊢
  generalize W1.heap.size = B at A2 ⊢
  go_loopw [15] (fun i wr => ∃ k : Nat, i = .int .i64 k ∧ k ≤ 9 ∧ Cl wr B 3 nA ∧ Lies w wr) (fun i _ => 9 - (intOf i).toNat)
  case atStart => exact ⟨0, rfl, by omega, A2, L2⟩
  case round =>
    clear L2 A2
    obtain ⟨k, rfl, hk, hA, hL⟩ := hrel
    by_cases hlt : k < 9
    · obtain ⟨n, hn, ha⟩ := names_at k hlt
      have r0 := hA.cell k
      rw [ha] at r0
      obtain ⟨n8, s1, s2, s3, s4, s5, s6, s7, s8⟩ := names_of n hn
      have hki : (k : Int) < 9 := by omega
      have hk0 : (0 : Int) ≤ (k : Int) := by omega
      have hn8 : IntKind.u8.wrap (n : Int) = (n : Int) := IntWalk.u8_in _ (by omega)
      obtain ⟨q, hq⟩ : ∃ q, q = n / 64 := ⟨_, rfl⟩
      obtain ⟨j, hj⟩ : ∃ j, j = n % 64 := ⟨_, rfl⟩
      have hq4 : (q : Int) < 4 := by omega
      have hq0 : (0 : Int) ≤ (q : Int) := by omega
      have td : (n : Int).tdiv 64 = (q : Int) := by rw [Int.tdiv_eq_ediv_of_nonneg (Int.natCast_nonneg _)]; omega
      have td2 : (n : Int) / 64 = (q : Int) := by omega
      have wq : IntKind.i64.wrap (q : Int) = (q : Int) := IntWalk.i64_in _ (by omega)
      have tm : (n : Int).tmod 64 = (j : Int) := by rw [Int.tmod_eq_emod_of_nonneg (Int.natCast_nonneg _)]; omega
      have tm2 : (n : Int) % 64 = (j : Int) := by omega
      have hb : IntKind.u64.wrap (1 * 2 ^ j) = ((bt n : Nat) : Int) := by rw [hj]; exact bt_i n
      have hb2 : IntKind.u64.wrap (2 ^ j) = ((bt n : Nat) : Int) := by rw [hj]; exact bt_wrap n
      have hj64 : j < 64 := by omega
      have hji : (j : Int) < 64 := by omega
      have hz : ([Value.int .u64 0, .int .u64 0, .int .u64 0, .int .u64 0] : List Value)[q]? = some (.int .u64 0) := by
        have : q < 4 := by omega
        match q, this with
        | 0, _ => rfl
        | 1, _ => rfl
        | 2, _ => rfl
        | 3, _ => rfl
      have hWC := want_C n n8
      rw [← hq] at hWC
      have HWC := Lib.hid hWC
      clear hWC
      have HN := Lib.hid hn
      have HQ := Lib.hid hq
      have HJ := Lib.hid hj
      have S8 := Lib.hid s8
      clear hn ha hq hj s8
      go_wp2_with (fail)
      refine (range_o n n n8 n8 _).mono ?_
      rintro e W3 ⟨rfl, hb3⟩
      replace hA := hA.below hb3 hA.lt
      replace hL := hL.step hb3
      clear hb3 r0
      have hx := Cl.new W3 26 (setC (rangeS n n))
      replace hA := hA.alloc (.cells (setC (rangeS n n)) 26)
      replace hL := hL.alloc (.cells (setC (rangeS n n)) 26)
      go_wp2_with (fail)
      rw [HWC.out]
      have hw := Cl.new (W3.alloc (.cells (setC (rangeS n n)) 26)) 26 (setC (wantS n))
      rw [World.size_alloc] at hw
      replace hA := hA.alloc (.cells (setC (wantS n)) 26)
      replace hL := hL.alloc (.cells (setC (wantS n)) 26)
      replace hx := hx.alloc (.cells (setC (wantS n)) 26)
      generalize (W3.alloc (.cells (setC (rangeS n n)) 26)).alloc (.cells (setC (wantS n)) 26) = W4 at hA hL hx hw ⊢
      generalize W3.heap.size = bx at hx hw ⊢
      refine (only_L _ hL).mono ?_
      rintro e W5 ⟨rfl, hb⟩
      replace hA := hA.below hb hA.lt
      replace hx := hx.below hb hx.lt
      replace hw := hw.below hb hw.lt
      replace hL := hL.step hb
      clear hb
      rw [s5]
      have en1 := fun W => run_neq_set W (rangeS n n) (wantS n)
      have en2 := fun W => run_neq_set W (rangeS n n) (ofOne n)
      rw [s2] at en1
      rw [s1] at en2
      go_wp2_with (fail)
      have hs0 : Cl W5 B 3 nA ∧ W5.cell? ⟨bx, 0, none⟩ = some (.int .u64 (word (rangeS n n) 0 : Nat)) ∧ W5.cell? ⟨bx, 1, none⟩ = some (.int .u64 (word (rangeS n n) 1 : Nat)) ∧ W5.cell? ⟨bx, 2, none⟩ = some (.int .u64 (word (rangeS n n) 2 : Nat)) ∧ W5.cell? ⟨bx, 3, none⟩ = some (.int .u64 (word (rangeS n n) 3 : Nat)) ∧ W5.cell? ⟨bx + 1, 0, none⟩ = some (.int .u64 (word (wantS n) 0 : Nat)) ∧ W5.cell? ⟨bx + 1, 1, none⟩ = some (.int .u64 (word (wantS n) 1 : Nat)) ∧ W5.cell? ⟨bx + 1, 2, none⟩ = some (.int .u64 (word (wantS n) 2 : Nat)) ∧ W5.cell? ⟨bx + 1, 3, none⟩ = some (.int .u64 (word (wantS n) 3 : Nat)) ∧ Lies w W5 := ⟨hA, hx.word 0 (by omega), hx.word 1 (by omega), hx.word 2 (by omega), hx.word 3 (by omega), hw.word 0 (by omega), hw.word 1 (by omega), hw.word 2 (by omega), hw.word 3 (by omega), hL⟩
      clear hA hx hw hL
      have ec := fun W g hg => conv_one n n8 W g hg
      have ed := fun W g hg => conv_one_drew n n8 W g hg
      clear s1 s2 s5 hz hb hb2 td td2 tm tm2 wq hq4 hq0
      refine wp_region_held_drew (S := fun w' => Cl w' B 3 nA ∧ w'.cell? ⟨bx, 0, none⟩ = some (.int .u64 (word (rangeS n n) 0 : Nat)) ∧ w'.cell? ⟨bx, 1, none⟩ = some (.int .u64 (word (rangeS n n) 1 : Nat)) ∧ w'.cell? ⟨bx, 2, none⟩ = some (.int .u64 (word (rangeS n n) 2 : Nat)) ∧ w'.cell? ⟨bx, 3, none⟩ = some (.int .u64 (word (rangeS n n) 3 : Nat)) ∧ w'.cell? ⟨bx + 1, 0, none⟩ = some (.int .u64 (word (wantS n) 0 : Nat)) ∧ w'.cell? ⟨bx + 1, 1, none⟩ = some (.int .u64 (word (wantS n) 1 : Nat)) ∧ w'.cell? ⟨bx + 1, 2, none⟩ = some (.int .u64 (word (wantS n) 2 : Nat)) ∧ w'.cell? ⟨bx + 1, 3, none⟩ = some (.int .u64 (word (wantS n) 3 : Nat)) ∧ Lies w w') (by kernel_rfl) (n_drew hs0) (fun hHeld => ?_)
      clear hs0
      refine wpAnyH_take (i := 0) (v := ?v0) rfl (by kernel_rfl) (by kernel_rfl) (by kernel_rfl) (fun _ _ _ h => h) (Or.inl ⟨by rfl, ?hy0⟩) (by assumption) ?rest0
      case hy0 => (intro w hSw; (try dsimp only at hSw); (try simp only [List.getElem_toArray, List.getElem_cons_zero, List.getElem_cons_succ]); go_simp; try with_reducible rfl)
      try simp only [Act.put, List.getElem_toArray, List.getElem_cons_zero, List.getElem_cons_succ, List.setIfInBounds_toArray, List.set_cons_zero, List.set_cons_succ]
      refine wpAnyH_take (i := 1) (v := ?v1) rfl (by kernel_rfl) (by kernel_rfl) (by kernel_rfl) (fun _ _ _ h => h) (Or.inl ⟨by rfl, ?hy1⟩) (by assumption) ?rest1
      case hy1 => (intro w hSw; (try dsimp only at hSw); (try simp only [List.getElem_toArray, List.getElem_cons_zero, List.getElem_cons_succ]); go_simp; try with_reducible rfl)
      try simp only [Act.put, List.getElem_toArray, List.getElem_cons_zero, List.getElem_cons_succ, List.setIfInBounds_toArray, List.set_cons_zero, List.set_cons_succ]
      refine wpAnyH_take (i := 2) (v := ?v2) rfl (by kernel_rfl) (by kernel_rfl) (by kernel_rfl) (fun _ _ _ h => h) (Or.inl ⟨by rfl, ?hy2⟩) (by assumption) ?rest2
      case hy2 => (intro w hSw; (try dsimp only at hSw); (try simp only [List.getElem_toArray, List.getElem_cons_zero, List.getElem_cons_succ]); go_simp; try with_reducible rfl)
      try simp only [Act.put, List.getElem_toArray, List.getElem_cons_zero, List.getElem_cons_succ, List.setIfInBounds_toArray, List.set_cons_zero, List.set_cons_succ]
      refine wpAnyH_take (i := 3) (v := ?v3) rfl (by kernel_rfl) (by kernel_rfl) (by kernel_rfl) (fun _ _ _ h => h) (Or.inl ⟨by rfl, ?hy3⟩) (by assumption) ?rest3
      case hy3 => (intro w hSw; (try dsimp only at hSw); (try simp only [List.getElem_toArray, List.getElem_cons_zero, List.getElem_cons_succ]); go_simp; try with_reducible rfl)
      try simp only [Act.put, List.getElem_toArray, List.getElem_cons_zero, List.getElem_cons_succ, List.setIfInBounds_toArray, List.set_cons_zero, List.set_cons_succ]
      refine wpAnyH_take (i := 4) (v := ?v4) rfl (by kernel_rfl) (by kernel_rfl) (by kernel_rfl) (fun _ _ _ h => h) (Or.inl ⟨by rfl, ?hy4⟩) (by assumption) ?rest4
      case hy4 => (intro w hSw; (try dsimp only at hSw); (try simp only [List.getElem_toArray, List.getElem_cons_zero, List.getElem_cons_succ]); go_simp; try with_reducible rfl)
      try simp only [Act.put, List.getElem_toArray, List.getElem_cons_zero, List.getElem_cons_succ, List.setIfInBounds_toArray, List.set_cons_zero, List.set_cons_succ]
      refine wpAnyH_take (i := 5) (v := ?v5) rfl (by kernel_rfl) (by kernel_rfl) (by kernel_rfl) (fun _ _ _ h => h) (Or.inl ⟨by rfl, ?hy5⟩) (by assumption) ?rest5
      case hy5 => (intro w hSw; (try dsimp only at hSw); (try simp only [List.getElem_toArray, List.getElem_cons_zero, List.getElem_cons_succ]); go_simp; try with_reducible rfl)
      try simp only [Act.put, List.getElem_toArray, List.getElem_cons_zero, List.getElem_cons_succ, List.setIfInBounds_toArray, List.set_cons_zero, List.set_cons_succ]
      refine wpAnyH_ready (rs := [6]) (by kernel_rfl) (by simp) ?_
      refine AllReadyH.cons rfl (fun K hK => ?_) AllReadyH.nil
      try simp only [List.getElem_toArray, List.getElem_cons_zero, List.getElem_cons_succ]
      go_simp
      refine hK.out _ _ ?hS6 (fun hHeld2 => ?_)
      case hS6 => (try dsimp only); (first | (with_reducible assumption) | exact n_drew (by assumption) | exact n_keep hb (by assumption) | exact n_alloc _ (by assumption) | exact n_alloc _ (n_drew (by assumption)))
      clear hHeld hK K
      have hHeld := hHeld2
      clear hHeld2
      try simp only [Act.put, List.getElem_toArray, List.getElem_cons_zero, List.getElem_cons_succ, List.setIfInBounds_toArray, List.set_cons_zero, List.set_cons_succ]
      refine wpAnyH_ready (rs := [7]) (by kernel_rfl) (by simp) ?_
      refine AllReadyH.cons rfl (fun K hK => ?_) AllReadyH.nil
      try simp only [List.getElem_toArray, List.getElem_cons_zero, List.getElem_cons_succ]
      go_simp
      refine hK.out _ _ ?hS7 (fun hHeld2 => ?_)
      case hS7 => (try dsimp only); (first | (with_reducible assumption) | exact n_drew (by assumption) | exact n_keep hb (by assumption) | exact n_alloc _ (by assumption) | exact n_alloc _ (n_drew (by assumption)))
      clear hHeld hK K
      have hHeld := hHeld2
      clear hHeld2
      try simp only [Act.put, List.getElem_toArray, List.getElem_cons_zero, List.getElem_cons_succ, List.setIfInBounds_toArray, List.set_cons_zero, List.set_cons_succ]
      refine wpAnyH_ready (rs := [8]) (by kernel_rfl) (by simp) ?_
      refine AllReadyH.cons rfl (fun K hK => ?_) AllReadyH.nil
      try simp only [List.getElem_toArray, List.getElem_cons_zero, List.getElem_cons_succ]
      go_simp
      (refine (of_one n _).mono ?_; rintro e w' ⟨rfl, hb⟩)
      try go_simp
      refine hK.out _ _ ?hS8 (fun hHeld2 => ?_)
      case hS8 => (try dsimp only); (first | (with_reducible assumption) | exact n_drew (by assumption) | exact n_keep hb (by assumption) | exact n_alloc _ (by assumption) | exact n_alloc _ (n_drew (by assumption)))
      clear hHeld hK K
      have hHeld := hHeld2
      clear hHeld2
      try simp only [Act.put, List.getElem_toArray, List.getElem_cons_zero, List.getElem_cons_succ, List.setIfInBounds_toArray, List.set_cons_zero, List.set_cons_succ]
      refine wpAnyH_take (i := 9) (v := ?v9) rfl (by kernel_rfl) (by kernel_rfl) (by kernel_rfl) (fun _ _ _ h => h) (Or.inl ⟨by rfl, ?hy9⟩) (by assumption) ?rest9
      case hy9 => (intro w hSw; (try dsimp only at hSw); (try simp only [List.getElem_toArray, List.getElem_cons_zero, List.getElem_cons_succ]); go_simp; try with_reducible rfl)
      try simp only [Act.put, List.getElem_toArray, List.getElem_cons_zero, List.getElem_cons_succ, List.setIfInBounds_toArray, List.set_cons_zero, List.set_cons_succ]
      refine wpAnyH_take (i := 10) (v := ?v10) rfl (by kernel_rfl) (by kernel_rfl) (by kernel_rfl) (fun _ _ _ h => h) (Or.inl ⟨by rfl, ?hy10⟩) (by assumption) ?rest10
      case hy10 => (intro w hSw; (try dsimp only at hSw); (try simp only [List.getElem_toArray, List.getElem_cons_zero, List.getElem_cons_succ]); go_simp; try with_reducible rfl)
      try simp only [Act.put, List.getElem_toArray, List.getElem_cons_zero, List.getElem_cons_succ, List.setIfInBounds_toArray, List.set_cons_zero, List.set_cons_succ]
      refine wpAnyH_take (i := 11) (v := ?v11) rfl (by kernel_rfl) (by kernel_rfl) (by kernel_rfl) (fun _ _ _ h => h) (Or.inl ⟨by rfl, ?hy11⟩) (by assumption) ?rest11
      case hy11 => (intro w hSw; (try dsimp only at hSw); (try simp only [List.getElem_toArray, List.getElem_cons_zero, List.getElem_cons_succ]); go_simp; try with_reducible rfl)
      try simp only [Act.put, List.getElem_toArray, List.getElem_cons_zero, List.getElem_cons_succ, List.setIfInBounds_toArray, List.set_cons_zero, List.set_cons_succ]
      refine wpAnyH_take (i := 12) (v := ?v12) rfl (by kernel_rfl) (by kernel_rfl) (by kernel_rfl) (fun _ _ _ h => h) (Or.inl ⟨by rfl, ?hy12⟩) (by assumption) ?rest12
      case hy12 => (intro w hSw; (try dsimp only at hSw); (try simp only [List.getElem_toArray, List.getElem_cons_zero, List.getElem_cons_succ]); go_simp; try with_reducible rfl)
      try simp only [Act.put, List.getElem_toArray, List.getElem_cons_zero, List.getElem_cons_succ, List.setIfInBounds_toArray, List.set_cons_zero, List.set_cons_succ]
      refine wpAnyH_take (i := 13) (v := ?v13) rfl (by kernel_rfl) (by kernel_rfl) (by kernel_rfl) (fun _ _ _ h => h) (Or.inl ⟨by rfl, ?hy13⟩) (by assumption) ?rest13
      case hy13 => (intro w hSw; (try dsimp only at hSw); (try simp only [List.getElem_toArray, List.getElem_cons_zero, List.getElem_cons_succ]); go_simp; try with_reducible rfl)
      try simp only [Act.put, List.getElem_toArray, List.getElem_cons_zero, List.getElem_cons_succ, List.setIfInBounds_toArray, List.set_cons_zero, List.set_cons_succ]
      refine wpAnyH_ready (rs := [14]) (by kernel_rfl) (by simp) ?_
      refine AllReadyH.cons rfl (fun K hK => ?_) AllReadyH.nil
      try simp only [List.getElem_toArray, List.getElem_cons_zero, List.getElem_cons_succ]
      go_simp
      (refine (has_any _ n n8 _).mono ?_; rintro e w' ⟨rfl, hb⟩)
      try go_simp
      refine hK.out _ _ ?hS14 (fun hHeld2 => ?_)
      case hS14 => (try dsimp only); (first | (with_reducible assumption) | exact n_drew (by assumption) | exact n_keep hb (by assumption) | exact n_alloc _ (by assumption) | exact n_alloc _ (n_drew (by assumption)))
      clear hHeld hK K
      have hHeld := hHeld2
      clear hHeld2
      try simp only [Act.put, List.getElem_toArray, List.getElem_cons_zero, List.getElem_cons_succ, List.setIfInBounds_toArray, List.set_cons_zero, List.set_cons_succ]
      refine wpAnyH_take (i := 15) (v := ?v15) rfl (by kernel_rfl) (by kernel_rfl) (by kernel_rfl) (fun _ _ _ h => h) (Or.inl ⟨by rfl, ?hy15⟩) (by assumption) ?rest15
      case hy15 => (intro w hSw; (try dsimp only at hSw); (try simp only [List.getElem_toArray, List.getElem_cons_zero, List.getElem_cons_succ]); go_simp; try with_reducible rfl)
      try simp only [Act.put, List.getElem_toArray, List.getElem_cons_zero, List.getElem_cons_succ, List.setIfInBounds_toArray, List.set_cons_zero, List.set_cons_succ]
      refine wpAnyH_take (i := 16) (v := ?v16) rfl (by kernel_rfl) (by kernel_rfl) (by kernel_rfl) (fun _ _ _ h => h) (Or.inl ⟨by rfl, ?hy16⟩) (by assumption) ?rest16
      case hy16 => (intro w hSw; (try dsimp only at hSw); (try simp only [List.getElem_toArray, List.getElem_cons_zero, List.getElem_cons_succ]); go_simp; try with_reducible rfl)
      try simp only [Act.put, List.getElem_toArray, List.getElem_cons_zero, List.getElem_cons_succ, List.setIfInBounds_toArray, List.set_cons_zero, List.set_cons_succ]
      refine wpAnyH_take (i := 17) (v := ?v17) rfl (by kernel_rfl) (by kernel_rfl) (by kernel_rfl) (fun _ _ _ h => h) (Or.inl ⟨by rfl, ?hy17⟩) (by assumption) ?rest17
      case hy17 => (intro w hSw; (try dsimp only at hSw); (try simp only [List.getElem_toArray, List.getElem_cons_zero, List.getElem_cons_succ]); go_simp; try with_reducible rfl)
      try simp only [Act.put, List.getElem_toArray, List.getElem_cons_zero, List.getElem_cons_succ, List.setIfInBounds_toArray, List.set_cons_zero, List.set_cons_succ]
      refine wpAnyH_take (i := 18) (v := ?v18) rfl (by kernel_rfl) (by kernel_rfl) (by kernel_rfl) (fun _ _ _ h => h) (Or.inl ⟨by rfl, ?hy18⟩) (by assumption) ?rest18
      case hy18 => (intro w hSw; (try dsimp only at hSw); (try simp only [List.getElem_toArray, List.getElem_cons_zero, List.getElem_cons_succ]); go_simp; try with_reducible rfl)
      try simp only [Act.put, List.getElem_toArray, List.getElem_cons_zero, List.getElem_cons_succ, List.setIfInBounds_toArray, List.set_cons_zero, List.set_cons_succ]
      refine wpAnyH_ready (rs := [19]) (by kernel_rfl) (by simp) ?_
      refine AllReadyH.cons rfl (fun K hK => ?_) AllReadyH.nil
      try simp only [List.getElem_toArray, List.getElem_cons_zero, List.getElem_cons_succ]
      go_simp
      (refine (len_any _ _).mono ?_; rintro e w' ⟨rfl, hb⟩)
      try go_simp
      refine hK.out _ _ ?hS19 (fun hHeld2 => ?_)
      case hS19 => (try dsimp only); (first | (with_reducible assumption) | exact n_drew (by assumption) | exact n_keep hb (by assumption) | exact n_alloc _ (by assumption) | exact n_alloc _ (n_drew (by assumption)))
      clear hHeld hK K
      have hHeld := hHeld2
      clear hHeld2
      try simp only [Act.put, List.getElem_toArray, List.getElem_cons_zero, List.getElem_cons_succ, List.setIfInBounds_toArray, List.set_cons_zero, List.set_cons_succ]
      refine wpAnyH_take (i := 20) (v := ?v20) rfl (by kernel_rfl) (by kernel_rfl) (by kernel_rfl) (fun _ _ _ h => h) (Or.inl ⟨by rfl, ?hy20⟩) (by assumption) ?rest20
      case hy20 => (intro w hSw; (try dsimp only at hSw); (try simp only [List.getElem_toArray, List.getElem_cons_zero, List.getElem_cons_succ]); go_simp; try with_reducible rfl)
      try simp only [Act.put, List.getElem_toArray, List.getElem_cons_zero, List.getElem_cons_succ, List.setIfInBounds_toArray, List.set_cons_zero, List.set_cons_succ]
      refine wpAnyH_take (i := 21) (v := ?v21) rfl (by kernel_rfl) (by kernel_rfl) (by kernel_rfl) (fun _ _ _ h => h) (Or.inl ⟨by rfl, ?hy21⟩) (by assumption) ?rest21
      case hy21 => (intro w hSw; (try dsimp only at hSw); (try simp only [List.getElem_toArray, List.getElem_cons_zero, List.getElem_cons_succ]); go_simp; try with_reducible rfl)
      try simp only [Act.put, List.getElem_toArray, List.getElem_cons_zero, List.getElem_cons_succ, List.setIfInBounds_toArray, List.set_cons_zero, List.set_cons_succ]
      refine wpAnyH_take (i := 22) (v := ?v22) rfl (by kernel_rfl) (by kernel_rfl) (by kernel_rfl) (fun _ _ _ h => h) (Or.inl ⟨by rfl, ?hy22⟩) (by assumption) ?rest22
      case hy22 => (intro w hSw; (try dsimp only at hSw); (try simp only [List.getElem_toArray, List.getElem_cons_zero, List.getElem_cons_succ]); go_simp; try with_reducible rfl)
      try simp only [Act.put, List.getElem_toArray, List.getElem_cons_zero, List.getElem_cons_succ, List.setIfInBounds_toArray, List.set_cons_zero, List.set_cons_succ]
      refine wpAnyH_take (i := 23) (v := ?v23) rfl (by kernel_rfl) (by kernel_rfl) (by kernel_rfl) (fun _ _ _ h => h) (Or.inl ⟨by rfl, ?hy23⟩) (by assumption) ?rest23
      case hy23 => (intro w hSw; (try dsimp only at hSw); (try simp only [List.getElem_toArray, List.getElem_cons_zero, List.getElem_cons_succ]); go_simp; try with_reducible rfl)
      try simp only [Act.put, List.getElem_toArray, List.getElem_cons_zero, List.getElem_cons_succ, List.setIfInBounds_toArray, List.set_cons_zero, List.set_cons_succ]
      refine wpAnyH_take (i := 24) (v := ?v24) rfl (by kernel_rfl) (by kernel_rfl) (by kernel_rfl) (fun _ _ _ h => h) (Or.inl ⟨by rfl, ?hy24⟩) (by assumption) ?rest24
      case hy24 => (intro w hSw; (try dsimp only at hSw); (try simp only [List.getElem_toArray, List.getElem_cons_zero, List.getElem_cons_succ]); go_simp; try with_reducible rfl)
      try simp only [Act.put, List.getElem_toArray, List.getElem_cons_zero, List.getElem_cons_succ, List.setIfInBounds_toArray, List.set_cons_zero, List.set_cons_succ]
      refine wpAnyH_take (i := 25) (v := ?v25) rfl (by kernel_rfl) (by kernel_rfl) (by kernel_rfl) (fun _ _ _ h => h) (Or.inl ⟨by rfl, ?hy25⟩) (by assumption) ?rest25
      case hy25 => (intro w hSw; (try dsimp only at hSw); (try simp only [List.getElem_toArray, List.getElem_cons_zero, List.getElem_cons_succ]); go_simp; try with_reducible rfl)
      try simp only [Act.put, List.getElem_toArray, List.getElem_cons_zero, List.getElem_cons_succ, List.setIfInBounds_toArray, List.set_cons_zero, List.set_cons_succ]
      refine wpAnyH_take (i := 26) (v := ?v26) rfl (by kernel_rfl) (by kernel_rfl) (by kernel_rfl) (fun _ _ _ h => h) (Or.inl ⟨by rfl, ?hy26⟩) (by assumption) ?rest26
      case hy26 => (intro w hSw; (try dsimp only at hSw); (try simp only [List.getElem_toArray, List.getElem_cons_zero, List.getElem_cons_succ]); go_simp; try with_reducible rfl)
      try simp only [Act.put, List.getElem_toArray, List.getElem_cons_zero, List.getElem_cons_succ, List.setIfInBounds_toArray, List.set_cons_zero, List.set_cons_succ]
      refine wpAnyH_take (i := 27) (v := ?v27) rfl (by kernel_rfl) (by kernel_rfl) (by kernel_rfl) (fun _ _ _ h => h) (Or.inl ⟨by rfl, ?hy27⟩) (by assumption) ?rest27
      case hy27 => (intro w hSw; (try dsimp only at hSw); (try simp only [List.getElem_toArray, List.getElem_cons_zero, List.getElem_cons_succ]); go_simp; try with_reducible rfl)
      try simp only [Act.put, List.getElem_toArray, List.getElem_cons_zero, List.getElem_cons_succ, List.setIfInBounds_toArray, List.set_cons_zero, List.set_cons_succ]
      refine wpAnyH_take (i := 28) (v := ?v28) rfl (by kernel_rfl) (by kernel_rfl) (by kernel_rfl) (fun _ _ _ h => h) (Or.inl ⟨by rfl, ?hy28⟩) (by assumption) ?rest28
      case hy28 => (intro w hSw; (try dsimp only at hSw); (try simp only [List.getElem_toArray, List.getElem_cons_zero, List.getElem_cons_succ]); go_simp; try with_reducible rfl)
      try simp only [Act.put, List.getElem_toArray, List.getElem_cons_zero, List.getElem_cons_succ, List.setIfInBounds_toArray, List.set_cons_zero, List.set_cons_succ]
      refine wpAnyH_take (i := 29) (v := ?v29) rfl (by kernel_rfl) (by kernel_rfl) (by kernel_rfl) (fun _ _ _ h => h) (Or.inl ⟨by rfl, ?hy29⟩) (by assumption) ?rest29
      case hy29 => (intro w hSw; (try dsimp only at hSw); (try simp only [List.getElem_toArray, List.getElem_cons_zero, List.getElem_cons_succ]); go_simp; try with_reducible rfl)
      try simp only [Act.put, List.getElem_toArray, List.getElem_cons_zero, List.getElem_cons_succ, List.setIfInBounds_toArray, List.set_cons_zero, List.set_cons_succ]
      refine wpAnyH_take (i := 30) (v := ?v30) rfl (by kernel_rfl) (by kernel_rfl) (by kernel_rfl) (fun _ _ _ h => h) (Or.inl ⟨by rfl, ?hy30⟩) (by assumption) ?rest30
      case hy30 => (intro w hSw; (try dsimp only at hSw); (try simp only [List.getElem_toArray, List.getElem_cons_zero, List.getElem_cons_succ]); go_simp; try with_reducible rfl)
      try simp only [Act.put, List.getElem_toArray, List.getElem_cons_zero, List.getElem_cons_succ, List.setIfInBounds_toArray, List.set_cons_zero, List.set_cons_succ]
      refine wpAnyH_take (i := 31) (v := ?v31) rfl (by kernel_rfl) (by kernel_rfl) (by kernel_rfl) (fun _ _ _ h => h) (Or.inl ⟨by rfl, ?hy31⟩) (by assumption) ?rest31
      case hy31 => (intro w hSw; (try dsimp only at hSw); (try simp only [List.getElem_toArray, List.getElem_cons_zero, List.getElem_cons_succ]); go_simp; try with_reducible rfl)
      try simp only [Act.put, List.getElem_toArray, List.getElem_cons_zero, List.getElem_cons_succ, List.setIfInBounds_toArray, List.set_cons_zero, List.set_cons_succ]
      refine wpAnyH_take (i := 32) (v := ?v32) rfl (by kernel_rfl) (by kernel_rfl) (by kernel_rfl) (fun _ _ _ h => h) (Or.inl ⟨by rfl, ?hy32⟩) (by assumption) ?rest32
      case hy32 => (intro w hSw; (try dsimp only at hSw); (try simp only [List.getElem_toArray, List.getElem_cons_zero, List.getElem_cons_succ]); go_simp; try with_reducible rfl)
      try simp only [Act.put, List.getElem_toArray, List.getElem_cons_zero, List.getElem_cons_succ, List.setIfInBounds_toArray, List.set_cons_zero, List.set_cons_succ]
      refine wpAnyH_ready (rs := [33]) (by kernel_rfl) (by simp) ?_
      refine AllReadyH.cons rfl (fun K hK => ?_) AllReadyH.nil
      try simp only [List.getElem_toArray, List.getElem_cons_zero, List.getElem_cons_succ]
      go_simp
      (refine (not_o _ _).mono ?_; rintro e w' ⟨rfl, hb⟩)
      try go_simp
      refine hK.out _ _ ?hS33 (fun hHeld2 => ?_)
      case hS33 => (try dsimp only); (first | (with_reducible assumption) | exact n_drew (by assumption) | exact n_keep hb (by assumption) | exact n_alloc _ (by assumption) | exact n_alloc _ (n_drew (by assumption)))
      clear hHeld hK K
      have hHeld := hHeld2
      clear hHeld2
      try simp only [Act.put, List.getElem_toArray, List.getElem_cons_zero, List.getElem_cons_succ, List.setIfInBounds_toArray, List.set_cons_zero, List.set_cons_succ]
      refine wpAnyH_ready (rs := [34]) (by kernel_rfl) (by simp) ?_
      refine AllReadyH.cons rfl (fun K hK => ?_) AllReadyH.nil
      try simp only [List.getElem_toArray, List.getElem_cons_zero, List.getElem_cons_succ]
      go_simp
      (refine (len_any _ _).mono ?_; rintro e w' ⟨rfl, hb⟩)
      try go_simp
      refine hK.out _ _ ?hS34 (fun hHeld2 => ?_)
      case hS34 => (try dsimp only); (first | (with_reducible assumption) | exact n_drew (by assumption) | exact n_keep hb (by assumption) | exact n_alloc _ (by assumption) | exact n_alloc _ (n_drew (by assumption)))
      clear hHeld hK K
      have hHeld := hHeld2
      clear hHeld2
      try simp only [Act.put, List.getElem_toArray, List.getElem_cons_zero, List.getElem_cons_succ, List.setIfInBounds_toArray, List.set_cons_zero, List.set_cons_succ]
      refine wpAnyH_take (i := 35) (v := ?v35) rfl (by kernel_rfl) (by kernel_rfl) (by kernel_rfl) (fun _ _ _ h => h) (Or.inl ⟨by rfl, ?hy35⟩) (by assumption) ?rest35
      case hy35 => (intro w hSw; (try dsimp only at hSw); (try simp only [List.getElem_toArray, List.getElem_cons_zero, List.getElem_cons_succ]); go_simp; try with_reducible rfl)
      try simp only [Act.put, List.getElem_toArray, List.getElem_cons_zero, List.getElem_cons_succ, List.setIfInBounds_toArray, List.set_cons_zero, List.set_cons_succ]
      refine wpAnyH_take (i := 36) (v := ?v36) rfl (by kernel_rfl) (by kernel_rfl) (by kernel_rfl) (fun _ _ _ h => h) (Or.inl ⟨by rfl, ?hy36⟩) (by assumption) ?rest36
      case hy36 => (intro w hSw; (try dsimp only at hSw); (try simp only [List.getElem_toArray, List.getElem_cons_zero, List.getElem_cons_succ]); go_simp; try with_reducible rfl)
      try simp only [Act.put, List.getElem_toArray, List.getElem_cons_zero, List.getElem_cons_succ, List.setIfInBounds_toArray, List.set_cons_zero, List.set_cons_succ]
      refine wpAnyH_take (i := 37) (v := ?v37) rfl (by kernel_rfl) (by kernel_rfl) (by kernel_rfl) (fun _ _ _ h => h) (Or.inl ⟨by rfl, ?hy37⟩) (by assumption) ?rest37
      case hy37 => (intro w hSw; (try dsimp only at hSw); (try simp only [List.getElem_toArray, List.getElem_cons_zero, List.getElem_cons_succ]); go_simp; try with_reducible rfl)
      try simp only [Act.put, List.getElem_toArray, List.getElem_cons_zero, List.getElem_cons_succ, List.setIfInBounds_toArray, List.set_cons_zero, List.set_cons_succ]
      refine wpAnyH_take (i := 38) (v := ?v38) rfl (by kernel_rfl) (by kernel_rfl) (by kernel_rfl) (fun _ _ _ h => h) (Or.inl ⟨by rfl, ?hy38⟩) (by assumption) ?rest38
      case hy38 => (intro w hSw; (try dsimp only at hSw); (try simp only [List.getElem_toArray, List.getElem_cons_zero, List.getElem_cons_succ]); go_simp; try with_reducible rfl)
      try simp only [Act.put, List.getElem_toArray, List.getElem_cons_zero, List.getElem_cons_succ, List.setIfInBounds_toArray, List.set_cons_zero, List.set_cons_succ]
      refine wpAnyH_take (i := 40) (v := ?v39) rfl (by kernel_rfl) (by kernel_rfl) (by kernel_rfl) (fun _ _ _ h => h) (Or.inl ⟨by rfl, ?hy39⟩) (by assumption) ?rest39
      case hy39 => (intro w hSw; (try dsimp only at hSw); (try simp only [List.getElem_toArray, List.getElem_cons_zero, List.getElem_cons_succ]); go_simp; try with_reducible rfl)
      try simp only [Act.put, List.getElem_toArray, List.getElem_cons_zero, List.getElem_cons_succ, List.setIfInBounds_toArray, List.set_cons_zero, List.set_cons_succ]
      refine wpAnyH_ready (rs := [39]) (by kernel_rfl) (by simp) ?_
      refine AllReadyH.cons rfl (fun K hK => ?_) AllReadyH.nil
      try simp only [List.getElem_toArray, List.getElem_cons_zero, List.getElem_cons_succ]
      go_simp
      (refine (not_o _ _).mono ?_; rintro e w' ⟨rfl, hb⟩)
      try go_simp
      refine hK.out _ _ ?hS40 (fun hHeld2 => ?_)
      case hS40 => (try dsimp only); (first | (with_reducible assumption) | exact n_drew (by assumption) | exact n_keep hb (by assumption) | exact n_alloc _ (by assumption) | exact n_alloc _ (n_drew (by assumption)))
      clear hHeld hK K
      have hHeld := hHeld2
      clear hHeld2
      try simp only [Act.put, List.getElem_toArray, List.getElem_cons_zero, List.getElem_cons_succ, List.setIfInBounds_toArray, List.set_cons_zero, List.set_cons_succ]
      refine wpAnyH_ready (rs := [41]) (by kernel_rfl) (by simp) ?_
      refine AllReadyH.cons rfl (fun K hK => ?_) AllReadyH.nil
      try simp only [List.getElem_toArray, List.getElem_cons_zero, List.getElem_cons_succ]
      go_simp
      (refine (has_any _ n n8 _).mono ?_; rintro e w' ⟨rfl, hb⟩)
      try go_simp
      refine hK.out _ _ ?hS41 (fun hHeld2 => ?_)
      case hS41 => (try dsimp only); (first | (with_reducible assumption) | exact n_drew (by assumption) | exact n_keep hb (by assumption) | exact n_alloc _ (by assumption) | exact n_alloc _ (n_drew (by assumption)))
      clear hHeld hK K
      have hHeld := hHeld2
      clear hHeld2
      try simp only [Act.put, List.getElem_toArray, List.getElem_cons_zero, List.getElem_cons_succ, List.setIfInBounds_toArray, List.set_cons_zero, List.set_cons_succ]
      refine wpAnyH_take (i := 42) (v := ?v42) rfl (by kernel_rfl) (by kernel_rfl) (by kernel_rfl) (fun _ _ _ h => h) (Or.inl ⟨by rfl, ?hy42⟩) (by assumption) ?rest42
      case hy42 => (intro w hSw; (try dsimp only at hSw); (try simp only [List.getElem_toArray, List.getElem_cons_zero, List.getElem_cons_succ]); go_simp; try with_reducible rfl)
      try simp only [Act.put, List.getElem_toArray, List.getElem_cons_zero, List.getElem_cons_succ, List.setIfInBounds_toArray, List.set_cons_zero, List.set_cons_succ]
      refine wpAnyH_take (i := 43) (v := ?v43) rfl (by kernel_rfl) (by kernel_rfl) (by kernel_rfl) (fun _ _ _ h => h) (Or.inl ⟨by rfl, ?hy43⟩) (by assumption) ?rest43
      case hy43 => (intro w hSw; (try dsimp only at hSw); (try simp only [List.getElem_toArray, List.getElem_cons_zero, List.getElem_cons_succ]); go_simp; try with_reducible rfl)
      try simp only [Act.put, List.getElem_toArray, List.getElem_cons_zero, List.getElem_cons_succ, List.setIfInBounds_toArray, List.set_cons_zero, List.set_cons_succ]
      refine wpAnyH_take (i := 44) (v := ?v44) rfl (by kernel_rfl) (by kernel_rfl) (by kernel_rfl) (fun _ _ _ h => h) (Or.inl ⟨by rfl, ?hy44⟩) (by assumption) ?rest44
      case hy44 => (intro w hSw; (try dsimp only at hSw); (try simp only [List.getElem_toArray, List.getElem_cons_zero, List.getElem_cons_succ]); go_simp; try with_reducible rfl)
      try simp only [Act.put, List.getElem_toArray, List.getElem_cons_zero, List.getElem_cons_succ, List.setIfInBounds_toArray, List.set_cons_zero, List.set_cons_succ]
      refine wpAnyH_ready (rs := [45]) (by kernel_rfl) (by simp) ?_
      refine AllReadyH.cons rfl (fun K hK => ?_) AllReadyH.nil
      try simp only [List.getElem_toArray, List.getElem_cons_zero, List.getElem_cons_succ]
      go_simp
      (refine (runs_L (w := w) _ (n_L (by assumption))).mono ?_; rintro e w' ⟨v, rfl, hr, hb⟩; rw [S8.out] at hr; replace hr : w'.ownsRow _ 40 2 v 1 _ := hr; obtain ⟨g2, cap2, rfl⟩ := Joins.ownsRow_form hr (by decide); clear hr)
      try go_simp
      refine hK.out _ _ ?hS45 (fun hHeld2 => ?_)
      case hS45 => (try dsimp only); (first | (with_reducible assumption) | exact n_drew (by assumption) | exact n_keep hb (by assumption) | exact n_alloc _ (by assumption) | exact n_alloc _ (n_drew (by assumption)))
      clear hHeld hK K
      have hHeld := hHeld2
      clear hHeld2
      try simp only [Act.put, List.getElem_toArray, List.getElem_cons_zero, List.getElem_cons_succ, List.setIfInBounds_toArray, List.set_cons_zero, List.set_cons_succ]
      refine wpAnyH_take (i := 46) (v := ?v46) rfl (by kernel_rfl) (by kernel_rfl) (by kernel_rfl) (fun _ _ _ h => h) (Or.inl ⟨by rfl, ?hy46⟩) (by assumption) ?rest46
      case hy46 => (intro w hSw; (try dsimp only at hSw); (try simp only [List.getElem_toArray, List.getElem_cons_zero, List.getElem_cons_succ]); go_simp; try with_reducible rfl)
      try simp only [Act.put, List.getElem_toArray, List.getElem_cons_zero, List.getElem_cons_succ, List.setIfInBounds_toArray, List.set_cons_zero, List.set_cons_succ]
      refine wpAnyH_take (i := 47) (v := ?v47) rfl (by kernel_rfl) (by kernel_rfl) (by kernel_rfl) (fun _ _ _ h => h) (Or.inl ⟨by rfl, ?hy47⟩) (by assumption) ?rest47
      case hy47 => (intro w hSw; (try dsimp only at hSw); (try simp only [List.getElem_toArray, List.getElem_cons_zero, List.getElem_cons_succ]); go_simp; try with_reducible rfl)
      try simp only [Act.put, List.getElem_toArray, List.getElem_cons_zero, List.getElem_cons_succ, List.setIfInBounds_toArray, List.set_cons_zero, List.set_cons_succ]
      refine wpAnyH_take (i := 48) (v := ?v48) rfl (by kernel_rfl) (by kernel_rfl) (by kernel_rfl) (fun _ _ _ h => h) (Or.inl ⟨by rfl, ?hy48⟩) (by assumption) ?rest48
      case hy48 => (intro w hSw; (try dsimp only at hSw); (try simp only [List.getElem_toArray, List.getElem_cons_zero, List.getElem_cons_succ]); go_simp; try with_reducible rfl)
      try simp only [Act.put, List.getElem_toArray, List.getElem_cons_zero, List.getElem_cons_succ, List.setIfInBounds_toArray, List.set_cons_zero, List.set_cons_succ]
      refine wpAnyH_done (by kernel_rfl) ?_ _
      have hA2 := n_A hHeld
      have hL2 := n_L hHeld
      go_wp2
      go_roundw
      case rel => exact ⟨k + 1, by go_num, by omega, hA2, hL2⟩
      case measure => simp [intOf]; omega
    · obtain rfl : k = 9 := by omega
      clear hA
      have eq1 := run_same same_all
      have eq2 : ∀ W, (binOp .eql 26 (setV (rangeS 60 70)) (.agg #[.int .u64 17293822569102704640, .int .u64 127, .int .u64 0, .int .u64 0])).run Tryd.prog W = .ok (.bool true) W := fun W => by
        have h := run_same (same_self (rangeS 60 70)) W
        rw [setV_60] at h ⊢
        exact h
      have eq3 := run_eql_pair
      have ln := len_all
      go_wp2_with (fail)
      refine (only_none hL).mono ?_
      rintro e w1 ⟨rfl, hb⟩
      replace hL := hL.step hb
      clear hb
      go_wp2_with (fail)
      refine (all_any _).mono ?_
      rintro e w2 ⟨rfl, hb⟩
      replace hL := hL.step hb
      clear hb
      go_wp2_with (fail)
      refine (runs_full hL).mono ?_
      rintro e w3 ⟨g, cap, rfl, K1, K2, hb⟩
      replace hL := hL.step hb
      clear hb
      go_wp2_with (first
        | (go_at_call_of 10 (Value.int .u8 60); refine (range_o 60 70 (by decide) (by decide) _).mono ?_; rintro e w4 ⟨rfl, hb⟩; replace K1 := (hb.cell (p := ⟨g, 0, none⟩) (World.block_lt_of_cell? _ _ K1)).trans K1; replace K2 := (hb.cell (p := ⟨g, 1, none⟩) (World.block_lt_of_cell? _ _ K2)).trans K2; replace hL := hL.step hb; clear hb)
        | (go_at_call_of 10 (Value.int .u8 255); refine (range_o 0 255 (by decide) (by decide) _).mono ?_; rintro e w4 ⟨rfl, hb⟩; replace K1 := (hb.cell (p := ⟨g, 0, none⟩) (World.block_lt_of_cell? _ _ K1)).trans K1; replace K2 := (hb.cell (p := ⟨g, 1, none⟩) (World.block_lt_of_cell? _ _ K2)).trans K2; replace hL := hL.step hb; clear hb)
        | (go_at_call_of 18 (Value.agg #[.int .u64 0, .int .u64 0, .int .u64 0, .int .u64 0]); refine (list_none hL).mono ?_; rintro e w4 ⟨rfl, hb⟩; replace K1 := (hb.cell (p := ⟨g, 0, none⟩) (World.block_lt_of_cell? _ _ K1)).trans K1; replace K2 := (hb.cell (p := ⟨g, 1, none⟩) (World.block_lt_of_cell? _ _ K2)).trans K2; replace hL := hL.step hb; clear hb)
        | (go_at_call 18; refine (list_L allS hL).mono ?_; rintro e w4 ⟨rfl, hb⟩; replace K1 := (hb.cell (p := ⟨g, 0, none⟩) (World.block_lt_of_cell? _ _ K1)).trans K1; replace K2 := (hb.cell (p := ⟨g, 1, none⟩) (World.block_lt_of_cell? _ _ K2)).trans K2; replace hL := hL.step hb; clear hb)
        | (go_at_call 16; refine (runs_none hL).mono ?_; rintro e w4 ⟨rfl, hb⟩; replace K1 := (hb.cell (p := ⟨g, 0, none⟩) (World.block_lt_of_cell? _ _ K1)).trans K1; replace K2 := (hb.cell (p := ⟨g, 1, none⟩) (World.block_lt_of_cell? _ _ K2)).trans K2; replace hL := hL.step hb; clear hb)
        | (go_at_call 17; refine (all_any _).mono ?_; rintro e w4 ⟨rfl, hb⟩; replace K1 := (hb.cell (p := ⟨g, 0, none⟩) (World.block_lt_of_cell? _ _ K1)).trans K1; replace K2 := (hb.cell (p := ⟨g, 1, none⟩) (World.block_lt_of_cell? _ _ K2)).trans K2; replace hL := hL.step hb; clear hb)
        | (go_at_call 19; refine (sub_none hL).mono ?_; rintro e w4 ⟨rfl, hb⟩; replace K1 := (hb.cell (p := ⟨g, 0, none⟩) (World.block_lt_of_cell? _ _ K1)).trans K1; replace K2 := (hb.cell (p := ⟨g, 1, none⟩) (World.block_lt_of_cell? _ _ K2)).trans K2; replace hL := hL.step hb; clear hb)
        | (go_at_call 20; refine (meet_none hL).mono ?_; rintro e w4 ⟨rfl, hb⟩; replace K1 := (hb.cell (p := ⟨g, 0, none⟩) (World.block_lt_of_cell? _ _ K1)).trans K1; replace K2 := (hb.cell (p := ⟨g, 1, none⟩) (World.block_lt_of_cell? _ _ K2)).trans K2; replace hL := hL.step hb; clear hb)
        | (go_at_call 21; refine (cmp_none hL).mono ?_; rintro e w4 ⟨rfl, hb⟩; replace K1 := (hb.cell (p := ⟨g, 0, none⟩) (World.block_lt_of_cell? _ _ K1)).trans K1; replace K2 := (hb.cell (p := ⟨g, 1, none⟩) (World.block_lt_of_cell? _ _ K2)).trans K2; replace hL := hL.step hb; clear hb))
      go_ret
      exact ⟨rfl, hL.low⟩
end Go.Proofs.YtgekfdmamingjaaDoor

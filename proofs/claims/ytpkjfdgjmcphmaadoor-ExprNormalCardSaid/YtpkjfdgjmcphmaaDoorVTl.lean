/- Package tree: spread. -/
import Derived.Test.YtpkjfdgjmcphmaaDoorVTk
namespace Go.Proofs.YtpkjfdgjmcphmaaDoor
open Go.RowKit Bset Tm

/-- What stands in many, where node i has x so far. -/
def mny (K : Nat → List Nat) (i x j : Nat) : Nat := if j < i then M K j else if j = i then x else 0
theorem mny_lt {K : Nat → List Nat} {i x j : Nat} (h : j < i) : mny K i x j = M K j := by simp [mny, h]
theorem mny_at {K : Nat → List Nat} {i x : Nat} : mny K i x i = x := by simp [mny]
theorem mny_set {K : Nat → List Nat} {i x y : Nat} (j : Nat) : (if j = i then y else mny K i x j) = mny K i y j := by
  by_cases e : j = i
  · simp [mny, e]
  · simp [mny, e]
theorem mny_next {K : Nat → List Nat} {i : Nat} (j : Nat) : mny K i (M K i) j = mny K (i + 1) 0 j := by
  unfold mny
  by_cases h : j < i
  · have : j < i + 1 := by omega
    simp [h, this]
  · by_cases e : j = i
    · subst e
      simp
    · have : ¬ j < i + 1 := by omega
      simp [h, this, e]
theorem Ms_take (K : Nat → List Nat) (l : List Nat) (q : Nat) (h : q < l.length) : Ms K (l.take (q + 1)) = Ms K (l.take q) + M K l[q] ∧ Ms K (l.take q) + M K l[q] ≤ Ms K l := by
  have h1 : Ms K (l.take (q + 1)) = Ms K (l.take q) + M K l[q] := by
    rw [List.take_succ_eq_append_getElem h, Ms_append, Ms_cons, Ms_nil]
    rfl
  refine ⟨h1, ?_⟩
  rw [← h1]
  have := Ms_append K (l.take (q + 1)) (l.drop (q + 1))
  rw [List.take_append_drop] at this
  omega

/-- What is known of from, where the nodes behind i have told theirs. -/
structure Frm (K : Nat → List Nat) (n own i : Nat) (F : Nat → Nat) : Prop where
  low : ∀ x, x < n → F x + M K x ≤ n
  root : F (n - 1) = 0
  done : ∀ x, i ≤ x → x < n → (K x).map F = starts K (F x + own) (K x)

theorem frm_start {K : Nat → List Nat} {n own : Nat} (h : RightK K n) : Frm K n own n (fun _ => 0) where
  low := fun x hx => by have := h.M_le x hx; omega
  root := rfl
  done := fun x h1 h2 => by omega

/-- .. where node i has told its first q kids. -/
structure FrmK (K : Nat → List Nat) (n own i q : Nat) (F : Nat → Nat) : Prop where
  low : ∀ x, x < n → F x + M K x ≤ n
  root : F (n - 1) = 0
  done : ∀ x, i + 1 ≤ x → x < n → (K x).map F = starts K (F x + own) (K x)
  part : ((K i).take q).map F = starts K (F i + own) ((K i).take q)

theorem frmK_start {K : Nat → List Nat} {n own i : Nat} {F : Nat → Nat} (h : Frm K n own (i + 1) F) : FrmK K n own i 0 F :=
  ⟨h.low, h.root, h.done, by simp [starts]⟩
theorem frmK_end {K : Nat → List Nat} {n own i : Nat} {F : Nat → Nat} (h : FrmK K n own i (K i).length F) : Frm K n own i F where
  low := h.low
  root := h.root
  done := fun x h1 h2 => by
    by_cases e : x = i
    · subst e
      have := h.part
      rwa [List.take_of_length_le (Nat.le_refl _)] at this
    · exact h.done x (by omega) h2
theorem frmK_step {K : Nat → List Nat} {n own i q : Nat} {F : Nat → Nat} (hK : RightK K n) (ho : own ≤ 1) (hi : i < n) (hq : q < (K i).length) (h : FrmK K n own i q F) :
    FrmK K n own i (q + 1) (fun j => if j = (K i)[q] then F i + own + Ms K ((K i).take q) else F j) := by
  have hk := hK.dec i (K i)[q] (List.getElem_mem hq)
  have hm := M_eq hK.dec i
  have hl := h.low i hi
  obtain ⟨_, ht⟩ := Ms_take K (K i) q hq
  have same : ∀ l : List Nat, (K i)[q] ∉ l → l.map (fun j => if j = (K i)[q] then F i + own + Ms K ((K i).take q) else F j) = l.map F := by
    intro l hn
    exact List.map_congr_left fun x hx => if_neg fun e => hn (by rw [← e]; exact hx)
  refine ⟨fun x hx => ?_, ?_, fun x h1 h2 => ?_, ?_⟩
  · by_cases e : x = (K i)[q]
    · rw [if_pos e, e]
      omega
    · rw [if_neg e]
      exact h.low x hx
  · rw [if_neg (by omega)]
    exact h.root
  · rw [same (K x), if_neg (by omega)]
    · exact h.done x h1 h2
    · intro hm
      have := hK.one h2 hi hm (List.getElem_mem hq)
      omega
  · have hn := hK.own hi
    have hnot : (K i)[q] ∉ (K i).take q := by
      intro hm
      have e := List.take_append_drop q (K i)
      rw [← e] at hn
      have h3 := (List.nodup_append.1 hn).2.2 _ hm (K i)[q] (by rw [List.drop_eq_getElem_cons hq]; exact List.mem_cons_self)
      exact h3 rfl
    rw [List.take_succ_eq_append_getElem hq, List.map_append, same _ hnot, h.part, starts_append, if_neg (by omega)]
    simp [starts]
theorem Frm.spread {K : Nat → List Nat} {n own : Nat} {F : Nat → Nat} (h : Frm K n own 0 F) : Spread K n own F := fun i hi => h.done i (Nat.zero_le _) hi

set_option maxRecDepth 100000 in
set_option maxHeartbeats 4000000 in
theorem spread_any (nv : Value) (A : List Nd) (own : Nat) (w : World) (hn : Nodes w nv A) (hr : RightA A) (hok : OkA A) (ho : own ≤ 1) :
    Calls Tryd.prog 78 #[nv, .int .i64 own] w fun e w' => ∃ g1 g2 F, e = .returned (.tuple #[.slice (some ⟨g1, 0, none⟩) A.length A.length, .slice (some ⟨g2, 0, none⟩) A.length A.length]) ∧ g1 ≠ g2 ∧ w.heap.size ≤ g1 ∧ w.heap.size ≤ g2 ∧
      w'.rowIs g1 3 A.length (fun j => .int .i64 (F j : Nat)) ∧ w'.rowIs g2 3 A.length (fun j => .int .i64 (M (kidsN A) j : Nat)) ∧ Frm (kidsN A) A.length own 0 F ∧ Below w.heap.size w w' := by
  obtain ⟨p, cap, e, hh⟩ := hn
  subst e
  have hlen := hok.len
  have hpos := hr.k.pos
  rcases hh with hh | ⟨b, off, rfl, hcell⟩
  · exact absurd hh hr.pos
  · have hmk := make_ints A.length hlen
    go_enter Tryd.func78, Tryd.ntmps78
    go_wp2
    go_region
    -- the two orders
    · have R1 : ((w.alloc (.cells (madeCells #[.int .i64 0] A.length) 3)).alloc (.cells (madeCells #[.int .i64 0] A.length) 3)).drew.rowIs (w.heap.size) 3 A.length (fun _ => .int .i64 ((0 : Nat) : Int)) := (((World.rowIs_made w (.int .i64 0) A.length 3).alloc _).drew)
      have R2 : ((w.alloc (.cells (madeCells #[.int .i64 0] A.length) 3)).alloc (.cells (madeCells #[.int .i64 0] A.length) 3)).drew.rowIs (w.heap.size + 1) 3 A.length (fun _ => .int .i64 ((0 : Nat) : Int)) := (World.rowIs.drew (by have := World.rowIs_made (w.alloc (.cells (madeCells #[.int .i64 0] A.length) 3)) (.int .i64 0) A.length 3; simpa using this))
      have hB0 : Below w.heap.size w ((w.alloc (.cells (madeCells #[.int .i64 0] A.length) 3)).alloc (.cells (madeCells #[.int .i64 0] A.length) 3)).drew := (((Below.refl _ _).alloc (Nat.le_refl _) _).alloc (by simp) _).drew
      have hne : w.heap.size ≠ w.heap.size + 1 := by omega
      have hg1 : w.heap.size ≤ w.heap.size := by omega
      have hg2 : w.heap.size ≤ w.heap.size + 1 := by omega
      go_wp2
      go_loopw [22] (fun v W => ∃ i : Nat, v = .int .i64 i ∧ i ≤ A.length ∧ Below w.heap.size w W ∧ W.rowIs (w.heap.size) 3 A.length (fun _ => .int .i64 ((0 : Nat) : Int)) ∧ W.rowIs (w.heap.size + 1) 3 A.length (fun j => .int .i64 (mny (kidsN A) i 0 j : Nat)))
        (fun v _ => A.length - (intOf v).toNat)
      case atStart =>
        exact ⟨0, rfl, Nat.zero_le _, hB0, R1, R2.congr fun j _ => by simp [mny]⟩
      case round =>
        clear hB0 R1 R2
        obtain ⟨i, rfl, hi, hB, r1, r2⟩ := hrel
        by_cases hlt : i < A.length
        · obtain ⟨kv, hN, hI⟩ := hcell i hlt
          obtain ⟨c0, c1, c2, c3, c4, c5, c6, c7, c8⟩ := hN.keep hB.block
          obtain ⟨p2, cap2, e, hh2⟩ := hI
          subst e
          have hkl := hok.kids A[i] (List.getElem_mem hlt)
          have B1 := (Below.refl wr.heap.size wr).alloc (Nat.le_refl _) (.cells (nodeC A[i].hd (.slice p2 A[i].kids.length cap2)) 38)
          have k1 := Cl.new wr 38 (nodeC A[i].hd (.slice p2 A[i].kids.length cap2))
          have q1 := r1.alloc (.cells (nodeC A[i].hd (.slice p2 A[i].kids.length cap2)) 38)
          have q2 := r2.alloc (.cells (nodeC A[i].hd (.slice p2 A[i].kids.length cap2)) 38)
          have qf := q2.frozen i
          have qc := q2.cell hlt
          have B2 := hB.trans (B1.mono hB.size)
          have hlt1 := r1.lt
          have hlt2 := r2.lt
          have hi0 : (0 : Int) ≤ (i : Int) := by omega
          have hi1 : (i : Int) < (A.length : Int) := by omega
          have hKi : kidsN A i = A[i].kids.map Int.toNat := kidsN_some (by simp [hlt])
          go_wp2
          go_loopw [33] (fun v W => ∃ q : Nat, v = .int .i64 q ∧ q ≤ A[i].kids.length ∧ Below w.heap.size w W ∧ W.rowIs (w.heap.size) 3 A.length (fun _ => .int .i64 ((0 : Nat) : Int)) ∧ W.rowIs (w.heap.size + 1) 3 A.length (fun j => .int .i64 (mny (kidsN A) i (1 + Ms (kidsN A) ((kidsN A i).take q)) j : Nat)))
            (fun v _ => A[i].kids.length - (intOf v).toNat)
          case atStart =>
            refine ⟨0, rfl, Nat.zero_le _, (hB.setCell (p := ⟨w.heap.size + 1, i, none⟩) hg2 _).alloc (by rw [World.size_setCell]; exact hB.size) _, (r1.setOther (a := ⟨w.heap.size + 1, i, none⟩) hne _).alloc _, ((r2.set i _).alloc _).congr fun j _ => ?_⟩
            have hm := mny_set (K := kidsN A) (i := i) (x := 0) (y := 1 + 0) j
            rw [List.take_zero, Ms_nil, ← hm]
            by_cases e : j = i
            · rw [if_pos e, if_pos e]
              rfl
            · rw [if_neg e, if_neg e]
          case round =>
            clear q1 q2 qf qc B2 r1 r2 k1
            obtain ⟨q, rfl, hq, hB3, r1, r2⟩ := hrel
            by_cases hq2 : q < A[i].kids.length
            · rcases hh2 with hh2 | ⟨b2, off2, rfl, hc2⟩
              · rw [hh2] at hq2
                simp at hq2
              · have hk := hc2 q hq2
                replace hk := (hB3.cell (p := ⟨b2, off2 + q, none⟩) (cell_lt hk)).trans hk
                have hlow := hr.low i A[i] (by simp [hlt]) A[i].kids[q] (List.getElem_mem hq2)
                obtain ⟨m, hm⟩ : ∃ m : Nat, A[i].kids[q] = (m : Int) := ⟨A[i].kids[q].toNat, by omega⟩
                rw [hm] at hk hlow
                have hmi : m < i := by omega
                have x1 := r2.cell (i := i) hlt
                have x2 := r2.cell (i := m) (by omega)
                have xf := r2.frozen i
                obtain ⟨t1, t2⟩ := Ms_take (kidsN A) (kidsN A i) q (by rw [hKi]; simpa using hq2)
                have hmq : (kidsN A i)[q]'(by rw [hKi]; simpa using hq2) = m := by simp [hKi, hm]
                rw [hmq] at t1 t2
                have hMi := M_eq hr.k.dec i
                have hMl := hr.k.M_le i hlt
                rw [mny_at] at x1
                rw [mny_lt hmi] at x2
                obtain ⟨D, hD⟩ : ∃ D, D = 1 + Ms (kidsN A) ((kidsN A i).take q) := ⟨_, rfl⟩
                obtain ⟨E, hE⟩ : ∃ E, E = M (kidsN A) m := ⟨_, rfl⟩
                rw [← hD] at x1
                rw [← hE] at x2
                have hs : D + E = 1 + Ms (kidsN A) ((kidsN A i).take (q + 1)) := by rw [t1]; omega
                have hDE : D + E ≤ A.length := by omega
                have hm0 : (0 : Int) ≤ (m : Int) := by omega
                have hm1 : (m : Int) < (A.length : Int) := by omega
                have hw : IntKind.i64.wrap ((D : Int) + (E : Int)) = ((D + E : Nat) : Int) := by rw [IntWalk.i64_in _ (by omega)]; omega
                have HS := Lib.hid hs
                clear hs t1 t2 hmq hMi hMl hD hE hm hc2 hlow hKi hcell hDE
                go_wp2
                go_region
                go_wp2
                go_roundw
                case rel =>
                  refine ⟨q + 1, by go_num, by omega, (hB3.setCell (p := ⟨w.heap.size + 1, i, none⟩) hg2 _).drew, (r1.setOther (a := ⟨w.heap.size + 1, i, none⟩) hne _).drew, (r2.set i _).drew.congr fun j _ => ?_⟩
                  rw [← HS.out]
                  have hm := mny_set (K := kidsN A) (i := i) (x := 1 + Ms (kidsN A) ((kidsN A i).take q)) (y := D + E) j
                  rw [← hm]
                  by_cases e : j = i <;> simp [e]
                case measure => simp [intOf]; omega
            · obtain rfl : q = A[i].kids.length := by omega
              have hMi := M_eq hr.k.dec i
              have hall : (kidsN A i).take A[i].kids.length = kidsN A i := List.take_of_length_le (by rw [hKi]; simp)
              rw [hall, Nat.add_comm 1, ← hMi] at r2
              clear hMi hall hKi hcell hh2
              go_wp2
              refine ⟨⟨i + 1, by go_num, by omega, hB3, r1, r2.congr fun j _ => by rw [mny_next]⟩, by simp [intOf]; omega⟩
        · obtain rfl : i = A.length := by omega
          replace r2 : wr.rowIs (w.heap.size + 1) 3 A.length (fun j => .int .i64 (M (kidsN A) j : Nat)) := r2.congr fun j hj => by rw [mny_lt hj]
          have hwn : IntKind.i64.wrap ((A.length : Int) - 1) = ((A.length - 1 : Nat) : Int) := by rw [IntWalk.i64_in _ (by omega)]; omega
          go_wp2
          go_loopw [10] (fun v W => ∃ (i : Nat) (F : Nat → Nat), v = .int .i64 ((i : Int) - 1) ∧ i ≤ A.length ∧ Below w.heap.size w W ∧ W.rowIs (w.heap.size) 3 A.length (fun j => .int .i64 (F j : Nat)) ∧ W.rowIs (w.heap.size + 1) 3 A.length (fun j => .int .i64 (M (kidsN A) j : Nat)) ∧ Frm (kidsN A) A.length own i F)
            (fun v _ => (intOf v + 1).toNat)
          case atStart => exact ⟨A.length, fun _ => 0, by congr 1; omega, Nat.le_refl _, hB, r1, r2, frm_start hr.k⟩
          case round =>
            clear r1 r2 hB
            obtain ⟨i1, F, rfl, hi1, hB, r1, r2, hF⟩ := hrel
            cases i1 with
            | zero =>
              go_wp2
              exact bodyPost_ret (results_tmp2 rfl _ _ _) rfl ⟨_, _, F, rfl, hne, hg1, hg2, r1, r2, hF, hB⟩
            | succ i =>
              have hlt : i < A.length := by omega
              have hv : ((i + 1 : Nat) : Int) - 1 = (i : Int) := by omega
              rw [hv]
              obtain ⟨kv, hN, hI⟩ := hcell i hlt
              obtain ⟨c0, c1, c2, c3, c4, c5, c6, c7, c8⟩ := hN.keep hB.block
              obtain ⟨p2, cap2, e, hh2⟩ := hI
              subst e
              have hkl := hok.kids A[i] (List.getElem_mem hlt)
              have x1 := r1.cell hlt
              have hlo := hF.low i hlt
              have hKi : kidsN A i = A[i].kids.map Int.toNat := kidsN_some (by simp [hlt])
              have hi0 : (0 : Int) ≤ (i : Int) := by omega
              have hi1' : (i : Int) < (A.length : Int) := by omega
              obtain ⟨a, ha⟩ : ∃ a, a = F i := ⟨_, rfl⟩
              rw [← ha] at x1 hlo
              have hw : IntKind.i64.wrap ((a : Int) + (own : Int)) = ((a + own : Nat) : Int) := by rw [IntWalk.i64_in _ (by omega)]; omega
              have HA := Lib.hid ha
              clear ha
              go_wp2
              go_loopw [11, 68] (fun u v W => ∃ (q : Nat) (F : Nat → Nat), v = .int .i64 q ∧ u = .int .i64 ((a + own + Ms (kidsN A) ((kidsN A i).take q) : Nat) : Int) ∧ q ≤ A[i].kids.length ∧ F i = a ∧ Below w.heap.size w W ∧ W.rowIs (w.heap.size) 3 A.length (fun j => .int .i64 (F j : Nat)) ∧ W.rowIs (w.heap.size + 1) 3 A.length (fun j => .int .i64 (M (kidsN A) j : Nat)) ∧ FrmK (kidsN A) A.length own i q F)
                (fun _ v _ => A[i].kids.length - (intOf v).toNat)
              case atStart => exact ⟨0, F, rfl, by simp [Ms_nil], Nat.zero_le _, HA.out.symm, hB, r1, r2, frmK_start hF⟩
              case round =>
                clear r1 r2 hF hB HA
                obtain ⟨q, F, rfl, rfl, hq, ha, hB, r1, r2, hF⟩ := hrel
                by_cases hq2 : q < A[i].kids.length
                · rcases hh2 with hh2 | ⟨b2, off2, rfl, hc2⟩
                  · rw [hh2] at hq2
                    simp at hq2
                  · have hk := hc2 q hq2
                    replace hk := (hB.cell (p := ⟨b2, off2 + q, none⟩) (cell_lt hk)).trans hk
                    have hlow := hr.low i A[i] (by simp [hlt]) A[i].kids[q] (List.getElem_mem hq2)
                    obtain ⟨m, hm⟩ : ∃ m : Nat, A[i].kids[q] = (m : Int) := ⟨A[i].kids[q].toNat, by omega⟩
                    rw [hm] at hk hlow
                    have hmi : m < i := by omega
                    have hq3 : q < (kidsN A i).length := by rw [hKi]; simpa using hq2
                    have x2 := r2.cell (i := m) (by omega)
                    have xf := r1.frozen m
                    have xc := r1.cell (i := m) (by omega)
                    obtain ⟨t1, t2⟩ := Ms_take (kidsN A) (kidsN A i) q hq3
                    have hmq : (kidsN A i)[q] = m := by simp [hKi, hm]
                    have hst := frmK_step hr.k ho hlt hq3 hF
                    rw [hmq] at t1 t2
                    rw [hmq, ha] at hst
                    have hMi := M_eq hr.k.dec i
                    obtain ⟨D, hD⟩ : ∃ D, D = a + own + Ms (kidsN A) ((kidsN A i).take q) := ⟨_, rfl⟩
                    obtain ⟨E, hE⟩ : ∃ E, E = M (kidsN A) m := ⟨_, rfl⟩
                    rw [← hE] at x2
                    rw [← hD] at hst
                    have hs : D + E = a + own + Ms (kidsN A) ((kidsN A i).take (q + 1)) := by rw [t1]; omega
                    have hDE : D + E ≤ A.length + 1 := by omega
                    rw [← hD]
                    have hm0 : (0 : Int) ≤ (m : Int) := by omega
                    have hm1 : (m : Int) < (A.length : Int) := by omega
                    have hw2 : IntKind.i64.wrap ((D : Int) + (E : Int)) = ((D + E : Nat) : Int) := by rw [IntWalk.i64_in _ (by omega)]; omega
                    have hfa : (if i = m then D else F i) = a := by rw [if_neg (by omega)]; exact ha
                    have HS := Lib.hid hs
                    clear hs t1 t2 hmq hMi hD hE hm hc2 hlow hKi hcell hDE hq3
                    go_wp2
                    go_roundw
                    case rel =>
                      refine ⟨q + 1, fun j => if j = m then D else F j, by go_num, by rw [← HS.out]; simp, by omega, hfa, hB.setCell (p := ⟨w.heap.size, m, none⟩) hg1 _, (r1.set m _).congr fun j _ => ?_, r2.setOther (a := ⟨w.heap.size, m, none⟩) (Ne.symm hne) _, hst⟩
                      by_cases e : j = m <;> simp [e]
                    case measure => simp [intOf]; omega
                · obtain rfl : q = A[i].kids.length := by omega
                  have hkl2 : A[i].kids.length = (kidsN A i).length := by rw [hKi]; simp
                  have hF2 := hF
                  rw [hkl2] at hF2
                  have hF3 := frmK_end hF2
                  have hwi : IntKind.i64.wrap ((i : Int) - 1) = (i : Int) - 1 := IntWalk.i64_in _ (by omega)
                  clear hkl2 hF hF2 hKi hcell hh2
                  go_wp2
                  exact ⟨⟨i, F, rfl, by omega, hB, r1, r2, hF3⟩, by simp [intOf]⟩
    · have R1 : ((w.alloc (.cells (madeCells #[.int .i64 0] A.length) 3)).alloc (.cells (madeCells #[.int .i64 0] A.length) 3)).drew.rowIs (w.heap.size + 1) 3 A.length (fun _ => .int .i64 ((0 : Nat) : Int)) := (World.rowIs.drew (by have := World.rowIs_made (w.alloc (.cells (madeCells #[.int .i64 0] A.length) 3)) (.int .i64 0) A.length 3; simpa using this))
      have R2 : ((w.alloc (.cells (madeCells #[.int .i64 0] A.length) 3)).alloc (.cells (madeCells #[.int .i64 0] A.length) 3)).drew.rowIs (w.heap.size) 3 A.length (fun _ => .int .i64 ((0 : Nat) : Int)) := (((World.rowIs_made w (.int .i64 0) A.length 3).alloc _).drew)
      have hB0 : Below w.heap.size w ((w.alloc (.cells (madeCells #[.int .i64 0] A.length) 3)).alloc (.cells (madeCells #[.int .i64 0] A.length) 3)).drew := (((Below.refl _ _).alloc (Nat.le_refl _) _).alloc (by simp) _).drew
      have hne : w.heap.size + 1 ≠ w.heap.size := by omega
      have hg1 : w.heap.size ≤ w.heap.size + 1 := by omega
      have hg2 : w.heap.size ≤ w.heap.size := by omega
      go_wp2
      go_loopw [22] (fun v W => ∃ i : Nat, v = .int .i64 i ∧ i ≤ A.length ∧ Below w.heap.size w W ∧ W.rowIs (w.heap.size + 1) 3 A.length (fun _ => .int .i64 ((0 : Nat) : Int)) ∧ W.rowIs (w.heap.size) 3 A.length (fun j => .int .i64 (mny (kidsN A) i 0 j : Nat)))
        (fun v _ => A.length - (intOf v).toNat)
      case atStart =>
        exact ⟨0, rfl, Nat.zero_le _, hB0, R1, R2.congr fun j _ => by simp [mny]⟩
      case round =>
        clear hB0 R1 R2
        obtain ⟨i, rfl, hi, hB, r1, r2⟩ := hrel
        by_cases hlt : i < A.length
        · obtain ⟨kv, hN, hI⟩ := hcell i hlt
          obtain ⟨c0, c1, c2, c3, c4, c5, c6, c7, c8⟩ := hN.keep hB.block
          obtain ⟨p2, cap2, e, hh2⟩ := hI
          subst e
          have hkl := hok.kids A[i] (List.getElem_mem hlt)
          have B1 := (Below.refl wr.heap.size wr).alloc (Nat.le_refl _) (.cells (nodeC A[i].hd (.slice p2 A[i].kids.length cap2)) 38)
          have k1 := Cl.new wr 38 (nodeC A[i].hd (.slice p2 A[i].kids.length cap2))
          have q1 := r1.alloc (.cells (nodeC A[i].hd (.slice p2 A[i].kids.length cap2)) 38)
          have q2 := r2.alloc (.cells (nodeC A[i].hd (.slice p2 A[i].kids.length cap2)) 38)
          have qf := q2.frozen i
          have qc := q2.cell hlt
          have B2 := hB.trans (B1.mono hB.size)
          have hlt1 := r1.lt
          have hlt2 := r2.lt
          have hi0 : (0 : Int) ≤ (i : Int) := by omega
          have hi1 : (i : Int) < (A.length : Int) := by omega
          have hKi : kidsN A i = A[i].kids.map Int.toNat := kidsN_some (by simp [hlt])
          go_wp2
          go_loopw [33] (fun v W => ∃ q : Nat, v = .int .i64 q ∧ q ≤ A[i].kids.length ∧ Below w.heap.size w W ∧ W.rowIs (w.heap.size + 1) 3 A.length (fun _ => .int .i64 ((0 : Nat) : Int)) ∧ W.rowIs (w.heap.size) 3 A.length (fun j => .int .i64 (mny (kidsN A) i (1 + Ms (kidsN A) ((kidsN A i).take q)) j : Nat)))
            (fun v _ => A[i].kids.length - (intOf v).toNat)
          case atStart =>
            refine ⟨0, rfl, Nat.zero_le _, (hB.setCell (p := ⟨w.heap.size, i, none⟩) hg2 _).alloc (by rw [World.size_setCell]; exact hB.size) _, (r1.setOther (a := ⟨w.heap.size, i, none⟩) hne _).alloc _, ((r2.set i _).alloc _).congr fun j _ => ?_⟩
            have hm := mny_set (K := kidsN A) (i := i) (x := 0) (y := 1 + 0) j
            rw [List.take_zero, Ms_nil, ← hm]
            by_cases e : j = i
            · rw [if_pos e, if_pos e]
              rfl
            · rw [if_neg e, if_neg e]
          case round =>
            clear q1 q2 qf qc B2 r1 r2 k1
            obtain ⟨q, rfl, hq, hB3, r1, r2⟩ := hrel
            by_cases hq2 : q < A[i].kids.length
            · rcases hh2 with hh2 | ⟨b2, off2, rfl, hc2⟩
              · rw [hh2] at hq2
                simp at hq2
              · have hk := hc2 q hq2
                replace hk := (hB3.cell (p := ⟨b2, off2 + q, none⟩) (cell_lt hk)).trans hk
                have hlow := hr.low i A[i] (by simp [hlt]) A[i].kids[q] (List.getElem_mem hq2)
                obtain ⟨m, hm⟩ : ∃ m : Nat, A[i].kids[q] = (m : Int) := ⟨A[i].kids[q].toNat, by omega⟩
                rw [hm] at hk hlow
                have hmi : m < i := by omega
                have x1 := r2.cell (i := i) hlt
                have x2 := r2.cell (i := m) (by omega)
                have xf := r2.frozen i
                obtain ⟨t1, t2⟩ := Ms_take (kidsN A) (kidsN A i) q (by rw [hKi]; simpa using hq2)
                have hmq : (kidsN A i)[q]'(by rw [hKi]; simpa using hq2) = m := by simp [hKi, hm]
                rw [hmq] at t1 t2
                have hMi := M_eq hr.k.dec i
                have hMl := hr.k.M_le i hlt
                rw [mny_at] at x1
                rw [mny_lt hmi] at x2
                obtain ⟨D, hD⟩ : ∃ D, D = 1 + Ms (kidsN A) ((kidsN A i).take q) := ⟨_, rfl⟩
                obtain ⟨E, hE⟩ : ∃ E, E = M (kidsN A) m := ⟨_, rfl⟩
                rw [← hD] at x1
                rw [← hE] at x2
                have hs : D + E = 1 + Ms (kidsN A) ((kidsN A i).take (q + 1)) := by rw [t1]; omega
                have hDE : D + E ≤ A.length := by omega
                have hm0 : (0 : Int) ≤ (m : Int) := by omega
                have hm1 : (m : Int) < (A.length : Int) := by omega
                have hw : IntKind.i64.wrap ((D : Int) + (E : Int)) = ((D + E : Nat) : Int) := by rw [IntWalk.i64_in _ (by omega)]; omega
                have HS := Lib.hid hs
                clear hs t1 t2 hmq hMi hMl hD hE hm hc2 hlow hKi hcell hDE
                go_wp2
                go_region
                go_wp2
                go_roundw
                case rel =>
                  refine ⟨q + 1, by go_num, by omega, (hB3.setCell (p := ⟨w.heap.size, i, none⟩) hg2 _).drew, (r1.setOther (a := ⟨w.heap.size, i, none⟩) hne _).drew, (r2.set i _).drew.congr fun j _ => ?_⟩
                  rw [← HS.out]
                  have hm := mny_set (K := kidsN A) (i := i) (x := 1 + Ms (kidsN A) ((kidsN A i).take q)) (y := D + E) j
                  rw [← hm]
                  by_cases e : j = i <;> simp [e]
                case measure => simp [intOf]; omega
            · obtain rfl : q = A[i].kids.length := by omega
              have hMi := M_eq hr.k.dec i
              have hall : (kidsN A i).take A[i].kids.length = kidsN A i := List.take_of_length_le (by rw [hKi]; simp)
              rw [hall, Nat.add_comm 1, ← hMi] at r2
              clear hMi hall hKi hcell hh2
              go_wp2
              refine ⟨⟨i + 1, by go_num, by omega, hB3, r1, r2.congr fun j _ => by rw [mny_next]⟩, by simp [intOf]; omega⟩
        · obtain rfl : i = A.length := by omega
          replace r2 : wr.rowIs (w.heap.size) 3 A.length (fun j => .int .i64 (M (kidsN A) j : Nat)) := r2.congr fun j hj => by rw [mny_lt hj]
          have hwn : IntKind.i64.wrap ((A.length : Int) - 1) = ((A.length - 1 : Nat) : Int) := by rw [IntWalk.i64_in _ (by omega)]; omega
          go_wp2
          go_loopw [10] (fun v W => ∃ (i : Nat) (F : Nat → Nat), v = .int .i64 ((i : Int) - 1) ∧ i ≤ A.length ∧ Below w.heap.size w W ∧ W.rowIs (w.heap.size + 1) 3 A.length (fun j => .int .i64 (F j : Nat)) ∧ W.rowIs (w.heap.size) 3 A.length (fun j => .int .i64 (M (kidsN A) j : Nat)) ∧ Frm (kidsN A) A.length own i F)
            (fun v _ => (intOf v + 1).toNat)
          case atStart => exact ⟨A.length, fun _ => 0, by congr 1; omega, Nat.le_refl _, hB, r1, r2, frm_start hr.k⟩
          case round =>
            clear r1 r2 hB
            obtain ⟨i1, F, rfl, hi1, hB, r1, r2, hF⟩ := hrel
            cases i1 with
            | zero =>
              go_wp2
              exact bodyPost_ret (results_tmp2 rfl _ _ _) rfl ⟨_, _, F, rfl, hne, hg1, hg2, r1, r2, hF, hB⟩
            | succ i =>
              have hlt : i < A.length := by omega
              have hv : ((i + 1 : Nat) : Int) - 1 = (i : Int) := by omega
              rw [hv]
              obtain ⟨kv, hN, hI⟩ := hcell i hlt
              obtain ⟨c0, c1, c2, c3, c4, c5, c6, c7, c8⟩ := hN.keep hB.block
              obtain ⟨p2, cap2, e, hh2⟩ := hI
              subst e
              have hkl := hok.kids A[i] (List.getElem_mem hlt)
              have x1 := r1.cell hlt
              have hlo := hF.low i hlt
              have hKi : kidsN A i = A[i].kids.map Int.toNat := kidsN_some (by simp [hlt])
              have hi0 : (0 : Int) ≤ (i : Int) := by omega
              have hi1' : (i : Int) < (A.length : Int) := by omega
              obtain ⟨a, ha⟩ : ∃ a, a = F i := ⟨_, rfl⟩
              rw [← ha] at x1 hlo
              have hw : IntKind.i64.wrap ((a : Int) + (own : Int)) = ((a + own : Nat) : Int) := by rw [IntWalk.i64_in _ (by omega)]; omega
              have HA := Lib.hid ha
              clear ha
              go_wp2
              go_loopw [11, 68] (fun u v W => ∃ (q : Nat) (F : Nat → Nat), v = .int .i64 q ∧ u = .int .i64 ((a + own + Ms (kidsN A) ((kidsN A i).take q) : Nat) : Int) ∧ q ≤ A[i].kids.length ∧ F i = a ∧ Below w.heap.size w W ∧ W.rowIs (w.heap.size + 1) 3 A.length (fun j => .int .i64 (F j : Nat)) ∧ W.rowIs (w.heap.size) 3 A.length (fun j => .int .i64 (M (kidsN A) j : Nat)) ∧ FrmK (kidsN A) A.length own i q F)
                (fun _ v _ => A[i].kids.length - (intOf v).toNat)
              case atStart => exact ⟨0, F, rfl, by simp [Ms_nil], Nat.zero_le _, HA.out.symm, hB, r1, r2, frmK_start hF⟩
              case round =>
                clear r1 r2 hF hB HA
                obtain ⟨q, F, rfl, rfl, hq, ha, hB, r1, r2, hF⟩ := hrel
                by_cases hq2 : q < A[i].kids.length
                · rcases hh2 with hh2 | ⟨b2, off2, rfl, hc2⟩
                  · rw [hh2] at hq2
                    simp at hq2
                  · have hk := hc2 q hq2
                    replace hk := (hB.cell (p := ⟨b2, off2 + q, none⟩) (cell_lt hk)).trans hk
                    have hlow := hr.low i A[i] (by simp [hlt]) A[i].kids[q] (List.getElem_mem hq2)
                    obtain ⟨m, hm⟩ : ∃ m : Nat, A[i].kids[q] = (m : Int) := ⟨A[i].kids[q].toNat, by omega⟩
                    rw [hm] at hk hlow
                    have hmi : m < i := by omega
                    have hq3 : q < (kidsN A i).length := by rw [hKi]; simpa using hq2
                    have x2 := r2.cell (i := m) (by omega)
                    have xf := r1.frozen m
                    have xc := r1.cell (i := m) (by omega)
                    obtain ⟨t1, t2⟩ := Ms_take (kidsN A) (kidsN A i) q hq3
                    have hmq : (kidsN A i)[q] = m := by simp [hKi, hm]
                    have hst := frmK_step hr.k ho hlt hq3 hF
                    rw [hmq] at t1 t2
                    rw [hmq, ha] at hst
                    have hMi := M_eq hr.k.dec i
                    obtain ⟨D, hD⟩ : ∃ D, D = a + own + Ms (kidsN A) ((kidsN A i).take q) := ⟨_, rfl⟩
                    obtain ⟨E, hE⟩ : ∃ E, E = M (kidsN A) m := ⟨_, rfl⟩
                    rw [← hE] at x2
                    rw [← hD] at hst
                    have hs : D + E = a + own + Ms (kidsN A) ((kidsN A i).take (q + 1)) := by rw [t1]; omega
                    have hDE : D + E ≤ A.length + 1 := by omega
                    rw [← hD]
                    have hm0 : (0 : Int) ≤ (m : Int) := by omega
                    have hm1 : (m : Int) < (A.length : Int) := by omega
                    have hw2 : IntKind.i64.wrap ((D : Int) + (E : Int)) = ((D + E : Nat) : Int) := by rw [IntWalk.i64_in _ (by omega)]; omega
                    have hfa : (if i = m then D else F i) = a := by rw [if_neg (by omega)]; exact ha
                    have HS := Lib.hid hs
                    clear hs t1 t2 hmq hMi hD hE hm hc2 hlow hKi hcell hDE hq3
                    go_wp2
                    go_roundw
                    case rel =>
                      refine ⟨q + 1, fun j => if j = m then D else F j, by go_num, by rw [← HS.out]; simp, by omega, hfa, hB.setCell (p := ⟨w.heap.size + 1, m, none⟩) hg1 _, (r1.set m _).congr fun j _ => ?_, r2.setOther (a := ⟨w.heap.size + 1, m, none⟩) (Ne.symm hne) _, hst⟩
                      by_cases e : j = m <;> simp [e]
                    case measure => simp [intOf]; omega
                · obtain rfl : q = A[i].kids.length := by omega
                  have hkl2 : A[i].kids.length = (kidsN A i).length := by rw [hKi]; simp
                  have hF2 := hF
                  rw [hkl2] at hF2
                  have hF3 := frmK_end hF2
                  have hwi : IntKind.i64.wrap ((i : Int) - 1) = (i : Int) - 1 := IntWalk.i64_in _ (by omega)
                  clear hkl2 hF hF2 hKi hcell hh2
                  go_wp2
                  exact ⟨⟨i, F, rfl, by omega, hB, r1, r2, hF3⟩, by simp [intOf]⟩
end Go.Proofs.YtpkjfdgjmcphmaaDoor

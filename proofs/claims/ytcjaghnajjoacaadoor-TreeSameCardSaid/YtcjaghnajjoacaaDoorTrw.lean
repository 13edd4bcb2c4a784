/- bonsailaw04: TreeRow. -/
import Derived.Test.YtcjaghnajjoacaaDoorTrow
import Derived.Test.YtcjaghnajjoacaaDoorTz4
namespace Go.Proofs.YtcjaghnajjoacaaDoor
open Go.RowKit Bset Tm

theorem frm_full {K : Nat → List Nat} {n : Nat} (hK : RightK K n) : ∃ F, Frm K n 1 0 F := by
  have key : ∀ d, d ≤ n → ∃ F, Frm K n 1 (n - d) F := by
    intro d
    induction d with
    | zero => exact fun _ => ⟨_, frm_start hK⟩
    | succ d ih =>
      intro hd
      obtain ⟨F, hF⟩ := ih (by omega)
      obtain ⟨i, hi⟩ : ∃ i, i = n - (d + 1) := ⟨_, rfl⟩
      rw [← hi]
      rw [show n - d = i + 1 by omega] at hF
      have inner : ∀ q, q ≤ (K i).length → ∃ F, FrmK K n 1 i q F := by
        intro q
        induction q with
        | zero => exact fun _ => ⟨F, frmK_start hF⟩
        | succ q ih2 =>
          intro hq
          obtain ⟨G, hG⟩ := ih2 (by omega)
          exact ⟨_, frmK_step hK (Nat.le_refl _) (by omega) (by omega) hG⟩
      obtain ⟨G, hG⟩ := inner _ (Nat.le_refl _)
      exact ⟨G, frmK_end hG⟩
  obtain ⟨F, hF⟩ := key n (Nat.le_refl _)
  rw [Nat.sub_self] at hF
  exact ⟨F, hF⟩

theorem starts_get (K : Nat → List Nat) : ∀ (l : List Nat) (b q : Nat), q < l.length → (starts K b l)[q]? = some (b + Ms K (l.take q))
  | [], _, q, h => by simp at h
  | a :: l, b, 0, _ => by simp [starts, Ms_nil]
  | a :: l, b, q + 1, h => by
    simp only [starts, List.getElem?_cons_succ, List.take_succ_cons]
    rw [starts_get K l _ q (by simpa using h), Ms_cons]
    congr 1
    omega

/-- What holds of the row, and of the places in it. -/
structure Pls (A : List Nd) (R : List Nat) (F : Nat → Nat) : Prop where
  len : R.length = A.length
  lt : ∀ a (h : a < R.length), R[a] < A.length
  at' : ∀ a (h : a < R.length), F R[a] = a
  low : ∀ j, j < A.length → F j < A.length
  inj : ∀ i j, i < A.length → j < A.length → F i = F j → i = j
  zero : F (A.length - 1) = 0
  kid : ∀ i (_hi : i < A.length) q (hq : q < (kidsN A i).length), F (kidsN A i)[q] = F i + 1 + Ms (kidsN A) ((kidsN A i).take q)

theorem pls_of {A : List Nd} (h : RightA A) : ∃ F, Pls A (rowN A) F := by
  obtain ⟨F, hF⟩ := frm_full h.k
  have h1 := row_places h hF
  refine ⟨F, row_len h, fun a ha => List.mem_range.1 ((row_perm h).subset (List.getElem_mem ha)), fun a ha => ?_, fun j hj => row_lt h hF hj, fun i j hi hj e => row_inj h hF hi hj e, hF.root, fun i hi q hq => ?_⟩
  · have : ((rowN A).map F)[a]? = some a := by
      have ha' : a < A.length := by rw [← row_len h]; exact ha
      rw [h1]
      simp [ha']
    rw [List.getElem?_map, List.getElem?_eq_getElem ha] at this
    simpa using this
  · have h2 := congrArg (fun l => l[q]?) (hF.spread i hi)
    rw [starts_get _ _ _ q hq, List.getElem?_map, List.getElem?_eq_getElem hq] at h2
    simpa using h2

/-- The places that are told already. -/
def plcs (F : Nat → Nat) (i j : Nat) : Int := if F j < i then (F j : Int) else -1
theorem plcs_step {A : List Nd} {R : List Nat} {F : Nat → Nat} (h : Pls A R F) {i : Nat} (hi : i < R.length) {j : Nat} (hj : j < A.length) : (if j = R[i] then (i : Int) else plcs F i j) = plcs F (i + 1) j := by
  have h1 := h.at' i hi
  unfold plcs
  by_cases e : j = R[i]
  · rw [if_pos e, e, h1, if_pos (by omega)]
  · rw [if_neg e]
    have : F j ≠ i := fun e2 => e (h.inj _ _ hj (h.lt i hi) (by rw [h1]; exact e2))
    by_cases hl : F j < i
    · rw [if_pos hl, if_pos (by omega)]
    · rw [if_neg hl, if_neg (by omega)]
def lastAt (A : List Nd) (F : Nat → Nat) (i q : Nat) : Nat := if q = 0 then F i else F ((kidsN A i).getD (q - 1) 0)
theorem last_lt {A : List Nd} {R : List Nat} {F : Nat → Nat} (h : Pls A R F) {i q : Nat} (hi : i < A.length) (hq : q < (kidsN A i).length) : lastAt A F i q < F (kidsN A i)[q] := by
  have h1 := h.kid i hi q hq
  unfold lastAt
  by_cases e : q = 0
  · subst e
    rw [if_pos rfl]
    omega
  · rw [if_neg e]
    have h2 := h.kid i hi (q - 1) (by omega)
    have h3 := (Ms_take (kidsN A) (kidsN A i) (q - 1) (by omega)).1
    rw [show q - 1 + 1 = q by omega] at h3
    have h4 := M_pos (kidsN A) (kidsN A i)[q - 1]
    have h5 : (kidsN A i).getD (q - 1) 0 = (kidsN A i)[q - 1] := by simp [List.getD, List.getElem?_eq_getElem (show q - 1 < (kidsN A i).length by omega)]
    rw [h5]
    omega
theorem last_next {A : List Nd} {F : Nat → Nat} {i q : Nat} (hq : q < (kidsN A i).length) : lastAt A F i (q + 1) = F (kidsN A i)[q] := by
  simp [lastAt, List.getD, hq]

theorem le_sum {l : List Nat} {x : Nat} (h : x ∈ l) : x ≤ l.sum := by
  induction l with
  | nil => cases h
  | cons a l ih =>
    rw [List.sum_cons]
    rcases List.mem_cons.1 h with rfl | h
    · omega
    · have := ih h
      omega
theorem trees_one' {w : World} {nv : Value} {T : Ar} (h : Tree w (treeV nv T.root) T) : Trees (w.alloc (.cells #[nv, .int .i64 T.root] 26)) (.slice (some ⟨w.heap.size, 0, none⟩) 1 1) [T] := by
  have hc := Cl.new w 26 #[nv, .int .i64 T.root]
  obtain ⟨nv', e, hn⟩ := h.below ((Below.refl _ _).alloc (Nat.le_refl _) (.cells #[nv, .int .i64 T.root] 26))
  have e' : nv = nv' := by simpa using e
  subst e'
  refine ⟨_, 1, rfl, .inr ⟨w.heap.size, 0, rfl, fun j hj => ?_⟩⟩
  have : j = 0 := by simp at hj; omega
  subst this
  exact ⟨nv, hc.cell 0, hc.cell 1, hn⟩
theorem small_ok {l : List Ar} (h : small l) (hw : ∀ t ∈ l, ∀ n ∈ t.nodes, okW n) : ∀ t ∈ l, OkA t.nodes := fun t ht => okA_iff.2 ⟨by
  have h1 := h.1
  have h2 : 1 + t.nodes.length ≤ cnt l := le_sum (List.mem_map.2 ⟨t, ht, rfl⟩)
  omega, fun n hn => ⟨(hw t ht n hn).1, (hw t ht n hn).2, by have := h.2 t ht n hn; omega⟩⟩

set_option maxRecDepth 100000 in
set_option maxHeartbeats 8000000 in
theorem treeRow_walk (v : Value) (T : Ar) (w : World) (hv : Tree w v T) (hw : ∀ n ∈ T.nodes, okW n) (hE : Env w) :
    Calls Tryd.prog 6 #[v] w fun e w' => e = .returned (.bool true) ∧ Below w.heap.size w w' := by
  obtain ⟨nv, rfl, hn⟩ := hv
  obtain ⟨p0, c0, rfl⟩ := hn.len
  have b0 := (Below.refl w.heap.size w).alloc (Nat.le_refl _) (.cells #[.slice p0 T.nodes.length c0, .int .i64 T.root] 26)
  have k0 := Cl.new w 26 #[.slice p0 T.nodes.length c0, .int .i64 T.root]
  have hE0 := hE.below b0
  go_enter Tryd.func6, Tryd.ntmps6
  go_wp2_with (go_at_call 8; refine (works_any _ hE0).mono ?_; rintro e w1 ⟨rfl, hb1⟩
               have k1 := k0.below hb1 k0.lt
               have b1 := b0.trans (hb1.mono b0.size)
               obtain ⟨⟨y0, y1⟩, yf⟩ := k1.two
               have ht1 : Tree w1 (treeV (.slice p0 T.nodes.length c0) T.root) T := ⟨_, rfl, hn.below b1⟩
               have hts := trees_one' ht1
               have b2 := b1.alloc b1.size (.cells #[.slice p0 T.nodes.length c0, .int .i64 T.root] 26)
               have k2 := k1.alloc (.cells #[.slice p0 T.nodes.length c0, .int .i64 T.root] 26)
               clear hb1 k0 b0 k1)
  refine (long_any _ [T] _ hts).mono ?_
  rintro e w3 ⟨b, rfl, hsm, hb3⟩
  have k3 := k2.below hb3 k2.lt
  have b3 := b2.trans (hb3.mono b2.size)
  obtain ⟨⟨z0, z1⟩, zf⟩ := k3.two
  clear hts b1 y0 y1 yf hb3 k2 b2 ht1 hE0
  cases b with
  | true =>
    go_wp2_with (go_at_call 8; refine (works_any _ (hE.below b3)).mono ?_; rintro e w4 ⟨rfl, hb4⟩; have b4 := b3.trans (hb4.mono b3.size))
    go_ret
    exact ⟨rfl, b4⟩
  | false =>
    have hokA : OkA T.nodes := small_ok (hsm rfl) (fun t ht => by rw [List.mem_singleton.1 ht]; exact hw) T (by simp)
    have hwk := fun (W : World) (h1 : Tree W (treeV (.slice p0 T.nodes.length c0) T.root) T) (h2 : Env W) => walk_any (treeV (.slice p0 T.nodes.length c0) T.root) T W h1 hokA h2
    have hrt := fun (W : World) (h1 : Tree W (treeV (.slice p0 T.nodes.length c0) T.root) T) (h2 : Env W) => right_at' (treeV (.slice p0 T.nodes.length c0) T.root) T W h1 hokA h2
    clear hsm
    cases hR : rightB T with
    | false =>
      simp only [hR] at hrt
      have hrow : rowT T = [] := by rw [rowT, if_neg (by rw [hR]; decide)]
      simp only [hrow] at hwk
      go_wp2_with (first
        | (go_at_call 20; refine (hwk _ ⟨_, rfl, hn.below b3⟩ (hE.below b3)).mono ?_; rintro e w4 ⟨v4, rfl, ho, hb4⟩
           obtain ⟨p4, c4, rfl⟩ := own_none ho
           have k4 := k3.below hb4 k3.lt
           have b4 := b3.trans (hb4.mono b3.size)
           obtain ⟨⟨s0, s1⟩, sf⟩ := k4.two
           clear hb4)
        | (go_at_call 15; refine (hrt _ ⟨_, rfl, hn.below b4⟩ (hE.below b4)).mono ?_; rintro e w5 ⟨rfl, hb5⟩
           have b5 := b4.trans (hb5.mono b4.size)))
      go_ret
      exact ⟨rfl, b5⟩
    | true =>
      have hRT := rightB_iff.1 hR
      simp only [hR] at hrt
      obtain ⟨A, root⟩ := T
      dsimp only at *
      have hRA : RightA A := hRT.2
      have hlen := hokA.len
      have hpos := hRA.k.pos
      have hroot : root = ((A.length - 1 : Nat) : Int) := hRT.at.2
      have hrow : rowT ⟨A, root⟩ = (rowN A).map Int.ofNat := by rw [rowT, if_pos hR]
      simp only [hrow, List.length_map, List.map_map] at hwk
      obtain ⟨F, hP⟩ := pls_of hRA
      simp only [hP.len] at hwk
      generalize rowN A = R at *
      have hmk := make_ints A.length hlen
      have HR := Lib.hid hroot
      have HP := Lib.hid hpos
      have HL := Lib.hid hlen
      have HPL := Lib.hid hP
      clear hR hRT hrow hroot hlen hP
      clear hpos
      go_wp2_with (first
        | (go_at_call 20; refine (hwk _ ⟨_, rfl, hn.below b3⟩ (hE.below b3)).mono ?_; rintro e w4 ⟨v4, rfl, ho, hb4⟩
           obtain ⟨gr, c4, rfl⟩ := own_form ho HP.out
           have hgr := (ho.lt gr rfl).2
           have k4 := k3.below hb4 k3.lt
           have b4 := b3.trans (hb4.mono b3.size)
           obtain ⟨⟨s0, s1⟩, sf⟩ := k4.two
           clear hb4)
        | (go_at_call 15; refine (hrt _ ⟨_, rfl, hn.below b4⟩ (hE.below b4)).mono ?_; rintro e w5 ⟨rfl, hb5⟩
           have k5 := k4.below hb5 k4.lt
           have b5 := b4.trans (hb5.mono b4.size)
           have hrc : ∀ a (h : a < R.length), w5.cell? ⟨gr, a, none⟩ = some (.int .i64 ((R[a] : Nat) : Int)) := fun a h => by
             rw [hb5.cell (p := ⟨gr, a, none⟩) hgr, ho.cellAt a (by have := HPL.out.len; omega)]
             simp [h]
           have hgr5 := Nat.lt_of_lt_of_le hgr hb5.size
           have hn5 := hn.below b5
           obtain ⟨⟨u0, u1⟩, uf⟩ := k5.two
           clear hb5 ho hgr b4 b3 k4 k3 s0 s1 sf z0 z1 zf hwk hrt))
      obtain ⟨p', cap', e, hh⟩ := hn5
      obtain ⟨rfl, rfl⟩ : p0 = p' ∧ c0 = cap' := by simpa using e
      rcases hh with hh | ⟨b, off, rfl, hc⟩
      · have := HP.out
        rw [hh] at this
        simp at this
      have HC := Lib.hid hc
      have HRC := Lib.hid hrc
      have r0 := World.rowIs_made w5 (.int .i64 0) A.length 3
      have b50 := (Below.refl w5.heap.size w5).alloc (Nat.le_refl _) (.cells (madeCells #[.int .i64 0] A.length) 3)
      have B5 := Lib.hid b5
      have K5 := Lib.hid k5
      have HOK := Lib.hid hokA
      clear e hc hrc b5 k5 hmk hokA hw hE
      go_loopw [5] (fun v W => ∃ i : Nat, v = .int .i64 i ∧ i ≤ A.length ∧ Below w5.heap.size w5 W ∧ W.rowIs w5.heap.size 3 A.length (fun j => .int .i64 (if j < i then -1 else 0))) (fun v _ => A.length - (intOf v).toNat)
      case atStart => exact ⟨0, rfl, Nat.zero_le _, b50, r0.congr fun j _ => by simp⟩
      case round =>
        clear r0 b50
        obtain ⟨i, rfl, hi, hB, r⟩ := hrel
        by_cases hlt : i < A.length
        · have xf := r.frozen i
          have xc := r.cell hlt
          have hi0 : (0 : Int) ≤ (i : Int) := by omega
          have hi1 : (i : Int) < (A.length : Int) := by omega
          have hL := HL.out
          go_wp2
          refine ⟨⟨i + 1, by go_num, by omega, hB.setCell (p := ⟨w5.heap.size, i, none⟩) (Nat.le_refl _) _, (r.set i _).congr fun j _ => ?_⟩, by simp [intOf]; omega⟩
          by_cases e : j = i
          · simp [e]
          · have : j < i + 1 ↔ j < i := by omega
            simp [e, this]
        · obtain rfl : i = A.length := by omega
          replace r : wr.rowIs w5.heap.size 3 A.length (fun j => .int .i64 (plcs F 0 j)) := r.congr fun j hj => by simp [plcs, hj]
          have y0 := (hB.cell (p := ⟨w.heap.size, 0, none⟩) K5.out.lt).trans u0
          have y1 := (hB.cell (p := ⟨w.heap.size, 1, none⟩) K5.out.lt).trans u1
          have hRl : 0 < R.length := by have := HPL.out.len; have := HP.out; omega
          have x0 := (hB.cell (p := ⟨gr, 0, none⟩) hgr5).trans (HRC.out 0 hRl)
          have hR0 : ((R[0] : Nat) : Int) = root := by
            have h1 := HPL.out.at' 0 hRl
            have h2 := HPL.out.zero
            have h3 := HPL.out.inj R[0] (A.length - 1) (HPL.out.lt 0 hRl) (by have := HP.out; omega) (by rw [h1, h2])
            rw [h3, HR.out]
          rw [hR0] at x0
          have hp1 : (0 : Int) < (A.length : Int) := by have := HP.out; omega
          clear hRl hR0
          go_wp2
          go_region
          go_wp2
          go_loopw [6] (fun v W => ∃ i : Nat, v = .int .i64 i ∧ i ≤ A.length ∧ Below w5.heap.size w5 W ∧ W.rowIs w5.heap.size 3 A.length (fun j => .int .i64 (plcs F i j))) (fun v _ => A.length - (intOf v).toNat)
          case atStart => exact ⟨0, rfl, Nat.zero_le _, hB.drew, r.drew⟩
          case round =>
            clear r hB x0 y0 y1 hp1 hlt hi
            obtain ⟨i, rfl, hi, hB, r⟩ := hrel
            by_cases hlt : i < A.length
            · have hRl : i < R.length := by have := HPL.out.len; omega
              have x0 := (hB.cell (p := ⟨gr, i, none⟩) hgr5).trans (HRC.out i hRl)
              have hml := HPL.out.lt i hRl
              have hst := fun j hj => plcs_step HPL.out hRl (j := j) hj
              have hat := HPL.out.at' i hRl
              have hpm : plcs F i R[i] = -1 := by rw [plcs, if_neg (by omega)]
              obtain ⟨m, hm⟩ : ∃ m, m = R[i] := ⟨_, rfl⟩
              rw [← hm] at x0 hml hpm
              simp only [← hm] at hst
              have xf := r.frozen m
              have xc := r.cell hml
              rw [hpm] at xc
              have hi0 : (0 : Int) ≤ (i : Int) := by omega
              have hi1 : (i : Int) < (A.length : Int) := by omega
              have hm0 : (0 : Int) ≤ (m : Int) := by omega
              have hm1 : (m : Int) < (A.length : Int) := by omega
              have hL := HL.out
              have HS := Lib.hid hst
              clear hst hat hpm hm
              go_wp2
              refine ⟨⟨i + 1, by go_num, by omega, hB.setCell (p := ⟨w5.heap.size, m, none⟩) (Nat.le_refl _) _, (r.set m _).congr fun j hj => ?_⟩, by simp [intOf]; omega⟩
              rw [← HS.out j hj]
              by_cases e : j = m
              · simp [e]
              · simp [e]
            · obtain rfl : i = A.length := by omega
              replace r : wr.rowIs w5.heap.size 3 A.length (fun j => .int .i64 (F j : Nat)) := r.congr fun j hj => by rw [plcs, if_pos (HPL.out.low j hj)]
              go_wp2
              go_loopw [7, 8, 9, 10] (fun v _ _ _ W => ∃ i : Nat, v = .int .i64 i ∧ i ≤ A.length ∧ Below w5.heap.size w5 W ∧ W.rowIs w5.heap.size 3 A.length (fun j => .int .i64 (F j : Nat))) (fun v _ _ _ _ => A.length - (intOf v).toNat)
              case atStart => exact ⟨0, rfl, Nat.zero_le _, hB, r⟩
              case round =>
                clear r hB hlt hi
                obtain ⟨i, rfl, hi, hB, r⟩ := hrel
                have y0 := (hB.cell (p := ⟨w.heap.size, 0, none⟩) K5.out.lt).trans u0
                have hL := HL.out
                by_cases hlt : i < A.length
                · have xc := r.cell hlt
                  have hi0 : (0 : Int) ≤ (i : Int) := by omega
                  have hi1 : (i : Int) < (A.length : Int) := by omega
                  obtain ⟨kv, hN, hI⟩ := HC.out i hlt
                  obtain ⟨p2, cap2, rfl, hh2⟩ := hI
                  have hKi : kidsN A i = A[i].kids.map Int.toNat := kidsN_some (by simp [hlt])
                  have hlow := hRA.low i A[i] (by simp [hlt])
                  obtain ⟨ks, hks⟩ : ∃ ks, ks = A[i].kids := ⟨_, rfl⟩
                  rw [← hks] at hN hh2 hKi hlow
                  have hkl : ks.length ≤ 4294967296 := by rw [hks]; exact HOK.out.kids A[i] (List.getElem_mem hlt)
                  have HKI := Lib.hid hKi
                  have HN := Lib.hid hN
                  have HLOW := Lib.hid hlow
                  have hl0 : lastAt A F i 0 = F i := by simp [lastAt]
                  have HL0 := Lib.hid hl0
                  clear hks hKi hN hlow hl0
                  go_wp2
                  go_loopw [8, 9, 10] (fun v8 v9 _ W => ∃ q : Nat, v9 = .int .i64 q ∧ v8 = .int .i64 (lastAt A F i q : Nat) ∧ q ≤ ks.length ∧ Below w5.heap.size w5 W ∧ W.rowIs w5.heap.size 3 A.length (fun j => .int .i64 (F j : Nat))) (fun _ v9 _ _ => ks.length - (intOf v9).toNat)
                  case atStart => exact ⟨0, rfl, by rw [HL0.out], Nat.zero_le _, hB, r⟩
                  case round =>
                    clear r hB y0 xc
                    obtain ⟨q, rfl, rfl, hq, hB, r⟩ := hrel
                    have y0 := (hB.cell (p := ⟨w.heap.size, 0, none⟩) K5.out.lt).trans u0
                    obtain ⟨c0', c1, c2, c3, c4', c5, c6, c7, c8⟩ := HN.out.keep hB.block
                    by_cases hq2 : q < ks.length
                    · rcases hh2 with rfl | ⟨b2, off2, rfl, hc2⟩
                      · simp at hq2
                      have hk := hc2 q hq2
                      replace hk := (hB.cell (p := ⟨b2, off2 + q, none⟩) (cell_lt hk)).trans hk
                      have hlow := HLOW.out ks[q] (List.getElem_mem hq2)
                      obtain ⟨m, hm⟩ : ∃ m : Nat, ks[q] = (m : Int) := ⟨ks[q].toNat, by omega⟩
                      rw [hm] at hk hlow
                      have hq3 : q < (kidsN A i).length := by rw [HKI.out]; simpa using hq2
                      have hmq : (kidsN A i)[q] = m := by simp [HKI.out, hm]
                      have hll := last_lt HPL.out hlt hq3
                      have hln := last_next (A := A) (F := F) hq3
                      rw [hmq] at hll hln
                      have xm := r.cell (i := m) (by omega)
                      obtain ⟨D, hD⟩ : ∃ D, D = lastAt A F i q := ⟨_, rfl⟩
                      obtain ⟨E, hE⟩ : ∃ E, E = F m := ⟨_, rfl⟩
                      rw [← hE] at xm hll hln
                      rw [← hD] at hll ⊢
                      have hm0 : (0 : Int) ≤ (m : Int) := by omega
                      have hm1 : (m : Int) < (A.length : Int) := by omega
                      have hq0 : (0 : Int) ≤ (q : Int) := by omega
                      have hq1 : (q : Int) < (ks.length : Int) := by omega
                      have hDE : (D : Int) < (E : Int) := by omega
                      have HLN := Lib.hid hln
                      clear hln hll hE hD hmq hq3 hm hlow hc2
                      go_wp2
                      exact ⟨⟨q + 1, by go_num, by rw [HLN.out], by omega, hB, r⟩, by simp [intOf]; omega⟩
                    · obtain rfl : q = ks.length := by omega
                      go_wp2
                      exact ⟨⟨i + 1, by go_num, by omega, hB, r⟩, by simp [intOf]; omega⟩
                · obtain rfl : i = A.length := by omega
                  go_wp2
                  go_ret
                  exact ⟨rfl, B5.out.trans (hB.mono B5.out.size)⟩
end Go.Proofs.YtcjaghnajjoacaaDoor

/- Package expr: Normal. -/
import Derived.Test.YtpkjfdgjmcphmaaDoorVEr
namespace Go.Proofs.YtpkjfdgjmcphmaaDoor
open Go.RowKit Bset Tm

/-- No kid of node i is one that is opened there. -/
def okN (A : List Nd) (i : Nat) : Bool := (kidsN A i).all fun k => !opens (hdAt A k).kind (hdAt A i).kind
def nmlA (A : List Nd) : Bool := (List.range A.length).all (okN A)
theorem nml_tau {A : List Nd} (hK : Dec (kidsN A)) : ∀ i, nml (tau A i) = true ↔ ∀ j ∈ post (X (kidsN A) i), okN A j = true := by
  intro i
  induction i using Nat.strongRecOn with
  | ind i ih =>
    rw [tau_eq hK, nml, Bool.and_eq_true, nmls_iff, post_X hK]
    have kd_tau : ∀ k, kd (tau A k) = (hdAt A k).kind := fun k => by rw [tau_eq hK]; rfl
    constructor
    · rintro ⟨h1, h2⟩ j hj
      rcases List.mem_append.1 hj with hj | hj
      · obtain ⟨k, hk, hj⟩ := List.mem_flatMap.1 hj
        exact (ih k (hK i k hk)).1 (h2 _ (List.mem_map.2 ⟨k, hk, rfl⟩)) j hj
      · rw [List.mem_singleton.1 hj]
        unfold okN
        rw [List.all_eq_true] at h1 ⊢
        intro k hk
        have := h1 _ (List.mem_map.2 ⟨k, hk, rfl⟩)
        rwa [kd_tau] at this
    · intro h
      refine ⟨?_, fun t ht => ?_⟩
      · rw [List.all_eq_true]
        intro t ht
        obtain ⟨k, hk, rfl⟩ := List.mem_map.1 ht
        have := h i (List.mem_append_right _ (by simp))
        unfold okN at this
        rw [kd_tau]
        exact List.all_eq_true.1 this k hk
      · obtain ⟨k, hk, rfl⟩ := List.mem_map.1 ht
        exact (ih k (hK i k hk)).2 fun j hj => h j (List.mem_append_left _ (List.mem_flatMap.2 ⟨k, hk, hj⟩))
theorem nml_right {T : Ar} (h : rightB T = true) : nml (tree T) = nmlA T.nodes := by
  have hR := rightB_iff.1 h
  have hk := hR.2.k
  have hp := hk.pos
  rw [Bool.eq_iff_iff]
  unfold tree nmlA
  rw [nml_tau hk.dec, List.all_eq_true, show T.root.toNat = T.nodes.length - 1 by rw [hR.1]; omega]
  exact ⟨fun h j hj => h j (hk.perm.mem_iff.2 hj), fun h j hj => h j (hk.perm.mem_iff.1 hj)⟩
theorem okN_at {A : List Nd} {i : Nat} (hi : i < A.length) : okN A i = A[i].kids.all fun k => !opens (hdAt A k.toNat).kind A[i].hd.kind := by
  unfold okN
  rw [kidsN_some (n := A[i]) (by simp [hi]), hdAt_some (n := A[i]) (by simp [hi]), List.all_map]
  rfl

set_option maxRecDepth 100000 in
set_option maxHeartbeats 8000000 in
theorem normal_any (v : Value) (T : Ar) (w : World) (hv : Tree w v T) (hok : OkA T.nodes) (hE : Env w) :
    Calls Tryd.prog 61 #[v] w fun e w' => e = .returned (.bool (rightB T && nmlA T.nodes)) ∧ Below w.heap.size w w' := by
  obtain ⟨nv, rfl, hn⟩ := hv
  obtain ⟨A, r⟩ := T
  dsimp only at hn hok ⊢
  obtain ⟨p, cap, rfl⟩ := hn.len
  have b0 := (Below.refl w.heap.size w).alloc (Nat.le_refl _) (.cells #[.slice p A.length cap, .int .i64 r] 26)
  have k0 := Cl.new w 26 #[.slice p A.length cap, .int .i64 r]
  obtain ⟨⟨y0, y1⟩, yf⟩ := k0.two
  have hRt := right_at' (treeV (.slice p A.length cap) r) ⟨A, r⟩ _ ⟨_, rfl, hn.below b0⟩ hok (hE.below b0)
  obtain ⟨B, hB⟩ : ∃ B, B = rightB ⟨A, r⟩ := ⟨_, rfl⟩
  rw [← hB] at hRt ⊢
  have hlen := hok.len
  have hkinds := hok.kids
  clear hok
  cases B with
  | false =>
    clear hB hn hE k0 hkinds
    go_enter Tryd.func61, Tryd.ntmps61
    go_wp2_with (go_at_call 18; refine hRt.mono ?_; rintro e w1 ⟨rfl, hb⟩; have B1 := b0.trans (hb.mono b0.size))
    go_ret
    exact ⟨rfl, B1⟩
  | true =>
    have hlow := (rightB_iff.1 hB.symm).2.low
    obtain ⟨Z, hZ⟩ : ∃ Z, Z = nmlA A := ⟨_, rfl⟩
    have hZ0 : ∀ i, i < A.length → okN A i = false → Z = false := fun i hi h => by
      rw [hZ]
      unfold nmlA
      cases h2 : (List.range A.length).all (okN A) with
      | false => rfl
      | true => rw [List.all_eq_true.1 h2 i (List.mem_range.2 hi)] at h; cases h
    have hZ1 : (∀ i, i < A.length → okN A i = true) → Z = true := fun h => by
      rw [hZ]
      exact List.all_eq_true.2 fun i hi => h i (List.mem_range.1 hi)
    rw [← hZ, Bool.true_and]
    have HZ0 := Lib.hid hZ0
    have HZ1 := Lib.hid hZ1
    have HLOW := Lib.hid hlow
    have HKD := Lib.hid hkinds
    clear hB hZ hZ0 hZ1 hlow hkinds
    go_enter Tryd.func61, Tryd.ntmps61
    go_wp2_with (go_at_call 18; refine hRt.mono ?_; rintro e w1 ⟨rfl, hb⟩
                 have B1 := b0.trans (hb.mono b0.size)
                 have k1 := k0.below hb k0.lt
                 clear hb y0 y1 yf hRt
                 obtain ⟨⟨y0, y1⟩, yf⟩ := k1.two)
    clear y0 y1 yf b0 k0
    go_loopw [13] (fun v W => ∃ i : Nat, v = .int .i64 i ∧ i ≤ A.length ∧ Below w.heap.size w W ∧ Cl W w.heap.size 26 #[.slice p A.length cap, .int .i64 r] ∧ ∀ j, j < i → okN A j = true) (fun v _ => A.length - (intOf v).toNat)
    case atStart => exact ⟨0, rfl, Nat.zero_le _, B1, k1, fun j h => by omega⟩
    case round =>
      obtain ⟨i, rfl, hi, hB, kT, hdone⟩ := hrel
      clear B1 k1
      by_cases hlt : i < A.length
      · have hA : A ≠ [] := fun e => by subst e; simp at hlt
        obtain ⟨p', cap', e, hh⟩ := hn
        obtain ⟨rfl, _, rfl⟩ : p = p' ∧ A.length = A.length ∧ cap = cap' := by simpa using e
        rcases hh with hh | ⟨b, off, rfl, hcell⟩
        · exact absurd hh hA
        · obtain ⟨kv, hN, hI⟩ := hcell i hlt
          obtain ⟨c0, c1, c2, c3, c4, c5, c6, c7, c8⟩ := hN.keep hB.block
          obtain ⟨p2, cap2, rfl⟩ := hI.len
          have hi0 : (0 : Int) ≤ (i : Int) := by omega
          have hi1 : (i : Int) < (A.length : Int) := by omega
          have HD := Lib.hid hdone
          have HC := Lib.hid hcell
          have hw1 : IntKind.i64.wrap ((i : Int) + 1) = ((i + 1 : Nat) : Int) := by rw [IntWalk.i64_in _ (by omega)]; omega
          have B2 := hB.trans (((Below.refl wr.heap.size wr).alloc (Nat.le_refl _) (.cells (nodeC A[i].hd (.slice p2 A[i].kids.length cap2)) 38)).mono hB.size)
          have kT2 := kT.alloc (.cells (nodeC A[i].hd (.slice p2 A[i].kids.length cap2)) 38)
          have kN2 := Cl.new wr 38 (nodeC A[i].hd (.slice p2 A[i].kids.length cap2))
          have hAi : A[i]? = some A[i] := by simp [hlt]
          have hoN := okN_at hlt
          have hkl := HLOW.out i A[i] hAi
          have hll := HKD.out A[i] (List.getElem_mem hlt)
          clear hdone hcell e hN
          go_wp2
          generalize wr.alloc _ = W1 at *
          generalize wr.heap.size = gN at *
          clear c0 c1 c2 c3 c4 c5 c6 c7 c8 kT hB hAi
          generalize A[i].hd = hd at *
          generalize A[i].kids = l at *
          have HON := Lib.hid hoN
          have HKL := Lib.hid hkl
          clear hoN hkl
          go_loopw [20] (fun v W => ∃ q : Nat, v = .int .i64 q ∧ q ≤ l.length ∧ Below w.heap.size w W ∧ Cl W w.heap.size 26 #[.slice (some ⟨b, off, none⟩) A.length cap, .int .i64 r] ∧ Cl W gN 38 (nodeC hd (.slice p2 l.length cap2)) ∧ ∀ k ∈ l.take q, opens (hdAt A k.toNat).kind hd.kind = false) (fun v _ => l.length - (intOf v).toNat)
          case atStart => exact ⟨0, rfl, Nat.zero_le _, B2, kT2, kN2, by simp⟩
          case round =>
            clear B2 kT2 kN2
            obtain ⟨q, rfl, hq, hB, kT, kN, hqd⟩ := hrel
            by_cases hql : q < l.length
            · obtain ⟨p9, c9, e9, hh9⟩ := hI
              obtain ⟨rfl, rfl⟩ : p2 = p9 ∧ cap2 = c9 := by simpa using e9
              rcases hh9 with hh9 | ⟨bk, ok, rfl, hck⟩
              · rw [hh9] at hql
                simp at hql
              · have x9 := hck q hql
                have hk9 := HKL.out l[q] (List.getElem_mem hql)
                have htk : l.take (q + 1) = l.take q ++ [l[q]] := List.take_succ_eq_append_getElem hql
                obtain ⟨k, hk⟩ : ∃ k, k = l[q] := ⟨_, rfl⟩
                rw [← hk] at x9 hk9 htk
                have hmem : k ∈ l := hk ▸ List.getElem_mem hql
                obtain ⟨kk, rfl⟩ : ∃ kk : Nat, k = kk := ⟨k.toNat, by omega⟩
                have hkA : kk < A.length := by omega
                obtain ⟨kv', N', -⟩ := HC.out kk hkA
                have d0 := (N'.keep hB.block).c0
                have z9 := (hB.cell (p := ⟨bk, ok + q, none⟩) (cell_lt x9)).trans x9
                have hhd : hdAt A ((kk : Int).toNat) = A[kk].hd := by rw [Int.toNat_natCast]; exact hdAt_some (by simp [hkA])
                obtain ⟨O, hO⟩ : ∃ O, O = opens A[kk].hd.kind hd.kind := ⟨_, rfl⟩
                have hop := opened_any A[kk].hd.kind hd.kind
                rw [← hO] at hop
                have HO := Lib.hid hO
                clear hO
                obtain ⟨⟨y0, y1⟩, yf⟩ := kT.two
                obtain ⟨⟨g0, g1, g2, g3, g4, g5, g6, g7, g8⟩, gf⟩ := kN.nine
                have hq0 : (0 : Int) ≤ (q : Int) := by omega
                have hq1 : (q : Int) < (l.length : Int) := by omega
                have hk0 : (0 : Int) ≤ (kk : Int) := by omega
                have hk1 : (kk : Int) < (A.length : Int) := by omega
                have HQ := Lib.hid hqd
                have HT := Lib.hid htk
                have HH := Lib.hid hhd
                have HM := Lib.hid hmem
                have hwq : IntKind.i64.wrap ((q : Int) + 1) = ((q + 1 : Nat) : Int) := by rw [IntWalk.i64_in _ (by omega)]; omega
                clear hqd htk hhd hmem hck N' x9 hk9 hk e9 y1 yf g1 g2 g3 g4 g5 g6 g7 g8 gf
                go_wp2
                go_region_held3 (fun w' => w'.cell? ⟨w.heap.size, 0, none⟩ = some (.slice (some ⟨b, off, none⟩) A.length cap) ∧ w'.cell? ⟨b, off + kk * 9, none⟩ = some (.int .u8 A[kk].hd.kind) ∧ w'.cell? ⟨gN, 0, none⟩ = some (.int .u8 hd.kind))
                  (first | exact ⟨y0, d0, g0⟩ | assumption)
                  (first | (go_at_call 94; refine (hop _).mono ?_; rintro e w' ⟨rfl, rfl⟩))
                clear hop y0 d0 g0 z9 hk0 hk1 hq0 hq1
                cases O with
                | true =>
                  go_wp2
                  go_ret
                  refine ⟨?_, hB.drew⟩
                  rw [HZ0.out i hlt (by
                    rw [HON.out]
                    cases ha : l.all fun k => !opens (hdAt A k.toNat).kind hd.kind with
                    | false => rfl
                    | true =>
                      have := List.all_eq_true.1 ha _ HM.out
                      rw [HH.out, ← HO.out] at this
                      cases this)]
                  rfl
                | false =>
                  go_wp2
                  refine ⟨⟨q + 1, by go_num, by omega, hB.drew, kT.drew, kN.drew, fun k hk => ?_⟩, by simp [intOf]; omega⟩
                  rw [HT.out] at hk
                  rcases List.mem_append.1 hk with hk | hk
                  · exact HQ.out k hk
                  · rw [List.mem_singleton.1 hk, HH.out, ← HO.out]
            · obtain rfl : q = l.length := by omega
              rw [List.take_length] at hqd
              have hi2 : okN A i = true := by
                rw [HON.out, List.all_eq_true]
                intro k hk
                rw [hqd k hk]
                rfl
              have H2 := Lib.hid hi2
              clear hi2 hqd kN
              go_wp2
              refine ⟨⟨i + 1, by go_num, by omega, hB, kT, fun j hj => ?_⟩, by simp [intOf]; omega⟩
              by_cases hji : j < i
              · exact HD.out j hji
              · obtain rfl : j = i := by omega
                exact H2.out
      · obtain rfl : i = A.length := by omega
        have hz := HZ1.out hdone
        subst hz
        clear hdone kT
        go_wp2
        go_ret
        exact ⟨rfl, hB⟩
end Go.Proofs.YtpkjfdgjmcphmaaDoor

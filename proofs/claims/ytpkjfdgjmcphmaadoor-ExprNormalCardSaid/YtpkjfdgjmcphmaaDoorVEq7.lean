/- Package expr: the maker's tree. -/
import Derived.Test.YtpkjfdgjmcphmaaDoorVEq3
import Derived.Maps.OwnIn
import Derived.Maps.AppendAt
namespace Go.Proofs.YtpkjfdgjmcphmaaDoor
open Go.RowKit Go.Shelf Bset Tm

attribute [local go_sem] Oper.semAt_some

set_option maxRecDepth 100000 in
set_option maxHeartbeats 16000000 in
theorem mtree_in (g : Gm) (kv : Nat → Value) (st : Nat) (s : St) (r : Nat) (S : List Nat) (w : World) (h : Mk g kv st s w) (hr : r < g.n) (hn : g.n ≤ 2147483647) (hcap : g.n ≤ g.c) (hC : Cls s S r) (hS : Srt S) (hm : ∀ x ∈ S, (s.rw x).many ≤ 2147483647) :
    CallsIn Fence.wide 4 Tryd.prog 93 #[.pointer (some ⟨g.m, 0, none⟩), .int .i64 r] w fun e w' => ∃ v C, e = .returned (treeV v ((S.length : Int) - 1)) ∧ Made w.heap.size w' v C ∧ C.map Prod.fst = S.map (ndOf s S) ∧ Below w.heap.size w w' := by
  have h1 : 1 ≤ 4 := by omega
  obtain ⟨N, hN⟩ : ∃ N, N = r + 1 := ⟨_, rfl⟩
  have hmk := make_ints N (by omega)
  have hw1 : IntKind.i64.wrap ((r : Int) + 1) = (N : Int) := by rw [IntWalk.i64_in _ (by omega)]; omega
  have hr0 : (0 : Int) ≤ (r : Int) := by omega
  have hN0 : (0 : Int) ≤ (N : Int) := by omega
  have hN1 : (N : Int) ≤ (g.c : Int) := by omega
  have hwi := fun W (hW : Mk g kv st s W) => mwithin_any g kv st s r S W hW hr hn hC hm
  rw [← hN] at hwi
  have k0 := Cl.new w 26 #[.slice none 0 0, .int .i64 0]
  have b0 := (Below.refl w.heap.size w).alloc (Nat.le_refl _) (.cells #[.slice none 0 0, .int .i64 0] 26)
  have m0 := h.alloc (.cells #[.slice none 0 0, .int .i64 0] 26)
  have HN := Lib.hid hN
  clear hN
  refine callsIn_of_wp_marks Tryd.func93 rfl trivial ?_ rfl
  simp only [Tryd.ntmps93, List.size_toArray, List.length_cons, List.length_nil, Nat.reduceAdd, Nat.reduceSub, Array.replicate_succ, Array.replicate_zero, List.push_toArray, List.append_toArray, List.nil_append, List.cons_append]
  gi_wp2_with fail
  refine ⟨trivial, ?_⟩
  refine (callsIn_wide.2 (hwi _ m0)).mono ?_
  rintro e w1 ⟨gS, rfl, rS, hgS, hb1⟩
  have k1 := k0.below hb1 k0.lt
  have b1 := b0.trans (hb1.mono b0.size)
  have m1 := m0.below hb1
  have rP := World.rowIs_made w1 (.int .i64 0) N 3
  have hgS' : w.heap.size + 1 ≤ gS := by simpa using hgS
  have q0 := (m1.alloc (.cells (madeCells #[.int .i64 0] N) 3)).alloc (.cells #[.slice (some ⟨w1.heap.size, 0, none⟩) N N] 36)
  obtain ⟨x0, x1, x2, x3⟩ := q0.four
  clear hb1 k0 b0 m0 hgS
  gi_wp2
  have kQ : Cl ((w1.alloc (.cells (madeCells #[.int .i64 0] N) 3)).alloc (.cells #[.slice (some ⟨w1.heap.size, 0, none⟩) N N] 36)) (w1.heap.size + 1) 36 #[.slice (some ⟨w1.heap.size, 0, none⟩) N N] := Cl.new' (by simp) _ _
  have rP2 := rP.alloc (.cells #[.slice (some ⟨w1.heap.size, 0, none⟩) N N] 36)
  have rS2 := (rS.alloc (.cells (madeCells #[.int .i64 0] N) 3)).alloc (.cells #[.slice (some ⟨w1.heap.size, 0, none⟩) N N] 36)
  have k2 := (k1.alloc (.cells (madeCells #[.int .i64 0] N) 3)).alloc (.cells #[.slice (some ⟨w1.heap.size, 0, none⟩) N N] 36)
  have b2 := (b1.alloc b1.size (.cells (madeCells #[.int .i64 0] N) 3)).alloc (by have := b1.size; simp; omega) (.cells #[.slice (some ⟨w1.heap.size, 0, none⟩) N N] 36)
  have hgSP : gS < w1.heap.size := rS.lt
  have hgP : w.heap.size < w1.heap.size := k1.lt
  have hsz : w1.heap.size + 2 ≤ ((w1.alloc (.cells (madeCells #[.int .i64 0] N) 3)).alloc (.cells #[.slice (some ⟨w1.heap.size, 0, none⟩) N N] 36)).heap.size := by simp
  generalize hW0 : (w1.alloc (.cells (madeCells #[.int .i64 0] N) 3)).alloc (.cells #[.slice (some ⟨w1.heap.size, 0, none⟩) N N] 36) = W0 at *
  clear hW0 rP rS k1 b1 m1 q0 x0 x1 x2 x3
  generalize w1.heap.size = gP at *
  clear hmk hwi hw1
  obtain ⟨iI, hiI, hzI0, hzI1, hzI2⟩ := info_parts infoInt
  obtain ⟨iN, hiN, hzN0, hzN1, hzN2⟩ := info_parts infoNode
  refine wpIn_loop (fun a W => ∃ (i : Nat) (L : List Nat) (C : List (Nd × Value)) (p7 : Option Addr) (m7 c7 : Nat) (u8 u9 u10 u26 u27 u28 u29 u30 u31 u32 u33 u34 u35 u36 u37 u38 u39 u40 u41 u42 u43 u44 u45 u46 u47 u48 u49 u50 u51 u52 u53 u54 u55 u56 u57 u58 : Value), a = { tmps := #[.pointer (some ⟨g.m, 0, none⟩), .int .i64 r, undef, undef, .pointer (some ⟨w.heap.size, 0, none⟩), .slice (some ⟨gS, 0, none⟩) N N, .pointer (some ⟨gP + 1, 0, none⟩), .slice p7 m7 c7, u8, u9, u10, .pointer (some ⟨g.m, 0, none⟩), .int .i64 r, .slice (some ⟨gS, 0, none⟩) N N, .int .i64 r, .int .i64 N, .slice (some ⟨gP, 0, none⟩) N N, .pointer (some ⟨g.m, 0, none⟩), .pointer (some ⟨g.m, 0, none⟩), .pointer (some ⟨g.m, 0, none⟩), .slice (some ⟨g.N, 0, none⟩) g.n g.c, .int .i64 r, .int .i64 N, .slice (some ⟨g.N, 0, none⟩) N g.c, .int .i64 N, .int .i64 i, u26, u27, u28, u29, u30, u31, u32, u33, u34, u35, u36, u37, u38, u39, u40, u41, u42, u43, u44, u45, u46, u47, u48, u49, u50, u51, u52, u53, u54, u55, u56, u57, u58, undef, undef, undef, undef, undef], defers := L.map mark } ∧ m7 = C.length ∧ i ≤ N ∧ Made (gP + 2) W (.slice p7 C.length c7) C ∧ C.map Prod.fst = (S.filter fun x => decide (x < i)).map (ndOf s S) ∧ W.rowIs gP 3 N (fun j => .int .i64 (plF S i j : Nat)) ∧ Cl W (gP + 1) 36 #[.slice (some ⟨gP, 0, none⟩) N N] ∧ W.rowIs gS 4 N (fun j => .bool (decide (j ∈ S))) ∧ Cl W w.heap.size 26 #[.slice none 0 0, .int .i64 0] ∧ Mks L W ∧ (∀ D ∈ L, gP + 2 ≤ D) ∧ Below w.heap.size w W) (fun a _ => N - (intOf (a.tmps.getD 25 undef)).toNat) ?start ?round
  case start =>
    refine ⟨0, [], [], none, 0, 0, _, _, _, _, _, _, _, _, _, _, _, _, _, _, _, _, _, _, _, _, _, _, _, _, _, _, _, _, _, _, _, _, _, _, _, _, rfl, rfl, Nat.zero_le _, Made.nil _ _, ?_, rP2.congr fun j _ => by simp [plF], kQ, rS2, k2, Mks.nil _, (fun _ h => by cases h), b2⟩
    rw [List.filter_eq_nil_iff.2 fun x _ => by simp]
    rfl
  case round =>
  clear rP2 kQ rS2 k2 b2 hsz
  rintro a W ⟨i, L, C, p7, m7, c7, u8, u9, u10, u26, u27, u28, u29, u30, u31, u32, u33, u34, u35, u36, u37, u38, u39, u40, u41, u42, u43, u44, u45, u46, u47, u48, u49, u50, u51, u52, u53, u54, u55, u56, u57, u58, rfl, rfl, hi, hMd, hCm, hP, hQ, hSr, hR, hmks, hge, hB⟩
  have hWs := hQ.lt
  by_cases hlt : i < N
  · have hig : i < g.n := by have := HN.out; omega
    have hM := h.below hB
    obtain ⟨kv', hk1, hk2⟩ := hM.nd
    obtain ⟨pk, nk, ck, hkv⟩ := hk1.2 i
    obtain ⟨c0, c1, c2, c3, c4, c5, c6, c7', c8⟩ := (hk2.at hig).1
    rw [hkv] at c8
    have hi0 : (0 : Int) ≤ (i : Int) := by omega
    have hi1 : (i : Int) < (N : Int) := by omega
    have hwi : IntKind.i64.wrap ((i : Int) + 1) = ((i + 1 : Nat) : Int) := by rw [IntWalk.i64_in _ (by have := HN.out; omega)]; omega
    have s0 := (hSr.alloc (.cells (nodeC (s.hd i) (.slice pk nk ck)) 38)).cell hlt
    have hin : i + 1 ≤ N := hlt
    clear hk1 hk2 hkv
    by_cases hiS : i ∈ S
    · rw [decide_eq_true hiS] at s0
      have hmi := hm i hiS
      gi_wp2_with fail
      refine ⟨trivial, ?_⟩
      refine (callsIn_wide.2 (mkids_any g i _)).mono ?_
      rintro e w' ⟨rfl, rfl⟩
      gi_wp2
      have st1 := ((Below.refl W.heap.size W).alloc (Nat.le_refl _) (.cells (nodeC (s.hd i) (.slice none 0 0)) 38)).alloc (by simp) (.cells #[.pointer (some ⟨g.m, 0, none⟩)] 92)
      have st2 := st1.alloc (by simp; omega) (.cells #[.int .i64 i] 3)
      have kN : Cl (((W.alloc (.cells (nodeC (s.hd i) (.slice none 0 0)) 38)).alloc (.cells #[.pointer (some ⟨g.m, 0, none⟩)] 92)).alloc (.cells #[.int .i64 i] 3)) W.heap.size 38 (nodeC (s.hd i) (.slice none 0 0)) := ((Cl.new W _ _).alloc _).alloc _
      have q1 : Cl (((W.alloc (.cells (nodeC (s.hd i) (.slice none 0 0)) 38)).alloc (.cells #[.pointer (some ⟨g.m, 0, none⟩)] 92)).alloc (.cells #[.int .i64 i] 3)) (W.heap.size + 1) 92 #[.pointer (some ⟨g.m, 0, none⟩)] := (Cl.new' (by simp) _ _).alloc _
      have q2 : Cl (((W.alloc (.cells (nodeC (s.hd i) (.slice none 0 0)) 38)).alloc (.cells #[.pointer (some ⟨g.m, 0, none⟩)] 92)).alloc (.cells #[.int .i64 i] 3)) (W.heap.size + 1 + 1) 3 #[.int .i64 i] := Cl.new' (by simp) _ _
      have hsz2 : (((W.alloc (.cells (nodeC (s.hd i) (.slice none 0 0)) 38)).alloc (.cells #[.pointer (some ⟨g.m, 0, none⟩)] 92)).alloc (.cells #[.int .i64 i] 3)).heap.size = W.heap.size + 3 := by simp
      have hall : ∀ b ∈ (W.heap.size + 1) :: (W.heap.size + 1 + 1) :: g.all, b < W.heap.size + 3 ∧ b ∉ [W.heap.size] := fun b hb => by
        rw [List.mem_cons, List.mem_cons] at hb
        rw [List.mem_singleton]
        rcases hb with rfl | rfl | hb
        · omega
        · omega
        · have := hM.lt b hb
          omega
      have hMst := hM.below st2
      generalize hW1 : ((W.alloc (.cells (nodeC (s.hd i) (.slice none 0 0)) 38)).alloc (.cells #[.pointer (some ⟨g.m, 0, none⟩)] 92)).alloc (.cells #[.int .i64 i] 3) = W1 at *
      clear hW1 st1
      have f1 : Fr [W.heap.size] W W1 := Fr.below st2
      have hP1 := f1.row hP (by simp; have := hP.lt; omega)
      have hQ1 := f1.cl hQ (by simp; omega)
      refine wpIn_rangeFunc_ownG rfl h1 (gf := 121) (lb := #[.pointer (some ⟨W.heap.size + 1, 0, none⟩), .pointer (some ⟨W.heap.size + 1 + 1, 0, none⟩)]) rfl trivial (enters_of Tryd.func121 (by kernel_rfl) rfl)
        (kids_stops (W.heap.size + 3) (W.heap.size + 1) (W.heap.size + 1 + 1) [W.heap.size] g kv st s i N (s.rw i).many W1 hig hn hmi (Nat.le_refl _) (fun k hk => by have := (hC.kid i hiS k hk).2; omega) hall ⟨hMst, q1, q2⟩) Kq.trans (Kq.obj (by omega)) (Below.refl _ _) (fun _ => rfl)
        (fun pre V => ∃ kp, Cl V W.heap.size 38 (nodeC (s.hd i) kp) ∧ V.ownsRow W1.heap.size 3 1 kp pre.length (pre.map fun x => Value.int .i64 (plF S i x.1 : Nat)) ∧ Fr [W.heap.size] W1 V)
        (fun _ _ _ => False)
        (fun pre V V' row hpr hg hr' => ?own2) (fun _ _ _ _ _ hs _ _ => hs) ⟨_, kN, World.ownsRow_nil _ _ _ _, Fr.refl _ _⟩ ?a2 ?assign2 ?body2 ?done2 ?stop2
      case assign2 =>
        intro l x V K hK
        gi_wp2
        exact hK
      case own2 =>
        obtain ⟨kp, a1, a2, a3⟩ := hpr
        have keyc : ∀ (b : Nat) cs t f, V.heap[b]? = some (Obj.cells cs t f) → V'.heap[b]? = V.heap[b]? := fun b cs t f hb => hg.block b (lt_of_block hb) fun e => by
          obtain ⟨_, o, ho, hc⟩ := hr' b e.symm
          rw [hb] at ho
          cases ho
          simp [Obj.isCells] at hc
        exact ⟨kp, (keyc _ _ _ _ a1).trans a1, own_cells a2 keyc, a3.grown hg fun r e => (hr' r e).1⟩
      case body2 =>
        rintro l pre x V ⟨kp, a1, a2, a3⟩ hltp
        obtain ⟨pk2, ck2, rfl⟩ := own_slice a2
        obtain ⟨⟨y0, y1, y2, y3, y4, y5, y6, y7, y8⟩, yf⟩ := a1.nine
        have hQ3 := a3.cl hQ1 (by simp; omega)
        have hP3 := a3.row hP1 (by simp; omega)
        obtain ⟨q0, qf⟩ := hQ3.oneC
        have e0 := hP3.cell x.2
        have hx0 : (0 : Int) ≤ (x.1 : Int) := by omega
        have hx1 : (x.1 : Int) < (N : Int) := by have := x.2; omega
        have hWV := a3.size
        have w8 := (a1.alloc (.cells #[.int .i64 (plF S i x.1 : Nat)] 3)).nine.1.2.2.2.2.2.2.2.2
        obtain ⟨z, hz⟩ : ∃ z, z = plF S i x.1 := ⟨_, rfl⟩
        rw [← hz] at e0 w8
        have HZ := Lib.hid hz
        have hplen : pre.length ≤ 2147483647 := by omega
        have HPL := Lib.hid hplen
        clear hz hplen
        gi_wp2
        refine wpIn_region_any (by kernel_rfl) ?_
        change wpAnyIn _ _ _ _ _ _ _ _ _ (World.drew _)
        refine (fun (tail : ?GT) => ?mainT) ?tailT
        case mainT =>
          refine wpAnyIn_ready (rs := [0, 2, 3]) (by kernel_rfl) (by simp) ?_
          refine (AllReadyIn.cons rfl (fun K hK => ?b160) (AllReadyIn.cons rfl (fun K hK => ?b161) (AllReadyIn.cons rfl (fun K hK => ?b162) AllReadyIn.nil)))
          case b160 =>
            try simp only [List.getElem_toArray, List.getElem_cons_zero]
            go_simp
            refine hK _ _ ?_
            clear hK K
            try simp only [Act.put, List.getElem_toArray, List.getElem_cons_zero, List.getElem_cons_succ, List.setIfInBounds_toArray, List.set_cons_zero, List.set_cons_succ]
            refine wpAnyIn_ready (rs := [1, 2, 3]) (by kernel_rfl) (by simp) ?_
            refine (AllReadyIn.cons rfl (fun K hK => ?b49) (AllReadyIn.cons rfl (fun K hK => ?b50) (AllReadyIn.cons rfl (fun K hK => ?b51) AllReadyIn.nil)))
            case b49 =>
              try simp only [List.getElem_toArray, List.getElem_cons_zero, List.getElem_cons_succ]
              go_simp
              refine hK _ _ ?_
              clear hK K
              try simp only [Act.put, List.getElem_toArray, List.getElem_cons_zero, List.getElem_cons_succ, List.setIfInBounds_toArray, List.set_cons_zero, List.set_cons_succ]
              refine wpAnyIn_ready (rs := [2, 3]) (by kernel_rfl) (by simp) ?_
              refine (AllReadyIn.cons rfl (fun K hK => ?b9) (AllReadyIn.cons rfl (fun K hK => ?b10) AllReadyIn.nil))
              case b9 =>
                try simp only [List.getElem_toArray, List.getElem_cons_zero, List.getElem_cons_succ]
                go_simp
                refine hK _ _ ?_
                clear hK K
                try simp only [Act.put, List.getElem_toArray, List.getElem_cons_zero, List.getElem_cons_succ, List.setIfInBounds_toArray, List.set_cons_zero, List.set_cons_succ]
                refine wpAnyIn_ready (rs := [3]) (by kernel_rfl) (by simp) ?_
                refine (AllReadyIn.cons rfl (fun K hK => ?b4) AllReadyIn.nil)
                case b4 =>
                  try simp only [List.getElem_toArray, List.getElem_cons_zero, List.getElem_cons_succ]
                  go_simp
                  refine hK _ _ ?_
                  clear hK K
                  try simp only [Act.put, List.getElem_toArray, List.getElem_cons_zero, List.getElem_cons_succ, List.setIfInBounds_toArray, List.set_cons_zero, List.set_cons_succ]
                  refine wpAnyIn_ready (rs := [4]) (by kernel_rfl) (by simp) ?_
                  refine (AllReadyIn.cons rfl (fun K hK => ?b3) AllReadyIn.nil)
                  case b3 =>
                    try simp only [List.getElem_toArray, List.getElem_cons_zero, List.getElem_cons_succ]
                    go_simp
                    refine hK _ _ ?_
                    clear hK K
                    try simp only [Act.put, List.getElem_toArray, List.getElem_cons_zero, List.getElem_cons_succ, List.setIfInBounds_toArray, List.set_cons_zero, List.set_cons_succ]
                    refine wpAnyIn_ready (rs := [5]) (by kernel_rfl) (by simp) ?_
                    refine (AllReadyIn.cons rfl (fun K hK => ?b2) AllReadyIn.nil)
                    case b2 =>
                      try simp only [List.getElem_toArray, List.getElem_cons_zero, List.getElem_cons_succ]
                      go_simp
                      refine hK _ _ ?_
                      clear hK K
                      try simp only [Act.put, List.getElem_toArray, List.getElem_cons_zero, List.getElem_cons_succ, List.setIfInBounds_toArray, List.set_cons_zero, List.set_cons_succ]
                      refine wpAnyIn_ready (rs := [6]) (by kernel_rfl) (by simp) ?_
                      refine (AllReadyIn.cons rfl (fun K hK => ?b1) AllReadyIn.nil)
                      case b1 =>
                        try simp only [List.getElem_toArray, List.getElem_cons_zero, List.getElem_cons_succ]
                        go_simp
                        refine hK _ _ ?_
                        clear hK K
                        try simp only [Act.put, List.getElem_toArray, List.getElem_cons_zero, List.getElem_cons_succ, List.setIfInBounds_toArray, List.set_cons_zero, List.set_cons_succ]
                        exact tail
              case b10 =>
                try simp only [List.getElem_toArray, List.getElem_cons_zero, List.getElem_cons_succ]
                go_simp
                refine hK _ _ ?_
                clear hK K
                try simp only [Act.put, List.getElem_toArray, List.getElem_cons_zero, List.getElem_cons_succ, List.setIfInBounds_toArray, List.set_cons_zero, List.set_cons_succ]
                refine wpAnyIn_ready (rs := [2]) (by kernel_rfl) (by simp) ?_
                refine (AllReadyIn.cons rfl (fun K hK => ?b8) AllReadyIn.nil)
                case b8 =>
                  try simp only [List.getElem_toArray, List.getElem_cons_zero, List.getElem_cons_succ]
                  go_simp
                  refine hK _ _ ?_
                  clear hK K
                  try simp only [Act.put, List.getElem_toArray, List.getElem_cons_zero, List.getElem_cons_succ, List.setIfInBounds_toArray, List.set_cons_zero, List.set_cons_succ]
                  refine wpAnyIn_ready (rs := [4]) (by kernel_rfl) (by simp) ?_
                  refine (AllReadyIn.cons rfl (fun K hK => ?b7) AllReadyIn.nil)
                  case b7 =>
                    try simp only [List.getElem_toArray, List.getElem_cons_zero, List.getElem_cons_succ]
                    go_simp
                    refine hK _ _ ?_
                    clear hK K
                    try simp only [Act.put, List.getElem_toArray, List.getElem_cons_zero, List.getElem_cons_succ, List.setIfInBounds_toArray, List.set_cons_zero, List.set_cons_succ]
                    refine wpAnyIn_ready (rs := [5]) (by kernel_rfl) (by simp) ?_
                    refine (AllReadyIn.cons rfl (fun K hK => ?b6) AllReadyIn.nil)
                    case b6 =>
                      try simp only [List.getElem_toArray, List.getElem_cons_zero, List.getElem_cons_succ]
                      go_simp
                      refine hK _ _ ?_
                      clear hK K
                      try simp only [Act.put, List.getElem_toArray, List.getElem_cons_zero, List.getElem_cons_succ, List.setIfInBounds_toArray, List.set_cons_zero, List.set_cons_succ]
                      refine wpAnyIn_ready (rs := [6]) (by kernel_rfl) (by simp) ?_
                      refine (AllReadyIn.cons rfl (fun K hK => ?b5) AllReadyIn.nil)
                      case b5 =>
                        try simp only [List.getElem_toArray, List.getElem_cons_zero, List.getElem_cons_succ]
                        go_simp
                        refine hK _ _ ?_
                        clear hK K
                        try simp only [Act.put, List.getElem_toArray, List.getElem_cons_zero, List.getElem_cons_succ, List.setIfInBounds_toArray, List.set_cons_zero, List.set_cons_succ]
                        exact tail
            case b50 =>
              try simp only [List.getElem_toArray, List.getElem_cons_zero, List.getElem_cons_succ]
              go_simp
              refine hK _ _ ?_
              clear hK K
              try simp only [Act.put, List.getElem_toArray, List.getElem_cons_zero, List.getElem_cons_succ, List.setIfInBounds_toArray, List.set_cons_zero, List.set_cons_succ]
              refine wpAnyIn_ready (rs := [1, 3]) (by kernel_rfl) (by simp) ?_
              refine (AllReadyIn.cons rfl (fun K hK => ?b28) (AllReadyIn.cons rfl (fun K hK => ?b29) AllReadyIn.nil))
              case b28 =>
                try simp only [List.getElem_toArray, List.getElem_cons_zero, List.getElem_cons_succ]
                go_simp
                refine hK _ _ ?_
                clear hK K
                try simp only [Act.put, List.getElem_toArray, List.getElem_cons_zero, List.getElem_cons_succ, List.setIfInBounds_toArray, List.set_cons_zero, List.set_cons_succ]
                refine wpAnyIn_ready (rs := [3]) (by kernel_rfl) (by simp) ?_
                refine (AllReadyIn.cons rfl (fun K hK => ?b14) AllReadyIn.nil)
                case b14 =>
                  try simp only [List.getElem_toArray, List.getElem_cons_zero, List.getElem_cons_succ]
                  go_simp
                  refine hK _ _ ?_
                  clear hK K
                  try simp only [Act.put, List.getElem_toArray, List.getElem_cons_zero, List.getElem_cons_succ, List.setIfInBounds_toArray, List.set_cons_zero, List.set_cons_succ]
                  refine wpAnyIn_ready (rs := [4]) (by kernel_rfl) (by simp) ?_
                  refine (AllReadyIn.cons rfl (fun K hK => ?b13) AllReadyIn.nil)
                  case b13 =>
                    try simp only [List.getElem_toArray, List.getElem_cons_zero, List.getElem_cons_succ]
                    go_simp
                    refine hK _ _ ?_
                    clear hK K
                    try simp only [Act.put, List.getElem_toArray, List.getElem_cons_zero, List.getElem_cons_succ, List.setIfInBounds_toArray, List.set_cons_zero, List.set_cons_succ]
                    refine wpAnyIn_ready (rs := [5]) (by kernel_rfl) (by simp) ?_
                    refine (AllReadyIn.cons rfl (fun K hK => ?b12) AllReadyIn.nil)
                    case b12 =>
                      try simp only [List.getElem_toArray, List.getElem_cons_zero, List.getElem_cons_succ]
                      go_simp
                      refine hK _ _ ?_
                      clear hK K
                      try simp only [Act.put, List.getElem_toArray, List.getElem_cons_zero, List.getElem_cons_succ, List.setIfInBounds_toArray, List.set_cons_zero, List.set_cons_succ]
                      refine wpAnyIn_ready (rs := [6]) (by kernel_rfl) (by simp) ?_
                      refine (AllReadyIn.cons rfl (fun K hK => ?b11) AllReadyIn.nil)
                      case b11 =>
                        try simp only [List.getElem_toArray, List.getElem_cons_zero, List.getElem_cons_succ]
                        go_simp
                        refine hK _ _ ?_
                        clear hK K
                        try simp only [Act.put, List.getElem_toArray, List.getElem_cons_zero, List.getElem_cons_succ, List.setIfInBounds_toArray, List.set_cons_zero, List.set_cons_succ]
                        exact tail
              case b29 =>
                try simp only [List.getElem_toArray, List.getElem_cons_zero, List.getElem_cons_succ]
                go_simp
                refine hK _ _ ?_
                clear hK K
                try simp only [Act.put, List.getElem_toArray, List.getElem_cons_zero, List.getElem_cons_succ, List.setIfInBounds_toArray, List.set_cons_zero, List.set_cons_succ]
                refine wpAnyIn_ready (rs := [1, 4]) (by kernel_rfl) (by simp) ?_
                refine (AllReadyIn.cons rfl (fun K hK => ?b26) (AllReadyIn.cons rfl (fun K hK => ?b27) AllReadyIn.nil))
                case b26 =>
                  try simp only [List.getElem_toArray, List.getElem_cons_zero, List.getElem_cons_succ]
                  go_simp
                  refine hK _ _ ?_
                  clear hK K
                  try simp only [Act.put, List.getElem_toArray, List.getElem_cons_zero, List.getElem_cons_succ, List.setIfInBounds_toArray, List.set_cons_zero, List.set_cons_succ]
                  refine wpAnyIn_ready (rs := [4]) (by kernel_rfl) (by simp) ?_
                  refine (AllReadyIn.cons rfl (fun K hK => ?b17) AllReadyIn.nil)
                  case b17 =>
                    try simp only [List.getElem_toArray, List.getElem_cons_zero, List.getElem_cons_succ]
                    go_simp
                    refine hK _ _ ?_
                    clear hK K
                    try simp only [Act.put, List.getElem_toArray, List.getElem_cons_zero, List.getElem_cons_succ, List.setIfInBounds_toArray, List.set_cons_zero, List.set_cons_succ]
                    refine wpAnyIn_ready (rs := [5]) (by kernel_rfl) (by simp) ?_
                    refine (AllReadyIn.cons rfl (fun K hK => ?b16) AllReadyIn.nil)
                    case b16 =>
                      try simp only [List.getElem_toArray, List.getElem_cons_zero, List.getElem_cons_succ]
                      go_simp
                      refine hK _ _ ?_
                      clear hK K
                      try simp only [Act.put, List.getElem_toArray, List.getElem_cons_zero, List.getElem_cons_succ, List.setIfInBounds_toArray, List.set_cons_zero, List.set_cons_succ]
                      refine wpAnyIn_ready (rs := [6]) (by kernel_rfl) (by simp) ?_
                      refine (AllReadyIn.cons rfl (fun K hK => ?b15) AllReadyIn.nil)
                      case b15 =>
                        try simp only [List.getElem_toArray, List.getElem_cons_zero, List.getElem_cons_succ]
                        go_simp
                        refine hK _ _ ?_
                        clear hK K
                        try simp only [Act.put, List.getElem_toArray, List.getElem_cons_zero, List.getElem_cons_succ, List.setIfInBounds_toArray, List.set_cons_zero, List.set_cons_succ]
                        exact tail
                case b27 =>
                  try simp only [List.getElem_toArray, List.getElem_cons_zero, List.getElem_cons_succ]
                  go_simp
                  refine hK _ _ ?_
                  clear hK K
                  try simp only [Act.put, List.getElem_toArray, List.getElem_cons_zero, List.getElem_cons_succ, List.setIfInBounds_toArray, List.set_cons_zero, List.set_cons_succ]
                  refine wpAnyIn_ready (rs := [1, 5]) (by kernel_rfl) (by simp) ?_
                  refine (AllReadyIn.cons rfl (fun K hK => ?b24) (AllReadyIn.cons rfl (fun K hK => ?b25) AllReadyIn.nil))
                  case b24 =>
                    try simp only [List.getElem_toArray, List.getElem_cons_zero, List.getElem_cons_succ]
                    go_simp
                    refine hK _ _ ?_
                    clear hK K
                    try simp only [Act.put, List.getElem_toArray, List.getElem_cons_zero, List.getElem_cons_succ, List.setIfInBounds_toArray, List.set_cons_zero, List.set_cons_succ]
                    refine wpAnyIn_ready (rs := [5]) (by kernel_rfl) (by simp) ?_
                    refine (AllReadyIn.cons rfl (fun K hK => ?b19) AllReadyIn.nil)
                    case b19 =>
                      try simp only [List.getElem_toArray, List.getElem_cons_zero, List.getElem_cons_succ]
                      go_simp
                      refine hK _ _ ?_
                      clear hK K
                      try simp only [Act.put, List.getElem_toArray, List.getElem_cons_zero, List.getElem_cons_succ, List.setIfInBounds_toArray, List.set_cons_zero, List.set_cons_succ]
                      refine wpAnyIn_ready (rs := [6]) (by kernel_rfl) (by simp) ?_
                      refine (AllReadyIn.cons rfl (fun K hK => ?b18) AllReadyIn.nil)
                      case b18 =>
                        try simp only [List.getElem_toArray, List.getElem_cons_zero, List.getElem_cons_succ]
                        go_simp
                        refine hK _ _ ?_
                        clear hK K
                        try simp only [Act.put, List.getElem_toArray, List.getElem_cons_zero, List.getElem_cons_succ, List.setIfInBounds_toArray, List.set_cons_zero, List.set_cons_succ]
                        exact tail
                  case b25 =>
                    try simp only [List.getElem_toArray, List.getElem_cons_zero, List.getElem_cons_succ]
                    go_simp
                    refine hK _ _ ?_
                    clear hK K
                    try simp only [Act.put, List.getElem_toArray, List.getElem_cons_zero, List.getElem_cons_succ, List.setIfInBounds_toArray, List.set_cons_zero, List.set_cons_succ]
                    refine wpAnyIn_ready (rs := [1, 6]) (by kernel_rfl) (by simp) ?_
                    refine (AllReadyIn.cons rfl (fun K hK => ?b22) (AllReadyIn.cons rfl (fun K hK => ?b23) AllReadyIn.nil))
                    case b22 =>
                      try simp only [List.getElem_toArray, List.getElem_cons_zero, List.getElem_cons_succ]
                      go_simp
                      refine hK _ _ ?_
                      clear hK K
                      try simp only [Act.put, List.getElem_toArray, List.getElem_cons_zero, List.getElem_cons_succ, List.setIfInBounds_toArray, List.set_cons_zero, List.set_cons_succ]
                      refine wpAnyIn_ready (rs := [6]) (by kernel_rfl) (by simp) ?_
                      refine (AllReadyIn.cons rfl (fun K hK => ?b20) AllReadyIn.nil)
                      case b20 =>
                        try simp only [List.getElem_toArray, List.getElem_cons_zero, List.getElem_cons_succ]
                        go_simp
                        refine hK _ _ ?_
                        clear hK K
                        try simp only [Act.put, List.getElem_toArray, List.getElem_cons_zero, List.getElem_cons_succ, List.setIfInBounds_toArray, List.set_cons_zero, List.set_cons_succ]
                        exact tail
                    case b23 =>
                      try simp only [List.getElem_toArray, List.getElem_cons_zero, List.getElem_cons_succ]
                      go_simp
                      refine hK _ _ ?_
                      clear hK K
                      try simp only [Act.put, List.getElem_toArray, List.getElem_cons_zero, List.getElem_cons_succ, List.setIfInBounds_toArray, List.set_cons_zero, List.set_cons_succ]
                      refine wpAnyIn_ready (rs := [1]) (by kernel_rfl) (by simp) ?_
                      refine (AllReadyIn.cons rfl (fun K hK => ?b21) AllReadyIn.nil)
                      case b21 =>
                        try simp only [List.getElem_toArray, List.getElem_cons_zero, List.getElem_cons_succ]
                        go_simp
                        refine hK _ _ ?_
                        clear hK K
                        try simp only [Act.put, List.getElem_toArray, List.getElem_cons_zero, List.getElem_cons_succ, List.setIfInBounds_toArray, List.set_cons_zero, List.set_cons_succ]
                        exact tail
            case b51 =>
              try simp only [List.getElem_toArray, List.getElem_cons_zero, List.getElem_cons_succ]
              go_simp
              refine hK _ _ ?_
              clear hK K
              try simp only [Act.put, List.getElem_toArray, List.getElem_cons_zero, List.getElem_cons_succ, List.setIfInBounds_toArray, List.set_cons_zero, List.set_cons_succ]
              refine wpAnyIn_ready (rs := [1, 2]) (by kernel_rfl) (by simp) ?_
              refine (AllReadyIn.cons rfl (fun K hK => ?b47) (AllReadyIn.cons rfl (fun K hK => ?b48) AllReadyIn.nil))
              case b47 =>
                try simp only [List.getElem_toArray, List.getElem_cons_zero, List.getElem_cons_succ]
                go_simp
                refine hK _ _ ?_
                clear hK K
                try simp only [Act.put, List.getElem_toArray, List.getElem_cons_zero, List.getElem_cons_succ, List.setIfInBounds_toArray, List.set_cons_zero, List.set_cons_succ]
                refine wpAnyIn_ready (rs := [2]) (by kernel_rfl) (by simp) ?_
                refine (AllReadyIn.cons rfl (fun K hK => ?b33) AllReadyIn.nil)
                case b33 =>
                  try simp only [List.getElem_toArray, List.getElem_cons_zero, List.getElem_cons_succ]
                  go_simp
                  refine hK _ _ ?_
                  clear hK K
                  try simp only [Act.put, List.getElem_toArray, List.getElem_cons_zero, List.getElem_cons_succ, List.setIfInBounds_toArray, List.set_cons_zero, List.set_cons_succ]
                  refine wpAnyIn_ready (rs := [4]) (by kernel_rfl) (by simp) ?_
                  refine (AllReadyIn.cons rfl (fun K hK => ?b32) AllReadyIn.nil)
                  case b32 =>
                    try simp only [List.getElem_toArray, List.getElem_cons_zero, List.getElem_cons_succ]
                    go_simp
                    refine hK _ _ ?_
                    clear hK K
                    try simp only [Act.put, List.getElem_toArray, List.getElem_cons_zero, List.getElem_cons_succ, List.setIfInBounds_toArray, List.set_cons_zero, List.set_cons_succ]
                    refine wpAnyIn_ready (rs := [5]) (by kernel_rfl) (by simp) ?_
                    refine (AllReadyIn.cons rfl (fun K hK => ?b31) AllReadyIn.nil)
                    case b31 =>
                      try simp only [List.getElem_toArray, List.getElem_cons_zero, List.getElem_cons_succ]
                      go_simp
                      refine hK _ _ ?_
                      clear hK K
                      try simp only [Act.put, List.getElem_toArray, List.getElem_cons_zero, List.getElem_cons_succ, List.setIfInBounds_toArray, List.set_cons_zero, List.set_cons_succ]
                      refine wpAnyIn_ready (rs := [6]) (by kernel_rfl) (by simp) ?_
                      refine (AllReadyIn.cons rfl (fun K hK => ?b30) AllReadyIn.nil)
                      case b30 =>
                        try simp only [List.getElem_toArray, List.getElem_cons_zero, List.getElem_cons_succ]
                        go_simp
                        refine hK _ _ ?_
                        clear hK K
                        try simp only [Act.put, List.getElem_toArray, List.getElem_cons_zero, List.getElem_cons_succ, List.setIfInBounds_toArray, List.set_cons_zero, List.set_cons_succ]
                        exact tail
              case b48 =>
                try simp only [List.getElem_toArray, List.getElem_cons_zero, List.getElem_cons_succ]
                go_simp
                refine hK _ _ ?_
                clear hK K
                try simp only [Act.put, List.getElem_toArray, List.getElem_cons_zero, List.getElem_cons_succ, List.setIfInBounds_toArray, List.set_cons_zero, List.set_cons_succ]
                refine wpAnyIn_ready (rs := [1, 4]) (by kernel_rfl) (by simp) ?_
                refine (AllReadyIn.cons rfl (fun K hK => ?b45) (AllReadyIn.cons rfl (fun K hK => ?b46) AllReadyIn.nil))
                case b45 =>
                  try simp only [List.getElem_toArray, List.getElem_cons_zero, List.getElem_cons_succ]
                  go_simp
                  refine hK _ _ ?_
                  clear hK K
                  try simp only [Act.put, List.getElem_toArray, List.getElem_cons_zero, List.getElem_cons_succ, List.setIfInBounds_toArray, List.set_cons_zero, List.set_cons_succ]
                  refine wpAnyIn_ready (rs := [4]) (by kernel_rfl) (by simp) ?_
                  refine (AllReadyIn.cons rfl (fun K hK => ?b36) AllReadyIn.nil)
                  case b36 =>
                    try simp only [List.getElem_toArray, List.getElem_cons_zero, List.getElem_cons_succ]
                    go_simp
                    refine hK _ _ ?_
                    clear hK K
                    try simp only [Act.put, List.getElem_toArray, List.getElem_cons_zero, List.getElem_cons_succ, List.setIfInBounds_toArray, List.set_cons_zero, List.set_cons_succ]
                    refine wpAnyIn_ready (rs := [5]) (by kernel_rfl) (by simp) ?_
                    refine (AllReadyIn.cons rfl (fun K hK => ?b35) AllReadyIn.nil)
                    case b35 =>
                      try simp only [List.getElem_toArray, List.getElem_cons_zero, List.getElem_cons_succ]
                      go_simp
                      refine hK _ _ ?_
                      clear hK K
                      try simp only [Act.put, List.getElem_toArray, List.getElem_cons_zero, List.getElem_cons_succ, List.setIfInBounds_toArray, List.set_cons_zero, List.set_cons_succ]
                      refine wpAnyIn_ready (rs := [6]) (by kernel_rfl) (by simp) ?_
                      refine (AllReadyIn.cons rfl (fun K hK => ?b34) AllReadyIn.nil)
                      case b34 =>
                        try simp only [List.getElem_toArray, List.getElem_cons_zero, List.getElem_cons_succ]
                        go_simp
                        refine hK _ _ ?_
                        clear hK K
                        try simp only [Act.put, List.getElem_toArray, List.getElem_cons_zero, List.getElem_cons_succ, List.setIfInBounds_toArray, List.set_cons_zero, List.set_cons_succ]
                        exact tail
                case b46 =>
                  try simp only [List.getElem_toArray, List.getElem_cons_zero, List.getElem_cons_succ]
                  go_simp
                  refine hK _ _ ?_
                  clear hK K
                  try simp only [Act.put, List.getElem_toArray, List.getElem_cons_zero, List.getElem_cons_succ, List.setIfInBounds_toArray, List.set_cons_zero, List.set_cons_succ]
                  refine wpAnyIn_ready (rs := [1, 5]) (by kernel_rfl) (by simp) ?_
                  refine (AllReadyIn.cons rfl (fun K hK => ?b43) (AllReadyIn.cons rfl (fun K hK => ?b44) AllReadyIn.nil))
                  case b43 =>
                    try simp only [List.getElem_toArray, List.getElem_cons_zero, List.getElem_cons_succ]
                    go_simp
                    refine hK _ _ ?_
                    clear hK K
                    try simp only [Act.put, List.getElem_toArray, List.getElem_cons_zero, List.getElem_cons_succ, List.setIfInBounds_toArray, List.set_cons_zero, List.set_cons_succ]
                    refine wpAnyIn_ready (rs := [5]) (by kernel_rfl) (by simp) ?_
                    refine (AllReadyIn.cons rfl (fun K hK => ?b38) AllReadyIn.nil)
                    case b38 =>
                      try simp only [List.getElem_toArray, List.getElem_cons_zero, List.getElem_cons_succ]
                      go_simp
                      refine hK _ _ ?_
                      clear hK K
                      try simp only [Act.put, List.getElem_toArray, List.getElem_cons_zero, List.getElem_cons_succ, List.setIfInBounds_toArray, List.set_cons_zero, List.set_cons_succ]
                      refine wpAnyIn_ready (rs := [6]) (by kernel_rfl) (by simp) ?_
                      refine (AllReadyIn.cons rfl (fun K hK => ?b37) AllReadyIn.nil)
                      case b37 =>
                        try simp only [List.getElem_toArray, List.getElem_cons_zero, List.getElem_cons_succ]
                        go_simp
                        refine hK _ _ ?_
                        clear hK K
                        try simp only [Act.put, List.getElem_toArray, List.getElem_cons_zero, List.getElem_cons_succ, List.setIfInBounds_toArray, List.set_cons_zero, List.set_cons_succ]
                        exact tail
                  case b44 =>
                    try simp only [List.getElem_toArray, List.getElem_cons_zero, List.getElem_cons_succ]
                    go_simp
                    refine hK _ _ ?_
                    clear hK K
                    try simp only [Act.put, List.getElem_toArray, List.getElem_cons_zero, List.getElem_cons_succ, List.setIfInBounds_toArray, List.set_cons_zero, List.set_cons_succ]
                    refine wpAnyIn_ready (rs := [1, 6]) (by kernel_rfl) (by simp) ?_
                    refine (AllReadyIn.cons rfl (fun K hK => ?b41) (AllReadyIn.cons rfl (fun K hK => ?b42) AllReadyIn.nil))
                    case b41 =>
                      try simp only [List.getElem_toArray, List.getElem_cons_zero, List.getElem_cons_succ]
                      go_simp
                      refine hK _ _ ?_
                      clear hK K
                      try simp only [Act.put, List.getElem_toArray, List.getElem_cons_zero, List.getElem_cons_succ, List.setIfInBounds_toArray, List.set_cons_zero, List.set_cons_succ]
                      refine wpAnyIn_ready (rs := [6]) (by kernel_rfl) (by simp) ?_
                      refine (AllReadyIn.cons rfl (fun K hK => ?b39) AllReadyIn.nil)
                      case b39 =>
                        try simp only [List.getElem_toArray, List.getElem_cons_zero, List.getElem_cons_succ]
                        go_simp
                        refine hK _ _ ?_
                        clear hK K
                        try simp only [Act.put, List.getElem_toArray, List.getElem_cons_zero, List.getElem_cons_succ, List.setIfInBounds_toArray, List.set_cons_zero, List.set_cons_succ]
                        exact tail
                    case b42 =>
                      try simp only [List.getElem_toArray, List.getElem_cons_zero, List.getElem_cons_succ]
                      go_simp
                      refine hK _ _ ?_
                      clear hK K
                      try simp only [Act.put, List.getElem_toArray, List.getElem_cons_zero, List.getElem_cons_succ, List.setIfInBounds_toArray, List.set_cons_zero, List.set_cons_succ]
                      refine wpAnyIn_ready (rs := [1]) (by kernel_rfl) (by simp) ?_
                      refine (AllReadyIn.cons rfl (fun K hK => ?b40) AllReadyIn.nil)
                      case b40 =>
                        try simp only [List.getElem_toArray, List.getElem_cons_zero, List.getElem_cons_succ]
                        go_simp
                        refine hK _ _ ?_
                        clear hK K
                        try simp only [Act.put, List.getElem_toArray, List.getElem_cons_zero, List.getElem_cons_succ, List.setIfInBounds_toArray, List.set_cons_zero, List.set_cons_succ]
                        exact tail
          case b161 =>
            try simp only [List.getElem_toArray, List.getElem_cons_zero, List.getElem_cons_succ]
            go_simp
            refine hK _ _ ?_
            clear hK K
            try simp only [Act.put, List.getElem_toArray, List.getElem_cons_zero, List.getElem_cons_succ, List.setIfInBounds_toArray, List.set_cons_zero, List.set_cons_succ]
            refine wpAnyIn_ready (rs := [0, 3]) (by kernel_rfl) (by simp) ?_
            refine (AllReadyIn.cons rfl (fun K hK => ?b104) (AllReadyIn.cons rfl (fun K hK => ?b105) AllReadyIn.nil))
            case b104 =>
              try simp only [List.getElem_toArray, List.getElem_cons_zero]
              go_simp
              refine hK _ _ ?_
              clear hK K
              try simp only [Act.put, List.getElem_toArray, List.getElem_cons_zero, List.getElem_cons_succ, List.setIfInBounds_toArray, List.set_cons_zero, List.set_cons_succ]
              refine wpAnyIn_ready (rs := [1, 3]) (by kernel_rfl) (by simp) ?_
              refine (AllReadyIn.cons rfl (fun K hK => ?b69) (AllReadyIn.cons rfl (fun K hK => ?b70) AllReadyIn.nil))
              case b69 =>
                try simp only [List.getElem_toArray, List.getElem_cons_zero, List.getElem_cons_succ]
                go_simp
                refine hK _ _ ?_
                clear hK K
                try simp only [Act.put, List.getElem_toArray, List.getElem_cons_zero, List.getElem_cons_succ, List.setIfInBounds_toArray, List.set_cons_zero, List.set_cons_succ]
                refine wpAnyIn_ready (rs := [3]) (by kernel_rfl) (by simp) ?_
                refine (AllReadyIn.cons rfl (fun K hK => ?b55) AllReadyIn.nil)
                case b55 =>
                  try simp only [List.getElem_toArray, List.getElem_cons_zero, List.getElem_cons_succ]
                  go_simp
                  refine hK _ _ ?_
                  clear hK K
                  try simp only [Act.put, List.getElem_toArray, List.getElem_cons_zero, List.getElem_cons_succ, List.setIfInBounds_toArray, List.set_cons_zero, List.set_cons_succ]
                  refine wpAnyIn_ready (rs := [4]) (by kernel_rfl) (by simp) ?_
                  refine (AllReadyIn.cons rfl (fun K hK => ?b54) AllReadyIn.nil)
                  case b54 =>
                    try simp only [List.getElem_toArray, List.getElem_cons_zero, List.getElem_cons_succ]
                    go_simp
                    refine hK _ _ ?_
                    clear hK K
                    try simp only [Act.put, List.getElem_toArray, List.getElem_cons_zero, List.getElem_cons_succ, List.setIfInBounds_toArray, List.set_cons_zero, List.set_cons_succ]
                    refine wpAnyIn_ready (rs := [5]) (by kernel_rfl) (by simp) ?_
                    refine (AllReadyIn.cons rfl (fun K hK => ?b53) AllReadyIn.nil)
                    case b53 =>
                      try simp only [List.getElem_toArray, List.getElem_cons_zero, List.getElem_cons_succ]
                      go_simp
                      refine hK _ _ ?_
                      clear hK K
                      try simp only [Act.put, List.getElem_toArray, List.getElem_cons_zero, List.getElem_cons_succ, List.setIfInBounds_toArray, List.set_cons_zero, List.set_cons_succ]
                      refine wpAnyIn_ready (rs := [6]) (by kernel_rfl) (by simp) ?_
                      refine (AllReadyIn.cons rfl (fun K hK => ?b52) AllReadyIn.nil)
                      case b52 =>
                        try simp only [List.getElem_toArray, List.getElem_cons_zero, List.getElem_cons_succ]
                        go_simp
                        refine hK _ _ ?_
                        clear hK K
                        try simp only [Act.put, List.getElem_toArray, List.getElem_cons_zero, List.getElem_cons_succ, List.setIfInBounds_toArray, List.set_cons_zero, List.set_cons_succ]
                        exact tail
              case b70 =>
                try simp only [List.getElem_toArray, List.getElem_cons_zero, List.getElem_cons_succ]
                go_simp
                refine hK _ _ ?_
                clear hK K
                try simp only [Act.put, List.getElem_toArray, List.getElem_cons_zero, List.getElem_cons_succ, List.setIfInBounds_toArray, List.set_cons_zero, List.set_cons_succ]
                refine wpAnyIn_ready (rs := [1, 4]) (by kernel_rfl) (by simp) ?_
                refine (AllReadyIn.cons rfl (fun K hK => ?b67) (AllReadyIn.cons rfl (fun K hK => ?b68) AllReadyIn.nil))
                case b67 =>
                  try simp only [List.getElem_toArray, List.getElem_cons_zero, List.getElem_cons_succ]
                  go_simp
                  refine hK _ _ ?_
                  clear hK K
                  try simp only [Act.put, List.getElem_toArray, List.getElem_cons_zero, List.getElem_cons_succ, List.setIfInBounds_toArray, List.set_cons_zero, List.set_cons_succ]
                  refine wpAnyIn_ready (rs := [4]) (by kernel_rfl) (by simp) ?_
                  refine (AllReadyIn.cons rfl (fun K hK => ?b58) AllReadyIn.nil)
                  case b58 =>
                    try simp only [List.getElem_toArray, List.getElem_cons_zero, List.getElem_cons_succ]
                    go_simp
                    refine hK _ _ ?_
                    clear hK K
                    try simp only [Act.put, List.getElem_toArray, List.getElem_cons_zero, List.getElem_cons_succ, List.setIfInBounds_toArray, List.set_cons_zero, List.set_cons_succ]
                    refine wpAnyIn_ready (rs := [5]) (by kernel_rfl) (by simp) ?_
                    refine (AllReadyIn.cons rfl (fun K hK => ?b57) AllReadyIn.nil)
                    case b57 =>
                      try simp only [List.getElem_toArray, List.getElem_cons_zero, List.getElem_cons_succ]
                      go_simp
                      refine hK _ _ ?_
                      clear hK K
                      try simp only [Act.put, List.getElem_toArray, List.getElem_cons_zero, List.getElem_cons_succ, List.setIfInBounds_toArray, List.set_cons_zero, List.set_cons_succ]
                      refine wpAnyIn_ready (rs := [6]) (by kernel_rfl) (by simp) ?_
                      refine (AllReadyIn.cons rfl (fun K hK => ?b56) AllReadyIn.nil)
                      case b56 =>
                        try simp only [List.getElem_toArray, List.getElem_cons_zero, List.getElem_cons_succ]
                        go_simp
                        refine hK _ _ ?_
                        clear hK K
                        try simp only [Act.put, List.getElem_toArray, List.getElem_cons_zero, List.getElem_cons_succ, List.setIfInBounds_toArray, List.set_cons_zero, List.set_cons_succ]
                        exact tail
                case b68 =>
                  try simp only [List.getElem_toArray, List.getElem_cons_zero, List.getElem_cons_succ]
                  go_simp
                  refine hK _ _ ?_
                  clear hK K
                  try simp only [Act.put, List.getElem_toArray, List.getElem_cons_zero, List.getElem_cons_succ, List.setIfInBounds_toArray, List.set_cons_zero, List.set_cons_succ]
                  refine wpAnyIn_ready (rs := [1, 5]) (by kernel_rfl) (by simp) ?_
                  refine (AllReadyIn.cons rfl (fun K hK => ?b65) (AllReadyIn.cons rfl (fun K hK => ?b66) AllReadyIn.nil))
                  case b65 =>
                    try simp only [List.getElem_toArray, List.getElem_cons_zero, List.getElem_cons_succ]
                    go_simp
                    refine hK _ _ ?_
                    clear hK K
                    try simp only [Act.put, List.getElem_toArray, List.getElem_cons_zero, List.getElem_cons_succ, List.setIfInBounds_toArray, List.set_cons_zero, List.set_cons_succ]
                    refine wpAnyIn_ready (rs := [5]) (by kernel_rfl) (by simp) ?_
                    refine (AllReadyIn.cons rfl (fun K hK => ?b60) AllReadyIn.nil)
                    case b60 =>
                      try simp only [List.getElem_toArray, List.getElem_cons_zero, List.getElem_cons_succ]
                      go_simp
                      refine hK _ _ ?_
                      clear hK K
                      try simp only [Act.put, List.getElem_toArray, List.getElem_cons_zero, List.getElem_cons_succ, List.setIfInBounds_toArray, List.set_cons_zero, List.set_cons_succ]
                      refine wpAnyIn_ready (rs := [6]) (by kernel_rfl) (by simp) ?_
                      refine (AllReadyIn.cons rfl (fun K hK => ?b59) AllReadyIn.nil)
                      case b59 =>
                        try simp only [List.getElem_toArray, List.getElem_cons_zero, List.getElem_cons_succ]
                        go_simp
                        refine hK _ _ ?_
                        clear hK K
                        try simp only [Act.put, List.getElem_toArray, List.getElem_cons_zero, List.getElem_cons_succ, List.setIfInBounds_toArray, List.set_cons_zero, List.set_cons_succ]
                        exact tail
                  case b66 =>
                    try simp only [List.getElem_toArray, List.getElem_cons_zero, List.getElem_cons_succ]
                    go_simp
                    refine hK _ _ ?_
                    clear hK K
                    try simp only [Act.put, List.getElem_toArray, List.getElem_cons_zero, List.getElem_cons_succ, List.setIfInBounds_toArray, List.set_cons_zero, List.set_cons_succ]
                    refine wpAnyIn_ready (rs := [1, 6]) (by kernel_rfl) (by simp) ?_
                    refine (AllReadyIn.cons rfl (fun K hK => ?b63) (AllReadyIn.cons rfl (fun K hK => ?b64) AllReadyIn.nil))
                    case b63 =>
                      try simp only [List.getElem_toArray, List.getElem_cons_zero, List.getElem_cons_succ]
                      go_simp
                      refine hK _ _ ?_
                      clear hK K
                      try simp only [Act.put, List.getElem_toArray, List.getElem_cons_zero, List.getElem_cons_succ, List.setIfInBounds_toArray, List.set_cons_zero, List.set_cons_succ]
                      refine wpAnyIn_ready (rs := [6]) (by kernel_rfl) (by simp) ?_
                      refine (AllReadyIn.cons rfl (fun K hK => ?b61) AllReadyIn.nil)
                      case b61 =>
                        try simp only [List.getElem_toArray, List.getElem_cons_zero, List.getElem_cons_succ]
                        go_simp
                        refine hK _ _ ?_
                        clear hK K
                        try simp only [Act.put, List.getElem_toArray, List.getElem_cons_zero, List.getElem_cons_succ, List.setIfInBounds_toArray, List.set_cons_zero, List.set_cons_succ]
                        exact tail
                    case b64 =>
                      try simp only [List.getElem_toArray, List.getElem_cons_zero, List.getElem_cons_succ]
                      go_simp
                      refine hK _ _ ?_
                      clear hK K
                      try simp only [Act.put, List.getElem_toArray, List.getElem_cons_zero, List.getElem_cons_succ, List.setIfInBounds_toArray, List.set_cons_zero, List.set_cons_succ]
                      refine wpAnyIn_ready (rs := [1]) (by kernel_rfl) (by simp) ?_
                      refine (AllReadyIn.cons rfl (fun K hK => ?b62) AllReadyIn.nil)
                      case b62 =>
                        try simp only [List.getElem_toArray, List.getElem_cons_zero, List.getElem_cons_succ]
                        go_simp
                        refine hK _ _ ?_
                        clear hK K
                        try simp only [Act.put, List.getElem_toArray, List.getElem_cons_zero, List.getElem_cons_succ, List.setIfInBounds_toArray, List.set_cons_zero, List.set_cons_succ]
                        exact tail
            case b105 =>
              try simp only [List.getElem_toArray, List.getElem_cons_zero, List.getElem_cons_succ]
              go_simp
              refine hK _ _ ?_
              clear hK K
              try simp only [Act.put, List.getElem_toArray, List.getElem_cons_zero, List.getElem_cons_succ, List.setIfInBounds_toArray, List.set_cons_zero, List.set_cons_succ]
              refine wpAnyIn_ready (rs := [0, 4]) (by kernel_rfl) (by simp) ?_
              refine (AllReadyIn.cons rfl (fun K hK => ?b102) (AllReadyIn.cons rfl (fun K hK => ?b103) AllReadyIn.nil))
              case b102 =>
                try simp only [List.getElem_toArray, List.getElem_cons_zero]
                go_simp
                refine hK _ _ ?_
                clear hK K
                try simp only [Act.put, List.getElem_toArray, List.getElem_cons_zero, List.getElem_cons_succ, List.setIfInBounds_toArray, List.set_cons_zero, List.set_cons_succ]
                refine wpAnyIn_ready (rs := [1, 4]) (by kernel_rfl) (by simp) ?_
                refine (AllReadyIn.cons rfl (fun K hK => ?b82) (AllReadyIn.cons rfl (fun K hK => ?b83) AllReadyIn.nil))
                case b82 =>
                  try simp only [List.getElem_toArray, List.getElem_cons_zero, List.getElem_cons_succ]
                  go_simp
                  refine hK _ _ ?_
                  clear hK K
                  try simp only [Act.put, List.getElem_toArray, List.getElem_cons_zero, List.getElem_cons_succ, List.setIfInBounds_toArray, List.set_cons_zero, List.set_cons_succ]
                  refine wpAnyIn_ready (rs := [4]) (by kernel_rfl) (by simp) ?_
                  refine (AllReadyIn.cons rfl (fun K hK => ?b73) AllReadyIn.nil)
                  case b73 =>
                    try simp only [List.getElem_toArray, List.getElem_cons_zero, List.getElem_cons_succ]
                    go_simp
                    refine hK _ _ ?_
                    clear hK K
                    try simp only [Act.put, List.getElem_toArray, List.getElem_cons_zero, List.getElem_cons_succ, List.setIfInBounds_toArray, List.set_cons_zero, List.set_cons_succ]
                    refine wpAnyIn_ready (rs := [5]) (by kernel_rfl) (by simp) ?_
                    refine (AllReadyIn.cons rfl (fun K hK => ?b72) AllReadyIn.nil)
                    case b72 =>
                      try simp only [List.getElem_toArray, List.getElem_cons_zero, List.getElem_cons_succ]
                      go_simp
                      refine hK _ _ ?_
                      clear hK K
                      try simp only [Act.put, List.getElem_toArray, List.getElem_cons_zero, List.getElem_cons_succ, List.setIfInBounds_toArray, List.set_cons_zero, List.set_cons_succ]
                      refine wpAnyIn_ready (rs := [6]) (by kernel_rfl) (by simp) ?_
                      refine (AllReadyIn.cons rfl (fun K hK => ?b71) AllReadyIn.nil)
                      case b71 =>
                        try simp only [List.getElem_toArray, List.getElem_cons_zero, List.getElem_cons_succ]
                        go_simp
                        refine hK _ _ ?_
                        clear hK K
                        try simp only [Act.put, List.getElem_toArray, List.getElem_cons_zero, List.getElem_cons_succ, List.setIfInBounds_toArray, List.set_cons_zero, List.set_cons_succ]
                        exact tail
                case b83 =>
                  try simp only [List.getElem_toArray, List.getElem_cons_zero, List.getElem_cons_succ]
                  go_simp
                  refine hK _ _ ?_
                  clear hK K
                  try simp only [Act.put, List.getElem_toArray, List.getElem_cons_zero, List.getElem_cons_succ, List.setIfInBounds_toArray, List.set_cons_zero, List.set_cons_succ]
                  refine wpAnyIn_ready (rs := [1, 5]) (by kernel_rfl) (by simp) ?_
                  refine (AllReadyIn.cons rfl (fun K hK => ?b80) (AllReadyIn.cons rfl (fun K hK => ?b81) AllReadyIn.nil))
                  case b80 =>
                    try simp only [List.getElem_toArray, List.getElem_cons_zero, List.getElem_cons_succ]
                    go_simp
                    refine hK _ _ ?_
                    clear hK K
                    try simp only [Act.put, List.getElem_toArray, List.getElem_cons_zero, List.getElem_cons_succ, List.setIfInBounds_toArray, List.set_cons_zero, List.set_cons_succ]
                    refine wpAnyIn_ready (rs := [5]) (by kernel_rfl) (by simp) ?_
                    refine (AllReadyIn.cons rfl (fun K hK => ?b75) AllReadyIn.nil)
                    case b75 =>
                      try simp only [List.getElem_toArray, List.getElem_cons_zero, List.getElem_cons_succ]
                      go_simp
                      refine hK _ _ ?_
                      clear hK K
                      try simp only [Act.put, List.getElem_toArray, List.getElem_cons_zero, List.getElem_cons_succ, List.setIfInBounds_toArray, List.set_cons_zero, List.set_cons_succ]
                      refine wpAnyIn_ready (rs := [6]) (by kernel_rfl) (by simp) ?_
                      refine (AllReadyIn.cons rfl (fun K hK => ?b74) AllReadyIn.nil)
                      case b74 =>
                        try simp only [List.getElem_toArray, List.getElem_cons_zero, List.getElem_cons_succ]
                        go_simp
                        refine hK _ _ ?_
                        clear hK K
                        try simp only [Act.put, List.getElem_toArray, List.getElem_cons_zero, List.getElem_cons_succ, List.setIfInBounds_toArray, List.set_cons_zero, List.set_cons_succ]
                        exact tail
                  case b81 =>
                    try simp only [List.getElem_toArray, List.getElem_cons_zero, List.getElem_cons_succ]
                    go_simp
                    refine hK _ _ ?_
                    clear hK K
                    try simp only [Act.put, List.getElem_toArray, List.getElem_cons_zero, List.getElem_cons_succ, List.setIfInBounds_toArray, List.set_cons_zero, List.set_cons_succ]
                    refine wpAnyIn_ready (rs := [1, 6]) (by kernel_rfl) (by simp) ?_
                    refine (AllReadyIn.cons rfl (fun K hK => ?b78) (AllReadyIn.cons rfl (fun K hK => ?b79) AllReadyIn.nil))
                    case b78 =>
                      try simp only [List.getElem_toArray, List.getElem_cons_zero, List.getElem_cons_succ]
                      go_simp
                      refine hK _ _ ?_
                      clear hK K
                      try simp only [Act.put, List.getElem_toArray, List.getElem_cons_zero, List.getElem_cons_succ, List.setIfInBounds_toArray, List.set_cons_zero, List.set_cons_succ]
                      refine wpAnyIn_ready (rs := [6]) (by kernel_rfl) (by simp) ?_
                      refine (AllReadyIn.cons rfl (fun K hK => ?b76) AllReadyIn.nil)
                      case b76 =>
                        try simp only [List.getElem_toArray, List.getElem_cons_zero, List.getElem_cons_succ]
                        go_simp
                        refine hK _ _ ?_
                        clear hK K
                        try simp only [Act.put, List.getElem_toArray, List.getElem_cons_zero, List.getElem_cons_succ, List.setIfInBounds_toArray, List.set_cons_zero, List.set_cons_succ]
                        exact tail
                    case b79 =>
                      try simp only [List.getElem_toArray, List.getElem_cons_zero, List.getElem_cons_succ]
                      go_simp
                      refine hK _ _ ?_
                      clear hK K
                      try simp only [Act.put, List.getElem_toArray, List.getElem_cons_zero, List.getElem_cons_succ, List.setIfInBounds_toArray, List.set_cons_zero, List.set_cons_succ]
                      refine wpAnyIn_ready (rs := [1]) (by kernel_rfl) (by simp) ?_
                      refine (AllReadyIn.cons rfl (fun K hK => ?b77) AllReadyIn.nil)
                      case b77 =>
                        try simp only [List.getElem_toArray, List.getElem_cons_zero, List.getElem_cons_succ]
                        go_simp
                        refine hK _ _ ?_
                        clear hK K
                        try simp only [Act.put, List.getElem_toArray, List.getElem_cons_zero, List.getElem_cons_succ, List.setIfInBounds_toArray, List.set_cons_zero, List.set_cons_succ]
                        exact tail
              case b103 =>
                try simp only [List.getElem_toArray, List.getElem_cons_zero, List.getElem_cons_succ]
                go_simp
                refine hK _ _ ?_
                clear hK K
                try simp only [Act.put, List.getElem_toArray, List.getElem_cons_zero, List.getElem_cons_succ, List.setIfInBounds_toArray, List.set_cons_zero, List.set_cons_succ]
                refine wpAnyIn_ready (rs := [0, 5]) (by kernel_rfl) (by simp) ?_
                refine (AllReadyIn.cons rfl (fun K hK => ?b100) (AllReadyIn.cons rfl (fun K hK => ?b101) AllReadyIn.nil))
                case b100 =>
                  try simp only [List.getElem_toArray, List.getElem_cons_zero]
                  go_simp
                  refine hK _ _ ?_
                  clear hK K
                  try simp only [Act.put, List.getElem_toArray, List.getElem_cons_zero, List.getElem_cons_succ, List.setIfInBounds_toArray, List.set_cons_zero, List.set_cons_succ]
                  refine wpAnyIn_ready (rs := [1, 5]) (by kernel_rfl) (by simp) ?_
                  refine (AllReadyIn.cons rfl (fun K hK => ?b90) (AllReadyIn.cons rfl (fun K hK => ?b91) AllReadyIn.nil))
                  case b90 =>
                    try simp only [List.getElem_toArray, List.getElem_cons_zero, List.getElem_cons_succ]
                    go_simp
                    refine hK _ _ ?_
                    clear hK K
                    try simp only [Act.put, List.getElem_toArray, List.getElem_cons_zero, List.getElem_cons_succ, List.setIfInBounds_toArray, List.set_cons_zero, List.set_cons_succ]
                    refine wpAnyIn_ready (rs := [5]) (by kernel_rfl) (by simp) ?_
                    refine (AllReadyIn.cons rfl (fun K hK => ?b85) AllReadyIn.nil)
                    case b85 =>
                      try simp only [List.getElem_toArray, List.getElem_cons_zero, List.getElem_cons_succ]
                      go_simp
                      refine hK _ _ ?_
                      clear hK K
                      try simp only [Act.put, List.getElem_toArray, List.getElem_cons_zero, List.getElem_cons_succ, List.setIfInBounds_toArray, List.set_cons_zero, List.set_cons_succ]
                      refine wpAnyIn_ready (rs := [6]) (by kernel_rfl) (by simp) ?_
                      refine (AllReadyIn.cons rfl (fun K hK => ?b84) AllReadyIn.nil)
                      case b84 =>
                        try simp only [List.getElem_toArray, List.getElem_cons_zero, List.getElem_cons_succ]
                        go_simp
                        refine hK _ _ ?_
                        clear hK K
                        try simp only [Act.put, List.getElem_toArray, List.getElem_cons_zero, List.getElem_cons_succ, List.setIfInBounds_toArray, List.set_cons_zero, List.set_cons_succ]
                        exact tail
                  case b91 =>
                    try simp only [List.getElem_toArray, List.getElem_cons_zero, List.getElem_cons_succ]
                    go_simp
                    refine hK _ _ ?_
                    clear hK K
                    try simp only [Act.put, List.getElem_toArray, List.getElem_cons_zero, List.getElem_cons_succ, List.setIfInBounds_toArray, List.set_cons_zero, List.set_cons_succ]
                    refine wpAnyIn_ready (rs := [1, 6]) (by kernel_rfl) (by simp) ?_
                    refine (AllReadyIn.cons rfl (fun K hK => ?b88) (AllReadyIn.cons rfl (fun K hK => ?b89) AllReadyIn.nil))
                    case b88 =>
                      try simp only [List.getElem_toArray, List.getElem_cons_zero, List.getElem_cons_succ]
                      go_simp
                      refine hK _ _ ?_
                      clear hK K
                      try simp only [Act.put, List.getElem_toArray, List.getElem_cons_zero, List.getElem_cons_succ, List.setIfInBounds_toArray, List.set_cons_zero, List.set_cons_succ]
                      refine wpAnyIn_ready (rs := [6]) (by kernel_rfl) (by simp) ?_
                      refine (AllReadyIn.cons rfl (fun K hK => ?b86) AllReadyIn.nil)
                      case b86 =>
                        try simp only [List.getElem_toArray, List.getElem_cons_zero, List.getElem_cons_succ]
                        go_simp
                        refine hK _ _ ?_
                        clear hK K
                        try simp only [Act.put, List.getElem_toArray, List.getElem_cons_zero, List.getElem_cons_succ, List.setIfInBounds_toArray, List.set_cons_zero, List.set_cons_succ]
                        exact tail
                    case b89 =>
                      try simp only [List.getElem_toArray, List.getElem_cons_zero, List.getElem_cons_succ]
                      go_simp
                      refine hK _ _ ?_
                      clear hK K
                      try simp only [Act.put, List.getElem_toArray, List.getElem_cons_zero, List.getElem_cons_succ, List.setIfInBounds_toArray, List.set_cons_zero, List.set_cons_succ]
                      refine wpAnyIn_ready (rs := [1]) (by kernel_rfl) (by simp) ?_
                      refine (AllReadyIn.cons rfl (fun K hK => ?b87) AllReadyIn.nil)
                      case b87 =>
                        try simp only [List.getElem_toArray, List.getElem_cons_zero, List.getElem_cons_succ]
                        go_simp
                        refine hK _ _ ?_
                        clear hK K
                        try simp only [Act.put, List.getElem_toArray, List.getElem_cons_zero, List.getElem_cons_succ, List.setIfInBounds_toArray, List.set_cons_zero, List.set_cons_succ]
                        exact tail
                case b101 =>
                  try simp only [List.getElem_toArray, List.getElem_cons_zero, List.getElem_cons_succ]
                  go_simp
                  refine hK _ _ ?_
                  clear hK K
                  try simp only [Act.put, List.getElem_toArray, List.getElem_cons_zero, List.getElem_cons_succ, List.setIfInBounds_toArray, List.set_cons_zero, List.set_cons_succ]
                  refine wpAnyIn_ready (rs := [0, 6]) (by kernel_rfl) (by simp) ?_
                  refine (AllReadyIn.cons rfl (fun K hK => ?b98) (AllReadyIn.cons rfl (fun K hK => ?b99) AllReadyIn.nil))
                  case b98 =>
                    try simp only [List.getElem_toArray, List.getElem_cons_zero]
                    go_simp
                    refine hK _ _ ?_
                    clear hK K
                    try simp only [Act.put, List.getElem_toArray, List.getElem_cons_zero, List.getElem_cons_succ, List.setIfInBounds_toArray, List.set_cons_zero, List.set_cons_succ]
                    refine wpAnyIn_ready (rs := [1, 6]) (by kernel_rfl) (by simp) ?_
                    refine (AllReadyIn.cons rfl (fun K hK => ?b94) (AllReadyIn.cons rfl (fun K hK => ?b95) AllReadyIn.nil))
                    case b94 =>
                      try simp only [List.getElem_toArray, List.getElem_cons_zero, List.getElem_cons_succ]
                      go_simp
                      refine hK _ _ ?_
                      clear hK K
                      try simp only [Act.put, List.getElem_toArray, List.getElem_cons_zero, List.getElem_cons_succ, List.setIfInBounds_toArray, List.set_cons_zero, List.set_cons_succ]
                      refine wpAnyIn_ready (rs := [6]) (by kernel_rfl) (by simp) ?_
                      refine (AllReadyIn.cons rfl (fun K hK => ?b92) AllReadyIn.nil)
                      case b92 =>
                        try simp only [List.getElem_toArray, List.getElem_cons_zero, List.getElem_cons_succ]
                        go_simp
                        refine hK _ _ ?_
                        clear hK K
                        try simp only [Act.put, List.getElem_toArray, List.getElem_cons_zero, List.getElem_cons_succ, List.setIfInBounds_toArray, List.set_cons_zero, List.set_cons_succ]
                        exact tail
                    case b95 =>
                      try simp only [List.getElem_toArray, List.getElem_cons_zero, List.getElem_cons_succ]
                      go_simp
                      refine hK _ _ ?_
                      clear hK K
                      try simp only [Act.put, List.getElem_toArray, List.getElem_cons_zero, List.getElem_cons_succ, List.setIfInBounds_toArray, List.set_cons_zero, List.set_cons_succ]
                      refine wpAnyIn_ready (rs := [1]) (by kernel_rfl) (by simp) ?_
                      refine (AllReadyIn.cons rfl (fun K hK => ?b93) AllReadyIn.nil)
                      case b93 =>
                        try simp only [List.getElem_toArray, List.getElem_cons_zero, List.getElem_cons_succ]
                        go_simp
                        refine hK _ _ ?_
                        clear hK K
                        try simp only [Act.put, List.getElem_toArray, List.getElem_cons_zero, List.getElem_cons_succ, List.setIfInBounds_toArray, List.set_cons_zero, List.set_cons_succ]
                        exact tail
                  case b99 =>
                    try simp only [List.getElem_toArray, List.getElem_cons_zero, List.getElem_cons_succ]
                    go_simp
                    refine hK _ _ ?_
                    clear hK K
                    try simp only [Act.put, List.getElem_toArray, List.getElem_cons_zero, List.getElem_cons_succ, List.setIfInBounds_toArray, List.set_cons_zero, List.set_cons_succ]
                    refine wpAnyIn_ready (rs := [0]) (by kernel_rfl) (by simp) ?_
                    refine (AllReadyIn.cons rfl (fun K hK => ?b97) AllReadyIn.nil)
                    case b97 =>
                      try simp only [List.getElem_toArray, List.getElem_cons_zero]
                      go_simp
                      refine hK _ _ ?_
                      clear hK K
                      try simp only [Act.put, List.getElem_toArray, List.getElem_cons_zero, List.getElem_cons_succ, List.setIfInBounds_toArray, List.set_cons_zero, List.set_cons_succ]
                      refine wpAnyIn_ready (rs := [1]) (by kernel_rfl) (by simp) ?_
                      refine (AllReadyIn.cons rfl (fun K hK => ?b96) AllReadyIn.nil)
                      case b96 =>
                        try simp only [List.getElem_toArray, List.getElem_cons_zero, List.getElem_cons_succ]
                        go_simp
                        refine hK _ _ ?_
                        clear hK K
                        try simp only [Act.put, List.getElem_toArray, List.getElem_cons_zero, List.getElem_cons_succ, List.setIfInBounds_toArray, List.set_cons_zero, List.set_cons_succ]
                        exact tail
          case b162 =>
            try simp only [List.getElem_toArray, List.getElem_cons_zero, List.getElem_cons_succ]
            go_simp
            refine hK _ _ ?_
            clear hK K
            try simp only [Act.put, List.getElem_toArray, List.getElem_cons_zero, List.getElem_cons_succ, List.setIfInBounds_toArray, List.set_cons_zero, List.set_cons_succ]
            refine wpAnyIn_ready (rs := [0, 2]) (by kernel_rfl) (by simp) ?_
            refine (AllReadyIn.cons rfl (fun K hK => ?b158) (AllReadyIn.cons rfl (fun K hK => ?b159) AllReadyIn.nil))
            case b158 =>
              try simp only [List.getElem_toArray, List.getElem_cons_zero]
              go_simp
              refine hK _ _ ?_
              clear hK K
              try simp only [Act.put, List.getElem_toArray, List.getElem_cons_zero, List.getElem_cons_succ, List.setIfInBounds_toArray, List.set_cons_zero, List.set_cons_succ]
              refine wpAnyIn_ready (rs := [1, 2]) (by kernel_rfl) (by simp) ?_
              refine (AllReadyIn.cons rfl (fun K hK => ?b123) (AllReadyIn.cons rfl (fun K hK => ?b124) AllReadyIn.nil))
              case b123 =>
                try simp only [List.getElem_toArray, List.getElem_cons_zero, List.getElem_cons_succ]
                go_simp
                refine hK _ _ ?_
                clear hK K
                try simp only [Act.put, List.getElem_toArray, List.getElem_cons_zero, List.getElem_cons_succ, List.setIfInBounds_toArray, List.set_cons_zero, List.set_cons_succ]
                refine wpAnyIn_ready (rs := [2]) (by kernel_rfl) (by simp) ?_
                refine (AllReadyIn.cons rfl (fun K hK => ?b109) AllReadyIn.nil)
                case b109 =>
                  try simp only [List.getElem_toArray, List.getElem_cons_zero, List.getElem_cons_succ]
                  go_simp
                  refine hK _ _ ?_
                  clear hK K
                  try simp only [Act.put, List.getElem_toArray, List.getElem_cons_zero, List.getElem_cons_succ, List.setIfInBounds_toArray, List.set_cons_zero, List.set_cons_succ]
                  refine wpAnyIn_ready (rs := [4]) (by kernel_rfl) (by simp) ?_
                  refine (AllReadyIn.cons rfl (fun K hK => ?b108) AllReadyIn.nil)
                  case b108 =>
                    try simp only [List.getElem_toArray, List.getElem_cons_zero, List.getElem_cons_succ]
                    go_simp
                    refine hK _ _ ?_
                    clear hK K
                    try simp only [Act.put, List.getElem_toArray, List.getElem_cons_zero, List.getElem_cons_succ, List.setIfInBounds_toArray, List.set_cons_zero, List.set_cons_succ]
                    refine wpAnyIn_ready (rs := [5]) (by kernel_rfl) (by simp) ?_
                    refine (AllReadyIn.cons rfl (fun K hK => ?b107) AllReadyIn.nil)
                    case b107 =>
                      try simp only [List.getElem_toArray, List.getElem_cons_zero, List.getElem_cons_succ]
                      go_simp
                      refine hK _ _ ?_
                      clear hK K
                      try simp only [Act.put, List.getElem_toArray, List.getElem_cons_zero, List.getElem_cons_succ, List.setIfInBounds_toArray, List.set_cons_zero, List.set_cons_succ]
                      refine wpAnyIn_ready (rs := [6]) (by kernel_rfl) (by simp) ?_
                      refine (AllReadyIn.cons rfl (fun K hK => ?b106) AllReadyIn.nil)
                      case b106 =>
                        try simp only [List.getElem_toArray, List.getElem_cons_zero, List.getElem_cons_succ]
                        go_simp
                        refine hK _ _ ?_
                        clear hK K
                        try simp only [Act.put, List.getElem_toArray, List.getElem_cons_zero, List.getElem_cons_succ, List.setIfInBounds_toArray, List.set_cons_zero, List.set_cons_succ]
                        exact tail
              case b124 =>
                try simp only [List.getElem_toArray, List.getElem_cons_zero, List.getElem_cons_succ]
                go_simp
                refine hK _ _ ?_
                clear hK K
                try simp only [Act.put, List.getElem_toArray, List.getElem_cons_zero, List.getElem_cons_succ, List.setIfInBounds_toArray, List.set_cons_zero, List.set_cons_succ]
                refine wpAnyIn_ready (rs := [1, 4]) (by kernel_rfl) (by simp) ?_
                refine (AllReadyIn.cons rfl (fun K hK => ?b121) (AllReadyIn.cons rfl (fun K hK => ?b122) AllReadyIn.nil))
                case b121 =>
                  try simp only [List.getElem_toArray, List.getElem_cons_zero, List.getElem_cons_succ]
                  go_simp
                  refine hK _ _ ?_
                  clear hK K
                  try simp only [Act.put, List.getElem_toArray, List.getElem_cons_zero, List.getElem_cons_succ, List.setIfInBounds_toArray, List.set_cons_zero, List.set_cons_succ]
                  refine wpAnyIn_ready (rs := [4]) (by kernel_rfl) (by simp) ?_
                  refine (AllReadyIn.cons rfl (fun K hK => ?b112) AllReadyIn.nil)
                  case b112 =>
                    try simp only [List.getElem_toArray, List.getElem_cons_zero, List.getElem_cons_succ]
                    go_simp
                    refine hK _ _ ?_
                    clear hK K
                    try simp only [Act.put, List.getElem_toArray, List.getElem_cons_zero, List.getElem_cons_succ, List.setIfInBounds_toArray, List.set_cons_zero, List.set_cons_succ]
                    refine wpAnyIn_ready (rs := [5]) (by kernel_rfl) (by simp) ?_
                    refine (AllReadyIn.cons rfl (fun K hK => ?b111) AllReadyIn.nil)
                    case b111 =>
                      try simp only [List.getElem_toArray, List.getElem_cons_zero, List.getElem_cons_succ]
                      go_simp
                      refine hK _ _ ?_
                      clear hK K
                      try simp only [Act.put, List.getElem_toArray, List.getElem_cons_zero, List.getElem_cons_succ, List.setIfInBounds_toArray, List.set_cons_zero, List.set_cons_succ]
                      refine wpAnyIn_ready (rs := [6]) (by kernel_rfl) (by simp) ?_
                      refine (AllReadyIn.cons rfl (fun K hK => ?b110) AllReadyIn.nil)
                      case b110 =>
                        try simp only [List.getElem_toArray, List.getElem_cons_zero, List.getElem_cons_succ]
                        go_simp
                        refine hK _ _ ?_
                        clear hK K
                        try simp only [Act.put, List.getElem_toArray, List.getElem_cons_zero, List.getElem_cons_succ, List.setIfInBounds_toArray, List.set_cons_zero, List.set_cons_succ]
                        exact tail
                case b122 =>
                  try simp only [List.getElem_toArray, List.getElem_cons_zero, List.getElem_cons_succ]
                  go_simp
                  refine hK _ _ ?_
                  clear hK K
                  try simp only [Act.put, List.getElem_toArray, List.getElem_cons_zero, List.getElem_cons_succ, List.setIfInBounds_toArray, List.set_cons_zero, List.set_cons_succ]
                  refine wpAnyIn_ready (rs := [1, 5]) (by kernel_rfl) (by simp) ?_
                  refine (AllReadyIn.cons rfl (fun K hK => ?b119) (AllReadyIn.cons rfl (fun K hK => ?b120) AllReadyIn.nil))
                  case b119 =>
                    try simp only [List.getElem_toArray, List.getElem_cons_zero, List.getElem_cons_succ]
                    go_simp
                    refine hK _ _ ?_
                    clear hK K
                    try simp only [Act.put, List.getElem_toArray, List.getElem_cons_zero, List.getElem_cons_succ, List.setIfInBounds_toArray, List.set_cons_zero, List.set_cons_succ]
                    refine wpAnyIn_ready (rs := [5]) (by kernel_rfl) (by simp) ?_
                    refine (AllReadyIn.cons rfl (fun K hK => ?b114) AllReadyIn.nil)
                    case b114 =>
                      try simp only [List.getElem_toArray, List.getElem_cons_zero, List.getElem_cons_succ]
                      go_simp
                      refine hK _ _ ?_
                      clear hK K
                      try simp only [Act.put, List.getElem_toArray, List.getElem_cons_zero, List.getElem_cons_succ, List.setIfInBounds_toArray, List.set_cons_zero, List.set_cons_succ]
                      refine wpAnyIn_ready (rs := [6]) (by kernel_rfl) (by simp) ?_
                      refine (AllReadyIn.cons rfl (fun K hK => ?b113) AllReadyIn.nil)
                      case b113 =>
                        try simp only [List.getElem_toArray, List.getElem_cons_zero, List.getElem_cons_succ]
                        go_simp
                        refine hK _ _ ?_
                        clear hK K
                        try simp only [Act.put, List.getElem_toArray, List.getElem_cons_zero, List.getElem_cons_succ, List.setIfInBounds_toArray, List.set_cons_zero, List.set_cons_succ]
                        exact tail
                  case b120 =>
                    try simp only [List.getElem_toArray, List.getElem_cons_zero, List.getElem_cons_succ]
                    go_simp
                    refine hK _ _ ?_
                    clear hK K
                    try simp only [Act.put, List.getElem_toArray, List.getElem_cons_zero, List.getElem_cons_succ, List.setIfInBounds_toArray, List.set_cons_zero, List.set_cons_succ]
                    refine wpAnyIn_ready (rs := [1, 6]) (by kernel_rfl) (by simp) ?_
                    refine (AllReadyIn.cons rfl (fun K hK => ?b117) (AllReadyIn.cons rfl (fun K hK => ?b118) AllReadyIn.nil))
                    case b117 =>
                      try simp only [List.getElem_toArray, List.getElem_cons_zero, List.getElem_cons_succ]
                      go_simp
                      refine hK _ _ ?_
                      clear hK K
                      try simp only [Act.put, List.getElem_toArray, List.getElem_cons_zero, List.getElem_cons_succ, List.setIfInBounds_toArray, List.set_cons_zero, List.set_cons_succ]
                      refine wpAnyIn_ready (rs := [6]) (by kernel_rfl) (by simp) ?_
                      refine (AllReadyIn.cons rfl (fun K hK => ?b115) AllReadyIn.nil)
                      case b115 =>
                        try simp only [List.getElem_toArray, List.getElem_cons_zero, List.getElem_cons_succ]
                        go_simp
                        refine hK _ _ ?_
                        clear hK K
                        try simp only [Act.put, List.getElem_toArray, List.getElem_cons_zero, List.getElem_cons_succ, List.setIfInBounds_toArray, List.set_cons_zero, List.set_cons_succ]
                        exact tail
                    case b118 =>
                      try simp only [List.getElem_toArray, List.getElem_cons_zero, List.getElem_cons_succ]
                      go_simp
                      refine hK _ _ ?_
                      clear hK K
                      try simp only [Act.put, List.getElem_toArray, List.getElem_cons_zero, List.getElem_cons_succ, List.setIfInBounds_toArray, List.set_cons_zero, List.set_cons_succ]
                      refine wpAnyIn_ready (rs := [1]) (by kernel_rfl) (by simp) ?_
                      refine (AllReadyIn.cons rfl (fun K hK => ?b116) AllReadyIn.nil)
                      case b116 =>
                        try simp only [List.getElem_toArray, List.getElem_cons_zero, List.getElem_cons_succ]
                        go_simp
                        refine hK _ _ ?_
                        clear hK K
                        try simp only [Act.put, List.getElem_toArray, List.getElem_cons_zero, List.getElem_cons_succ, List.setIfInBounds_toArray, List.set_cons_zero, List.set_cons_succ]
                        exact tail
            case b159 =>
              try simp only [List.getElem_toArray, List.getElem_cons_zero, List.getElem_cons_succ]
              go_simp
              refine hK _ _ ?_
              clear hK K
              try simp only [Act.put, List.getElem_toArray, List.getElem_cons_zero, List.getElem_cons_succ, List.setIfInBounds_toArray, List.set_cons_zero, List.set_cons_succ]
              refine wpAnyIn_ready (rs := [0, 4]) (by kernel_rfl) (by simp) ?_
              refine (AllReadyIn.cons rfl (fun K hK => ?b156) (AllReadyIn.cons rfl (fun K hK => ?b157) AllReadyIn.nil))
              case b156 =>
                try simp only [List.getElem_toArray, List.getElem_cons_zero]
                go_simp
                refine hK _ _ ?_
                clear hK K
                try simp only [Act.put, List.getElem_toArray, List.getElem_cons_zero, List.getElem_cons_succ, List.setIfInBounds_toArray, List.set_cons_zero, List.set_cons_succ]
                refine wpAnyIn_ready (rs := [1, 4]) (by kernel_rfl) (by simp) ?_
                refine (AllReadyIn.cons rfl (fun K hK => ?b136) (AllReadyIn.cons rfl (fun K hK => ?b137) AllReadyIn.nil))
                case b136 =>
                  try simp only [List.getElem_toArray, List.getElem_cons_zero, List.getElem_cons_succ]
                  go_simp
                  refine hK _ _ ?_
                  clear hK K
                  try simp only [Act.put, List.getElem_toArray, List.getElem_cons_zero, List.getElem_cons_succ, List.setIfInBounds_toArray, List.set_cons_zero, List.set_cons_succ]
                  refine wpAnyIn_ready (rs := [4]) (by kernel_rfl) (by simp) ?_
                  refine (AllReadyIn.cons rfl (fun K hK => ?b127) AllReadyIn.nil)
                  case b127 =>
                    try simp only [List.getElem_toArray, List.getElem_cons_zero, List.getElem_cons_succ]
                    go_simp
                    refine hK _ _ ?_
                    clear hK K
                    try simp only [Act.put, List.getElem_toArray, List.getElem_cons_zero, List.getElem_cons_succ, List.setIfInBounds_toArray, List.set_cons_zero, List.set_cons_succ]
                    refine wpAnyIn_ready (rs := [5]) (by kernel_rfl) (by simp) ?_
                    refine (AllReadyIn.cons rfl (fun K hK => ?b126) AllReadyIn.nil)
                    case b126 =>
                      try simp only [List.getElem_toArray, List.getElem_cons_zero, List.getElem_cons_succ]
                      go_simp
                      refine hK _ _ ?_
                      clear hK K
                      try simp only [Act.put, List.getElem_toArray, List.getElem_cons_zero, List.getElem_cons_succ, List.setIfInBounds_toArray, List.set_cons_zero, List.set_cons_succ]
                      refine wpAnyIn_ready (rs := [6]) (by kernel_rfl) (by simp) ?_
                      refine (AllReadyIn.cons rfl (fun K hK => ?b125) AllReadyIn.nil)
                      case b125 =>
                        try simp only [List.getElem_toArray, List.getElem_cons_zero, List.getElem_cons_succ]
                        go_simp
                        refine hK _ _ ?_
                        clear hK K
                        try simp only [Act.put, List.getElem_toArray, List.getElem_cons_zero, List.getElem_cons_succ, List.setIfInBounds_toArray, List.set_cons_zero, List.set_cons_succ]
                        exact tail
                case b137 =>
                  try simp only [List.getElem_toArray, List.getElem_cons_zero, List.getElem_cons_succ]
                  go_simp
                  refine hK _ _ ?_
                  clear hK K
                  try simp only [Act.put, List.getElem_toArray, List.getElem_cons_zero, List.getElem_cons_succ, List.setIfInBounds_toArray, List.set_cons_zero, List.set_cons_succ]
                  refine wpAnyIn_ready (rs := [1, 5]) (by kernel_rfl) (by simp) ?_
                  refine (AllReadyIn.cons rfl (fun K hK => ?b134) (AllReadyIn.cons rfl (fun K hK => ?b135) AllReadyIn.nil))
                  case b134 =>
                    try simp only [List.getElem_toArray, List.getElem_cons_zero, List.getElem_cons_succ]
                    go_simp
                    refine hK _ _ ?_
                    clear hK K
                    try simp only [Act.put, List.getElem_toArray, List.getElem_cons_zero, List.getElem_cons_succ, List.setIfInBounds_toArray, List.set_cons_zero, List.set_cons_succ]
                    refine wpAnyIn_ready (rs := [5]) (by kernel_rfl) (by simp) ?_
                    refine (AllReadyIn.cons rfl (fun K hK => ?b129) AllReadyIn.nil)
                    case b129 =>
                      try simp only [List.getElem_toArray, List.getElem_cons_zero, List.getElem_cons_succ]
                      go_simp
                      refine hK _ _ ?_
                      clear hK K
                      try simp only [Act.put, List.getElem_toArray, List.getElem_cons_zero, List.getElem_cons_succ, List.setIfInBounds_toArray, List.set_cons_zero, List.set_cons_succ]
                      refine wpAnyIn_ready (rs := [6]) (by kernel_rfl) (by simp) ?_
                      refine (AllReadyIn.cons rfl (fun K hK => ?b128) AllReadyIn.nil)
                      case b128 =>
                        try simp only [List.getElem_toArray, List.getElem_cons_zero, List.getElem_cons_succ]
                        go_simp
                        refine hK _ _ ?_
                        clear hK K
                        try simp only [Act.put, List.getElem_toArray, List.getElem_cons_zero, List.getElem_cons_succ, List.setIfInBounds_toArray, List.set_cons_zero, List.set_cons_succ]
                        exact tail
                  case b135 =>
                    try simp only [List.getElem_toArray, List.getElem_cons_zero, List.getElem_cons_succ]
                    go_simp
                    refine hK _ _ ?_
                    clear hK K
                    try simp only [Act.put, List.getElem_toArray, List.getElem_cons_zero, List.getElem_cons_succ, List.setIfInBounds_toArray, List.set_cons_zero, List.set_cons_succ]
                    refine wpAnyIn_ready (rs := [1, 6]) (by kernel_rfl) (by simp) ?_
                    refine (AllReadyIn.cons rfl (fun K hK => ?b132) (AllReadyIn.cons rfl (fun K hK => ?b133) AllReadyIn.nil))
                    case b132 =>
                      try simp only [List.getElem_toArray, List.getElem_cons_zero, List.getElem_cons_succ]
                      go_simp
                      refine hK _ _ ?_
                      clear hK K
                      try simp only [Act.put, List.getElem_toArray, List.getElem_cons_zero, List.getElem_cons_succ, List.setIfInBounds_toArray, List.set_cons_zero, List.set_cons_succ]
                      refine wpAnyIn_ready (rs := [6]) (by kernel_rfl) (by simp) ?_
                      refine (AllReadyIn.cons rfl (fun K hK => ?b130) AllReadyIn.nil)
                      case b130 =>
                        try simp only [List.getElem_toArray, List.getElem_cons_zero, List.getElem_cons_succ]
                        go_simp
                        refine hK _ _ ?_
                        clear hK K
                        try simp only [Act.put, List.getElem_toArray, List.getElem_cons_zero, List.getElem_cons_succ, List.setIfInBounds_toArray, List.set_cons_zero, List.set_cons_succ]
                        exact tail
                    case b133 =>
                      try simp only [List.getElem_toArray, List.getElem_cons_zero, List.getElem_cons_succ]
                      go_simp
                      refine hK _ _ ?_
                      clear hK K
                      try simp only [Act.put, List.getElem_toArray, List.getElem_cons_zero, List.getElem_cons_succ, List.setIfInBounds_toArray, List.set_cons_zero, List.set_cons_succ]
                      refine wpAnyIn_ready (rs := [1]) (by kernel_rfl) (by simp) ?_
                      refine (AllReadyIn.cons rfl (fun K hK => ?b131) AllReadyIn.nil)
                      case b131 =>
                        try simp only [List.getElem_toArray, List.getElem_cons_zero, List.getElem_cons_succ]
                        go_simp
                        refine hK _ _ ?_
                        clear hK K
                        try simp only [Act.put, List.getElem_toArray, List.getElem_cons_zero, List.getElem_cons_succ, List.setIfInBounds_toArray, List.set_cons_zero, List.set_cons_succ]
                        exact tail
              case b157 =>
                try simp only [List.getElem_toArray, List.getElem_cons_zero, List.getElem_cons_succ]
                go_simp
                refine hK _ _ ?_
                clear hK K
                try simp only [Act.put, List.getElem_toArray, List.getElem_cons_zero, List.getElem_cons_succ, List.setIfInBounds_toArray, List.set_cons_zero, List.set_cons_succ]
                refine wpAnyIn_ready (rs := [0, 5]) (by kernel_rfl) (by simp) ?_
                refine (AllReadyIn.cons rfl (fun K hK => ?b154) (AllReadyIn.cons rfl (fun K hK => ?b155) AllReadyIn.nil))
                case b154 =>
                  try simp only [List.getElem_toArray, List.getElem_cons_zero]
                  go_simp
                  refine hK _ _ ?_
                  clear hK K
                  try simp only [Act.put, List.getElem_toArray, List.getElem_cons_zero, List.getElem_cons_succ, List.setIfInBounds_toArray, List.set_cons_zero, List.set_cons_succ]
                  refine wpAnyIn_ready (rs := [1, 5]) (by kernel_rfl) (by simp) ?_
                  refine (AllReadyIn.cons rfl (fun K hK => ?b144) (AllReadyIn.cons rfl (fun K hK => ?b145) AllReadyIn.nil))
                  case b144 =>
                    try simp only [List.getElem_toArray, List.getElem_cons_zero, List.getElem_cons_succ]
                    go_simp
                    refine hK _ _ ?_
                    clear hK K
                    try simp only [Act.put, List.getElem_toArray, List.getElem_cons_zero, List.getElem_cons_succ, List.setIfInBounds_toArray, List.set_cons_zero, List.set_cons_succ]
                    refine wpAnyIn_ready (rs := [5]) (by kernel_rfl) (by simp) ?_
                    refine (AllReadyIn.cons rfl (fun K hK => ?b139) AllReadyIn.nil)
                    case b139 =>
                      try simp only [List.getElem_toArray, List.getElem_cons_zero, List.getElem_cons_succ]
                      go_simp
                      refine hK _ _ ?_
                      clear hK K
                      try simp only [Act.put, List.getElem_toArray, List.getElem_cons_zero, List.getElem_cons_succ, List.setIfInBounds_toArray, List.set_cons_zero, List.set_cons_succ]
                      refine wpAnyIn_ready (rs := [6]) (by kernel_rfl) (by simp) ?_
                      refine (AllReadyIn.cons rfl (fun K hK => ?b138) AllReadyIn.nil)
                      case b138 =>
                        try simp only [List.getElem_toArray, List.getElem_cons_zero, List.getElem_cons_succ]
                        go_simp
                        refine hK _ _ ?_
                        clear hK K
                        try simp only [Act.put, List.getElem_toArray, List.getElem_cons_zero, List.getElem_cons_succ, List.setIfInBounds_toArray, List.set_cons_zero, List.set_cons_succ]
                        exact tail
                  case b145 =>
                    try simp only [List.getElem_toArray, List.getElem_cons_zero, List.getElem_cons_succ]
                    go_simp
                    refine hK _ _ ?_
                    clear hK K
                    try simp only [Act.put, List.getElem_toArray, List.getElem_cons_zero, List.getElem_cons_succ, List.setIfInBounds_toArray, List.set_cons_zero, List.set_cons_succ]
                    refine wpAnyIn_ready (rs := [1, 6]) (by kernel_rfl) (by simp) ?_
                    refine (AllReadyIn.cons rfl (fun K hK => ?b142) (AllReadyIn.cons rfl (fun K hK => ?b143) AllReadyIn.nil))
                    case b142 =>
                      try simp only [List.getElem_toArray, List.getElem_cons_zero, List.getElem_cons_succ]
                      go_simp
                      refine hK _ _ ?_
                      clear hK K
                      try simp only [Act.put, List.getElem_toArray, List.getElem_cons_zero, List.getElem_cons_succ, List.setIfInBounds_toArray, List.set_cons_zero, List.set_cons_succ]
                      refine wpAnyIn_ready (rs := [6]) (by kernel_rfl) (by simp) ?_
                      refine (AllReadyIn.cons rfl (fun K hK => ?b140) AllReadyIn.nil)
                      case b140 =>
                        try simp only [List.getElem_toArray, List.getElem_cons_zero, List.getElem_cons_succ]
                        go_simp
                        refine hK _ _ ?_
                        clear hK K
                        try simp only [Act.put, List.getElem_toArray, List.getElem_cons_zero, List.getElem_cons_succ, List.setIfInBounds_toArray, List.set_cons_zero, List.set_cons_succ]
                        exact tail
                    case b143 =>
                      try simp only [List.getElem_toArray, List.getElem_cons_zero, List.getElem_cons_succ]
                      go_simp
                      refine hK _ _ ?_
                      clear hK K
                      try simp only [Act.put, List.getElem_toArray, List.getElem_cons_zero, List.getElem_cons_succ, List.setIfInBounds_toArray, List.set_cons_zero, List.set_cons_succ]
                      refine wpAnyIn_ready (rs := [1]) (by kernel_rfl) (by simp) ?_
                      refine (AllReadyIn.cons rfl (fun K hK => ?b141) AllReadyIn.nil)
                      case b141 =>
                        try simp only [List.getElem_toArray, List.getElem_cons_zero, List.getElem_cons_succ]
                        go_simp
                        refine hK _ _ ?_
                        clear hK K
                        try simp only [Act.put, List.getElem_toArray, List.getElem_cons_zero, List.getElem_cons_succ, List.setIfInBounds_toArray, List.set_cons_zero, List.set_cons_succ]
                        exact tail
                case b155 =>
                  try simp only [List.getElem_toArray, List.getElem_cons_zero, List.getElem_cons_succ]
                  go_simp
                  refine hK _ _ ?_
                  clear hK K
                  try simp only [Act.put, List.getElem_toArray, List.getElem_cons_zero, List.getElem_cons_succ, List.setIfInBounds_toArray, List.set_cons_zero, List.set_cons_succ]
                  refine wpAnyIn_ready (rs := [0, 6]) (by kernel_rfl) (by simp) ?_
                  refine (AllReadyIn.cons rfl (fun K hK => ?b152) (AllReadyIn.cons rfl (fun K hK => ?b153) AllReadyIn.nil))
                  case b152 =>
                    try simp only [List.getElem_toArray, List.getElem_cons_zero]
                    go_simp
                    refine hK _ _ ?_
                    clear hK K
                    try simp only [Act.put, List.getElem_toArray, List.getElem_cons_zero, List.getElem_cons_succ, List.setIfInBounds_toArray, List.set_cons_zero, List.set_cons_succ]
                    refine wpAnyIn_ready (rs := [1, 6]) (by kernel_rfl) (by simp) ?_
                    refine (AllReadyIn.cons rfl (fun K hK => ?b148) (AllReadyIn.cons rfl (fun K hK => ?b149) AllReadyIn.nil))
                    case b148 =>
                      try simp only [List.getElem_toArray, List.getElem_cons_zero, List.getElem_cons_succ]
                      go_simp
                      refine hK _ _ ?_
                      clear hK K
                      try simp only [Act.put, List.getElem_toArray, List.getElem_cons_zero, List.getElem_cons_succ, List.setIfInBounds_toArray, List.set_cons_zero, List.set_cons_succ]
                      refine wpAnyIn_ready (rs := [6]) (by kernel_rfl) (by simp) ?_
                      refine (AllReadyIn.cons rfl (fun K hK => ?b146) AllReadyIn.nil)
                      case b146 =>
                        try simp only [List.getElem_toArray, List.getElem_cons_zero, List.getElem_cons_succ]
                        go_simp
                        refine hK _ _ ?_
                        clear hK K
                        try simp only [Act.put, List.getElem_toArray, List.getElem_cons_zero, List.getElem_cons_succ, List.setIfInBounds_toArray, List.set_cons_zero, List.set_cons_succ]
                        exact tail
                    case b149 =>
                      try simp only [List.getElem_toArray, List.getElem_cons_zero, List.getElem_cons_succ]
                      go_simp
                      refine hK _ _ ?_
                      clear hK K
                      try simp only [Act.put, List.getElem_toArray, List.getElem_cons_zero, List.getElem_cons_succ, List.setIfInBounds_toArray, List.set_cons_zero, List.set_cons_succ]
                      refine wpAnyIn_ready (rs := [1]) (by kernel_rfl) (by simp) ?_
                      refine (AllReadyIn.cons rfl (fun K hK => ?b147) AllReadyIn.nil)
                      case b147 =>
                        try simp only [List.getElem_toArray, List.getElem_cons_zero, List.getElem_cons_succ]
                        go_simp
                        refine hK _ _ ?_
                        clear hK K
                        try simp only [Act.put, List.getElem_toArray, List.getElem_cons_zero, List.getElem_cons_succ, List.setIfInBounds_toArray, List.set_cons_zero, List.set_cons_succ]
                        exact tail
                  case b153 =>
                    try simp only [List.getElem_toArray, List.getElem_cons_zero, List.getElem_cons_succ]
                    go_simp
                    refine hK _ _ ?_
                    clear hK K
                    try simp only [Act.put, List.getElem_toArray, List.getElem_cons_zero, List.getElem_cons_succ, List.setIfInBounds_toArray, List.set_cons_zero, List.set_cons_succ]
                    refine wpAnyIn_ready (rs := [0]) (by kernel_rfl) (by simp) ?_
                    refine (AllReadyIn.cons rfl (fun K hK => ?b151) AllReadyIn.nil)
                    case b151 =>
                      try simp only [List.getElem_toArray, List.getElem_cons_zero]
                      go_simp
                      refine hK _ _ ?_
                      clear hK K
                      try simp only [Act.put, List.getElem_toArray, List.getElem_cons_zero, List.getElem_cons_succ, List.setIfInBounds_toArray, List.set_cons_zero, List.set_cons_succ]
                      refine wpAnyIn_ready (rs := [1]) (by kernel_rfl) (by simp) ?_
                      refine (AllReadyIn.cons rfl (fun K hK => ?b150) AllReadyIn.nil)
                      case b150 =>
                        try simp only [List.getElem_toArray, List.getElem_cons_zero, List.getElem_cons_succ]
                        go_simp
                        refine hK _ _ ?_
                        clear hK K
                        try simp only [Act.put, List.getElem_toArray, List.getElem_cons_zero, List.getElem_cons_succ, List.setIfInBounds_toArray, List.set_cons_zero, List.set_cons_succ]
                        exact tail
        case tailT =>
          refine wpAnyIn_ready (rs := [7]) (by kernel_rfl) (by simp) ?_
          refine AllReadyIn.cons rfl (fun K hK => ?_) AllReadyIn.nil
          rw [if_pos (by rfl)]
          refine opIn_append_own_at _ _ _ rfl W1.heap.size 3 iI (.int .i64 0) 1 8 Tryd.underlying36 hiI hzI0 hzI1 hzI2 rfl (by decide) (.slice pk2 pre.length ck2) pre.length _ (by rfl) (own_keep a2 (w' := V.drew.alloc (.cells #[.int .i64 z] 3)) (fun b _ hb => Below.heap_alloc V.drew _ b hb)) ⟨V.heap.size, 0, none⟩ 1 1 [.int .i64 z] (by rfl) rfl (cell_one_new V.drew _ _) (by simp [Value.oneCell']) (by have := HPL.out; unfold maxLen; omega) (by have := HPL.out; omega) (by simp; omega) ?_
          intro v5 w5 hown hgrow hiff hblk
          refine hK _ _ ?_
          clear hK K
          try simp only [Act.put, List.getElem_toArray, List.getElem_cons_zero, List.getElem_cons_succ, List.setIfInBounds_toArray, List.set_cons_zero, List.set_cons_succ]
          refine wpAnyIn_ready (rs := [8]) (by kernel_rfl) (by simp) ?_
          refine AllReadyIn.cons rfl (fun K hK => ?_) AllReadyIn.nil
          try simp only [List.getElem_toArray, List.getElem_cons_zero, List.getElem_cons_succ]
          go_simp
          refine hK _ _ ?_
          clear hK K
          try simp only [Act.put, List.getElem_toArray, List.getElem_cons_zero, List.getElem_cons_succ, List.setIfInBounds_toArray, List.set_cons_zero, List.set_cons_succ]
          have k5 := cl_lo (a1.drew.alloc (.cells #[.int .i64 z] 3)) (own_keep a2 (w' := V.drew.alloc (.cells #[.int .i64 z] 3)) (fun b _ hb => Below.heap_alloc V.drew _ b hb)) (by omega) hgrow
          obtain ⟨⟨r0, r1, r2, r3, r4, r5, r6, r7, r8⟩, rf⟩ := k5.nine
          obtain ⟨p5, c5, rfl⟩ := own_slice hown
          refine wpAnyIn_ready (rs := [9]) (by kernel_rfl) (by simp) ?_
          refine AllReadyIn.cons rfl (fun K hK => ?_) AllReadyIn.nil
          try simp only [List.getElem_toArray, List.getElem_cons_zero, List.getElem_cons_succ]
          go_simp
          refine hK _ _ ?_
          clear hK K
          try simp only [Act.put, List.getElem_toArray, List.getElem_cons_zero, List.getElem_cons_succ, List.setIfInBounds_toArray, List.set_cons_zero, List.set_cons_succ]
          refine wpAnyIn_done (by kernel_rfl) ?_ _
          have o4 := own_keep a2 (w' := V.drew.alloc (.cells #[.int .i64 z] 3)) (fun b _ hb => Below.heap_alloc V.drew _ b hb)
          have a4 : Fr [W.heap.size] W1 (w5.setCell ⟨W.heap.size, 8, none⟩ (.slice p5 (pre.length + 1) c5)) := ((a3.drew.alloc (.cells #[.int .i64 z] 3)).grown hgrow (fun r e => (o4.lt r e).1)).store (p := ⟨W.heap.size, 8, none⟩) (.inl (by simp)) _
          have kf : KeepsFrom W1.heap.size V (w5.setCell ⟨W.heap.size, 8, none⟩ (.slice p5 (pre.length + 1) c5)) := ((((⟨Nat.le_refl _, fun k o _ h _ => h⟩ : KeepsFrom W1.heap.size V V.drew).trans (KeepsFrom.of_grownBy (World.grownBy_alloc V.drew (.cells #[.int .i64 z] 3) none) (fun j e => by cases e))).trans (keeps_append o4 hgrow)).trans (KeepsFrom.of_grownBy (gb_set (gb_refl w5 (some W.heap.size)) 8 (.slice p5 (pre.length + 1) c5)) (fun j e => by cases e; omega)))
          refine ⟨kf, fun b hb hn => (a4.block b (by omega) hn).trans (a3.block b (by omega) hn).symm, .slice p5 (pre.length + 1) c5, k5.put 8 _, ?_, a4⟩
          have o5 := own_keep hown (w' := w5.setCell ⟨W.heap.size, 8, none⟩ (.slice p5 (pre.length + 1) c5)) (fun b hb _ => Below.heap_setCell w5 ⟨W.heap.size, 8, none⟩ (.slice p5 (pre.length + 1) c5) b (by simp; omega))
          rw [List.length_append, List.map_append, List.map_singleton, ← HZ.out]
          exact o5
      case done2 =>
        rintro D ys V hD hys ⟨kp, a1, a2, a3⟩ hK
        dsimp only
        have hys' : ys.map (·.1) = KF s i := hys
        have hyl : ys.length = (KF s i).length := by rw [← hys', List.length_map]
        have hyk : (ys.map fun x => Value.int .i64 (plF S i x.1 : Nat)) = (ndOf s S i).kids.map (Value.int .i64) := by
          have e1 := plF_kids hC hiS
          unfold ndOf
          dsimp only
          rw [← e1, ← hys', List.map_map, List.map_map]
          rfl
        rw [hyk, hyl] at a2
        obtain ⟨pk2, ck2, rfl⟩ := own_slice a2
        have f3 := f1.trans a3
        have hnL : ∀ b, b ∈ L → b ∉ [W.heap.size] := fun b hb hn => by
          have h2 := lt_of_block (hmks.all b hb)
          have := List.mem_singleton.1 hn
          omega
        have hmks1 := (hmks.keep (W := W1) fun b hb hL => f1.block b hb (hnL b hL)).cons (fun b hb hL => a3.block b hb (hnL b hL)) hD hK
        have hB3 := Fr.toBelow hB f3 (fun b hb => by rw [List.mem_singleton.1 hb]; exact hB.size) hB.size
        have hge3 : ∀ E ∈ D :: L, gP + 2 ≤ E := fun E hE => by
          rcases List.mem_cons.1 hE with rfl | hE
          · omega
          · exact hge E hE
        have hP3 := a3.row hP1 (by simp; have := hP.lt; omega)
        have hQ3 := a3.cl hQ1 (by simp; omega)
        have hS3 := f3.row hSr (by simp; have := hSr.lt; omega)
        have hR3 := f3.cl hR (by simp; omega)
        have hMd3 := hMd.keep fun b _ hb => f3.block b hb (by simp; omega)
        have hCl : C.length = S.idxOf i := by
          have e1 := congrArg List.length hCm
          rw [List.length_map, List.length_map] at e1
          exact e1.trans (srt_step hS hiS).2
        have hSb := srt_len hS (b := N) (fun x hx => by have := hC.le x hx; have := HN.out; omega)
        have hix : S.idxOf i < S.length := List.idxOf_lt_length_iff.2 hiS
        have hCb : C.length ≤ 2147483647 := by have := HN.out; omega
        have hPi := hP3.cell hlt
        have hPf := hP3.frozen
        obtain ⟨q0, qf⟩ := hQ3.oneC
        have hneP : W.heap.size ≠ gP := by omega
        have kN4 := a1.other (p := ⟨gP, i, none⟩) hneP (.int .i64 C.length)
        obtain ⟨⟨y0, y1, y2, y3, y4, y5, y6, y7, y8⟩, yf⟩ := kN4.nine
        have hMd4 := (hMd3.store (p := ⟨gP, i, none⟩) (by simp) (.int .i64 C.length)).below ((Below.refl _ _).alloc (Nat.le_refl _) (.cells (nodeC (s.hd i) (.slice pk2 (KF s i).length ck2)) 38))
        have hK4 := (own_keep a2 (fun b hb _ => Below.heap_setCell V ⟨gP, i, none⟩ (.int .i64 C.length) b (by simp; omega))).alloc (.cells (nodeC (s.hd i) (.slice pk2 (KF s i).length ck2)) 38)
        have hnew := node_new (V.setCell ⟨gP, i, none⟩ (.int .i64 C.length)) (s.hd i) (.slice pk2 (KF s i).length ck2) 38
        rw [World.size_setCell] at hnew
        have hB4 := (hB3.setCell (p := ⟨gP, i, none⟩) (by simp; omega) (.int .i64 C.length)).alloc (by rw [World.size_setCell]; exact hB3.size) (.cells (nodeC (s.hd i) (.slice pk2 (KF s i).length ck2)) 38)
        have hP4 := ((hP3.set i (.int .i64 C.length)).congr (g := fun j => .int .i64 (plF S (i + 1) j : Nat)) fun j _ => by
          rw [plF_next hiS, hCl]
          split <;> rfl).alloc (.cells (nodeC (s.hd i) (.slice pk2 (KF s i).length ck2)) 38)
        have hQ4 := (hQ3.other (p := ⟨gP, i, none⟩) (by simp) (.int .i64 C.length)).alloc (.cells (nodeC (s.hd i) (.slice pk2 (KF s i).length ck2)) 38)
        have hS4 := (hS3.setOther (a := ⟨gP, i, none⟩) (by simp; omega) (.int .i64 C.length)).alloc (.cells (nodeC (s.hd i) (.slice pk2 (KF s i).length ck2)) 38)
        have hR4 := (hR3.other (p := ⟨gP, i, none⟩) (by simp; omega) (.int .i64 C.length)).alloc (.cells (nodeC (s.hd i) (.slice pk2 (KF s i).length ck2)) 38)
        have hmks4 := hmks1.keep (W := (V.setCell ⟨gP, i, none⟩ (.int .i64 C.length)).alloc (.cells (nodeC (s.hd i) (.slice pk2 (KF s i).length ck2)) 38)) fun b hb hL => by
          rw [Below.heap_alloc _ _ b (by simpa using hb)]
          exact Below.heap_setCell V ⟨gP, i, none⟩ (.int .i64 C.length) b (by have := hge3 b hL; simp; omega)
        have hVs : gP + 2 ≤ V.heap.size := by have := a3.size; omega
        have HCL := Lib.hid hCl
        have HCB := Lib.hid hCb
        clear hCl hMd hMd3 hP hP3 hQ hQ1 hQ3 hSr hS3 hR hR3 hmks hmks1 hB hB3 hK a1 a2 a3 hP1 kN q1 q2 hyk hyl hys hys' f1 f3 hSb hix
        gi_wp2_with (gi_at_builtin; refine wpListIn_append_own_at _ rfl _ _ 24 rfl (gP + 2) 38 iN (.agg nodeZ) 9 96 Tryd.underlying24 hiN hzN0 hzN1 hzN2 rfl (by decide) _ _ _ rfl hMd4.row ⟨V.heap.size, 0, none⟩ 1 1 (nodeC (s.hd i) (.slice pk2 (KF s i).length ck2)).toList rfl rfl hnew (node_one _ rfl) (by have := HCB.out; unfold maxLen; omega) (by have := HCB.out; omega) (by simp; omega) ?_
                     intro v6 w6 hown hgrow hiff hblk)
        have key : ∀ b, b < gP + 2 → w6.heap[b]? = ((V.setCell ⟨gP, i, none⟩ (.int .i64 C.length)).alloc (.cells (nodeC (s.hd i) (.slice pk2 (KF s i).length ck2)) 38)).heap[b]? := fun b hb => hgrow.block b (by simp; omega) fun e => by have := (hMd4.row.lt b e.symm).1; omega
        have hM6 : Made (gP + 2) w6 v6 (C ++ [(ndOf s S i, .slice pk2 (KF s i).length ck2)]) := by
          refine ⟨?_, fun x hx => ?_⟩
          · rw [List.length_append, cellsN_append]
            exact hown
          · rcases List.mem_append.1 hx with hx | hx
            · exact own_type (hMd4.kids x hx) hMd4.row (by decide) hgrow
            · rw [List.mem_singleton.1 hx]
              have h5 := (own_type hK4 hMd4.row (by decide) hgrow).mono (base' := gP + 2) (by omega)
              have h6 : (ndOf s S i).kids.length = (KF s i).length := by simp [ndOf]
              show w6.ownsRow _ _ _ _ (ndOf s S i).kids.length _
              rw [h6]
              exact h5
        obtain ⟨p8, c8, rfl⟩ := own_slice hM6.row
        have hmks6 : Mks (D :: L) w6 := ⟨hmks4.nd, fun E hE => (keeps_append (B := 0) hMd4.row hgrow).same E _ (Nat.zero_le _) (hmks4.all E hE) rfl⟩
        have hB6 := hB4.grown hgrow hB4.size fun b e => by have := (hMd4.row.lt b e).1; omega
        have hm6 : (C ++ [(ndOf s S i, Value.slice pk2 (KF s i).length ck2)]).map Prod.fst = (S.filter fun x => decide (x < i + 1)).map (ndOf s S) := by
          rw [List.map_append, hCm, (srt_step hS hiS).1, List.map_append]
          rfl
        gi_wp2
        exact ⟨⟨i + 1, D :: L, C ++ [(ndOf s S i, .slice pk2 (KF s i).length ck2)], p8, _, c8, ⟨⟨rfl, rfl⟩, rfl⟩, rfl, hin, hM6, hm6, hP4.of_block (key gP (by omega)), (key (gP + 1) (by omega)).trans hQ4, hS4.of_block (key gS (by omega)), (key w.heap.size (by omega)).trans hR4, hmks6, hge3, hB6⟩, by first | exact meas_next hin | exact meas_next' hin⟩
      case stop2 =>
        rintro D c pre V _ _ hf _
        exact hf.elim
    · rw [decide_eq_false hiS] at s0
      have b3 := hB.alloc hB.size (.cells (nodeC (s.hd i) (.slice pk nk ck)) 38)
      have st := (Below.refl W.heap.size W).alloc (Nat.le_refl _) (.cells (nodeC (s.hd i) (.slice pk nk ck)) 38)
      have hmk3 := hmks.keep fun b hb _ => st.block b hb
      gi_wp2
      exact ⟨⟨i + 1, L, C, p7, _, c7, _, _, _, _, _, _, _, _, _, _, _, _, _, _, _, _, _, _, _, _, _, _, _, _, _, _, _, _, _, _, _, _, _, _, _, _, rfl, rfl, hin, hMd.below st, by rw [hCm, srt_skip hiS], (hP.alloc _).congr fun j _ => by rw [plF_skip hiS], hQ.alloc _, hSr.alloc _, hR.alloc _, hmk3, hge, b3⟩, by first | exact meas_next hin | exact meas_next' hin⟩
  · obtain rfl : i = N := by omega
    have hfS : (S.filter fun x => decide (x < i)) = S := List.filter_eq_self.2 fun x hx => by
      have := hC.le x hx
      have := HN.out
      simp
      omega
    rw [hfS] at hCm
    have hCl : C.length = S.length := by
      have := congrArg List.length hCm
      simpa using this
    have hSl := srt_len hS (b := i) (fun x hx => by have := hC.le x hx; have := HN.out; omega)
    have hwl : IntKind.i64.wrap ((C.length : Int) - 1) = (C.length : Int) - 1 := by rw [IntWalk.i64_in _ (by have := HN.out; omega)]
    obtain ⟨⟨y0, y1⟩, yf⟩ := hR.two
    have HCL := Lib.hid hCl
    clear hCl hSl
    gi_wp2
    have k3 : Cl _ w.heap.size 26 #[.slice p7 C.length c7, .int .i64 ((C.length : Int) - 1)] := hR.put2 (.slice p7 C.length c7) (.int .i64 ((C.length : Int) - 1))
    have hM3 : Made (gP + 2) _ _ _ := hMd.ty hR (by decide) (by decide) (gb_put2 W w.heap.size (.slice p7 C.length c7) (.int .i64 ((C.length : Int) - 1)))
    have b3 := below_put2 hB (Nat.le_refl w.heap.size) (.slice p7 C.length c7) (.int .i64 ((C.length : Int) - 1))
    have hmk3 : Mks L _ := hmks.keep (W := put2 W w.heap.size (.slice p7 C.length c7) (.int .i64 ((C.length : Int) - 1))) fun b hb hL => (gb_put2 W w.heap.size (.slice p7 C.length c7) (.int .i64 ((C.length : Int) - 1))).block b hb (fun e => by have := hge b hL; cases e; omega)
    show LeavesInM Fence.wide 4 Tryd.prog _ _ _ (L.map mark) .returning _
    refine leaves_marks (fun V => Cl V w.heap.size 26 #[.slice p7 C.length c7, .int .i64 ((C.length : Int) - 1)] ∧ Made (gP + 2) V (.slice p7 C.length c7) C ∧ Below w.heap.size w V) L _ hmk3 ⟨k3, hM3, b3⟩ (fun D hD V hV2 ⟨g1, g2, g3⟩ => ?_) (fun V ⟨g1, g2, g3⟩ => ⟨_, res_tree g1 rfl rfl, .slice p7 C.length c7, C, by rw [HCL.out], g2.mono (by omega), hCm, g3⟩)
    have hD2 := hge D hD
    exact ⟨(World.putObj_heap_other (by omega)).trans g1, g2.cells (obj_cells hV2), g3.grown (grownBy_putObj' V D _) g3.size (fun k e => by cases e; omega)⟩

theorem mtree_any (g : Gm) (kv : Nat → Value) (st : Nat) (s : St) (r : Nat) (S : List Nat) (w : World) (h : Mk g kv st s w) (hr : r < g.n) (hn : g.n ≤ 2147483647) (hcap : g.n ≤ g.c) (hC : Cls s S r) (hS : Srt S) (hm : ∀ x ∈ S, (s.rw x).many ≤ 2147483647) :
    Calls Tryd.prog 93 #[.pointer (some ⟨g.m, 0, none⟩), .int .i64 r] w fun e w' => ∃ v C, e = .returned (treeV v ((S.length : Int) - 1)) ∧ Made w.heap.size w' v C ∧ C.map Prod.fst = S.map (ndOf s S) ∧ Below w.heap.size w w' :=
  callsIn_wide.1 (mtree_in g kv st s r S w h hr hn hcap hC hS hm)
end Go.Proofs.YtpkjfdgjmcphmaaDoor

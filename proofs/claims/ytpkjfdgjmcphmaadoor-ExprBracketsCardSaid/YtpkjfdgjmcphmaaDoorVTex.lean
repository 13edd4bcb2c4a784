/- bonsairef04: Exact. -/
import Derived.Test.YtpkjfdgjmcphmaaDoorVTrow
import Derived.Test.YtpkjfdgjmcphmaaDoorVTz4a
namespace Go.Proofs.YtpkjfdgjmcphmaaDoor
open Go.RowKit Bset Tm

noncomputable def exactT (a b : Ar) : Bool := eqB a.nodes b.nodes && decide (a.root = b.root)

theorem two_new {w wr W : World} {gA gB : Nat} {tA tB : TypeId} {cA cB X Y : Array Value} {t : TypeId} (hB : Below w.heap.size w wr) (KA : Cl wr gA tA cA) (KB : Cl wr gB tB cB) (hW : ((wr.alloc (.cells X t)).alloc (.cells Y t)).drew = W) :
    Below w.heap.size w W ∧ Cl W gA tA cA ∧ Cl W gB tB cB ∧ Cl W wr.heap.size t X ∧ Cl W (wr.heap.size + 1) t Y := by
  subst hW
  have hb := (((Below.refl wr.heap.size wr).alloc (Nat.le_refl _) (.cells X t)).alloc (by simp) (.cells Y t)).drew
  exact ⟨hB.trans (hb.mono hB.size), (KA.alloc _).alloc _, (KB.alloc _).alloc _, (Cl.new wr _ _).alloc _, Cl.new' (by simp) _ _⟩

set_option maxRecDepth 100000 in
set_option maxHeartbeats 8000000 in
theorem exact_any (v1 v2 : Value) (a b : Ar) (w : World) (h1 : Tree w v1 a) (h2 : Tree w v2 b) (hok : OkA a.nodes) :
    Calls Tryd.prog 35 #[v1, v2] w fun e w' => e = .returned (.bool (exactT a b)) ∧ Below w.heap.size w w' := by
  obtain ⟨A, ra⟩ := a
  obtain ⟨B, rb⟩ := b
  obtain ⟨nv1, rfl, hn1⟩ := h1
  obtain ⟨nv2, rfl, hn2⟩ := h2
  obtain ⟨p1, c1, e1, hh1⟩ := hn1
  obtain ⟨p2, c2, e2, hh2⟩ := hn2
  subst e1 e2
  dsimp only at *
  have B0 := ((Below.refl w.heap.size w).alloc (Nat.le_refl _) (.cells #[.slice p1 A.length c1, .int .i64 ra] 26)).alloc (by simp) (.cells #[.slice p2 B.length c2, .int .i64 rb] 26)
  have KA := (Cl.new w 26 #[.slice p1 A.length c1, .int .i64 ra]).alloc (.cells #[.slice p2 B.length c2, .int .i64 rb] 26)
  have KB : Cl ((w.alloc (.cells #[.slice p1 A.length c1, .int .i64 ra] 26)).alloc (.cells #[.slice p2 B.length c2, .int .i64 rb] 26)) (w.heap.size + 1) 26 #[.slice p2 B.length c2, .int .i64 rb] := Cl.new' (by simp) _ _
  unfold exactT
  by_cases hlen : A.length = B.length
  · have hle : ((A.length : Int) != (B.length : Int)) = false := by simp [hlen]
    have HL := Lib.hid hlen
    have hlA := hok.len
    have HOK := Lib.hid hok
    clear hlen hok
    by_cases hr : ra = rb
    · have hre : (ra != rb) = false := by simp [hr]
      have HRR := Lib.hid hr
      clear hr
      go_enter Tryd.func35, Tryd.ntmps35
      go_wp2
      have HB0 := Lib.hid B0
      go_loopw [5, 6, 7, 8] (fun v _ _ _ W => ∃ q : Nat, v = .int .i64 q ∧ q ≤ A.length ∧ A.take q = B.take q ∧ Below w.heap.size w W ∧ Cl W w.heap.size 26 #[.slice p1 A.length c1, .int .i64 ra] ∧ Cl W (w.heap.size + 1) 26 #[.slice p2 B.length c2, .int .i64 rb]) (fun v _ _ _ _ => A.length - (intOf v).toNat)
      case atStart => exact ⟨0, rfl, Nat.zero_le _, rfl, B0, KA, KB⟩
      case round =>
        clear KA KB B0
        obtain ⟨q, rfl, hq, ht, hB, KA, KB⟩ := hrel
        have hqq : (q : Int) ≤ (A.length : Int) := by omega
        obtain ⟨⟨y0, y1⟩, yf⟩ := KA.two
        obtain ⟨⟨z0, z1⟩, zf⟩ := KB.two
        by_cases hlt : q < A.length
        · have hlt2 : q < B.length := by have := HL.out; omega
          rcases hh1 with rfl | ⟨b, off, rfl, hc⟩
          · simp at hlt
          rcases hh2 with rfl | ⟨b', off', rfl, hc'⟩
          · simp at hlt2
          obtain ⟨kv1, hN1, hI1⟩ := hc q hlt
          obtain ⟨kv2, hN2, hI2⟩ := hc' q hlt2
          obtain ⟨q1, cap1, rfl⟩ := hI1.len
          obtain ⟨q2, cap2, rfl⟩ := hI2.len
          obtain ⟨m0, m1, m2, m3, m4, m5, m6, m7, m8⟩ := hN1.keep hB.block
          obtain ⟨n0, n1, n2, n3, n4, n5, n6, n7, n8⟩ := hN2.keep hB.block
          have hq0 : (0 : Int) ≤ (q : Int) := by omega
          have hq1 : (q : Int) < (A.length : Int) := by omega
          have hq2 : (q : Int) < (B.length : Int) := by omega
          have HC := Lib.hid hc
          have HC' := Lib.hid hc'
          have HT := Lib.hid ht
          clear hc hc' ht
          -- the two nodes
          have dm0 : wr.drew.cell? ⟨b, off + q * 9, none⟩ = some (.int .u8 A[q].hd.kind) := m0
          have dm1 : wr.drew.cell? ⟨b, off + q * 9 + 1, none⟩ = some (.int .u64 (word (setN A[q].hd.set) 0 : Nat)) := m1
          have dm2 : wr.drew.cell? ⟨b, off + q * 9 + 2, none⟩ = some (.int .u64 (word (setN A[q].hd.set) 1 : Nat)) := m2
          have dm3 : wr.drew.cell? ⟨b, off + q * 9 + 3, none⟩ = some (.int .u64 (word (setN A[q].hd.set) 2 : Nat)) := m3
          have dm4 : wr.drew.cell? ⟨b, off + q * 9 + 4, none⟩ = some (.int .u64 (word (setN A[q].hd.set) 3 : Nat)) := m4
          have dm5 : wr.drew.cell? ⟨b, off + q * 9 + 5, none⟩ = some (.string A[q].hd.text) := m5
          have dm6 : wr.drew.cell? ⟨b, off + q * 9 + 6, none⟩ = some (.int .i64 A[q].hd.lo) := m6
          have dm7 : wr.drew.cell? ⟨b, off + q * 9 + 7, none⟩ = some (.int .i64 A[q].hd.hi) := m7
          have dm8 : wr.drew.cell? ⟨b, off + q * 9 + 8, none⟩ = some (.slice q1 A[q].kids.length cap1) := m8
          have dn0 : wr.drew.cell? ⟨b', off' + q * 9, none⟩ = some (.int .u8 B[q].hd.kind) := n0
          have dn1 : wr.drew.cell? ⟨b', off' + q * 9 + 1, none⟩ = some (.int .u64 (word (setN B[q].hd.set) 0 : Nat)) := n1
          have dn2 : wr.drew.cell? ⟨b', off' + q * 9 + 2, none⟩ = some (.int .u64 (word (setN B[q].hd.set) 1 : Nat)) := n2
          have dn3 : wr.drew.cell? ⟨b', off' + q * 9 + 3, none⟩ = some (.int .u64 (word (setN B[q].hd.set) 2 : Nat)) := n3
          have dn4 : wr.drew.cell? ⟨b', off' + q * 9 + 4, none⟩ = some (.int .u64 (word (setN B[q].hd.set) 3 : Nat)) := n4
          have dn5 : wr.drew.cell? ⟨b', off' + q * 9 + 5, none⟩ = some (.string B[q].hd.text) := n5
          have dn6 : wr.drew.cell? ⟨b', off' + q * 9 + 6, none⟩ = some (.int .i64 B[q].hd.lo) := n6
          have dn7 : wr.drew.cell? ⟨b', off' + q * 9 + 7, none⟩ = some (.int .i64 B[q].hd.hi) := n7
          have dn8 : wr.drew.cell? ⟨b', off' + q * 9 + 8, none⟩ = some (.slice q2 B[q].kids.length cap2) := n8
          have dy0 : wr.drew.cell? ⟨w.heap.size, 0, none⟩ = some (.slice (some ⟨b, off, none⟩) A.length c1) := y0
          have dy1 : wr.drew.cell? ⟨w.heap.size, 1, none⟩ = some (.int .i64 ra) := y1
          have dz0 : wr.drew.cell? ⟨w.heap.size + 1, 0, none⟩ = some (.slice (some ⟨b', off', none⟩) B.length c2) := z0
          have dz1 : wr.drew.cell? ⟨w.heap.size + 1, 1, none⟩ = some (.int .i64 rb) := z1
          go_wp2
          refine wp_region_held_drew (S := (fun w' => w'.cell? ⟨b, off + q * 9, none⟩ = some (.int .u8 A[q].hd.kind) ∧ w'.cell? ⟨b, off + q * 9 + 1, none⟩ = some (.int .u64 (word (setN A[q].hd.set) 0 : Nat)) ∧ w'.cell? ⟨b, off + q * 9 + 2, none⟩ = some (.int .u64 (word (setN A[q].hd.set) 1 : Nat)) ∧ w'.cell? ⟨b, off + q * 9 + 3, none⟩ = some (.int .u64 (word (setN A[q].hd.set) 2 : Nat)) ∧ w'.cell? ⟨b, off + q * 9 + 4, none⟩ = some (.int .u64 (word (setN A[q].hd.set) 3 : Nat)) ∧ w'.cell? ⟨b, off + q * 9 + 5, none⟩ = some (.string A[q].hd.text) ∧ w'.cell? ⟨b, off + q * 9 + 6, none⟩ = some (.int .i64 A[q].hd.lo) ∧ w'.cell? ⟨b, off + q * 9 + 7, none⟩ = some (.int .i64 A[q].hd.hi) ∧ w'.cell? ⟨b, off + q * 9 + 8, none⟩ = some (.slice q1 A[q].kids.length cap1) ∧ w'.cell? ⟨b', off' + q * 9, none⟩ = some (.int .u8 B[q].hd.kind) ∧ w'.cell? ⟨b', off' + q * 9 + 1, none⟩ = some (.int .u64 (word (setN B[q].hd.set) 0 : Nat)) ∧ w'.cell? ⟨b', off' + q * 9 + 2, none⟩ = some (.int .u64 (word (setN B[q].hd.set) 1 : Nat)) ∧ w'.cell? ⟨b', off' + q * 9 + 3, none⟩ = some (.int .u64 (word (setN B[q].hd.set) 2 : Nat)) ∧ w'.cell? ⟨b', off' + q * 9 + 4, none⟩ = some (.int .u64 (word (setN B[q].hd.set) 3 : Nat)) ∧ w'.cell? ⟨b', off' + q * 9 + 5, none⟩ = some (.string B[q].hd.text) ∧ w'.cell? ⟨b', off' + q * 9 + 6, none⟩ = some (.int .i64 B[q].hd.lo) ∧ w'.cell? ⟨b', off' + q * 9 + 7, none⟩ = some (.int .i64 B[q].hd.hi) ∧ w'.cell? ⟨b', off' + q * 9 + 8, none⟩ = some (.slice q2 B[q].kids.length cap2) ∧ w'.cell? ⟨w.heap.size, 0, none⟩ = some (.slice (some ⟨b, off, none⟩) A.length c1) ∧ w'.cell? ⟨w.heap.size, 1, none⟩ = some (.int .i64 ra) ∧ w'.cell? ⟨w.heap.size + 1, 0, none⟩ = some (.slice (some ⟨b', off', none⟩) B.length c2) ∧ w'.cell? ⟨w.heap.size + 1, 1, none⟩ = some (.int .i64 rb))) (by kernel_rfl) (⟨m0, m1, m2, m3, m4, m5, m6, m7, m8, n0, n1, n2, n3, n4, n5, n6, n7, n8, y0, y1, z0, z1⟩) (fun hHeld => ?_)
          refine wpAnyH_take (i := 0) (v := ?t0v) rfl (by kernel_rfl) (by kernel_rfl) (by kernel_rfl) (fun _ _ _ h => h) (Or.inl ⟨by rfl, ?t0y⟩) (by assumption) ?t0t
          case t0y => (intro w hSw; (try dsimp only at hSw); (try simp only [List.getElem_toArray, List.getElem_cons_zero]); go_simp; try with_reducible rfl)
          try simp only [Act.put, List.getElem_toArray, List.getElem_cons_zero, List.setIfInBounds_toArray, List.set_cons_zero, List.set_cons_succ]
          refine wpAnyH_take (i := 1) (v := ?t1v) rfl (by kernel_rfl) (by kernel_rfl) (by kernel_rfl) (fun _ _ _ h => h) (Or.inl ⟨by rfl, ?t1y⟩) (by assumption) ?t1t
          case t1y => (intro w hSw; (try dsimp only at hSw); (try simp only [List.getElem_toArray, List.getElem_cons_zero, List.getElem_cons_succ]); go_simp; try with_reducible rfl)
          try simp only [Act.put, List.getElem_toArray, List.getElem_cons_zero, List.getElem_cons_succ, List.setIfInBounds_toArray, List.set_cons_zero, List.set_cons_succ]
          refine wpAnyH_take (i := 2) (v := ?t2v) rfl (by kernel_rfl) (by kernel_rfl) (by kernel_rfl) (fun _ _ _ h => h) (Or.inl ⟨by rfl, ?t2y⟩) (by assumption) ?t2t
          case t2y => (intro w hSw; (try dsimp only at hSw); (try simp only [List.getElem_toArray, List.getElem_cons_zero, List.getElem_cons_succ]); go_simp; try with_reducible rfl)
          try simp only [Act.put, List.getElem_toArray, List.getElem_cons_zero, List.getElem_cons_succ, List.setIfInBounds_toArray, List.set_cons_zero, List.set_cons_succ]
          refine wpAnyH_take (i := 3) (v := ?t3v) rfl (by kernel_rfl) (by kernel_rfl) (by kernel_rfl) (fun _ _ _ h => h) (Or.inl ⟨by rfl, ?t3y⟩) (by assumption) ?t3t
          case t3y => (intro w hSw; (try dsimp only at hSw); (try simp only [List.getElem_toArray, List.getElem_cons_zero, List.getElem_cons_succ]); go_simp; try with_reducible rfl)
          try simp only [Act.put, List.getElem_toArray, List.getElem_cons_zero, List.getElem_cons_succ, List.setIfInBounds_toArray, List.set_cons_zero, List.set_cons_succ]
          refine wpAnyH_take (i := 4) (v := ?t4v) rfl (by kernel_rfl) (by kernel_rfl) (by kernel_rfl) (fun _ _ _ h => h) (Or.inl ⟨by rfl, ?t4y⟩) (by assumption) ?t4t
          case t4y => (intro w hSw; (try dsimp only at hSw); (try simp only [List.getElem_toArray, List.getElem_cons_zero, List.getElem_cons_succ]); go_simp; try with_reducible rfl)
          try simp only [Act.put, List.getElem_toArray, List.getElem_cons_zero, List.getElem_cons_succ, List.setIfInBounds_toArray, List.set_cons_zero, List.set_cons_succ]
          refine wpAnyH_take (i := 5) (v := ?t5v) rfl (by kernel_rfl) (by kernel_rfl) (by kernel_rfl) (fun _ _ _ h => h) (Or.inl ⟨by rfl, ?t5y⟩) (by assumption) ?t5t
          case t5y => (intro w hSw; (try dsimp only at hSw); (try simp only [List.getElem_toArray, List.getElem_cons_zero, List.getElem_cons_succ]); go_simp; try with_reducible rfl)
          try simp only [Act.put, List.getElem_toArray, List.getElem_cons_zero, List.getElem_cons_succ, List.setIfInBounds_toArray, List.set_cons_zero, List.set_cons_succ]
          refine wpAnyH_take (i := 6) (v := ?t6v) rfl (by kernel_rfl) (by kernel_rfl) (by kernel_rfl) (fun _ _ _ h => h) (Or.inl ⟨by rfl, ?t6y⟩) (by assumption) ?t6t
          case t6y => (intro w hSw; (try dsimp only at hSw); (try simp only [List.getElem_toArray, List.getElem_cons_zero, List.getElem_cons_succ]); go_simp; try with_reducible rfl)
          try simp only [Act.put, List.getElem_toArray, List.getElem_cons_zero, List.getElem_cons_succ, List.setIfInBounds_toArray, List.set_cons_zero, List.set_cons_succ]
          refine wpAnyH_take (i := 7) (v := ?t7v) rfl (by kernel_rfl) (by kernel_rfl) (by kernel_rfl) (fun _ _ _ h => h) (Or.inl ⟨by rfl, ?t7y⟩) (by assumption) ?t7t
          case t7y => (intro w hSw; (try dsimp only at hSw); (try simp only [List.getElem_toArray, List.getElem_cons_zero, List.getElem_cons_succ]); go_simp; try with_reducible rfl)
          try simp only [Act.put, List.getElem_toArray, List.getElem_cons_zero, List.getElem_cons_succ, List.setIfInBounds_toArray, List.set_cons_zero, List.set_cons_succ]
          refine wpAnyH_take (i := 8) (v := ?t8v) rfl (by kernel_rfl) (by kernel_rfl) (by kernel_rfl) (fun _ _ _ h => h) (Or.inl ⟨by rfl, ?t8y⟩) (by assumption) ?t8t
          case t8y => (intro w hSw; (try dsimp only at hSw); (try simp only [List.getElem_toArray, List.getElem_cons_zero, List.getElem_cons_succ]); go_simp; try with_reducible rfl)
          try simp only [Act.put, List.getElem_toArray, List.getElem_cons_zero, List.getElem_cons_succ, List.setIfInBounds_toArray, List.set_cons_zero, List.set_cons_succ]
          refine wpAnyH_take (i := 9) (v := ?t9v) rfl (by kernel_rfl) (by kernel_rfl) (by kernel_rfl) (fun _ _ _ h => h) (Or.inl ⟨by rfl, ?t9y⟩) (by assumption) ?t9t
          case t9y => (intro w hSw; (try dsimp only at hSw); (try simp only [List.getElem_toArray, List.getElem_cons_zero, List.getElem_cons_succ]); go_simp; try with_reducible rfl)
          try simp only [Act.put, List.getElem_toArray, List.getElem_cons_zero, List.getElem_cons_succ, List.setIfInBounds_toArray, List.set_cons_zero, List.set_cons_succ]
          refine wpAnyH_ready (rs := [10, 11]) (by kernel_rfl) (by simp) ?_
          refine AllReadyH.cons rfl (fun K hK => ?oA) (AllReadyH.cons rfl (fun K hK => ?oB) AllReadyH.nil)
          case oA =>
            try simp only [List.getElem_toArray, List.getElem_cons_zero, List.getElem_cons_succ]
            go_simp
            refine hK.out _ _ ?oAa (fun hHeld2 => ?_)
            case oAa => (try dsimp only); ((refine ⟨?_, ?_, ?_, ?_, ?_, ?_, ?_, ?_, ?_, ?_, ?_, ?_, ?_, ?_, ?_, ?_, ?_, ?_, ?_, ?_, ?_, ?_⟩ <;> (repeat (first | assumption | apply cell_alloc))))
            clear hHeld hK K
            have hHeld := hHeld2
            clear hHeld2
            try simp only [Act.put, List.getElem_toArray, List.getElem_cons_zero, List.getElem_cons_succ, List.setIfInBounds_toArray, List.set_cons_zero, List.set_cons_succ]
            refine wpAnyH_ready (rs := [11]) (by kernel_rfl) (by simp) ?_
            refine AllReadyH.cons rfl (fun K hK => ?_) AllReadyH.nil
            try simp only [List.getElem_toArray, List.getElem_cons_zero, List.getElem_cons_succ]
            go_simp
            refine hK.out _ _ ?oAb (fun hHeld2 => ?_)
            case oAb => (try dsimp only); ((refine ⟨?_, ?_, ?_, ?_, ?_, ?_, ?_, ?_, ?_, ?_, ?_, ?_, ?_, ?_, ?_, ?_, ?_, ?_, ?_, ?_, ?_, ?_⟩ <;> (repeat (first | assumption | apply cell_alloc))))
            clear hHeld hK K
            have hHeld := hHeld2
            clear hHeld2
            try simp only [Act.put, List.getElem_toArray, List.getElem_cons_zero, List.getElem_cons_succ, List.setIfInBounds_toArray, List.set_cons_zero, List.set_cons_succ]
            refine wpAnyH_ready (rs := [12]) (by kernel_rfl) (by simp) ?_
            refine AllReadyH.cons rfl (fun K hK => ?_) AllReadyH.nil
            try simp only [List.getElem_toArray, List.getElem_cons_zero, List.getElem_cons_succ]
            go_simp
            refine hK.out _ _ ?oAc (fun hHeld2 => ?_)
            case oAc => (try dsimp only); ((refine ⟨?_, ?_, ?_, ?_, ?_, ?_, ?_, ?_, ?_, ?_, ?_, ?_, ?_, ?_, ?_, ?_, ?_, ?_, ?_, ?_, ?_, ?_⟩ <;> (repeat (first | assumption | apply cell_alloc))))
            clear hHeld hK K
            have hHeld := hHeld2
            clear hHeld2
            try simp only [Act.put, List.getElem_toArray, List.getElem_cons_zero, List.getElem_cons_succ, List.setIfInBounds_toArray, List.set_cons_zero, List.set_cons_succ]
            refine wpAnyH_ready (rs := [13]) (by kernel_rfl) (by simp) ?_
            refine AllReadyH.cons rfl (fun K hK => ?_) AllReadyH.nil
            try simp only [List.getElem_toArray, List.getElem_cons_zero, List.getElem_cons_succ]
            go_simp
            refine hK.out _ _ ?oAd (fun hHeld2 => ?_)
            case oAd => (try dsimp only); ((refine ⟨?_, ?_, ?_, ?_, ?_, ?_, ?_, ?_, ?_, ?_, ?_, ?_, ?_, ?_, ?_, ?_, ?_, ?_, ?_, ?_, ?_, ?_⟩ <;> (repeat (first | assumption | apply cell_alloc))))
            clear hHeld hK K
            have hHeld := hHeld2
            clear hHeld2
            try simp only [Act.put, List.getElem_toArray, List.getElem_cons_zero, List.getElem_cons_succ, List.setIfInBounds_toArray, List.set_cons_zero, List.set_cons_succ]
            refine wpAnyH_done (by kernel_rfl) ?_ _
            generalize hW : World.drew _ = W
            obtain ⟨BW, KA', KB', KX1, KX2⟩ := two_new hB KA KB hW
            have hstep : A[q].hd = B[q].hd → A[q].kids = B[q].kids → A.take (q + 1) = B.take (q + 1) := fun e1 e2 => by
              have : A[q] = B[q] := by
                cases hA : A[q]
                cases hB : B[q]
                rw [hA, hB] at e1 e2
                simp only at e1 e2
                rw [e1, e2]
              rw [List.take_succ_eq_append_getElem hlt, List.take_succ_eq_append_getElem hlt2, HT.out, this]
            have hbad : ¬ (A[q].hd = B[q].hd ∧ A[q].kids = B[q].kids) → (eqB A B && decide (ra = rb)) = false := fun e => by
              rw [eqB_no.2 fun e2 => by
                subst e2
                exact e ⟨rfl, rfl⟩]
              rfl
            have hkl := HOK.out.kids A[q] (List.getElem_mem hlt)
            have HST := Lib.hid hstep
            have HBD := Lib.hid hbad
            clear hW hHeld hstep hbad dm0 dm1 dm2 dm3 dm4 dm5 dm6 dm7 dm8 dn0 dn1 dn2 dn3 dn4 dn5 dn6 dn7 dn8 dy0 dy1 dz0 dz1 m0 m1 m2 m3 m4 m5 m6 m7 m8 n0 n1 n2 n3 n4 n5 n6 n7 n8 y0 y1 z0 z1 yf zf KA KB hB hN1 hN2
            generalize wr.heap.size + 1 = gV at *
            generalize wr.heap.size = gU at *
            generalize A[q].hd = h1 at *
            generalize B[q].hd = h2 at *
            generalize A[q].kids = l1 at *
            generalize B[q].kids = l2 at *
            obtain ⟨⟨x0, x1, x2, x3, x4, x5, x6, x7, x8⟩, xf⟩ := KX1.nine
            obtain ⟨⟨v0, v1, v2, v3, v4, v5, v6, v7, v8⟩, vf⟩ := KX2.nine
            have he := fun w => set_neq h1.set h2.set w
            by_cases e : h1 = h2
            · subst e
              by_cases el : l1.length = l2.length
              · have hll : ((l1.length : Int) != (l2.length : Int)) = false := by simp [el]
                have HEL := Lib.hid el
                clear el
                go_wp2
                clear x0 x1 x2 x3 x4 x5 x6 x7 x8 v0 v1 v2 v3 v4 v5 v6 v7 v8 xf vf
                go_loopw [8] (fun v W' => ∃ k : Nat, v = .int .i64 k ∧ k ≤ l1.length ∧ l1.take k = l2.take k ∧ Below w.heap.size w W' ∧ Cl W' w.heap.size 26 #[.slice (some ⟨b, off, none⟩) A.length c1, .int .i64 ra] ∧ Cl W' (w.heap.size + 1) 26 #[.slice (some ⟨b', off', none⟩) B.length c2, .int .i64 rb] ∧ Cl W' gU 38 (nodeC h1 (.slice q1 l1.length cap1)) ∧ Cl W' gV 38 (nodeC h1 (.slice q2 l2.length cap2))) (fun v _ => l1.length - (intOf v).toNat)
                case atStart => exact ⟨0, rfl, Nat.zero_le _, rfl, BW, KA', KB', KX1, KX2⟩
                case round =>
                  clear BW KA' KB' KX1 KX2
                  obtain ⟨k, rfl, hk, htk, BW, KA', KB', KX1, KX2⟩ := hrel
                  obtain ⟨⟨x0, x1, x2, x3, x4, x5, x6, x7, x8⟩, xf⟩ := KX1.nine
                  obtain ⟨⟨v0, v1, v2, v3, v4, v5, v6, v7, v8⟩, vf⟩ := KX2.nine
                  by_cases hk2 : k < l1.length
                  · have hk3 : k < l2.length := by have := HEL.out; omega
                    obtain ⟨q1', d1, e1, hi1⟩ := hI1
                    obtain ⟨q2', d2, e2, hi2⟩ := hI2
                    obtain ⟨rfl, rfl⟩ : q1 = q1' ∧ cap1 = d1 := by simpa using e1
                    obtain ⟨rfl, rfl⟩ : q2 = q2' ∧ cap2 = d2 := by simpa using e2
                    rcases hi1 with rfl | ⟨bb, oo, rfl, hk1c⟩
                    · simp at hk2
                    rcases hi2 with rfl | ⟨bb', oo', rfl, hk2c⟩
                    · simp at hk3
                    have i1 := hk1c k hk2
                    replace i1 := (BW.cell (p := ⟨bb, oo + k, none⟩) (cell_lt i1)).trans i1
                    have i2 := hk2c k hk3
                    replace i2 := (BW.cell (p := ⟨bb', oo' + k, none⟩) (cell_lt i2)).trans i2
                    have hk0 : (0 : Int) ≤ (k : Int) := by omega
                    have hk4 : (k : Int) < (l1.length : Int) := by omega
                    have hk5 : (k : Int) < (l2.length : Int) := by omega
                    have hs : l1[k] = l2[k] → l1.take (k + 1) = l2.take (k + 1) := fun e => by
                      rw [List.take_succ_eq_append_getElem hk2, List.take_succ_eq_append_getElem hk3, htk, e]
                    have hno : l1[k] ≠ l2[k] → ¬ (h1 = h1 ∧ l1 = l2) := fun e h => by
                      obtain ⟨_, h⟩ := h
                      subst h
                      exact e rfl
                    obtain ⟨x, hx⟩ : ∃ x, x = l1[k] := ⟨_, rfl⟩
                    obtain ⟨y, hy⟩ : ∃ y, y = l2[k] := ⟨_, rfl⟩
                    rw [← hx] at i1 hs hno
                    rw [← hy] at i2 hs hno
                    by_cases exy : x = y
                    · have HS := Lib.hid (hs exy)
                      have hne : (x != y) = false := by simp [exy]
                      clear hs hno hx hy hk1c hk2c htk exy e1 e2
                      go_wp2
                      go_quiet (fail)
                      go_wp2
                      exact ⟨⟨k + 1, by go_num, by omega, HS.out, bdrewN BW, KA'.drewN _, KB'.drewN _, KX1.drewN _, KX2.drewN _⟩, by simp [intOf]; omega⟩
                    · have HS := Lib.hid (HBD.out (fun h => hno exy ⟨rfl, h.2⟩))
                      have hne : (x != y) = true := by simp [exy]
                      clear hs hno hx hy hk1c hk2c htk exy e1 e2
                      go_wp2
                      go_quiet (fail)
                      go_wp2
                      go_ret
                      exact ⟨congrArg (fun x => Ending.returned (.bool x)) HS.out.symm, bdrewN BW⟩
                  · obtain rfl : k = l1.length := by omega
                    have hfin : A.take (q + 1) = B.take (q + 1) := HST.out (by first | rfl | trivial) (by
                      rw [List.take_of_length_le (Nat.le_refl _), List.take_of_length_le (by have := HEL.out; omega)] at htk
                      exact htk)
                    have HF := Lib.hid hfin
                    clear hfin htk
                    go_wp2
                    exact ⟨⟨q + 1, by go_num, by omega, HF.out, BW, KA', KB'⟩, by simp [intOf]; omega⟩
              · have hll : ((l1.length : Int) != (l2.length : Int)) = true := by simp; omega
                have HS := Lib.hid (HBD.out fun h => el (by rw [h.2]))
                clear el
                go_wp2
                go_ret
                exact ⟨congrArg (fun x => Ending.returned (.bool x)) HS.out.symm, BW⟩
            · have HS := Lib.hid (HBD.out fun h => e h.1)
              have HE := Lib.hid e
              clear e
              obtain ⟨k1, s1, t1, lo1, hi1⟩ := h1
              obtain ⟨k2, s2, t2, lo2, hi2⟩ := h2
              dsimp only at *
              have hkk : ((k1 : Int) = (k2 : Int)) ↔ k1 = k2 := by omega
              have HKK := Lib.hid hkk
              clear hkk
              go_wp2
              all_goals first
                | (go_ret
                   exact ⟨congrArg (fun x => Ending.returned (.bool x)) HS.out.symm, BW⟩)
                | (exfalso
                   have e := HE.out
                   have hkk := HKK.out
                   simp only [text_list] at *
                   simp_all
                   done)
          case oB =>
            try simp only [List.getElem_toArray, List.getElem_cons_zero, List.getElem_cons_succ]
            go_simp
            refine hK.out _ _ ?oBa (fun hHeld2 => ?_)
            case oBa => (try dsimp only); ((refine ⟨?_, ?_, ?_, ?_, ?_, ?_, ?_, ?_, ?_, ?_, ?_, ?_, ?_, ?_, ?_, ?_, ?_, ?_, ?_, ?_, ?_, ?_⟩ <;> (repeat (first | assumption | apply cell_alloc))))
            clear hHeld hK K
            have hHeld := hHeld2
            clear hHeld2
            try simp only [Act.put, List.getElem_toArray, List.getElem_cons_zero, List.getElem_cons_succ, List.setIfInBounds_toArray, List.set_cons_zero, List.set_cons_succ]
            refine wpAnyH_ready (rs := [10]) (by kernel_rfl) (by simp) ?_
            refine AllReadyH.cons rfl (fun K hK => ?_) AllReadyH.nil
            try simp only [List.getElem_toArray, List.getElem_cons_zero, List.getElem_cons_succ]
            go_simp
            refine hK.out _ _ ?oBb (fun hHeld2 => ?_)
            case oBb => (try dsimp only); ((refine ⟨?_, ?_, ?_, ?_, ?_, ?_, ?_, ?_, ?_, ?_, ?_, ?_, ?_, ?_, ?_, ?_, ?_, ?_, ?_, ?_, ?_, ?_⟩ <;> (repeat (first | assumption | apply cell_alloc))))
            clear hHeld hK K
            have hHeld := hHeld2
            clear hHeld2
            try simp only [Act.put, List.getElem_toArray, List.getElem_cons_zero, List.getElem_cons_succ, List.setIfInBounds_toArray, List.set_cons_zero, List.set_cons_succ]
            refine wpAnyH_ready (rs := [12]) (by kernel_rfl) (by simp) ?_
            refine AllReadyH.cons rfl (fun K hK => ?_) AllReadyH.nil
            try simp only [List.getElem_toArray, List.getElem_cons_zero, List.getElem_cons_succ]
            go_simp
            refine hK.out _ _ ?oBc (fun hHeld2 => ?_)
            case oBc => (try dsimp only); ((refine ⟨?_, ?_, ?_, ?_, ?_, ?_, ?_, ?_, ?_, ?_, ?_, ?_, ?_, ?_, ?_, ?_, ?_, ?_, ?_, ?_, ?_, ?_⟩ <;> (repeat (first | assumption | apply cell_alloc))))
            clear hHeld hK K
            have hHeld := hHeld2
            clear hHeld2
            try simp only [Act.put, List.getElem_toArray, List.getElem_cons_zero, List.getElem_cons_succ, List.setIfInBounds_toArray, List.set_cons_zero, List.set_cons_succ]
            refine wpAnyH_ready (rs := [13]) (by kernel_rfl) (by simp) ?_
            refine AllReadyH.cons rfl (fun K hK => ?_) AllReadyH.nil
            try simp only [List.getElem_toArray, List.getElem_cons_zero, List.getElem_cons_succ]
            go_simp
            refine hK.out _ _ ?oBd (fun hHeld2 => ?_)
            case oBd => (try dsimp only); ((refine ⟨?_, ?_, ?_, ?_, ?_, ?_, ?_, ?_, ?_, ?_, ?_, ?_, ?_, ?_, ?_, ?_, ?_, ?_, ?_, ?_, ?_, ?_⟩ <;> (repeat (first | assumption | apply cell_alloc))))
            clear hHeld hK K
            have hHeld := hHeld2
            clear hHeld2
            try simp only [Act.put, List.getElem_toArray, List.getElem_cons_zero, List.getElem_cons_succ, List.setIfInBounds_toArray, List.set_cons_zero, List.set_cons_succ]
            refine wpAnyH_done (by kernel_rfl) ?_ _
            generalize hW : World.drew _ = W
            obtain ⟨BW, KA', KB', KX2, KX1⟩ := two_new hB KA KB hW
            have hstep : A[q].hd = B[q].hd → A[q].kids = B[q].kids → A.take (q + 1) = B.take (q + 1) := fun e1 e2 => by
              have : A[q] = B[q] := by
                cases hA : A[q]
                cases hB : B[q]
                rw [hA, hB] at e1 e2
                simp only at e1 e2
                rw [e1, e2]
              rw [List.take_succ_eq_append_getElem hlt, List.take_succ_eq_append_getElem hlt2, HT.out, this]
            have hbad : ¬ (A[q].hd = B[q].hd ∧ A[q].kids = B[q].kids) → (eqB A B && decide (ra = rb)) = false := fun e => by
              rw [eqB_no.2 fun e2 => by
                subst e2
                exact e ⟨rfl, rfl⟩]
              rfl
            have hkl := HOK.out.kids A[q] (List.getElem_mem hlt)
            have HST := Lib.hid hstep
            have HBD := Lib.hid hbad
            clear hW hHeld hstep hbad dm0 dm1 dm2 dm3 dm4 dm5 dm6 dm7 dm8 dn0 dn1 dn2 dn3 dn4 dn5 dn6 dn7 dn8 dy0 dy1 dz0 dz1 m0 m1 m2 m3 m4 m5 m6 m7 m8 n0 n1 n2 n3 n4 n5 n6 n7 n8 y0 y1 z0 z1 yf zf KA KB hB hN1 hN2
            generalize wr.heap.size + 1 = gV at *
            generalize wr.heap.size = gU at *
            generalize A[q].hd = h1 at *
            generalize B[q].hd = h2 at *
            generalize A[q].kids = l1 at *
            generalize B[q].kids = l2 at *
            obtain ⟨⟨x0, x1, x2, x3, x4, x5, x6, x7, x8⟩, xf⟩ := KX1.nine
            obtain ⟨⟨v0, v1, v2, v3, v4, v5, v6, v7, v8⟩, vf⟩ := KX2.nine
            have he := fun w => set_neq h1.set h2.set w
            by_cases e : h1 = h2
            · subst e
              by_cases el : l1.length = l2.length
              · have hll : ((l1.length : Int) != (l2.length : Int)) = false := by simp [el]
                have HEL := Lib.hid el
                clear el
                go_wp2
                clear x0 x1 x2 x3 x4 x5 x6 x7 x8 v0 v1 v2 v3 v4 v5 v6 v7 v8 xf vf
                go_loopw [8] (fun v W' => ∃ k : Nat, v = .int .i64 k ∧ k ≤ l1.length ∧ l1.take k = l2.take k ∧ Below w.heap.size w W' ∧ Cl W' w.heap.size 26 #[.slice (some ⟨b, off, none⟩) A.length c1, .int .i64 ra] ∧ Cl W' (w.heap.size + 1) 26 #[.slice (some ⟨b', off', none⟩) B.length c2, .int .i64 rb] ∧ Cl W' gV 38 (nodeC h1 (.slice q1 l1.length cap1)) ∧ Cl W' gU 38 (nodeC h1 (.slice q2 l2.length cap2))) (fun v _ => l1.length - (intOf v).toNat)
                case atStart => exact ⟨0, rfl, Nat.zero_le _, rfl, BW, KA', KB', KX1, KX2⟩
                case round =>
                  clear BW KA' KB' KX1 KX2
                  obtain ⟨k, rfl, hk, htk, BW, KA', KB', KX1, KX2⟩ := hrel
                  obtain ⟨⟨x0, x1, x2, x3, x4, x5, x6, x7, x8⟩, xf⟩ := KX1.nine
                  obtain ⟨⟨v0, v1, v2, v3, v4, v5, v6, v7, v8⟩, vf⟩ := KX2.nine
                  by_cases hk2 : k < l1.length
                  · have hk3 : k < l2.length := by have := HEL.out; omega
                    obtain ⟨q1', d1, e1, hi1⟩ := hI1
                    obtain ⟨q2', d2, e2, hi2⟩ := hI2
                    obtain ⟨rfl, rfl⟩ : q1 = q1' ∧ cap1 = d1 := by simpa using e1
                    obtain ⟨rfl, rfl⟩ : q2 = q2' ∧ cap2 = d2 := by simpa using e2
                    rcases hi1 with rfl | ⟨bb, oo, rfl, hk1c⟩
                    · simp at hk2
                    rcases hi2 with rfl | ⟨bb', oo', rfl, hk2c⟩
                    · simp at hk3
                    have i1 := hk1c k hk2
                    replace i1 := (BW.cell (p := ⟨bb, oo + k, none⟩) (cell_lt i1)).trans i1
                    have i2 := hk2c k hk3
                    replace i2 := (BW.cell (p := ⟨bb', oo' + k, none⟩) (cell_lt i2)).trans i2
                    have hk0 : (0 : Int) ≤ (k : Int) := by omega
                    have hk4 : (k : Int) < (l1.length : Int) := by omega
                    have hk5 : (k : Int) < (l2.length : Int) := by omega
                    have hs : l1[k] = l2[k] → l1.take (k + 1) = l2.take (k + 1) := fun e => by
                      rw [List.take_succ_eq_append_getElem hk2, List.take_succ_eq_append_getElem hk3, htk, e]
                    have hno : l1[k] ≠ l2[k] → ¬ (h1 = h1 ∧ l1 = l2) := fun e h => by
                      obtain ⟨_, h⟩ := h
                      subst h
                      exact e rfl
                    obtain ⟨x, hx⟩ : ∃ x, x = l1[k] := ⟨_, rfl⟩
                    obtain ⟨y, hy⟩ : ∃ y, y = l2[k] := ⟨_, rfl⟩
                    rw [← hx] at i1 hs hno
                    rw [← hy] at i2 hs hno
                    by_cases exy : x = y
                    · have HS := Lib.hid (hs exy)
                      have hne : (x != y) = false := by simp [exy]
                      clear hs hno hx hy hk1c hk2c htk exy e1 e2
                      go_wp2
                      go_quiet (fail)
                      go_wp2
                      exact ⟨⟨k + 1, by go_num, by omega, HS.out, bdrewN BW, KA'.drewN _, KB'.drewN _, KX1.drewN _, KX2.drewN _⟩, by simp [intOf]; omega⟩
                    · have HS := Lib.hid (HBD.out (fun h => hno exy ⟨rfl, h.2⟩))
                      have hne : (x != y) = true := by simp [exy]
                      clear hs hno hx hy hk1c hk2c htk exy e1 e2
                      go_wp2
                      go_quiet (fail)
                      go_wp2
                      go_ret
                      exact ⟨congrArg (fun x => Ending.returned (.bool x)) HS.out.symm, bdrewN BW⟩
                  · obtain rfl : k = l1.length := by omega
                    have hfin : A.take (q + 1) = B.take (q + 1) := HST.out (by first | rfl | trivial) (by
                      rw [List.take_of_length_le (Nat.le_refl _), List.take_of_length_le (by have := HEL.out; omega)] at htk
                      exact htk)
                    have HF := Lib.hid hfin
                    clear hfin htk
                    go_wp2
                    exact ⟨⟨q + 1, by go_num, by omega, HF.out, BW, KA', KB'⟩, by simp [intOf]; omega⟩
              · have hll : ((l1.length : Int) != (l2.length : Int)) = true := by simp; omega
                have HS := Lib.hid (HBD.out fun h => el (by rw [h.2]))
                clear el
                go_wp2
                go_ret
                exact ⟨congrArg (fun x => Ending.returned (.bool x)) HS.out.symm, BW⟩
            · have HS := Lib.hid (HBD.out fun h => e h.1)
              have HE := Lib.hid e
              clear e
              obtain ⟨k1, s1, t1, lo1, hi1⟩ := h1
              obtain ⟨k2, s2, t2, lo2, hi2⟩ := h2
              dsimp only at *
              have hkk : ((k1 : Int) = (k2 : Int)) ↔ k1 = k2 := by omega
              have HKK := Lib.hid hkk
              clear hkk
              go_wp2
              all_goals first
                | (go_ret
                   exact ⟨congrArg (fun x => Ending.returned (.bool x)) HS.out.symm, BW⟩)
                | (exfalso
                   have e := HE.out
                   have hkk := HKK.out
                   simp only [text_list] at *
                   simp_all
                   done)
        · obtain rfl : q = A.length := by omega
          have hfin : eqB A B = true := by
            rw [List.take_of_length_le (Nat.le_refl _), List.take_of_length_le (by have := HL.out; omega)] at ht
            exact eqB_iff.2 ht
          have HF := Lib.hid hfin
          clear hfin ht
          go_wp2
          go_ret
          exact ⟨congrArg (fun x => Ending.returned (.bool x)) (by rw [HF.out, HRR.out]; simp), hB⟩
    · have hre : (ra != rb) = true := by simp [hr]
      have hf : (eqB A B && decide (ra = rb)) = false := by simp [hr]
      rw [hf]
      obtain ⟨⟨y0, y1⟩, yf⟩ := KA.two
      obtain ⟨⟨z0, z1⟩, zf⟩ := KB.two
      clear hf hr
      go_enter Tryd.func35, Tryd.ntmps35
      go_wp2
      go_ret
      exact ⟨rfl, B0⟩
  · have hne : ((A.length : Int) != (B.length : Int)) = true := by simp; omega
    have hf : (eqB A B && decide (ra = rb)) = false := by
      rw [eqB_no.2 fun e => hlen (by rw [e])]
      rfl
    rw [hf]
    clear hf hlen
    go_enter Tryd.func35, Tryd.ntmps35
    go_wp2
    go_ret
    exact ⟨rfl, B0⟩
end Go.Proofs.YtpkjfdgjmcphmaaDoor

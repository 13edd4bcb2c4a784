/- Package tree: the closures of put and Clean; moved. -/
import Derived.Test.YtpkjfdgjmcphmaaDoorVTl
import Derived.Laws.CopyOwn
import Derived.Laws.Tables
import Derived.Deep.RegionHeld3
namespace Go.Proofs.YtpkjfdgjmcphmaaDoor
open Go.RowKit Bset Tm

set_option maxRecDepth 100000 in
set_option maxHeartbeats 1000000 in
theorem putc_any (k d : Int) (g : Nat) (w : World) (h : w.cell? ⟨g, 0, none⟩ = some (.int .i64 d)) (hk : -4611686018427387904 ≤ k ∧ k ≤ 4611686018427387904) (hd : -4611686018427387904 ≤ d ∧ d < 4611686018427387904) :
    Calls Tryd.prog 97 #[.int .i64 k, .pointer (some ⟨g, 0, none⟩)] w fun e w' => e = .returned (.int .i64 (k + d)) ∧ Below w.heap.size w w' := by
  have hw : IntKind.i64.wrap (k + d) = k + d := IntWalk.i64_in _ (by omega)
  go_enter Tryd.func97, Tryd.ntmps97
  go_wp2
  go_ret
  exact ⟨rfl, Below.refl _ _⟩

set_option maxRecDepth 100000 in
set_option maxHeartbeats 1000000 in
theorem cleanc_any (i n b1 b2 g1 g2 : Nat) (F M : Nat → Nat) (w : World) (h1 : w.cell? ⟨b1, 0, none⟩ = some (.slice (some ⟨g1, 0, none⟩) n n)) (h2 : w.cell? ⟨b2, 0, none⟩ = some (.slice (some ⟨g2, 0, none⟩) n n))
    (r1 : w.rowIs g1 3 n (fun j => .int .i64 (F j : Nat))) (r2 : w.rowIs g2 3 n (fun j => .int .i64 (M j : Nat))) (hi : i < n) (hn : n ≤ 4294967296) (hs : F i + M i ≤ n) (hM : 0 < M i) :
    Calls Tryd.prog 80 #[.int .i64 i, .pointer (some ⟨b1, 0, none⟩), .pointer (some ⟨b2, 0, none⟩)] w fun e w' => e = .returned (.int .i64 ((F i + M i - 1 : Nat) : Int)) ∧ Below w.heap.size w w' := by
  have x1 := r1.cell hi
  have x2 := r2.cell hi
  have hi0 : (0 : Int) ≤ (i : Int) := by omega
  have hi1 : (i : Int) < (n : Int) := by omega
  generalize F i = a at *
  generalize M i = c at *
  have hw : IntKind.i64.wrap ((a : Int) + (c : Int)) = ((a + c : Nat) : Int) := by rw [IntWalk.i64_in _ (by omega)]; omega
  have hw2 : IntKind.i64.wrap ((a : Int) + (c : Int) - 1) = ((a + c - 1 : Nat) : Int) := by rw [IntWalk.i64_in _ (by omega)]; omega
  go_enter Tryd.func80, Tryd.ntmps80
  go_wp2_with fail
  go_quiet (fail)
  go_wp2
  go_ret
  exact ⟨rfl, bdrewN (Below.refl _ _)⟩

theorem infoInt1 : (Tryd.prog.info? 3).map (·.size) = some 1 := by kernel_rfl
/-- copy of all of a list of ints over a row that is as long. -/
theorem wpList_copy_ints (w : World) {ops : Array Oper} {rest : List Oper} {o : Oper} {a : Act} {Q : Exit → Act → World → Prop} (hgd : o.guard = none) (d s : Operand)
    (ho : o.op = .call { callee := .builtin .copy, args := #[d, s], argTypes := #[36, 36] }) (g b off cap : Nat) (l : List Int) (f : Nat → Value) (hd : a.eval d = .slice (some ⟨g, 0, none⟩) l.length l.length) (hs : a.eval s = .slice (some ⟨b, off, none⟩) l.length cap)
    (hsrc : ∀ j (h : j < l.length), w.cell? ⟨b, off + j, none⟩ = some (.int .i64 l[j])) (hr : w.rowIs g 3 l.length f)
    (h : ∀ w', w'.rowIs g 3 l.length (fun j => .int .i64 (l.getD j 0)) → w.grownBy w' (some g) → wpList Tryd.prog ops Q rest (a.put o.dst (.int .i64 l.length)) w') : wpList Tryd.prog ops Q (o :: rest) a w := by
  obtain ⟨c, hg, hc, _⟩ := hr
  have hcl : c.toList.drop l.length = [] := List.drop_eq_nil_of_le (by simp [hc])
  refine wpList_copy_own hgd d s 36 36 ho 3 Tryd.underlying36 infoInt1 g 0 l.length l.length ⟨b, off, none⟩ l.length cap hd hs c 3 hg (l.map (Value.int .i64)) (by simp) ?_ (by simp [hc]) ?_ ?_
  · intro j v hj
    have hjl : j < l.length := by
      have := (List.getElem?_eq_some_iff.1 hj).1
      simpa using this
    have hv : v = .int .i64 l[j] := by simpa [hjl] using hj.symm
    subst hv
    rw [show (⟨b, off, none⟩ : Addr).add j = ⟨b, off + j, none⟩ by simp [Addr.add]]
    exact hsrc j hjl
  · intro v hv
    obtain ⟨x, _, rfl⟩ := List.mem_map.1 hv
    rfl
  · rw [List.length_map]
    refine h _ ⟨(l.map (Value.int .i64)).toArray, ?_, by simp, fun j hj => ?_⟩ ⟨rfl, rfl, rfl, by simp [World.setRow], fun j _ hne => setRow_other w g j _ (fun e => hne (by rw [e]))⟩
    · have := setRow_heap w g c (c.toList.take 0 ++ (l.map (Value.int .i64) ++ c.toList.drop (0 + l.length))).toArray 3 (0, 0) hg
      rw [this]
      simp [hcl]
    · simp [hj]

/-- A row of ints that is somebody's own. -/
theorem own_of_row {w : World} {lo g n : Nat} {l : List Int} {f : Nat → Value} (h : w.rowIs g 3 n f) (hl : l.length = n) (hf : ∀ j (h : j < l.length), f j = .int .i64 l[j]) (hg : lo ≤ g) (hn : n ≤ 4294967296) :
    w.ownsRow lo 3 1 (.slice (some ⟨g, 0, none⟩) n n) l.length (l.map (Value.int .i64)) := by
  obtain ⟨c, hb, hc, hcell⟩ := h
  subst hl
  refine ⟨by simp, .inr ⟨g, l.length, c, rfl, hg, hb, Nat.le_refl _, by unfold maxLen; omega, by simp [hc], ?_⟩⟩
  rw [Nat.mul_one, List.take_of_length_le (by simp [hc])]
  apply List.ext_getElem
  · simp [hc]
  · intro j h1 h2
    simp at h1 h2
    have := hcell j h2
    rw [hf j h2] at this
    simp only [List.getElem_map, Array.getElem_toList]
    exact (Array.getElem?_eq_some_iff.1 this).2

theorem made_at (w : World) {g : Nat} (hg : g = w.heap.size) (z : Value) (n : Nat) (t : TypeId) : (w.alloc (.cells (madeCells #[z] n) t)).rowIs g t n (fun _ => z) := by
  subst hg
  exact World.rowIs_made w z n t
theorem own_set9 {w : World} {lo g : Nat} {e : TypeId} {size : Nat} {v : Value} {n : Nat} {xs : List Value} (h : w.ownsRow lo e size v n xs) (hg : v.ownBlock ≠ some g) (v0 v1 v2 v3 v4 v5 v6 v7 v8 : Value) : (node9 w g v0 v1 v2 v3 v4 v5 v6 v7 v8).ownsRow lo e size v n xs :=
  ownsRow_setCell_other (ownsRow_setCell_other (ownsRow_setCell_other (ownsRow_setCell_other (ownsRow_setCell_other (ownsRow_setCell_other (ownsRow_setCell_other (ownsRow_setCell_other (ownsRow_setCell_other h (a := ⟨g, 0, none⟩) hg v0) (a := ⟨g, 1, none⟩) hg v1) (a := ⟨g, 2, none⟩) hg v2) (a := ⟨g, 3, none⟩) hg v3) (a := ⟨g, 4, none⟩) hg v4) (a := ⟨g, 5, none⟩) hg v5) (a := ⟨g, 6, none⟩) hg v6) (a := ⟨g, 7, none⟩) hg v7) (a := ⟨g, 8, none⟩) hg v8
theorem cf_put (args : Array Value) (W : World) : (callFunc 97 args).run Tryd.prog W = .ok (.enter 97 args) W := by
  kernel_rfl
theorem cf_clean (args : Array Value) (W : World) : (callFunc 80 args).run Tryd.prog W = .ok (.enter 80 args) W := by
  kernel_rfl
theorem Cl.grownAt {w w' : World} {g g' : Nat} {t : TypeId} {cs : Array Value} (h : Cl w g' t cs) (hg : w.grownBy w' (some g)) (hne : g' ≠ g) : Cl w' g' t cs := h.gb hg hne

set_option maxRecDepth 100000 in
set_option maxHeartbeats 4000000 in
theorem moved_any (h : Hd) (kv : Value) (l : List Int) (fid : FuncId) (caps : Array Value) (P : Int → Int) (w : World) (hl : Ints w kv l) (hlen : l.length ≤ 4294967296) (ht : h.text.size ≤ 281474976710656)
    (hcf : ∀ (args : Array Value) (W : World), (callFunc fid args).run Tryd.prog W = .ok (.enter fid args) W)
    (hp : ∀ k ∈ l, ∀ W, Below w.heap.size w W → Calls Tryd.prog fid (#[.int .i64 k] ++ caps) W fun e W' => e = .returned (.int .i64 (P k)) ∧ Below W.heap.size W W') :
    Calls Tryd.prog 81 #[nodeV h kv, .func (.func fid) #[] caps] w fun e w' => ∃ kv', e = .returned (nodeV h kv') ∧ w'.ownsRow w.heap.size 3 1 kv' l.length ((l.map P).map (Value.int .i64)) ∧ Below w.heap.size w w' := by
  obtain ⟨p, cap, e, hh⟩ := hl
  subst e
  obtain ⟨kv, hkv⟩ : ∃ kv, kv = Value.slice p l.length cap := ⟨_, rfl⟩
  have k0 := (Cl.new w 38 (nodeC h (.slice p l.length cap))).alloc (.cells nodeZ 38)
  have k1 : Cl ((w.alloc (.cells (nodeC h (.slice p l.length cap)) 38)).alloc (.cells nodeZ 38)) (w.heap.size + 1) 38 nodeZ := Cl.new' (by simp) _ _
  have b0 := ((Below.refl w.heap.size w).alloc (Nat.le_refl _) (.cells (nodeC h (.slice p l.length cap)) 38)).alloc (by simp) (.cells nodeZ 38)
  have hbare := fun w => bare_any h (.slice p l.length cap) ht w
  have hmk := make_ints l.length hlen
  by_cases hl0 : l.length = 0
  · obtain rfl := List.eq_nil_of_length_eq_zero hl0
    clear hl0 hmk
    simp only [List.length_nil] at hbare k0
    go_enter Tryd.func81, Tryd.ntmps81
    go_wp2_with (go_at_call 71; go_loud (refine (hbare _).mono ?_; rintro e w1 ⟨rfl, hb⟩; have m0 := k0.below hb k0.lt; have m1 := k1.below hb k1.lt; have hz := Lib.hid (Nat.lt_of_lt_of_le k1.lt hb.size); have m5 := Cl.new w1 38 (nodeC h (.slice none 0 0)); replace m0 := m0.alloc (.cells (nodeC h (.slice none 0 0)) 38); replace m1 := m1.alloc (.cells (nodeC h (.slice none 0 0)) 38); have b1 := b0.trans (hb.mono b0.size); clear hb; obtain ⟨⟨x0, x1, x2, x3, x4, x5, x6, x7, x8⟩, xf⟩ := m0.nine; obtain ⟨⟨y0, y1, y2, y3, y4, y5, y6, y7, y8⟩, yf⟩ := m1.nine; clear k0 k1 b0 hkv))
    have n1 := Cl.set9 m1 (.int .u8 h.kind) (.int .u64 (word (setN h.set) 0 : Nat)) (.int .u64 (word (setN h.set) 1 : Nat)) (.int .u64 (word (setN h.set) 2 : Nat)) (.int .u64 (word (setN h.set) 3 : Nat)) (.string h.text) (.int .i64 h.lo) (.int .i64 h.hi) (.slice none 0 0)
    have n2 := below_set9 (b1.alloc b1.size (.cells (nodeC h (.slice none 0 0)) 38)) (g := w.heap.size + 1) (by omega) (.int .u8 h.kind) (.int .u64 (word (setN h.set) 0 : Nat)) (.int .u64 (word (setN h.set) 1 : Nat)) (.int .u64 (word (setN h.set) 2 : Nat)) (.int .u64 (word (setN h.set) 3 : Nat)) (.string h.text) (.int .i64 h.lo) (.int .i64 h.hi) (.slice none 0 0)
    exact end_node n1 rfl rfl rfl ⟨_, rfl, ⟨rfl, .inl ⟨rfl, rfl⟩⟩, n2⟩
  · rcases hh with rfl | ⟨b, off, rfl, hsrc⟩
    · exact absurd rfl hl0
    · obtain ⟨n, hn⟩ : ∃ n, n = l.length := ⟨_, rfl⟩
      have hsrc' := Lib.hid hsrc
      go_enter Tryd.func81, Tryd.ntmps81
      go_wp2_with (first
        | (go_at_call 71; refine (hbare _).mono ?_; rintro e w1 ⟨rfl, hb⟩; have m0 := k0.below hb k0.lt; have m1 := k1.below hb k1.lt; have hz := Lib.hid (Nat.lt_of_lt_of_le k1.lt hb.size); have b1 := b0.trans (hb.mono b0.size)
           have x8 := (m0.alloc (.cells (nodeC h (.slice none 0 0)) 38)).nine.1.2.2.2.2.2.2.2.2
           have m5 := (Cl.new w1 38 (nodeC h (.slice (some ⟨w1.heap.size + 1, 0, none⟩) l.length l.length))).alloc (.cells (madeCells #[.int .i64 0] l.length) 3)
           replace m0 := (m0.alloc (.cells (nodeC h (.slice (some ⟨w1.heap.size + 1, 0, none⟩) l.length l.length)) 38)).alloc (.cells (madeCells #[.int .i64 0] l.length) 3)
           replace m1 := (m1.alloc (.cells (nodeC h (.slice (some ⟨w1.heap.size + 1, 0, none⟩) l.length l.length)) 38)).alloc (.cells (madeCells #[.int .i64 0] l.length) 3)
           have b4 := (b1.alloc b1.size (.cells (nodeC h (.slice (some ⟨w1.heap.size + 1, 0, none⟩) l.length l.length)) 38)).alloc (by simp; have := b1.size; omega) (.cells (madeCells #[.int .i64 0] l.length) 3)
           have r4 := made_at (w1.alloc (.cells (nodeC h (.slice (some ⟨w1.heap.size + 1, 0, none⟩) l.length l.length)) 38)) (g := w1.heap.size + 1) (by simp) (.int .i64 0) l.length 3
           have y8 := m0.nine.1.2.2.2.2.2.2.2.2
           clear hb k0 k1 b0 hkv)
        | ((with_reducible refine wpList_copy_ints _ ?_ (.tmp 21) (.tmp 23) ?_ (w1.heap.size + 1) b off cap l (fun _ => .int .i64 0) ?_ ?_ ?_ ?_ ?_); (rfl; rfl; rfl; rfl; exact (fun j hj => (b4.cell (p := ⟨b, off + j, none⟩) (cell_lt (hsrc'.out j hj))).trans (hsrc'.out j hj)); exact r4; intro w4 r5 hgb; have n5 := m5.gb hgb (by omega); have n1 := m1.gb hgb (by have := hz.out; omega); have b5 := b4.grown hgb b4.size (fun k e => by cases e; have := hz.out; omega); have z8 := n5.nine.1.2.2.2.2.2.2.2.2; clear m5 m1 m0 b4 r4 x8 y8 hgb)))
      have hlt1 : w.heap.size + 1 < w1.heap.size := hz.out
      obtain ⟨g5, hg5⟩ : ∃ g5, g5 = w1.heap.size := ⟨_, rfl⟩
      rw [← hg5] at n5 r5 z8 hlt1 ⊢
      obtain ⟨g, hg⟩ : ∃ g, g = g5 + 1 := ⟨_, rfl⟩
      rw [← hg] at n5 r5 z8 ⊢
      clear hg5 b1 hz
      have hgg := Lib.hid hg
      clear hg
      go_loopw [28] (fun v W => ∃ q : Nat, v = .int .i64 q ∧ q ≤ l.length ∧ Below w.heap.size w W ∧ Cl W g5 38 (nodeC h (.slice (some ⟨g, 0, none⟩) l.length l.length)) ∧ Cl W (w.heap.size + 1) 38 nodeZ ∧ W.rowIs g 3 l.length (fun j => .int .i64 (if j < q then P (l.getD j 0) else l.getD j 0)))
        (fun v _ => l.length - (intOf v).toNat)
      case atStart => exact ⟨0, rfl, Nat.zero_le _, b5, n5, n1, r5.congr fun j _ => by simp⟩
      case round =>
        clear n5 n1 b5 r5 z8
        obtain ⟨q, rfl, hq, BW, k5, k1, hr2⟩ := hrel
        have hg5 : g5 ≠ g := by have := hgg.out; omega
        have hgw : w.heap.size ≤ g := by have := hgg.out; omega
        by_cases hq2 : q < l.length
        · have x8 := k5.nine.1.2.2.2.2.2.2.2.2
          have xr := hr2.cell hq2
          have xf := hr2.frozen q
          rw [if_neg (by omega), show l.getD q 0 = l[q] by simp [hq2]] at xr
          have hq0 : (0 : Int) ≤ (q : Int) := by omega
          have hq1 : (q : Int) < (l.length : Int) := by omega
          go_wp2
          refine wp_region_held_drew (S := (fun w' => w'.cell? ⟨g5, 8, none⟩ = some (.slice (some ⟨g, 0, none⟩) l.length l.length))) (by kernel_rfl) (k5.drew.nine.1.2.2.2.2.2.2.2.2) (fun hHeld => ?_)
          refine wpAnyH_take (i := 0) (v := ?r1v0) rfl (by kernel_rfl) (by kernel_rfl) (by kernel_rfl) (fun _ _ _ h => h) (Or.inl ⟨by rfl, ?r1y0⟩) (by assumption) ?r1t0
          case r1y0 => (intro w hSw; (try dsimp only at hSw); (try simp only [List.getElem_toArray, List.getElem_cons_zero]); go_simp; try with_reducible rfl)
          try simp only [Act.put, List.getElem_toArray, List.getElem_cons_zero, List.setIfInBounds_toArray, List.set_cons_zero, List.set_cons_succ]
          refine wpAnyH_take (i := 1) (v := ?r1v1) rfl (by kernel_rfl) (by kernel_rfl) (by kernel_rfl) (fun _ _ _ h => h) (Or.inl ⟨by rfl, ?r1y1⟩) (by assumption) ?r1t1
          case r1y1 => (intro w hSw; (try dsimp only at hSw); (try simp only [List.getElem_toArray, List.getElem_cons_zero, List.getElem_cons_succ]); go_simp; try with_reducible rfl)
          try simp only [Act.put, List.getElem_toArray, List.getElem_cons_zero, List.getElem_cons_succ, List.setIfInBounds_toArray, List.set_cons_zero, List.set_cons_succ]
          refine wpAnyH_take (i := 2) (v := ?r1v2) rfl (by kernel_rfl) (by kernel_rfl) (by kernel_rfl) (fun _ _ _ h => h) (Or.inl ⟨by rfl, ?r1y2⟩) (by assumption) ?r1t2
          case r1y2 => (intro w hSw; (try dsimp only at hSw); (try simp only [List.getElem_toArray, List.getElem_cons_zero, List.getElem_cons_succ]); go_simp; try with_reducible rfl)
          try simp only [Act.put, List.getElem_toArray, List.getElem_cons_zero, List.getElem_cons_succ, List.setIfInBounds_toArray, List.set_cons_zero, List.set_cons_succ]
          refine wpAnyH_take (i := 3) (v := ?r1v3) rfl (by kernel_rfl) (by kernel_rfl) (by kernel_rfl) (fun _ _ _ h => h) (Or.inl ⟨by rfl, ?r1y3⟩) (by assumption) ?r1t3
          case r1y3 => (intro w hSw; (try dsimp only at hSw); (try simp only [List.getElem_toArray, List.getElem_cons_zero, List.getElem_cons_succ]); go_simp; try with_reducible rfl)
          try simp only [Act.put, List.getElem_toArray, List.getElem_cons_zero, List.getElem_cons_succ, List.setIfInBounds_toArray, List.set_cons_zero, List.set_cons_succ]
          refine wpAnyH_take (i := 4) (v := ?r1v4) rfl (by kernel_rfl) (by kernel_rfl) (by kernel_rfl) (fun _ _ _ h => h) (Or.inl ⟨by rfl, ?r1y4⟩) (by assumption) ?r1t4
          case r1y4 => (intro w hSw; (try dsimp only at hSw); (try simp only [List.getElem_toArray, List.getElem_cons_zero, List.getElem_cons_succ]); go_simp; try with_reducible rfl)
          try simp only [Act.put, List.getElem_toArray, List.getElem_cons_zero, List.getElem_cons_succ, List.setIfInBounds_toArray, List.set_cons_zero, List.set_cons_succ]
          refine wpAnyH_ready (rs := [5]) (by kernel_rfl) (by simp) ?_
          refine AllReadyH.cons rfl (fun K hK => ?_) AllReadyH.nil
          try simp only [List.getElem_toArray, List.getElem_cons_zero, List.getElem_cons_succ]
          go_simp
          (refine (hp (l[q]) (List.getElem_mem hq2) _ BW.drew).mono ?_; rintro e w1 ⟨rfl, hb⟩; have N1 := k5.drew.below hb k5.lt; have r2 := hr2.of_block (w := wr) (w' := w1) ((hb.block _ hr2.lt)); have f2 := r2.frozen q; have xr2 := r2.cell hq2; have B2 : Below w.heap.size w w1 := BW.drew.trans (hb.mono BW.size))
          try go_simp
          refine hK.out _ _ ?r1S5 (fun hHeld2 => ?_)
          case r1S5 => (try dsimp only); (first | exact N1.nine.1.2.2.2.2.2.2.2.2 | exact (N1.other (p := ⟨g, q, none⟩) hg5 _).nine.1.2.2.2.2.2.2.2.2)
          clear hHeld hK K
          have hHeld := hHeld2
          clear hHeld2
          try simp only [Act.put, List.getElem_toArray, List.getElem_cons_zero, List.getElem_cons_succ, List.setIfInBounds_toArray, List.set_cons_zero, List.set_cons_succ]
          refine wpAnyH_take (i := 6) (v := ?r1v6) rfl (by kernel_rfl) (by kernel_rfl) (by kernel_rfl) (fun _ _ _ h => h) (Or.inl ⟨by rfl, ?r1y6⟩) (by assumption) ?r1t6
          case r1y6 => (intro w hSw; (try dsimp only at hSw); (try simp only [List.getElem_toArray, List.getElem_cons_zero, List.getElem_cons_succ]); go_simp; try with_reducible rfl)
          try simp only [Act.put, List.getElem_toArray, List.getElem_cons_zero, List.getElem_cons_succ, List.setIfInBounds_toArray, List.set_cons_zero, List.set_cons_succ]
          refine wpAnyH_ready (rs := [7]) (by kernel_rfl) (by simp) ?_
          refine AllReadyH.cons rfl (fun K hK => ?_) AllReadyH.nil
          try simp only [List.getElem_toArray, List.getElem_cons_zero, List.getElem_cons_succ]
          go_simp
          refine hK.out _ _ ?r1S7 (fun hHeld2 => ?_)
          case r1S7 => (try dsimp only); (first | exact N1.nine.1.2.2.2.2.2.2.2.2 | exact (N1.other (p := ⟨g, q, none⟩) hg5 _).nine.1.2.2.2.2.2.2.2.2)
          clear hHeld hK K
          have hHeld := hHeld2
          clear hHeld2
          try simp only [Act.put, List.getElem_toArray, List.getElem_cons_zero, List.getElem_cons_succ, List.setIfInBounds_toArray, List.set_cons_zero, List.set_cons_succ]
          refine wpAnyH_done (by kernel_rfl) ?_ _
          go_wp2
          go_roundw
          case rel =>
            refine ⟨q + 1, by go_num, by omega, B2.setCell (p := ⟨g, q, none⟩) hgw _, N1.other (p := ⟨g, q, none⟩) hg5 _, ((k1.drew.below hb k1.lt).other (p := ⟨g, q, none⟩) (by have := hgg.out; simp; omega) _), (r2.set q _).congr fun j hj => ?_⟩
            by_cases e : j = q
            · subst e
              rw [if_pos rfl, if_pos (by omega)]
              simp [hq2]
            · rw [if_neg e]
              by_cases e2 : j < q
              · rw [if_pos e2, if_pos (by omega)]
              · rw [if_neg e2, if_neg (by omega)]
          case measure => simp [intOf]; omega
        · obtain rfl : q = l.length := by omega
          have hr3 : wr.rowIs g 3 l.length (fun j => .int .i64 ((l.map P).getD j 0)) := hr2.congr fun j hj => by simp [hj]
          have hown := own_of_row (lo := w.heap.size) (l := l.map P) hr3 (by simp) (fun j hj => by simp at hj; simp [hj]) hgw hlen
          rw [List.length_map] at hown
          obtain ⟨⟨y0, y1, y2, y3, y4, y5, y6, y7, y8⟩, yf⟩ := k5.nine
          obtain ⟨⟨z0, z1, z2, z3, z4, z5, z6, z7, z8⟩, zf⟩ := k1.nine
          have n1 := Cl.set9 k1 (.int .u8 h.kind) (.int .u64 (word (setN h.set) 0 : Nat)) (.int .u64 (word (setN h.set) 1 : Nat)) (.int .u64 (word (setN h.set) 2 : Nat)) (.int .u64 (word (setN h.set) 3 : Nat)) (.string h.text) (.int .i64 h.lo) (.int .i64 h.hi) (.slice (some ⟨g, 0, none⟩) l.length l.length)
          have n2 := below_set9 BW (g := w.heap.size + 1) (by omega) (.int .u8 h.kind) (.int .u64 (word (setN h.set) 0 : Nat)) (.int .u64 (word (setN h.set) 1 : Nat)) (.int .u64 (word (setN h.set) 2 : Nat)) (.int .u64 (word (setN h.set) 3 : Nat)) (.string h.text) (.int .i64 h.lo) (.int .i64 h.hi) (.slice (some ⟨g, 0, none⟩) l.length l.length)
          have n3 := own_set9 hown (g := w.heap.size + 1) (by have := hgg.out; simp [Value.ownBlock]; omega) (.int .u8 h.kind) (.int .u64 (word (setN h.set) 0 : Nat)) (.int .u64 (word (setN h.set) 1 : Nat)) (.int .u64 (word (setN h.set) 2 : Nat)) (.int .u64 (word (setN h.set) 3 : Nat)) (.string h.text) (.int .i64 h.lo) (.int .i64 h.hi) (.slice (some ⟨g, 0, none⟩) l.length l.length)
          clear hr3 hown hr2
          go_wp2
          exact end_node n1 rfl rfl rfl ⟨_, rfl, n3, n2⟩
end Go.Proofs.YtpkjfdgjmcphmaaDoor

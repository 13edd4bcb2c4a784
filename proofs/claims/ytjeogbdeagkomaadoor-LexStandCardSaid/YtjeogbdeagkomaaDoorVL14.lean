/- Package lex: the iterator over a text's words. -/
import Derived.RangeFuncNested
import Derived.RangeFuncBound
import Derived.RangeFuncCalls
import Derived.RangeFuncLeaves
import Derived.Shelf.Abstract
import Derived.Shelf.RegionOpen
import Derived.OwnWalkIn
import Derived.TacticsInMore
import Derived.LoopNIn
import Derived.LoopIn
import Derived.BigGuardIn
import Derived.Sort.QuietTacIn
import Derived.IntWalk
import Derived.Test.YtjeogbdeagkomaaDoorVLm5
import Derived.Test.YtjeogbdeagkomaaDoorVL3
import Derived.Test.YtjeogbdeagkomaaDoorVLr
import Derived.RangeFuncBox
import Derived.Maps.AppendAt
import Derived.Laws.OwnMore
namespace Go.Proofs.YtjeogbdeagkomaaDoor
open Go.RowKit Go.Maps Go.Shelf Nm Bset Lm

attribute [local go_sem] Oper.semAt_some

/-- What is told: words, and last of all an error, with its place. -/
abbrev Te := Lw × Int
abbrev encT (x : Te) : Array Value := #[lwV x.1, .int .i64 x.2]
abbrev Pw := Wd × Nat × Nat
def WordIs (x : Te) (p : Pw) : Prop := x.2 = 0 ∧ Wx x.1 p.1 (p.2.1 : Nat) (p.2.2 : Nat)
abbrev errW (a : Nat) : Te := (⟨0, (a : Nat), 0, ⟨#[]⟩, nul, 0, 0⟩, 4)
def Alike : List Te → List Pw → Prop
  | [], [] => True
  | x :: xs, p :: ps => WordIs x p ∧ Alike xs ps
  | _, _ => False
theorem Alike.len : ∀ {xs : List Te} {ps : List Pw}, Alike xs ps → xs.length = ps.length
  | [], [], _ => rfl
  | _ :: xs, _ :: ps, h => by rw [List.length_cons, List.length_cons, Alike.len h.2]
  | [], _ :: _, h => h.elim
  | _ :: _, [], h => h.elim
theorem Alike.snoc : ∀ {xs : List Te} {ps : List Pw} {x : Te} {p : Pw}, Alike xs ps → WordIs x p → Alike (xs ++ [x]) (ps ++ [p])
  | [], [], _, _, _, h => ⟨h, trivial⟩
  | _ :: _xs, _ :: _ps, _, _, h, k => ⟨h.1, Alike.snoc h.2 k⟩
  | [], _ :: _, _, _, h, _ => h.elim
  | _ :: _, [], _, _, h, _ => h.elim

def ToldE (L : List UInt8) (xs : List Te) : Prop := ∃ a ys, (lxA L 0).2 = some a ∧ xs = ys ++ [errW a] ∧ Alike ys (lxA L 0).1
/-- All that is told; and how it begins. -/
def ToldS (L : List UInt8) (xs : List Te) : Prop := ((lxA L 0).2 = none ∧ Alike xs (lxA L 0).1) ∨ ToldE L xs
def ToldP (L : List UInt8) (xs : List Te) : Prop := (∃ ps qs, Alike xs ps ∧ (lxA L 0).1 = ps ++ qs) ∨ ToldE L xs

theorem MaxL.below_ {w w' : World} (h : MaxL w) {n : Nat} (hb : Below n w w') (hn : w.heap.size ≤ n := by omega) : MaxL w' := by
  obtain ⟨m, hm⟩ := h
  exact ⟨m, (hb.cell (p := ⟨3, 0, none⟩) (Nat.lt_of_lt_of_le (World.block_lt_of_cell? w _ hm) hn)).trans hm⟩

/-- Where the iterator stands. -/
structure St (L : List UInt8) (a k : Nat) (pre : List Te) (ps : List Pw) : Prop where
  at_ : a = k + pg (L.drop k)
  le : a ≤ L.length
  alike : Alike pre ps
  all : lxA L 0 = (ps ++ (lxA (L.drop k) k).1, (lxA (L.drop k) k).2)

theorem St.bad {L : List UInt8} {a k : Nat} {pre : List Te} {ps : List Pw} (h : St L a k pre ps) (hl : a < L.length) (hr : rdw (L.drop a) = none) : (lxA L 0).2 = some a ∧ Alike pre (lxA L 0).1 := by
  have h1 := h.at_
  have e := lxA_bad (L.drop k) k (by rw [List.length_drop]; omega) (by rw [List.drop_drop, ← h1]; exact hr)
  rw [h.all, e, h1]
  exact ⟨rfl, by rw [List.append_nil]; exact h.alike⟩
theorem St.fin {L : List UInt8} {a k : Nat} {pre : List Te} {ps : List Pw} (h : St L a k pre ps) (hl : ¬ a < L.length) : (lxA L 0).2 = none ∧ Alike pre (lxA L 0).1 := by
  have h1 := h.at_
  have e := lxA_fin (L.drop k) k (by rw [List.length_drop]; omega)
  rw [h.all, e]
  exact ⟨rfl, by rw [List.append_nil]; exact h.alike⟩
theorem St.word {L : List UInt8} {a k : Nat} {pre : List Te} {ps : List Pw} (h : St L a k pre ps) {d : Wd} {n : Nat} (hr : rdw (L.drop a) = some (d, n)) :
    1 ≤ n ∧ a + n ≤ L.length ∧ (∃ qs, (lxA L 0).1 = (ps ++ [(d, a, a + n)]) ++ qs) ∧ ∀ x, WordIs x (d, a, a + n) → St L (a + n + pg (L.drop (a + n))) (a + n) (pre ++ [x]) (ps ++ [(d, a, a + n)]) := by
  have h1 := h.at_
  have hn := rdw_len _ _ _ hr
  have hle := h.le
  rw [List.length_drop] at hn
  have e := lxA_word (L.drop k) k d n (by rw [List.drop_drop, ← h1]; exact hr)
  rw [List.drop_drop, ← Nat.add_assoc, ← h1] at e
  have e2 := h.all
  rw [e] at e2
  refine ⟨hn.1, by omega, ⟨(lxA (L.drop (a + n)) (a + n)).1, by rw [e2, List.append_assoc]; rfl⟩, fun x hx => ⟨rfl, ?_, h.alike.snoc hx, ?_⟩⟩
  · have := pgS_le (L.drop (a + n)) false
    rw [List.length_drop] at this
    unfold pg
    omega
  · rw [e2, List.append_assoc]
    rfl

/-- What it holds, and who must leave it as it is. -/
structure Hd (w : World) (bm : Nat) (box : Nat → Nat) (B : Nat) (s : ByteArray) : Prop where
  rds : Rds w bm box
  txt : Cl w B 9 #[.string s]
structure Cov (R : Nat → Prop) (bm : Nat) (box : Nat → Nat) (B : Nat) : Prop where
  b : R B
  m : R bm
  x : ∀ k, 3 ≤ k → k < 14 → R (box k)
  s : R 1
  l : R 3
/-- What is guarded from the beginning. -/
def keptT (B : Nat) (k : Nat) : Prop := k = B ∨ k = 1 ∨ k = 3

theorem cell_same {w w' : World} {g : Nat} (e : w'.heap[g]? = w.heap[g]?) (j : Nat) : w'.cell? ⟨g, j, none⟩ = w.cell? ⟨g, j, none⟩ := by
  unfold World.cell?
  simp only [e]
theorem Hd.same {w w' : World} {bm B : Nat} {box : Nat → Nat} {s : ByteArray} {R : Nat → Prop} (h : Hd w bm box B s) (c : Cov R bm box B) (e : ∀ k, R k → w'.heap[k]? = w.heap[k]?) : Hd w' bm box B s := by
  refine ⟨⟨h.rds.fns.same (e _ c.m), fun k h3 h14 => ⟨Nat.zero_le _, ((e _ (c.x k h3 h14)).trans (h.rds.boxes k h3 h14).2 : _)⟩, fun j hj => (cell_same (e _ c.s) j).trans (h.rds.signs j hj), ?_⟩, ((e _ c.b).trans h.txt : _)⟩
  obtain ⟨m, hm⟩ := h.rds.maxl
  exact ⟨m, (cell_same (e _ c.l) 0).trans hm⟩
theorem Hd.below {w w' : World} {bm B : Nat} {box : Nat → Nat} {s : ByteArray} {n : Nat} (h : Hd w bm box B s) (hb : Below n w w') (hn : w.heap.size ≤ n) : Hd w' bm box B s :=
  ⟨h.rds.below hb hn, h.txt.below hb (Nat.lt_of_lt_of_le h.txt.lt hn)⟩
theorem Cov.more {R R' : Nat → Prop} {bm B : Nat} {box : Nat → Nat} (c : Cov R bm box B) (h : ∀ k, R k → R' k) : Cov R' bm box B :=
  ⟨h _ c.b, h _ c.m, fun k h3 h14 => h _ (c.x k h3 h14), h _ c.s, h _ c.l⟩

set_option maxRecDepth 100000 in
set_option maxHeartbeats 4000000 in
theorem leach1_in (l B : Nat) (s : ByteArray) (hs : s.size ≤ 1048576) (J : (Nat → Prop) → List Te → World → Prop) (Jx : List Te → World → Prop) (W : World) (hJ : Guards J) (_hJx : ∀ s W W', Jx s W → Below W.heap.size W W' → Jx s W')
    (hY : ∀ R pre x W1, J R pre W1 → ToldP s.data.toList (pre ++ [x]) → YieldAt Fence.wide 2 Tryd.prog l (encT x) W1 fun e W' =>
      (e = .returned (.bool true) ∧ J R (pre ++ [x]) W' ∧ W1.heap.size ≤ W'.heap.size ∧ ∀ k, R k → W'.heap[k]? = W1.heap[k]?) ∨ (e = .returned (.bool false) ∧ Jx (pre ++ [x]) W'))
    (hB : Cl W B 9 #[.string s]) (hS : SignsIn W) (hM : MaxL W) (h0 : J (keptT B) [] W) :
    CallsIn Fence.wide 3 Tryd.prog 125 #[.func (.yield l) #[] #[], .pointer (some ⟨B, 0, none⟩)] W fun e W' => (∃ v, e = .returned v) ∧
      ((∃ R xs, ToldS s.data.toList xs ∧ J R xs W') ∨ (∃ pre, ToldP s.data.toList pre ∧ Jx pre W')) := by
  obtain ⟨q0, q1, q2, q3⟩ := word_nul
  have z0 : ((0 : Nat) : Int) = 0 := rfl
  have HY := Lib.hid hY
  have HS0 := Lib.hid hS
  clear hY
  refine callsIn_of_wp Tryd.func125 rfl trivial ?_ rfl
  simp only [Tryd.ntmps125, List.size_toArray, List.length_cons, List.length_nil, Nat.reduceAdd, Nat.reduceSub, Array.replicate_succ, Array.replicate_zero, List.push_toArray, List.append_toArray, List.nil_append, List.cons_append]
  have hRd := readers_any W hS
  have HRD := Lib.hid hRd
  clear hRd hS
  gi_wp2_with (refine ⟨trivial, ?_⟩; first
    | (gi_at_call 126; refine (callsIn_wide.2 HRD.out).mono ?_; rintro e w1 ⟨bm, box, rfl, hE⟩; have hB1 := (hB.below hE.p4 hB.lt).cell 0; obtain ⟨M1, HM1⟩ : ∃ M1 : MaxL w1, Hid True := ⟨hM.below_ hE.p4, Lib.hid trivial⟩)
    | (gi_at_call 127; refine (callsIn_wide.2 (parting_any s (by omega) _ M1)).mono ?_; rintro e w2 ⟨rfl, n2, rfl⟩))
  have b1 : Below W.heap.size W w1 := hE.p4
  have hd1 : Hd w1 bm box B s := ⟨⟨hE.p1, fun k h3 h14 => ⟨Nat.zero_le _, (hE.p2 k h3 h14).2⟩, signs_below HS0.out b1 (World.block_lt_of_cell? W _ (HS0.out 2 (by omega))), M1⟩, hB.below b1 hB.lt⟩
  have J1 : J (fun k => keptT B k ∨ (W.heap.size ≤ k ∧ k < w1.heap.size)) [] w1 := hJ.grow _ _ _ _ h0 b1
  have c1 : Cov (fun k => keptT B k ∨ (W.heap.size ≤ k ∧ k < w1.heap.size)) bm box B :=
    ⟨.inl (.inl rfl), .inr ⟨hE.p3, hE.p1.lt⟩, fun k h3 h14 => .inr ⟨(hE.p2 k h3 h14).1, (hE.p2 k h3 h14).2.lt⟩, .inl (.inr (.inl rfl)), .inl (.inr (.inr rfl))⟩
  have hsl : s.data.toList.length = s.size := by simp
  have st1 : St s.data.toList (pg s.data.toList) 0 [] [] := ⟨by simp, pgS_le _ _, trivial, by simp⟩
  obtain ⟨R1, hR1⟩ : ∃ R1, R1 = (fun k => keptT B k ∨ (W.heap.size ≤ k ∧ k < w1.heap.size)) := ⟨_, rfl⟩
  rw [← hR1] at J1 c1
  have J2 : J R1 [] (w1.drewN n2) := hJ.anti _ _ _ _ (fun k h => .inl h) (hJ.grow _ _ _ _ J1 (below_drewN (Below.refl _ _) n2))
  have hd2 : Hd (w1.drewN n2) bm box B s := hd1.below (below_drewN (Below.refl w1.heap.size w1) n2) (Nat.le_refl _)
  have S1 := Lib.hid st1
  clear st1 J1 hd1 hR1 hE hB hM h0 hB1 M1 HM1 b1 HS0 HRD
  gi_loopw [4] (fun v wr => ∃ (a k : Nat) (pre : List Te) (ps : List Pw) (R : Nat → Prop), v = .int .i64 a ∧ Hid (St s.data.toList a k pre ps) ∧ J R pre wr ∧ Cov R bm box B ∧ Hd wr bm box B s)
    (fun v _ => s.size - (intOf v).toNat)
  case atStart => exact ⟨_, 0, [], [], R1, rfl, S1, J2, c1, hd2⟩
  case round =>
    clear J2 hd2 c1 S1
    obtain ⟨a, k, pre, ps, R, rfl, HST, hJw, hC, hH⟩ := hrel
    have cB := hH.txt.cell 0
    by_cases hlt : a < s.size
    · have hts : (s.extract a s.size).size = s.size - a := by rw [ByteArray.size_extract]; omega
      obtain ⟨x, ok, hRd, hRW⟩ := readX (s.extract a s.size) (by omega) (by omega) wr bm box hH.rds
      have htl : (s.extract a s.size).data.toList = s.data.toList.drop a := extract_drop s a
      have HRD := Lib.hid hRd
      have n0 : (0 : Int) ≤ (a : Int) := by omega
      have n1 : (a : Int) ≤ (s.size : Int) := by omega
      have hlt' : (a : Int) < (s.size : Int) := by omega
      cases ok with
      | false =>
        have hno := hRW.2 rfl
        rw [htl] at hno
        obtain ⟨hE2, hEA⟩ := HST.out.bad (by omega) hno
        have hP : ToldE s.data.toList (pre ++ [errW a]) := ⟨a, pre, hE2, rfl, hEA⟩
        have HP := Lib.hid hP
        clear hRd hRW hno hE2 hEA hP
        gi_wp2_with (refine ⟨trivial, ?_⟩; gi_at_call 128; refine (callsIn_wide.2 HRD.out).mono ?_; rintro e w2 ⟨rfl, hb2⟩
                     have J3 := hJ.grow R pre wr _ hJw (hb2.alloc hb2.size (.cells (lwC x) 64))
                     obtain ⟨fn, tmps, assign, body, hy, hR⟩ := HY.out _ pre (errW a) _ J3 (.inr HP.out)
                     dsimp only [encT, errW] at hy
                     simp only [lwV, lwC, q0, q1, q2, q3, z0] at hy
                     replace hR := Lib.hid hR)
        refine hR.out.mono ?_
        rintro e W4 (⟨rfl, hJ4, hz4, hk4⟩ | ⟨rfl, hJx4⟩)
        · gi_wp2
          refine bodyPost_ret (results_none rfl _ _ _) rfl ?_
          exact ⟨⟨_, rfl⟩, .inl ⟨_, _, .inr HP.out, hJ4⟩⟩
        · gi_wp2
          refine bodyPost_ret (results_none rfl _ _ _) rfl ?_
          exact ⟨⟨_, rfl⟩, .inr ⟨_, .inr HP.out, hJx4⟩⟩
      | true =>
        obtain ⟨d, n, hr, hx⟩ := hRW.1 rfl
        rw [htl] at hr
        obtain ⟨hn1, hn2, hqs, hst⟩ := HST.out.word hr
        obtain ⟨xk, xa, xt, xs, xS, xl, xh⟩ := x
        obtain rfl : xa = 0 := hx.at_
        obtain rfl : xt = (n : Nat) := hx.to_
        have hw : WordIs (⟨xk, (a : Nat), ((a + n : Nat) : Int), xs, xS, xl, xh⟩, 0) (d, a, a + n) := ⟨rfl, hx.kind, rfl, rfl, hx.text, hx.set, hx.low, hx.high⟩
        have hP : ToldP s.data.toList (pre ++ [(⟨xk, (a : Nat), ((a + n : Nat) : Int), xs, xS, xl, xh⟩, 0)]) := by
          obtain ⟨qs, e⟩ := hqs
          exact .inl ⟨_, qs, HST.out.alike.snoc hw, e⟩
        have HP := Lib.hid hP
        have HS2 := Lib.hid (hst _ hw)
        have an : ((a + n : Nat) : Int) = (a : Int) + (n : Int) := by omega
        have AN := Lib.hid an
        have hn2' : (a : Int) + (n : Int) ≤ (s.size : Int) := by omega
        have hn0 : (0 : Int) ≤ (n : Int) := by omega
        have hsz : (s.size : Int) ≤ 1048576 := by omega
        have N2 := Lib.hid hn2
        have N1 := Lib.hid hn1
        clear hRd hRW hr hx hqs hst hw hP an hn2 hn1 HST
        gi_wp2_with (refine ⟨trivial, ?_⟩; gi_at_call 128; refine (callsIn_wide.2 HRD.out).mono ?_; rintro e w2 ⟨rfl, hb2⟩
                     have J3 := hJ.grow R pre wr _ hJw (hb2.alloc hb2.size (.cells (lwC ⟨xk, (a : Nat), ((a + n : Nat) : Int), xs, xS, xl, xh⟩) 64))
                     obtain ⟨fn, tmps, assign, body, hy, hR⟩ := HY.out _ pre _ _ J3 HP.out
                     dsimp only [encT] at hy
                     simp only [lwV, lwC, AN.out] at hy
                     replace hR := Lib.hid hR)
        have eW : w2.alloc (.cells #[.int .u8 (xk : Nat), .int .i64 (a : Nat), .int .i64 ((a : Int) + (n : Int)), .string xs, .int .u64 (word xS 0 : Nat), .int .u64 (word xS 1 : Nat), .int .u64 (word xS 2 : Nat), .int .u64 (word xS 3 : Nat), .int .i64 xl, .int .i64 xh] 64) = w2.alloc (.cells (lwC ⟨xk, (a : Nat), ((a + n : Nat) : Int), xs, xS, xl, xh⟩) 64) := by rw [AN.out]
        rw [eW]
        clear eW
        refine hR.out.mono ?_
        rintro e W4 (⟨rfl, hJ4, hz4, hk4⟩ | ⟨rfl, hJx4⟩)
        · have k4 : Cl W4 w2.heap.size 64 (lwC ⟨xk, (a : Nat), ((a + n : Nat) : Int), xs, xS, xl, xh⟩) := (hk4 _ (.inr ⟨hb2.size, by simp⟩)).trans (Cl.new w2 _ _)
          have c4 := hC.more (R' := fun k => R k ∨ wr.heap.size ≤ k ∧ k < (w2.alloc (.cells (lwC ⟨xk, (a : Nat), ((a + n : Nat) : Int), xs, xS, xl, xh⟩) 64)).heap.size) (fun k h => .inl h)
          have h4 : Hd W4 bm box B s := (hH.below (hb2.alloc hb2.size (.cells (lwC ⟨xk, (a : Nat), ((a + n : Nat) : Int), xs, xS, xl, xh⟩) 64)) (Nat.le_refl _)).same c4 hk4
          have d2 : W4.cell? ⟨w2.heap.size, 2, none⟩ = some (.int .i64 ((a : Int) + (n : Int))) := by rw [← AN.out]; exact k4.cell 2
          have dB := h4.txt.cell 0
          obtain ⟨c, hc⟩ : ∃ c, c = pg (s.data.toList.drop (a + n)) := ⟨_, rfl⟩
          have hcl : c ≤ 1048576 := by
            have := pgS_le (s.data.toList.drop (a + n)) false
            rw [List.length_drop] at this
            rw [hc]
            unfold pg
            omega
          have hxl : (s.extract (a + n) s.size).data.toList = s.data.toList.drop (a + n) := extract_drop s (a + n)
          have hpt := fun m => parting_any (s.extract (a + n) s.size) (by rw [ByteArray.size_extract]; omega) (W4.drewN m) h4.rds.maxl
          rw [hxl, ← hc] at hpt
          have HPT := Lib.hid hpt
          have HC := Lib.hid hc
          have htn : ((a : Int) + (n : Int)).toNat = a + n := by omega
          have hp0 : (0 : Int) ≤ (a : Int) + (n : Int) := by omega
          have hwr : IntKind.i64.wrap ((a : Int) + (n : Int) + (c : Int)) = (a : Int) + (n : Int) + (c : Int) := IntWalk.i64_in _ (by omega)
          clear hpt hc hxl hk4 hR hy hH hC hJw
          gi_wp2
          refine wpIn_region_quiet_lit rfl (by kernel_rfl) (by kernel_rfl) ?_
          repeat (
            refine wpQuietIn_step (by first | quiet_asked_in | (simp [Oper.askedIn, Oper.about]; exact fun _ _ _ => trivial)) (fun K hK => ?_)
            go_simp
            first
              | (refine hK _ ?_; clear hK K)
              | (apply Exists.intro
                 refine ⟨fun _ => ?_, hK _ ?_⟩
                 (gi_at_call 127; refine CallsIn.quiet_of (callsIn_wide.2 (HPT.out _)))
                 clear hK K))
          refine wpQuietIn_nil ?_
          intro _ hw'
          obtain ⟨nq, hw''⟩ := hw'
          subst hw''
          gi_wp2
          have e5 : (a : Int) + (n : Int) + (c : Int) = ((a + n + c : Nat) : Int) := by omega
          refine ⟨⟨a + n + c, a + n, _, ps ++ [(d, a, a + n)], _, by rw [e5], ?_, hJ.anti _ _ _ _ (fun k h => .inl h) (hJ.grow _ _ _ _ hJ4 (below_drewN (Below.refl _ _) nq)), c4, h4.below (below_drewN (Below.refl W4.heap.size W4) nq) (Nat.le_refl _)⟩, ?_⟩
          · rw [HC.out]
            exact HS2
          · have := N1.out
            rw [e5]
            simp [intOf]
            omega
        · gi_wp2
          refine bodyPost_ret (results_none rfl _ _ _) rfl ?_
          exact ⟨⟨_, rfl⟩, .inr ⟨_, HP.out, hJx4⟩⟩
    · have hf := HST.out.fin (by omega)
      have HF := Lib.hid hf
      clear hf
      gi_wp2
      go_end0
      exact ⟨⟨_, rfl⟩, .inl ⟨R, pre, .inl HF.out, hJw⟩⟩

/-- **each(text)'s value tells the words, and where there is an error, that.** -/
theorem leach1_tells (B : Nat) (s : ByteArray) (hs : s.size ≤ 1048576) (w : World) (hB : Cl w B 9 #[.string s]) (hS : SignsIn w) (hM : MaxL w) :
    Tells Fence.wide 3 Tryd.prog 125 #[.pointer (some ⟨B, 0, none⟩)] encT (keptT B) (ToldS s.data.toList) (ToldP s.data.toList) w :=
  fun l J Jx W hW hJ hJx hY h0 => leach1_in l B s hs J Jx W hJ hJx hY (hB.below hW hB.lt) (signs_below hS hW (World.block_lt_of_cell? w _ (hS 2 (by omega)))) (hM.below_ hW) h0

set_option maxHeartbeats 1000000 in
theorem leach_any (s : ByteArray) (w : World) :
    Calls Tryd.prog 104 #[.string s] w fun e w' => e = .returned (.func (.func 125) #[] #[.pointer (some ⟨w.heap.size, 0, none⟩)]) ∧ w' = w.alloc (.cells #[.string s] 9) := by
  go_enter Tryd.func104, Tryd.ntmps104
  go_wp2
  go_ret
  exact ⟨rfl, rfl⟩
end Go.Proofs.YtjeogbdeagkomaaDoor

/- Package lex: Words. -/
namespace Go.Proofs.YtjeogbdeagkomaaDoor
open Go.RowKit Go.Shelf Nm Bset Lm

attribute [local go_sem] Oper.semAt_some

/-- Words as cells, one behind the other. -/
def wordC (xs : List Te) : List Value := xs.flatMap fun x => (lwC x.1).toList
theorem wordC_snoc (xs : List Te) (x : Te) : wordC (xs ++ [x]) = wordC xs ++ (lwC x.1).toList := by
  unfold wordC
  simp
theorem wordC_len (xs : List Te) : (wordC xs).length = xs.length * 10 := by
  unfold wordC
  induction xs with
  | nil => rfl
  | cons p rs ih => simp [ih]; omega

theorem infoW : (Tryd.prog.info? 64).map (fun i => (i.zero, i.size, i.bytes)) = some (some (.agg lwZ), 10, 88) := by kernel_rfl

theorem ownsRow_belowW {w w' : World} {base size n : Nat} {e : TypeId} {v : Value} {xs : List Value} (h : w.ownsRow base e size v n xs) (hb : Below w.heap.size w w') : w'.ownsRow base e size v n xs :=
  ⟨h.1, h.2.imp id fun ⟨g, cap, cur, e1, e2, e3, r⟩ => ⟨g, cap, cur, e1, e2, (hb.block g (Array.getElem?_eq_some_iff.1 e3).1).trans e3, r⟩⟩
theorem ownsRow_ltW {w : World} {base size n l c : Nat} {e : TypeId} {a : Addr} {xs : List Value} (h : w.ownsRow base e size (.slice (some a) l c) n xs) : a.block < w.heap.size := by
  rcases h.2 with ⟨h1, _⟩ | ⟨g, cap, cur, h1, _, h3, _⟩
  · cases h1
  · cases h1
    exact (Array.getElem?_eq_some_iff.1 h3).1
theorem below_put {w W : World} {B l : Nat} (h : Below B w W) (hl : B ≤ l) (o : Obj) : Below B w (W.putObj l o) :=
  ⟨h.os, h.tape, h.output, by simpa [World.putObj] using h.size, fun k hk => (World.putObj_heap_other (by omega)).trans (h.block k hk)⟩

theorem Alike.last : ∀ {xs : List Te} {ps : List Pw} {x : Te}, Alike (xs ++ [x]) ps → x.2 = 0
  | [], _ :: _, _, h => h.1.1
  | _ :: xs, _ :: ps, _, h => Alike.last (xs := xs) (ps := ps) h.2
  | [], [], _, h => h.elim
  | _ :: _, [], _, h => h.elim
/-- No more words than bytes. -/
theorem lxA_count_ : ∀ (m : Nat) (t : List UInt8) (k : Nat), t.length ≤ m → (lxA t k).1.length ≤ t.length
  | m, t, k, hm => by
    rcases lxA_cases t k with ⟨h1, e⟩ | ⟨h1, h2, e⟩ | ⟨h1, w, n, h2, h3, h4, e⟩
    · rw [e]
      exact Nat.zero_le _
    · rw [e]
      exact Nat.zero_le _
    · match m with
      | 0 => omega
      | m + 1 =>
        have ih := lxA_count_ m (t.drop (pg t + n)) (k + pg t + n) (by rw [List.length_drop]; omega)
        rw [e, List.length_cons]
        rw [List.length_drop] at ih
        omega
theorem lxA_count (t : List UInt8) (k : Nat) : (lxA t k).1.length ≤ t.length := lxA_count_ _ t k (Nat.le_refl _)

theorem ten_new (w : World) (x : Lw) (t : TypeId) : ∀ j u, (lwC x).toList[j]? = some u → (w.alloc (.cells (lwC x) t)).cell? ((⟨w.heap.size, 0, none⟩ : Addr).add j) = some u := by
  intro j u hj
  rw [cells_new]
  simpa using hj

/-- What a round knows of the words made so far. -/
def WI (w : World) (R : Nat → Prop) (pre : List Te) (W : World) : Prop :=
  ∃ v, Boxed W w.heap.size 60 v ∧ W.ownsRow w.heap.size 64 10 v pre.length (wordC pre) ∧ (v = .slice none 0 0 ↔ pre = []) ∧
    Cl W (w.heap.size + 1) 3 #[.int .i64 0] ∧ Cl W (w.heap.size + 2) 67 #[.int .i64 0] ∧ Below w.heap.size w W ∧ (∀ a n c, v = .slice (some a) n c → ¬ R a.block) ∧
    (∀ k, R k → k ≠ w.heap.size ∧ k ≠ w.heap.size + 1 ∧ k ≠ w.heap.size + 2 ∧ k < W.heap.size) ∧ ∀ x ∈ pre, x.2 = 0
/-- .. of a text with an error. -/
def WX (w : World) (L : List UInt8) (_pre : List Te) (W : World) : Prop :=
  Below w.heap.size w W ∧ ∃ a : Nat, (lxA L 0).2 = some a ∧ Boxed W w.heap.size 60 (.slice none 0 0) ∧ Cl W (w.heap.size + 1) 3 #[.int .i64 a] ∧ Cl W (w.heap.size + 2) 67 #[.int .i64 4]

theorem wi_guards (w : World) : Guards (WI w) := by
  constructor
  · rintro R R' s W h ⟨v, h1, h2, h3, h4, h5, h6, h7, h8, h9⟩
    exact ⟨v, h1, h2, h3, h4, h5, h6, fun a n c e k => h7 a n c e (h _ k), fun k hk => h8 k (h k hk), h9⟩
  · rintro R s W W' ⟨v, h1, h2, h3, h4, h5, h6, h7, h8, h9⟩ hb
    have hz := h6.size
    have l4 := h4.lt
    have l5 := h5.lt
    refine ⟨v, (hb.block _ h1.lt).trans h1, ownsRow_belowW h2 hb, h3, h4.below hb l4, h5.below hb l5, h6.trans (hb.mono hz), ?_, ?_, h9⟩
    · rintro a n c rfl (h | ⟨h, _⟩)
      · exact h7 a n c rfl h
      · have := ownsRow_ltW h2
        omega
    · have hzb := hb.size
      rintro k (h | ⟨h, h'⟩)
      · have := h8 k h
        omega
      · omega
theorem cl_put {W : World} {g l : Nat} {t : TypeId} {cs : Array Value} {o : Obj} (h : Cl W g t cs) (hl : W.heap[l]? = some o) (ho : o.isCells = false) (o' : Obj) : Cl (W.putObj l o') g t cs := by
  refine cl_putObj h ?_ o'
  rintro rfl
  rw [show W.heap[g]? = _ from h] at hl
  cases hl
  cases ho
theorem wi_put {w W : World} {R : Nat → Prop} {s : List Te} {l : Nat} {o : Obj} (o' : Obj) (h : WI w R s W) (hw : w.heap.size ≤ l) (hl : W.heap[l]? = some o) (ho : o.isCells = false) : WI w R s (W.putObj l o') := by
  obtain ⟨v, h1, h2, h3, h4, h5, h6, h7, h8, h9⟩ := h
  exact ⟨v, cl_put h1 hl ho o', ownsRow_putObj h2 o' hl ho, h3, cl_put h4 hl ho o', cl_put h5 hl ho o', below_put h6 hw o', h7, fun k hk => (by have := h8 k hk; simpa [World.putObj] using this), h9⟩
theorem wx_put {w W : World} {L : List UInt8} {s : List Te} {l : Nat} {o : Obj} (o' : Obj) (h : WX w L s W) (hw : w.heap.size ≤ l) (hl : W.heap[l]? = some o) (ho : o.isCells = false) : WX w L s (W.putObj l o') := by
  obtain ⟨h6, a, h0, h1, h4, h5⟩ := h
  exact ⟨below_put h6 hw o', a, h0, cl_put h1 hl ho o', cl_put h4 hl ho o', cl_put h5 hl ho o'⟩
theorem wx_below {w W W' : World} {L : List UInt8} {s : List Te} (h : WX w L s W) (hb : Below W.heap.size W W') : WX w L s W' := by
  obtain ⟨h6, a, h0, h1, h4, h5⟩ := h
  exact ⟨h6.trans (hb.mono h6.size), a, h0, (hb.block _ h1.lt).trans h1, h4.below hb h4.lt, h5.below hb h5.lt⟩

theorem own_sliceW {W : World} {base size n : Nat} {e : TypeId} {v : Value} {xs : List Value} (h : W.ownsRow base e size v n xs) : ∃ p c, v = .slice p n c := by
  rcases h.2 with ⟨rfl, rfl⟩ | ⟨g, cap, cur, rfl, _⟩
  · exact ⟨_, _, rfl⟩
  · exact ⟨_, _, rfl⟩
set_option maxRecDepth 100000 in
set_option maxHeartbeats 400000 in
theorem words_end {W : World} {D g : Nat} {T : Array Value} {v : Value} {x y : Int} {R : Ending → World → Prop} (h2 : T[2]?.getD undef = .pointer (some ⟨g, 0, none⟩)) (h3 : T[3]?.getD undef = .pointer (some ⟨g + 1, 0, none⟩)) (h4 : T[4]?.getD undef = .pointer (some ⟨g + 1 + 1, 0, none⟩)) (hK : W.heap[D]? = some (.deferred (some [])))
    (k0 : Cl W g 60 #[v]) (k1 : Cl W (g + 1) 3 #[.int .i64 x]) (k2 : Cl W (g + 1 + 1) 67 #[.int .i64 y]) (hR : R (.returned (.tuple #[v, .int .i64 x, .int .i64 y])) (W.putObj D (.deferred none))) :
    bodyPostM Fence.wide 4 Tryd.prog Tryd.f63 R Exit.ret { tmps := T, defers := [{ target := Target.collected D, args := #[] }] } W := by
  refine ⟨by simp, .inl ⟨_, _, rfl, run_takeDeferred hK, ?_⟩⟩
  have j0 : (W.putObj D (.deferred none)).cell? ⟨g, 0, none⟩ = some v := (cl_put k0 hK rfl _).cell 0
  have j1 : (W.putObj D (.deferred none)).cell? ⟨g + 1, 0, none⟩ = some (.int .i64 x) := (cl_put k1 hK rfl _).cell 0
  have j2 : (W.putObj D (.deferred none)).cell? ⟨g + 1 + 1, 0, none⟩ = some (.int .i64 y) := (cl_put k2 hK rfl _).cell 0
  refine ⟨.tuple #[v, .int .i64 x, .int .i64 y], ?_, hR⟩
  simp [results, Tryd.results63, go_sem, h2, h3, h4, j0, j1, j2]

/-- The frame of a round. -/
abbrev frW (g : Nat) (s : ByteArray) (b : Bool) (p : Nat) (x : Te) : Act := { tmps := #[.string s, undef, .pointer (some ⟨g, 0, none⟩), .pointer (some ⟨g + 1, 0, none⟩), .pointer (some ⟨g + 1 + 1, 0, none⟩), .pointer (some ⟨p, 0, none⟩), .int .i64 x.2, .string s, .int .i64 s.size, .bool b, .string s, .func (.func 125) #[] #[.pointer (some ⟨g + 1 + 1 + 1, 0, none⟩)], lwV x.1, .int .i64 x.2, undef, undef, undef, undef, undef, undef, undef, undef, undef, undef], defers := [] }

set_option maxRecDepth 100000 in
set_option maxHeartbeats 4000000 in
theorem words_in (s : ByteArray) (hs : s.size ≤ 65536) (w : World) (hS : SignsIn w) (hM : MaxL w) :
    CallsIn Fence.wide 4 Tryd.prog 63 #[.string s] w fun e w' => Below w.heap.size w w' ∧
      ((∃ v xs, e = .returned (.tuple #[v, .int .i64 0, .int .i64 0]) ∧ (lxA s.data.toList 0).2 = none ∧ Alike xs (lxA s.data.toList 0).1 ∧ w'.ownsRow w.heap.size 64 10 v xs.length (wordC xs) ∧ (v = .slice none 0 0 ↔ xs = [])) ∨
       (∃ a : Nat, (lxA s.data.toList 0).2 = some a ∧ e = .returned (.tuple #[.slice none 0 0, .int .i64 a, .int .i64 4]))) := by
  have h1 : 1 ≤ 4 := by omega
  obtain ⟨i0, hi, hz0, hz1, hz2⟩ := info_parts infoW
  refine callsIn_of_wp_marks Tryd.func63 rfl trivial ?_ rfl
  simp only [Tryd.ntmps63, List.size_toArray, List.length_cons, List.length_nil, Nat.reduceAdd, Nat.reduceSub, Array.replicate_succ, Array.replicate_zero, List.push_toArray, List.append_toArray, List.nil_append, List.cons_append]
  have hs' : (s.size : Int) ≤ 65536 := by omega
  gi_wp2_with (refine ⟨trivial, ?_⟩; gi_at_call 104; refine (callsIn_wide.2 (leach_any s _)).mono ?_; rintro e w' ⟨rfl, rfl⟩)
  obtain ⟨W0, hW0⟩ : ∃ W0, ((((w.alloc (.cells #[.slice none 0 0] 60)).alloc (.cells #[.int .i64 0] 3)).alloc (.cells #[.int .i64 0] 67)).alloc (.cells #[.string s] 9)) = W0 := ⟨_, rfl⟩
  have c0 : Boxed W0 w.heap.size 60 (.slice none 0 0) := by rw [← hW0]; exact (((Cl.new' (by simp) _ _).alloc _).alloc _).alloc _
  have c1 : Cl W0 (w.heap.size + 1) 3 #[.int .i64 0] := by rw [← hW0]; exact ((Cl.new' (by simp) _ _).alloc _).alloc _
  have c2 : Cl W0 (w.heap.size + 1 + 1) 67 #[.int .i64 0] := by rw [← hW0]; exact (Cl.new' (by simp) _ _).alloc _
  have c3 : Cl W0 (w.heap.size + 1 + 1 + 1) 9 #[.string s] := by rw [← hW0]; exact Cl.new' (by simp) _ _
  have hB0 : Below w.heap.size w W0 := by rw [← hW0]; exact ((((Below.refl _ w).alloc (Nat.le_refl _) _).alloc (by simp) _).alloc (by simp; omega) _).alloc (by simp; omega) _
  have hz0' : W0.heap.size = w.heap.size + 4 := by rw [← hW0]; simp
  rw [hW0]
  have hgS : 1 < w.heap.size := World.block_lt_of_cell? w _ (hS 2 (by omega))
  have hgM : 3 < w.heap.size := by
    obtain ⟨m, hm⟩ := hM
    exact World.block_lt_of_cell? w _ hm
  have S0 := signs_below hS hB0 hgS
  have M0 : MaxL W0 := hM.below_ hB0 (Nat.le_refl _)
  obtain ⟨bb, hbb⟩ : ∃ bb, bb = decide ((65536 : Int) < (s.size : Int)) := ⟨_, rfl⟩
  rw [← hbb]
  clear hW0 hbb
  refine wpIn_tells rfl h1 (gf := 125) (lb := #[.pointer (some ⟨w.heap.size + 1 + 1 + 1, 0, none⟩)]) rfl trivial (enters_of Tryd.func125 (by kernel_rfl) rfl)
    (leach1_tells (w.heap.size + 1 + 1 + 1) s (by omega) W0 c3 S0 M0) ?hK (fun _ => rfl) (WI w) (WX w s.data.toList) (wi_guards w) (fun R s W l o o' h hw hl ho => wi_put o' h (by omega) hl ho) (fun s W l o o' h hw hl ho => wx_put o' h (by omega) hl ho) (fun s W W' h hb => wx_below h hb)
    ⟨_, c0, World.ownsRow_nil _ _ _ _, by simp, c1, c2, hB0, fun a n c h => by simp at h, ?hk0, by simp⟩
    (fun x a' W => ∃ p, a' = frW w.heap.size s bb p x ∧ Cl W p 64 (lwC x.1) ∧ w.heap.size + 3 ≤ p) (fun x a' W l o o' ⟨p, e, h, hp⟩ hw hl ho => ⟨p, e, cl_put h hl ho o', hp⟩) ?assign ?body ?done ?stop
  case hK =>
    rintro k (rfl | rfl | rfl) <;> omega
  case hk0 =>
    rintro k (rfl | rfl | rfl) <;> omega
  case assign =>
    intro l R pre x W Kc hI hSp hK
    gi_wp2
    have hb := (Below.refl W.heap.size W).alloc (Nat.le_refl _) (.cells (lwC x.1) 64)
    refine hK _ _ ((keepsO_below hb).from _) ?kr ((wi_guards w).anti _ _ _ _ (fun k h => .inl h) ((wi_guards w).grow _ _ _ _ hI hb)) ⟨W.heap.size, rfl, Cl.new _ _ _, ?kp⟩
    case kr =>
      obtain ⟨_, _, _, _, _, _, _, _, h8, _⟩ := hI
      exact fun k hk => hb.block k (h8 k hk).2.2.2
    case kp =>
      obtain ⟨_, _, _, _, _, h5, _⟩ := hI
      have := h5.lt
      omega
  case body =>
    rintro l R pre x a' W hI ⟨p, rfl, hp, hpg⟩ hSp
    obtain ⟨v, i1, i2, i3, i4, i5, i6, i7, i8, i9⟩ := hI
    have cw := i1.cell
    have fw := i1.frozen
    have ca := i4.cell 0
    have fa := i4.free 0
    have ce := i5.cell 0
    have fe := i5.free 0
    obtain ⟨⟨y0, y1, y2, y3, y4, y5, y6, y7, y8, y9⟩, yf⟩ := hp.ten
    rcases hSp with ⟨ps, qs, hal, hpre⟩ | ⟨a, ys, hE, hys, hal⟩
    · obtain ⟨x1, x2⟩ := x
      obtain rfl : x2 = 0 := hal.last
      have hlen : pre.length + 1 ≤ s.size := by
        have e1 := hal.len
        have e2 := lxA_count s.data.toList 0
        rw [hpre, List.length_append] at e2
        rw [List.length_append] at e1
        simp at e1 e2
        omega
      have HP := Lib.hid hpre
      clear hpre hal
      gi_wp2_with (gi_at_builtin; refine wpListIn_append_own_at _ rfl _ _ 60 rfl w.heap.size 64 i0 (.agg lwZ) 10 88 Tryd.underlying60 hi hz0 hz1 hz2 rfl (by decide) _ _ _ rfl (i2.alloc _) ⟨W.heap.size, 0, none⟩ 1 1 (lwC x1).toList rfl rfl (ten_new _ _ _) (by simp [Value.oneCell']) (by unfold maxLen; omega) (by omega) (by have := i6.size; simp; omega) ?_; intro v' w1 hown' hgrow _ hat; obtain ⟨g', cap', rfl⟩ := ownsRow_succ hown'; obtain ⟨hv1, hv2, hr2, hk2, hb2⟩ := i1.appended (by decide) i2 i6.size (by omega) hown' hgrow; have hc1 := hv1.cell; have hf1 := hv1.frozen)
      have same : ∀ k, k < W.heap.size → k ≠ w.heap.size → some k ≠ v.ownBlock → (w1.setCell ⟨w.heap.size, 0, none⟩ (.slice (some ⟨g', 0, none⟩) (pre.length + 1) cap')).heap[k]? = W.heap[k]? := fun k hk hkg hkv =>
        (Below.heap_setCell _ _ _ k hkg).trans ((hgrow.block k (by simp; omega) hkv).trans (((Below.refl W.heap.size W).alloc (Nat.le_refl _) _).block k hk))
      have notv : ∀ k, R k → some k ≠ v.ownBlock := fun k hk e => by
        unfold Value.ownBlock at e
        split at e
        · cases e
          exact i7 _ _ _ rfl hk
        · cases e
      refine ⟨hk2.from _, fun k hk => same k (i8 k hk).2.2.2 (i8 k hk).1 (notv k hk), _, hv2, ?_, by simp, (same _ i4.lt (by omega) (Boxed.not_row (show Boxed W _ _ _ from i4) (by decide) i2)).trans i4, (same _ i5.lt (by omega) (Boxed.not_row (show Boxed W _ _ _ from i5) (by decide) i2)).trans i5, i6.trans hb2, ?_, ?_, ?_⟩
      · rw [wordC_snoc, List.length_append]
        exact hr2
      · rintro a n c e hk
        cases e
        rcases hat with h | h
        · exact notv _ hk h
        · have h2 : g' = (W.alloc (.cells (lwC x1) 64)).heap.size := by
            simpa [Value.ownBlock] using h
          have h3 := (i8 _ hk).2.2.2
          simp at h2 h3
          omega
      · intro k hk
        have h3 := i8 k hk
        have h4 := hb2.size
        have h5 := hk2.size
        exact ⟨h3.1, h3.2.1, h3.2.2.1, by omega⟩
      · intro y hy
        rcases List.mem_append.1 hy with h | h
        · exact i9 y h
        · have := List.mem_singleton.1 h
          rw [this]
    · obtain ⟨rfl, hx⟩ := List.append_inj' hys rfl
      obtain rfl : x = errW a := by simpa using hx
      have HE := Lib.hid hE
      have HAL := Lib.hid hal
      clear hE hal hx hys i2 i3 i7 i9
      gi_wp2
      gi_region
      all_goals
        gi_wp2
        refine ⟨(((((KeepsOthers.setCell _ _ _).trans (KeepsOthers.setCell _ _ _)).trans (KeepsOthers.setCell _ _ _)).trans (KeepsOthers.drew _)).from _), (((i6.setCell (p := ⟨w.heap.size, 0, none⟩) (Nat.le_refl _) _).setCell (p := ⟨w.heap.size + 1, 0, none⟩) (by simp) _).setCell (p := ⟨w.heap.size + 1 + 1, 0, none⟩) (by simp; omega) _).drew, a, HE.out, ?_, ?_, ?_⟩
        · exact ((((show Cl W w.heap.size _ #[v] from i1).put 0 _).other (p := ⟨w.heap.size + 1, 0, none⟩) (by simp) _).other (p := ⟨w.heap.size + 1 + 1, 0, none⟩) (by simp; omega) _).drew
        · exact (((i4.other (p := ⟨w.heap.size, 0, none⟩) (by simp) _).put 0 _).other (p := ⟨w.heap.size + 1 + 1, 0, none⟩) (by simp) _).drew
        · exact (((i5.other (p := ⟨w.heap.size, 0, none⟩) (by simp) _).other (p := ⟨w.heap.size + 1, 0, none⟩) (by simp) _).put 0 _).drew
  case done =>
    rintro D R xs W hD hxs ⟨v, i1, i2, i3, i4, i5, i6, i7, i8, i9⟩ hK
    have hno : (lxA s.data.toList 0).2 = none ∧ Alike xs (lxA s.data.toList 0).1 := by
      rcases hxs with h | ⟨a, ys, h2, rfl, h3⟩
      · exact h
      · have := i9 (errW a) (by simp)
        cases this
    have cw := i1.cell
    have fw := i1.frozen
    have ca := i4.cell 0
    have fa := i4.free 0
    have ce := i5.cell 0
    have fe := i5.free 0
    have HNO := Lib.hid hno
    have hnil := Lib.hid i3
    obtain ⟨pv, cv, rfl⟩ := own_sliceW i2
    have nr : some w.heap.size ≠ (Value.slice pv xs.length cv).ownBlock := Boxed.not_row i1 (by decide) i2
    have nr1 : some (w.heap.size + 1) ≠ (Value.slice pv xs.length cv).ownBlock := Boxed.not_row (show Boxed W _ _ _ from i4) (by decide) i2
    have nr2 : some (w.heap.size + 2) ≠ (Value.slice pv xs.length cv).ownBlock := Boxed.not_row (show Boxed W _ _ _ from i5) (by decide) i2
    clear hno hxs i3 i7 i8 i9
    gi_wp2
    have e0 : Cl W w.heap.size 60 #[.slice pv xs.length cv] := i1
    refine words_end (g := w.heap.size) rfl rfl rfl ((KeepsOthers.setCell _ _ _).same D _ ((KeepsOthers.setCell _ _ _).same D _ ((KeepsOthers.setCell _ _ _).same D _ hK rfl) rfl) rfl) (((e0.put 0 _).other (p := ⟨w.heap.size + 1, 0, none⟩) (by simp) _).other (p := ⟨w.heap.size + 1 + 1, 0, none⟩) (by simp; omega) _)
      (((i4.other (p := ⟨w.heap.size, 0, none⟩) (by simp) _).put 0 _).other (p := ⟨w.heap.size + 1 + 1, 0, none⟩) (by simp) _) (((i5.other (p := ⟨w.heap.size, 0, none⟩) (by simp) _).other (p := ⟨w.heap.size + 1, 0, none⟩) (by simp) _).put 0 _) ?_
    have hK3 := (KeepsOthers.setCell ((W.setCell ⟨w.heap.size, 0, none⟩ (.slice pv xs.length cv)).setCell ⟨w.heap.size + 1, 0, none⟩ (.int .i64 0)) ⟨w.heap.size + 1 + 1, 0, none⟩ (.int .i64 0)).same D _ ((KeepsOthers.setCell _ ⟨w.heap.size + 1, 0, none⟩ (.int .i64 0)).same D _ ((KeepsOthers.setCell _ ⟨w.heap.size, 0, none⟩ (.slice pv xs.length cv)).same D _ hK rfl) rfl) rfl
    refine ⟨below_put (((i6.setCell (p := ⟨w.heap.size, 0, none⟩) (Nat.le_refl _) _).setCell (p := ⟨w.heap.size + 1, 0, none⟩) (by simp) _).setCell (p := ⟨w.heap.size + 1 + 1, 0, none⟩) (by simp; omega) _) (by omega) _, .inl ⟨_, xs, rfl, HNO.out.1, HNO.out.2, ?_, hnil.out⟩⟩
    exact ownsRow_putObj (((i2.kept (grownBy_setCell' _ _ _) (.inr nr.symm)).kept (grownBy_setCell' _ _ _) (.inr nr1.symm)).kept (grownBy_setCell' _ _ _) (.inr nr2.symm)) _ hK3 rfl
  case stop =>
    rintro D pre W hD _ ⟨h6, a, h0, i1, i4, i5⟩ hK
    have cw := i1.cell
    have ca := i4.cell 0
    have ce := i5.cell 0
    gi_wp2
    exact words_end (g := w.heap.size) rfl rfl rfl hK i1 i4 i5 ⟨below_put h6 (by omega) _, .inr ⟨a, h0, rfl⟩⟩

set_option maxRecDepth 100000 in
set_option maxHeartbeats 1000000 in
theorem words_over (s : ByteArray) (hs : 65536 < s.size) (w : World) :
    Calls Tryd.prog 63 #[.string s] w fun e w' => Below w.heap.size w w' ∧ e = .returned (.tuple #[.slice none 0 0, .int .i64 65536, .int .i64 40]) := by
  have hs' : (65536 : Int) < (s.size : Int) := by omega
  go_enter Tryd.func63, Tryd.ntmps63
  go_wp2
  exact bodyPost_ret (v := .tuple #[.slice none 0 0, .int .i64 65536, .int .i64 40]) (by simp [results, Tryd.results63, go_sem]) rfl ⟨(((Below.refl _ w).alloc (Nat.le_refl _) _).alloc (by simp) _).alloc (by simp; omega) _, rfl⟩

/-- What Words tells. -/
def WordsTell (L : List UInt8) (B : Nat) (e : Ending) (w' : World) : Prop :=
  (∃ v xs, e = .returned (.tuple #[v, .int .i64 0, .int .i64 0]) ∧ (lxA L 0).2 = none ∧ Alike xs (lxA L 0).1 ∧ w'.ownsRow B 64 10 v xs.length (wordC xs) ∧ (v = .slice none 0 0 ↔ xs = [])) ∨
    (∃ a : Nat, (lxA L 0).2 = some a ∧ e = .returned (.tuple #[.slice none 0 0, .int .i64 a, .int .i64 4]))
/-- **Words(text), of MaxSource bytes at most.** -/
theorem words_any (s : ByteArray) (hs : s.size ≤ 65536) (w : World) (hS : SignsIn w) (hM : MaxL w) :
    Calls Tryd.prog 63 #[.string s] w fun e w' => Below w.heap.size w w' ∧ WordsTell s.data.toList w.heap.size e w' := callsIn_wide.1 (words_in s hs w hS hM)
end Go.Proofs.YtjeogbdeagkomaaDoor

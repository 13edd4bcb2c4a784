/- Package quote: the iterator over the parts; what stands behind them. -/
import Derived.RangeFuncNested
import Derived.RangeFuncBound
import Derived.RangeFuncCalls
import Derived.RangeFuncLeaves
import Derived.Shelf.Abstract
import Derived.Shelf.RegionOpen
import Derived.OwnWalkIn
import Derived.TacticsInMore
import Derived.LoopNIn
import Derived.LoopIn
import Derived.BigGuardIn
import Derived.Test.YtkhokhmdiagckaaDoorQ3
import Derived.Test.YtkhokhmdiagckaaDoorQr
namespace Go.Proofs.YtkhokhmdiagckaaDoor
open Go.RowKit Go.Maps Go.Shelf Bset Qm

attribute [local go_sem] Oper.semAt_some

theorem MapIs.same {w w' : World} {b : Nat} {f : Nat → Option Nat} (h : MapIs w b f) (e : w'.heap[b]? = w.heap[b]?) : MapIs w' b f := by
  obtain ⟨n, D, ⟨es, clock, hh, r⟩, h2⟩ := h
  exact ⟨n, D, ⟨es, clock, e.trans hh, r⟩, h2⟩
theorem Cl.same {w w' : World} {g : Nat} {t : TypeId} {cs : Array Value} (h : Cl w g t cs) (e : w'.heap[g]? = w.heap[g]?) : Cl w' g t cs := e.trans h

/-- The blocks that the iterator reads between two rounds. -/
def keptB (B bb ba : Nat) (k : Nat) : Prop := k = B ∨ k = B + 1 ∨ k = B + 2 ∨ k = bb ∨ k = ba

/-- What the iterator's closure holds. -/
structure Held (w : World) (p : Sp) (bb ba B : Nat) (s : ByteArray) (k : Nat) : Prop where
  sp : Spell w p bb ba
  b0 : Cl w B 44 (spC p bb ba)
  b1 : Cl w (B + 1) 9 #[.string s]
  b2 : Cl w (B + 2) 3 #[.int .i64 (k : Nat)]

theorem Held.below {w w' : World} {p : Sp} {bb ba B : Nat} {s : ByteArray} {k : Nat} (h : Held w p bb ba B s k) (hb : Below w.heap.size w w') : Held w' p bb ba B s k :=
  ⟨h.sp.below hb, h.b0.below hb h.b0.lt, h.b1.below hb h.b1.lt, h.b2.below hb h.b2.lt⟩
theorem Held.stands {w w' : World} {p : Sp} {bb ba B : Nat} {s : ByteArray} {k : Nat} {T : TypeId} (h : Held w p bb ba B s k) (hs : Stands T (keptB B bb ba) w w') : Held w' p bb ba B s k :=
  ⟨⟨h.sp.isp, h.sp.beh.same (hs.named _ (.inr (.inr (.inr (.inl rfl))))), h.sp.ahd.same (hs.named _ (.inr (.inr (.inr (.inr rfl)))))⟩, h.b0.same (hs.named _ (.inl rfl)), h.b1.same (hs.named _ (.inr (.inl rfl))), h.b2.same (hs.named _ (.inr (.inr (.inl rfl))))⟩
theorem Held.kept_lt {w : World} {p : Sp} {bb ba B : Nat} {s : ByteArray} {k : Nat} (h : Held w p bb ba B s k) : ∀ j, keptB B bb ba j → j < w.heap.size := by
  rintro j (rfl | rfl | rfl | rfl | rfl)
  · exact h.b0.lt
  · exact h.b1.lt
  · exact h.b2.lt
  · exact h.sp.beh.lt
  · exact h.sp.ahd.lt

theorem Held.grown {w w' : World} {p : Sp} {bb ba B : Nat} {s : ByteArray} {k : Nat} {P : Nat} (h : Held w p bb ba B s k) (hg : w.grownBy w' (some P)) (hne : ∀ j, keptB B bb ba j → j ≠ P) : Held w' p bb ba B s k := by
  have e : ∀ j, keptB B bb ba j → w'.heap[j]? = w.heap[j]? := fun j hj => hg.block j (h.kept_lt j hj) (fun e => hne j hj (by cases e; rfl))
  exact ⟨⟨h.sp.isp, h.sp.beh.same (e _ (.inr (.inr (.inr (.inl rfl))))), h.sp.ahd.same (e _ (.inr (.inr (.inr (.inr rfl)))))⟩, h.b0.same (e _ (.inl rfl)), h.b1.same (e _ (.inr (.inl rfl))), h.b2.same (e _ (.inr (.inr (.inl rfl))))⟩
theorem setCell_grown (W : World) (P j : Nat) (u : Value) : W.grownBy (W.setCell ⟨P, j, none⟩ u) (some P) :=
  ⟨rfl, rfl, rfl, by simp, fun k _ hk => Below.heap_setCell W _ u k (fun e => hk (by rw [e]))⟩

/-- A part that is told: its bytes, and the place behind it. -/
abbrev Prt := Nat × Nat × Nat
abbrev encP (x : Prt) : Array Value := #[partV x.1 x.2.1 x.2.2]

set_option maxHeartbeats 1000000 in
theorem parts_any (p : Sp) (bb ba : Nat) (s : ByteArray) (k : Nat) (w : World) :
    Calls Tryd.prog 23 #[spV p bb ba, .string s, .int .i64 k] w fun e w' =>
      e = .returned (.func (.func 34) #[] #[.pointer (some ⟨w.heap.size, 0, none⟩), .pointer (some ⟨w.heap.size + 1, 0, none⟩), .pointer (some ⟨w.heap.size + 1 + 1, 0, none⟩)]) ∧
        w' = ((w.alloc (.cells (spC p bb ba) 44)).alloc (.cells #[.string s] 9)).alloc (.cells #[.int .i64 k] 3) := by
  go_enter Tryd.func23, Tryd.ntmps23
  go_wp2
  go_ret
  exact ⟨rfl, rfl⟩

/-- How far the parts still go, at most. -/
def toGo (n P : Nat) (v : Value) (w : World) : Nat := match v with
  | .bool true => n + 2 - (intOf ((w.cell? ⟨P, 2, none⟩).getD undef)).toNat
  | _ => 0

theorem toGo_no (n P : Nat) (w : World) : toGo n P (.bool false) w = 0 := rfl
theorem toGo_yes {n P : Nat} {w : World} {a b : Value} {x : Int} (e : Nat) {t : TypeId} (h : Cl w P t #[a, b, .int .i64 x]) (hx : x = e) : toGo n P (.bool true) w = n + 2 - e := by
  subst hx
  unfold toGo
  simp only
  rw [h.cell 2]
  simp [intOf]

set_option maxRecDepth 100000 in
set_option maxHeartbeats 4000000 in
theorem parts1_in (p : Sp) (bb ba B : Nat) (s : ByteArray) (hs : s.size ≤ maxLen) (k : Nat) (hk : k ≤ s.size) (l : Nat) (J : List Prt → World → Prop) (W : World) (hJ : Abide 63 W.heap.size J)
    (hY : ∀ pre x W1, J pre W1 → (pre ++ [x]) <+: parts p (s.data.toList.drop k) k → YieldAt Fence.wide 2 Tryd.prog l (encP x) W1 fun e W' => e = .returned (.bool true) ∧ J (pre ++ [x]) W' ∧ Stands 63 (keptB B bb ba) W1 W')
    (h : Held W p bb ba B s k) (h0 : J [] W) :
    CallsIn Fence.wide 3 Tryd.prog 34 #[.func (.yield l) #[] #[], .pointer (some ⟨B, 0, none⟩), .pointer (some ⟨B + 1, 0, none⟩), .pointer (some ⟨B + 1 + 1, 0, none⟩)] W fun e W' => (∃ v, e = .returned v) ∧
      ∃ ys : List Prt, ys = parts p (s.data.toList.drop k) k ∧ J ys W' := by
  have c0 := h.b0.cell 0
  have c1 := h.b0.cell 1
  have c2 := h.b0.cell 2
  have c3 := h.b0.cell 3
  have c4 := h.b0.cell 4
  have c5 := h.b0.cell 5
  have c6 := h.b0.cell 6
  have c7 := h.b0.cell 7
  have cs := h.b1.cell 0
  have ck : W.cell? ⟨B + 1 + 1, 0, none⟩ = some (.int .i64 (k : Nat)) := h.b2.cell 0
  refine callsIn_of_wp Tryd.func34 rfl trivial ?_ rfl
  simp only [Tryd.ntmps34, List.size_toArray, List.length_cons, List.length_nil, Nat.reduceAdd, Nat.reduceSub, Array.replicate_succ, Array.replicate_zero, List.push_toArray, List.append_toArray, List.nil_append, List.cons_append]
  obtain ⟨lo, hi, n, ok, hp⟩ : ∃ lo hi n ok, pt p (s.data.toList.drop k) = (lo, hi, n, ok) := ⟨_, _, _, _, rfl⟩
  have hpa := part_any p bb ba s hs k hk W h.sp
  rw [hp] at hpa
  have HP := Lib.hid hp
  have HH := Lib.hid h
  have HY := Lib.hid hY
  clear hp h hY
  gi_wp2_with (refine ⟨trivial, ?_⟩; gi_at_call 35; refine (callsIn_wide.2 hpa).mono ?_; rintro e w1 ⟨rfl, hb1⟩)
  obtain ⟨P, hP⟩ : ∃ P, P = w1.heap.size := ⟨_, rfl⟩
  obtain ⟨W2, hW2⟩ : ∃ W2, w1.alloc (.cells #[.int .u8 lo, .int .u8 hi, .int .i64 ((k : Int) + n)] 63) = W2 := ⟨_, rfl⟩
  have q2 : Cl W2 P 63 #[.int .u8 lo, .int .u8 hi, .int .i64 ((k : Int) + n)] := by
    rw [← hW2, hP]
    exact Cl.new w1 _ _
  have b2 : Below W.heap.size W W2 := by
    rw [← hW2]
    exact hb1.alloc hb1.size _
  have hPW : W.heap.size ≤ P := by rw [hP]; exact hb1.size
  rw [hW2, ← hP]
  have HPW := Lib.hid hPW
  clear hW2 hP hPW
  gi_loopw [6] (fun v6 wr => ∃ (lo hi n k' : Nat) (ok : Bool) (pre : List Prt), v6 = .bool ok ∧ Cl wr P 63 #[.int .u8 lo, .int .u8 hi, .int .i64 ((k' : Int) + n)] ∧ pt p (s.data.toList.drop k') = (lo, hi, n, ok) ∧ k' ≤ s.size ∧
      parts p (s.data.toList.drop k) k = pre ++ parts p (s.data.toList.drop k') k' ∧ J pre wr ∧ Held wr p bb ba B s k)
    (fun v6 wr => toGo s.size P v6 wr)
  case atStart =>
    exact ⟨lo, hi, n, k, ok, [], rfl, q2, HP.out, hk, rfl, hJ _ _ _ none h0 (grown_of_below b2) (fun r e => by cases e), HH.out.below b2⟩
  case round =>
    clear q2 b2 h0 hb1 HP hpa c0 c1 c2 c3 c4 c5 c6 c7 cs ck
    obtain ⟨lo, hi, n, k', ok, pre, rfl, q, hp, hk', hpre, hJw, hH⟩ := hrel
    cases ok with
    | false =>
      have he : parts p (s.data.toList.drop k) k = pre := by rw [hpre, parts_end p _ _ (by rw [hp]), List.append_nil]
      have HE := Lib.hid he
      clear hp hpre he
      gi_wp2_with (refine wpListIn_skip rfl rfl ?_)
      go_end0
      exact ⟨⟨_, rfl⟩, pre, HE.out.symm, hJw⟩
    | true =>
      have hle := pt_le p hH.sp.isp (s.data.toList.drop k')
      rw [hp, List.length_drop] at hle
      obtain ⟨hl1, hl2⟩ := hle
      obtain ⟨hl2, -, -⟩ := hl2 rfl
      simp only at hl1 hl2
      have hl : s.data.toList.length = s.size := by simp
      rw [hl] at hl1
      have hgo := parts_go p hH.sp.isp (s.data.toList.drop k') k' (by rw [hp])
      rw [hp, List.drop_drop] at hgo
      simp only at hgo
      have hnew : parts p (s.data.toList.drop k) k = (pre ++ [(lo, hi, k' + n)]) ++ parts p (s.data.toList.drop (k' + n)) (k' + n) := by rw [hpre, hgo]; simp
      have hke : k' + n ≤ s.size := by omega
      have hY := HY.out
      obtain ⟨fn, tmps, assign, body, hy, hR⟩ := hY pre (lo, hi, k' + n) wr hJw (by rw [hnew]; exact List.prefix_append _ _)
      have ecast : (((k' + n : Nat) : Int)) = (k' : Int) + (n : Int) := by omega
      dsimp only [encP, partV] at hy
      rw [ecast] at hy
      have HQ := Lib.hid q
      have q0 := q.cell 0
      have q1 := q.cell 1
      have q2 := q.cell 2
      have HN := Lib.hid hnew
      have HKE := Lib.hid hke
      have HL2 := Lib.hid hl2
      have ECAST := Lib.hid ecast
      clear hp hpre hgo hnew hY ecast hl1 hl2 hl hke HY
      gi_wp2
      refine hR.mono ?_
      rintro e W3 ⟨rfl, hJ3, hs3⟩
      have hH3 := hH.stands hs3
      have q3 : Cl W3 P 63 #[.int .u8 lo, .int .u8 hi, .int .i64 ((k' : Int) + n)] := hs3.typed P _ _ q
      obtain ⟨lo2, hi2, n2, ok2, hp2⟩ : ∃ lo2 hi2 n2 ok2, pt p (s.data.toList.drop (k' + n)) = (lo2, hi2, n2, ok2) := ⟨_, _, _, _, rfl⟩
      have hpa := part_any p bb ba s hs (k' + n) HKE.out W3 hH3.sp
      rw [hp2, ECAST.out] at hpa
      have c0 := hH3.b0.cell 0
      have c1 := hH3.b0.cell 1
      have c2 := hH3.b0.cell 2
      have c3 := hH3.b0.cell 3
      have c4 := hH3.b0.cell 4
      have c5 := hH3.b0.cell 5
      have c6 := hH3.b0.cell 6
      have c7 := hH3.b0.cell 7
      have cs := hH3.b1.cell 0
      have d2 := q3.cell 2
      have HP2 := Lib.hid hp2
      have hst : (parts p (s.data.toList.drop k) k) = (pre ++ [(lo, hi, k' + n)]) ++ parts p (s.data.toList.drop (k' + n)) (k' + n) := HN.out
      have HST := Lib.hid hst
      clear hp2 hst hR q q0 q1 q2 hH hJw hs3
      gi_wp2_with (refine ⟨trivial, ?_⟩; gi_at_call 35; refine (callsIn_wide.2 hpa).mono ?_; rintro e w4 ⟨rfl, hb4⟩; have q4 := q3.below hb4 q3.lt; have r0 := q4.cell 0; have r1 := q4.cell 1; have r2 := q4.cell 2; have f0 := q4.free 0; have f1 := q4.free 1; have f2 := q4.free 2)
      obtain ⟨Wf, hWf⟩ : ∃ Wf, ((w4.setCell ⟨P, 0, none⟩ (.int .u8 lo2)).setCell ⟨P, 1, none⟩ (.int .u8 hi2)).setCell ⟨P, 2, none⟩ (.int .i64 ((k' : Int) + n + n2)) = Wf := ⟨_, rfl⟩
      have qf : Cl Wf P 63 #[.int .u8 lo2, .int .u8 hi2, .int .i64 ((k' : Int) + n + n2)] := by
        rw [← hWf]
        exact ((q4.put 0 _).put 1 _).put 2 _
      have hg : W3.grownBy Wf (some P) := by
        rw [← hWf]
        exact (((((grown_of_below hb4).but (some P)).andThen (setCell_grown w4 P 0 _) (fun j e => .inr e)).andThen (setCell_grown _ P 1 _) (fun j e => .inr e)).andThen (setCell_grown _ P 2 _) (fun j e => .inr e))
      rw [hWf]
      have e4 : (((k' + n : Nat) : Int)) = (k' : Int) + (n : Int) := ECAST.out
      have hx := HP2.out
      have hle := pt_le p hH3.sp.isp (s.data.toList.drop (k' + n))
      rw [hx, List.length_drop] at hle
      have hke := HKE.out
      refine ⟨⟨lo2, hi2, n2, k' + n, ok2, pre ++ [(lo, hi, k' + n)], rfl, by rw [e4]; exact qf, hx, hke, HST.out, hJ _ W3 Wf (some P) hJ3 hg (fun r e => by cases e; exact ⟨HPW.out, _, _, q3⟩), hH3.grown hg (fun j hj e => by have h1 := HH.out.kept_lt j hj; have h2 := HPW.out; omega)⟩, ?_⟩
      rw [toGo_yes (k' + n) HQ.out e4.symm]
      cases ok2 with
      | false =>
        rw [toGo_no]
        omega
      | true =>
        have h2 := (hle.2 rfl).1
        simp only at h2
        rw [toGo_yes (k' + n + n2) qf (by omega)]
        omega

/-- **parts(t, at) hands back a value that tells the parts, one by one.** -/
theorem parts1_told (p : Sp) (bb ba B : Nat) (s : ByteArray) (hs : s.size ≤ maxLen) (k : Nat) (hk : k ≤ s.size) (w : World) (h : Held w p bb ba B s k) :
    Told Fence.wide 3 Tryd.prog 34 #[.pointer (some ⟨B, 0, none⟩), .pointer (some ⟨B + 1, 0, none⟩), .pointer (some ⟨B + 1 + 1, 0, none⟩)] encP 63 (keptB B bb ba)
      (fun ys => ys = parts p (s.data.toList.drop k) k) (fun pre => pre <+: parts p (s.data.toList.drop k) k) w :=
  fun l J W hW hJ hY h0 => parts1_in p bb ba B s hs k hk l J W hJ hY (h.below hW) h0
end Go.Proofs.YtkhokhmdiagckaaDoor

/- Package lex: Same. -/
import Derived.Test.YtjeogbdeagkomaaDoorVL11
namespace Go.Proofs.YtjeogbdeagkomaaDoor
open Go.RowKit Nm Bset Lm

/-- A word lies there. -/
def TenAt (W : World) (b o : Nat) (x : Lw) : Prop := ∀ j u, (lwC x)[j]? = some u → W.cell? ⟨b, o + j, none⟩ = some u
theorem TenAt.ten {W : World} {b o : Nat} {x : Lw} (h : TenAt W b o x) :
    W.cell? ⟨b, o, none⟩ = some (.int .u8 (x.kind : Nat)) ∧ W.cell? ⟨b, o + 1, none⟩ = some (.int .i64 x.at_) ∧ W.cell? ⟨b, o + 2, none⟩ = some (.int .i64 x.to_) ∧ W.cell? ⟨b, o + 3, none⟩ = some (.string x.text) ∧
    W.cell? ⟨b, o + 4, none⟩ = some (.int .u64 (word x.set 0 : Nat)) ∧ W.cell? ⟨b, o + 5, none⟩ = some (.int .u64 (word x.set 1 : Nat)) ∧ W.cell? ⟨b, o + 6, none⟩ = some (.int .u64 (word x.set 2 : Nat)) ∧ W.cell? ⟨b, o + 7, none⟩ = some (.int .u64 (word x.set 3 : Nat)) ∧
    W.cell? ⟨b, o + 8, none⟩ = some (.int .i64 x.low) ∧ W.cell? ⟨b, o + 9, none⟩ = some (.int .i64 x.high) :=
  ⟨h 0 _ rfl, h 1 _ rfl, h 2 _ rfl, h 3 _ rfl, h 4 _ rfl, h 5 _ rfl, h 6 _ rfl, h 7 _ rfl, h 8 _ rfl, h 9 _ rfl⟩

/-- A slice of words. -/
def WordsAt (W : World) (v : Value) (l : List Lw) : Prop :=
  ∃ p c, v = .slice p l.length c ∧ ((p = none ∧ l = []) ∨ ∃ b off, p = some ⟨b, off, none⟩ ∧ b < W.heap.size ∧ ∀ i (h : i < l.length), TenAt W b (off + i * 10) l[i])

theorem TenAt.keep {W W' : World} {b o : Nat} {x : Lw} (h : TenAt W b o x) (e : W'.heap[b]? = W.heap[b]?) : TenAt W' b o x := fun j u hj => by
  have := h j u hj
  unfold World.cell? at this ⊢
  simp only [e]
  exact this
theorem WordsAt.below {W W' : World} {v : Value} {l : List Lw} {n : Nat} (h : WordsAt W v l) (hb : Below n W W') (hn : W.heap.size ≤ n) : WordsAt W' v l := by
  obtain ⟨p, c, e, h⟩ := h
  refine ⟨p, c, e, h.imp id fun ⟨b, off, e1, hlt, h2⟩ => ⟨b, off, e1, Nat.lt_of_lt_of_le hlt (Nat.le_trans (Nat.le_refl _) hb.size), fun i hi => (h2 i hi).keep (hb.block b (Nat.lt_of_lt_of_le hlt hn))⟩⟩

/-- Two rows of words are the same, but for where they stand. -/
def sameL : List Lw → List Lw → Bool
  | [], [] => true
  | a :: l, b :: m => sameW a.bare b.bare && sameL l m
  | _, _ => false
theorem sameL_len : ∀ {A B : List Lw}, sameL A B = true → A.length = B.length
  | [], [], _ => rfl
  | _ :: l, _ :: m, h => by
    unfold sameL at h
    rw [Bool.and_eq_true] at h
    rw [List.length_cons, List.length_cons, sameL_len h.2]
  | [], _ :: _, h => by cases h
  | _ :: _, [], h => by cases h
theorem sameL_drop (A B : List Lw) (q : Nat) (h1 : q < A.length) (h2 : q < B.length) : sameL (A.drop q) (B.drop q) = (sameW A[q].bare B[q].bare && sameL (A.drop (q + 1)) (B.drop (q + 1))) := by
  rw [List.drop_eq_getElem_cons h1, List.drop_eq_getElem_cons h2]
  rfl

set_option maxRecDepth 100000 in
set_option maxHeartbeats 2000000 in
theorem same1_any (x y : Lw) (w : World) :
    Calls Tryd.prog 106 #[lwV x, lwV y] w fun e w' => e = .returned (.bool (sameW x.bare y.bare)) ∧ Below w.heap.size w w' := by
  have hx := fun W => alone_any x W
  have hy := fun W => alone_any y W
  have he := fun W => run_eql_word x.bare y.bare W
  obtain ⟨r, hr⟩ : ∃ r, r = sameW x.bare y.bare := ⟨_, rfl⟩
  rw [← hr] at he ⊢
  obtain ⟨W1, hW1⟩ : ∃ W1, (w.alloc (.cells (lwC x) 64)).alloc (.cells (lwC y) 64) = W1 := ⟨_, rfl⟩
  have s0 : Cl W1 w.heap.size 64 (lwC x) := by rw [← hW1]; exact (Cl.new _ _ _).alloc _
  have s1 : Cl W1 (w.heap.size + 1) 64 (lwC y) := by rw [← hW1]; exact Cl.new' (by simp) _ _
  have b1 : Below w.heap.size w W1 := by rw [← hW1]; exact ((Below.refl _ w).alloc (Nat.le_refl _) _).alloc (by simp) _
  obtain ⟨⟨x0, x1, x2, x3, x4, x5, x6, x7, x8, x9⟩, xf⟩ := s0.ten
  have HX := Lib.hid hx
  have HY := Lib.hid hy
  clear hx hy hr
  go_enter Tryd.func106, Tryd.ntmps106
  go_upto_region 1 with fail
  clear hW1
  obtain ⟨⟨y0, y1, y2, y3, y4, y5, y6, y7, y8, y9⟩, yf⟩ := s1.ten
  go_region_with (go_at_call 96; first
    | ((with_reducible refine (HX.out W1.drew).mono ?_); rintro e w2 ⟨rfl, hb2⟩; have p0 := s0.drew.below hb2 s0.lt; have p1 := s1.drew.below hb2 s1.lt; have f2 := b1.drew.trans (hb2.mono b1.size); obtain ⟨⟨x0, x1, x2, x3, x4, x5, x6, x7, x8, x9⟩, xf⟩ := Cl.ten p0; obtain ⟨⟨y0, y1, y2, y3, y4, y5, y6, y7, y8, y9⟩, yf⟩ := Cl.ten p1)
    | ((with_reducible refine (HY.out w2).mono ?_); rintro e w3 ⟨rfl, hb3⟩; have p2 := p0.below hb3 p0.lt; have p3 := p1.below hb3 p1.lt; have f3 := f2.trans (hb3.mono f2.size); obtain ⟨⟨x0, x1, x2, x3, x4, x5, x6, x7, x8, x9⟩, xf⟩ := Cl.ten p2; obtain ⟨⟨y0, y1, y2, y3, y4, y5, y6, y7, y8, y9⟩, yf⟩ := Cl.ten p3)
    | ((with_reducible refine (HY.out W1.drew).mono ?_); rintro e w4 ⟨rfl, hb2⟩; have p0 := s0.drew.below hb2 s0.lt; have p1 := s1.drew.below hb2 s1.lt; have f2 := b1.drew.trans (hb2.mono b1.size); obtain ⟨⟨x0, x1, x2, x3, x4, x5, x6, x7, x8, x9⟩, xf⟩ := Cl.ten p0; obtain ⟨⟨y0, y1, y2, y3, y4, y5, y6, y7, y8, y9⟩, yf⟩ := Cl.ten p1)
    | ((with_reducible refine (HX.out w4).mono ?_); rintro e w3 ⟨rfl, hb3⟩; have p2 := p0.below hb3 p0.lt; have p3 := p1.below hb3 p1.lt; have f3 := f2.trans (hb3.mono f2.size); obtain ⟨⟨x0, x1, x2, x3, x4, x5, x6, x7, x8, x9⟩, xf⟩ := Cl.ten p2; obtain ⟨⟨y0, y1, y2, y3, y4, y5, y6, y7, y8, y9⟩, yf⟩ := Cl.ten p3))
  all_goals
    go_wp2
    go_ret
    exact ⟨rfl, f3⟩

set_option maxRecDepth 100000 in
set_option maxHeartbeats 2000000 in
theorem eqfw_any (v1 v2 : Value) (A B : List Lw) (w : World) (h1 : WordsAt w v1 A) (h2 : WordsAt w v2 B) (hl : A.length ≤ 4294967296) :
    Calls Tryd.prog 105 #[v1, v2, .func (.func 106) #[] #[]] w fun e w' => e = .returned (.bool (sameL A B)) ∧ Below w.heap.size w w' := by
  obtain ⟨p, c, e1, hh1⟩ := h1
  obtain ⟨p', c', e2, hh2⟩ := h2
  subst e1 e2
  by_cases hlen : A.length = B.length
  · have hle : ((A.length : Int) != (B.length : Int)) = false := by simp [hlen]
    go_enter Tryd.func105, Tryd.ntmps105
    have HL := Lib.hid hlen
    clear hlen
    go_wp2
    go_loopw [17] (fun v W => ∃ q : Nat, v = .int .i64 q ∧ q ≤ A.length ∧ Hid (sameL A B = sameL (A.drop q) (B.drop q)) ∧ Below w.heap.size w W) (fun v _ => A.length - (intOf v).toNat)
    case atStart => exact ⟨0, rfl, Nat.zero_le _, Lib.hid rfl, Below.refl _ _⟩
    case round =>
      obtain ⟨q, rfl, hq, HS, hB⟩ := hrel
      by_cases hlt : q < A.length
      · have hlt2 : q < B.length := by have := HL.out; omega
        rcases hh1 with ⟨rfl, hn⟩ | ⟨b, off, rfl, hbl, hc⟩
        · rw [hn] at hlt
          simp at hlt
        · rcases hh2 with ⟨rfl, hn⟩ | ⟨b', off', rfl, hbl', hc'⟩
          · rw [hn] at hlt2
            simp at hlt2
          · have T1 := (hc q hlt).keep (hB.block b hbl)
            have T2 := (hc' q hlt2).keep (hB.block b' hbl')
            have B1 := hB.alloc hB.size (.cells (lwC A[q]) 64)
            have T2' := (hc' q hlt2).keep (B1.block b' hbl')
            have B2 := B1.alloc B1.size (.cells (lwC B[q]) 64)
            obtain ⟨x0, x1, x2, x3, x4, x5, x6, x7, x8, x9⟩ := T1.ten
            obtain ⟨y0, y1, y2, y3, y4, y5, y6, y7, y8, y9⟩ := T2'.ten
            have hq0 : (0 : Int) ≤ (q : Int) := by omega
            have hq1 : (q : Int) < (A.length : Int) := by omega
            have hq2 : (q : Int) < (B.length : Int) := by omega
            have hsame := fun W => same1_any A[q] B[q] W
            have hst : sameL A B = (sameW A[q].bare B[q].bare && sameL (A.drop (q + 1)) (B.drop (q + 1))) := by rw [HS.out, sameL_drop A B q hlt hlt2]
            generalize sameW A[q].bare B[q].bare = r at hsame hst
            have HST := Lib.hid hst
            have HSM := Lib.hid hsame
            clear hst hsame hc hc' HS T1 T2 T2'
            cases r with
            | true =>
              go_wp2_with (go_at_call 106; refine (HSM.out _).mono ?_; rintro e w' ⟨rfl, hb⟩)
              go_roundw
              case rel => exact ⟨q + 1, by go_num, by omega, Lib.hid (by rw [HST.out, Bool.true_and]), B2.trans (hb.mono B2.size)⟩
              case measure => simp [intOf]; omega
            | false =>
              go_wp2_with (go_at_call 106; refine (HSM.out _).mono ?_; rintro e w' ⟨rfl, hb⟩)
              go_ret
              exact ⟨congrArg (fun x => Ending.returned (.bool x)) (HST.out.trans (Bool.false_and _)).symm, B2.trans (hb.mono B2.size)⟩
      · obtain rfl : q = A.length := by omega
        have hfin : sameL A B = true := by
          rw [HS.out, List.drop_eq_nil_of_le (Nat.le_refl _), List.drop_eq_nil_of_le (by have := HL.out; omega)]
          rfl
        have HF := Lib.hid hfin
        clear hfin HS
        go_wp2
        go_ret
        exact ⟨congrArg (fun x => Ending.returned (.bool x)) HF.out.symm, hB⟩
  · have hne : ((A.length : Int) != (B.length : Int)) = true := by simp; omega
    have hf : sameL A B = false := by
      cases h : sameL A B with
      | false => rfl
      | true => exact absurd (sameL_len h) hlen
    rw [hf]
    clear hf hlen
    go_enter Tryd.func105, Tryd.ntmps105
    go_wp2
    go_ret
    exact ⟨rfl, Below.refl _ _⟩

set_option maxHeartbeats 1000000 in
theorem lsame_any (v1 v2 : Value) (A B : List Lw) (w : World) (h1 : WordsAt w v1 A) (h2 : WordsAt w v2 B) (hl : A.length ≤ 4294967296) :
    Calls Tryd.prog 64 #[v1, v2] w fun e w' => e = .returned (.bool (sameL A B)) ∧ Below w.heap.size w w' := by
  have hE := eqfw_any v1 v2 A B w h1 h2 hl
  clear h1 h2
  go_enter Tryd.func64, Tryd.ntmps64
  go_wp2_with (go_at_call 105; refine hE.mono ?_; rintro e w' ⟨rfl, hb⟩)
  go_ret
  exact ⟨rfl, hb⟩
end Go.Proofs.YtjeogbdeagkomaaDoor

/- What is taken of a text. Plain Lean; no program. -/
import Derived.Test.YtjeogbdeagkomaaDoorVNm
import Derived.Test.YtjeogbdeagkomaaDoorVRunsM
namespace Go.Proofs.Nm
open Go Go.RowKit

theorem run_stop : ∀ (l : List UInt8) (b : UInt8), l[run l]? = some b → isLet b.toNat = false ∧ isDig b.toNat = false
  | [], b, h => by simp at h
  | c :: l, b, h => by
    rw [run_cons] at h
    by_cases k : (isLet c.toNat || isDig c.toNat) = true
    · rw [if_pos k, List.getElem?_cons_succ] at h
      exact run_stop l b h
    · rw [if_neg k, List.getElem?_cons_zero] at h
      obtain rfl := Option.some.inj h
      simpa using k
theorem taken_stop (l : List UInt8) (b : UInt8) (h : l[taken l]? = some b) : isLet b.toNat = false ∧ (0 < taken l → isDig b.toNat = false) := by
  cases l with
  | nil => simp at h
  | cons c l =>
    rw [taken_cons] at h ⊢
    by_cases k : isLet c.toNat = true
    · rw [if_pos k, List.getElem?_cons_succ] at h
      exact ⟨(run_stop l b h).1, fun _ => (run_stop l b h).2⟩
    · rw [if_neg k, List.getElem?_cons_zero] at h
      obtain rfl := Option.some.inj h
      rw [if_neg k]
      exact ⟨by simpa using k, fun h => by omega⟩
theorem run_take : ∀ l : List UInt8, run (l.take (run l)) = run l
  | [] => rfl
  | c :: l => by
    rw [run_cons]
    by_cases k : (isLet c.toNat || isDig c.toNat) = true
    · rw [if_pos k, List.take_succ_cons, run_cons, if_pos k, run_take l]
    · rw [if_neg k]
      rfl
theorem taken_take (l : List UInt8) : taken (l.take (taken l)) = taken l := by
  cases l with
  | nil => rfl
  | cons c l =>
    rw [taken_cons]
    by_cases k : isLet c.toNat = true
    · rw [if_pos k, List.take_succ_cons, taken_cons, if_pos k, run_take l]
    · rw [if_neg k]
      rfl
theorem extract_list (s : ByteArray) (n : Nat) : (s.extract 0 n).data.toList = s.data.toList.take n := by
  rw [ByteArray.data_extract]
  simp
theorem may_take (s : ByteArray) : mayB (s.extract 0 (taken s.data.toList)) = (decide (taken s.data.toList ≠ 0) && decide (taken s.data.toList ≤ 32)) := by
  have hle := taken_le s.data.toList
  have hz : (s.extract 0 (taken s.data.toList)).size = taken s.data.toList := by
    rw [ByteArray.size_extract]
    simp at hle
    omega
  unfold mayB
  rw [hz, extract_list, taken_take]
  simp
end Go.Proofs.Nm

/- What a literal, a class, a name and a count are read from: nothing behind them matters. Of no program. -/
namespace Go.Proofs.YtjeogbdeagkomaaDoor.Qm
open Bset

theorem take_cons (c : UInt8) (l : List UInt8) (k : Nat) (hk : 1 ≤ k) : (c :: l).take k = c :: l.take (k - 1) := by
  obtain ⟨k, rfl⟩ : ∃ m, k = m + 1 := ⟨k - 1, by omega⟩
  rfl

theorem hx_local (l r : List UInt8) (h : (hx l).2.2 = true) : hx (l.take (hx l).2.1 ++ r) = hx l := by
  match l with
  | [] => simp [hx] at h
  | c :: l =>
    by_cases h1 : dg c.toNat < 0
    · rw [hx1 c l h1] at h
      cases h
    · match l with
      | [] =>
        rw [hx2 c h1] at h
        cases h
      | d :: l =>
        by_cases h2 : dg d.toNat < 0
        · rw [hx3 c d l h1 h2] at h
          cases h
        · rw [hx4 c d l h1 h2]
          show hx (c :: d :: ([] ++ r)) = _
          rw [hx4 c d _ h1 h2]

/-- A sign is read from its own bytes alone. -/
theorem rd_local (p : Sp) (l r : List UInt8) (h : (rd p l).2.2 = true) : rd p (l.take (rd p l).2.1 ++ r) = rd p l := by
  match l with
  | [] => simp [rd] at h
  | c :: l =>
    by_cases h1 : c.toNat = 92
    · match l with
      | [] =>
        rw [rd2 p c h1] at h
        cases h
      | d :: l =>
        rw [rd3 p c d l h1] at h ⊢
        cases hd : behind p d.toNat with
        | some v =>
          show rd p (c :: d :: ([] ++ r)) = _
          rw [rd3 p c d _ h1, hd]
        | none =>
          rw [hd] at h
          simp only at h ⊢
          by_cases hx : d.toNat = 120
          · rw [if_pos hx] at h ⊢
            simp only at h ⊢
            rw [take_cons c _ _ (by omega), take_cons d _ _ (by omega)]
            have e : 2 + (Qm.hx l).2.1 - 1 - 1 = (Qm.hx l).2.1 := by omega
            rw [e]
            show rd p (c :: d :: (l.take (Qm.hx l).2.1 ++ r)) = _
            rw [rd3 p c d _ h1, hd]
            simp only
            rw [if_pos hx, hx_local l r h]
          · rw [if_neg hx] at h
            cases h
    · rw [rd1 p c l h1] at h ⊢
      by_cases h2 : plain p c.toNat = true
      · rw [if_pos h2]
        show rd p (c :: ([] ++ r)) = _
        rw [rd1 p c _ h1, if_pos h2]
      · rw [if_neg h2] at h
        cases h

theorem drop_take_app (l r : List UInt8) (i k : Nat) (hik : i ≤ k) (hk : k ≤ l.length) : (l.take k ++ r).drop i = (l.drop i).take (k - i) ++ r := by
  rw [List.drop_append_of_le_length (by rw [List.length_take]; omega), List.drop_take]
theorem take_take_app (l r : List UInt8) (i k : Nat) (hik : i ≤ k) : l.take k ++ r = l.take i ++ ((l.drop i).take (k - i) ++ r) := by
  rw [← List.append_assoc]
  congr 1
  have : k = i + (k - i) := by omega
  conv => lhs; rw [this, List.take_add]

/-- A part, from its own bytes and whether a - stands behind. -/
theorem pt_local (p : Sp) (hp : Is p) (l r : List UInt8) (h : (pt p l).2.2.2 = true) (hr : r.head? = (l.drop (pt p l).2.2.1).head?) : pt p (l.take (pt p l).2.2.1 ++ r) = pt p l := by
  have hl := pt_le p hp l
  have h1 := rd_le p hp l
  have h2 := rd_le p hp (l.drop ((rd p l).2.1 + 1))
  by_cases hc : (rd p l).2.2 = true ∧ p.rng = true ∧ (l.drop (rd p l).2.1).head? = some 45
  · by_cases hd : (rd p (l.drop ((rd p l).2.1 + 1))).2.2 = true ∧ (rd p (l.drop ((rd p l).2.1 + 1))).1 < (rd p l).1
    · have e : pt p l = (0, 0, 0, false) := by
        unfold pt
        rw [if_pos hc, if_pos hd]
      rw [e] at h
      cases h
    · have e : pt p l = ((rd p l).1, (rd p (l.drop ((rd p l).2.1 + 1))).1, (rd p l).2.1 + 1 + (rd p (l.drop ((rd p l).2.1 + 1))).2.1, (rd p (l.drop ((rd p l).2.1 + 1))).2.2) := by
        unfold pt
        rw [if_pos hc, if_neg hd]
      have hk : (pt p l).2.2.1 = (rd p l).2.1 + 1 + (rd p (l.drop ((rd p l).2.1 + 1))).2.1 := by rw [e]
      have ho : (rd p (l.drop ((rd p l).2.1 + 1))).2.2 = true := by rw [e] at h; exact h
      have q1 : rd p (l.take (pt p l).2.2.1 ++ r) = rd p l := by
        rw [take_take_app l r (rd p l).2.1 _ (by omega)]
        exact rd_local p l _ hc.1
      have q2 : ((l.take (pt p l).2.2.1 ++ r).drop (rd p l).2.1).head? = some 45 := by
        rw [drop_take_app l r _ _ (by omega) hl.1]
        have h45 := hc.2.2
        cases hm : l.drop (rd p l).2.1 with
        | nil => rw [hm] at h45; simp at h45
        | cons a m =>
          rw [hm] at h45
          rw [take_cons a m _ (by omega)]
          exact h45
      have q3 : rd p ((l.take (pt p l).2.2.1 ++ r).drop ((rd p l).2.1 + 1)) = rd p (l.drop ((rd p l).2.1 + 1)) := by
        rw [drop_take_app l r _ _ (by omega) hl.1]
        have e2 : (pt p l).2.2.1 - ((rd p l).2.1 + 1) = (rd p (l.drop ((rd p l).2.1 + 1))).2.1 := by omega
        rw [e2]
        exact rd_local p _ _ ho
      rw [e]
      rw [← hk]
      unfold pt
      rw [show (if (rd p l).2.2 = true ∧ p.rng = true ∧ (l.drop (rd p l).2.1).head? = some 45 then _ else _ : Nat × Nat × Nat × Bool) = pt p l from rfl, q1, q3, if_pos ⟨hc.1, hc.2.1, q2⟩, if_neg hd, hk]
  · have e : pt p l = ((rd p l).1, (rd p l).1, (rd p l).2.1, (rd p l).2.2) := by
      unfold pt
      rw [if_neg hc]
    have hk : (pt p l).2.2.1 = (rd p l).2.1 := by rw [e]
    have ho : (rd p l).2.2 = true := by rw [e] at h; exact h
    rw [hk] at hr ⊢
    have q1 : rd p (l.take (rd p l).2.1 ++ r) = rd p l := rd_local p l r ho
    have q2 : ((l.take (rd p l).2.1 ++ r).drop (rd p l).2.1).head? = (l.drop (rd p l).2.1).head? := by
      rw [drop_take_app l r _ _ (Nat.le_refl _) h1.1, Nat.sub_self]
      exact hr
    rw [e]
    unfold pt
    rw [q1, q2, if_neg hc]

/-- All parts, if behind them stands the same byte. -/
theorem all_local (p : Sp) (hp : Is p) (hend : ∀ m, pt p (UInt8.ofNat p.last :: m) = (0, 0, 0, false)) : ∀ (n : Nat) (l r : List UInt8), l.length ≤ n → (l.drop (all p l).2).head? = some (UInt8.ofNat p.last) → all p (l.take (all p l).2 ++ (UInt8.ofNat p.last :: r)) = all p l
  | n, l, r, hn, hh => by
    by_cases h : (pt p l).2.2.2 = true
    · have h1 := (pt_le p hp l).2 h
      have h2 := (pt_le p hp l).1
      match n with
      | 0 => omega
      | n + 1 =>
        have ho := all_ok p hp _ (l.drop (pt p l).2.2.1) (Nat.le_refl _)
        have hg := all_go p hp l h
        have hm : (all p l).2 = (pt p l).2.2.1 + (all p (l.drop (pt p l).2.2.1)).2 := by rw [hg]
        have hl2 : (l.drop (pt p l).2.2.1).length = l.length - (pt p l).2.2.1 := List.length_drop
        have hh2 : ((l.drop (pt p l).2.2.1).drop (all p (l.drop (pt p l).2.2.1)).2).head? = some (UInt8.ofNat p.last) := by
          rw [List.drop_drop, ← hm]
          exact hh
        have ih := all_local p hp hend n (l.drop (pt p l).2.2.1) r (by omega) hh2
        have e : l.take (all p l).2 ++ (UInt8.ofNat p.last :: r) = l.take (pt p l).2.2.1 ++ ((l.drop (pt p l).2.2.1).take (all p (l.drop (pt p l).2.2.1)).2 ++ (UInt8.ofNat p.last :: r)) := by
          rw [take_take_app l _ (pt p l).2.2.1 _ (by omega)]
          rw [hm, Nat.add_sub_cancel_left]
        have hd : ((l.drop (pt p l).2.2.1).take (all p (l.drop (pt p l).2.2.1)).2 ++ (UInt8.ofNat p.last :: r)).head? = (l.drop (pt p l).2.2.1).head? := by
          cases hz : (all p (l.drop (pt p l).2.2.1)).2 with
          | zero =>
            rw [hz] at hh2
            rw [List.take_zero]
            exact hh2.symm
          | succ m =>
            cases hw : l.drop (pt p l).2.2.1 with
            | nil =>
              rw [hw] at hz hl2
              have := ho.2.1
              rw [hw] at this
              rw [hz] at this
              simp at this
            | cons a b => rfl
        have hpt := pt_local p hp l _ h hd
        rw [e, all_go p hp _ (by rw [hpt]; exact h), hpt, hg]
        have e2 : (l.take (pt p l).2.2.1 ++ ((l.drop (pt p l).2.2.1).take (all p (l.drop (pt p l).2.2.1)).2 ++ (UInt8.ofNat p.last :: r))).drop (pt p l).2.2.1 = (l.drop (pt p l).2.2.1).take (all p (l.drop (pt p l).2.2.1)).2 ++ (UInt8.ofNat p.last :: r) := by
          rw [drop_take_app l _ _ _ (Nat.le_refl _) h2, Nat.sub_self]
          rfl
        rw [e2, ih]
    · have h0 : (pt p l).2.2.2 = false := by simpa using h
      rw [all_end p l h0]
      show all p (UInt8.ofNat p.last :: r) = _
      rw [all_end p _ (by rw [hend])]

theorem head_cons {l : List UInt8} {c : UInt8} (h : l.head? = some c) : l = c :: l.drop 1 := by
  cases l with
  | nil => simp at h
  | cons a m =>
    simp at h
    rw [h]
    rfl

/-- A literal. -/
theorem unlit_local (t r : List UInt8) (h : (unlit t).2.2 = 0) : 1 ≤ (unlit t).2.1 ∧ (unlit t).2.1 ≤ t.length ∧ unlit (t.take (unlit t).2.1 ++ r) = unlit t := by
  by_cases h0 : t.head? = some 34
  · have hs := ended_ok lit t (1 + (all lit (t.drop 1)).2)
    have hu : unlit t = if (ended lit t (1 + (all lit (t.drop 1)).2)).2 ≠ 0 then ([], ended lit t (1 + (all lit (t.drop 1)).2))
        else if (all lit (t.drop 1)).1.length > 255 then ([], 0, 40)
        else ((all lit (t.drop 1)).1.map (fun x => UInt8.ofNat x.1), (ended lit t (1 + (all lit (t.drop 1)).2)).1, 0) := by
      unfold unlit
      rw [if_pos h0]
    by_cases he : (ended lit t (1 + (all lit (t.drop 1)).2)).2 ≠ 0
    · rw [hu, if_pos he] at h
      exact absurd h he
    · by_cases hn : (all lit (t.drop 1)).1.length > 255
      · rw [hu, if_neg he, if_pos hn] at h
        cases h
      · obtain ⟨s1, s2⟩ := hs (Decidable.not_not.1 he)
        rw [if_neg he, if_neg hn, s2] at hu
        have hlen : 1 + (all lit (t.drop 1)).2 + 1 ≤ t.length := by
          rw [List.head?_eq_getElem?, List.getElem?_drop, Nat.add_zero] at s1
          have := (List.getElem?_eq_some_iff.1 s1).1
          omega
        rw [hu]
        refine ⟨by simp only; omega, by simp only; omega, ?_⟩
        simp only
        have ht := head_cons h0
        have e : t.take (1 + (all lit (t.drop 1)).2 + 1) ++ r = 34 :: ((t.drop 1).take (all lit (t.drop 1)).2 ++ (34 :: r)) := by
          have s1' : (t.drop (1 + (all lit (t.drop 1)).2)).head? = some 34 := s1
          have e1 := head_cons s1'
          rw [take_take_app t r (1 + (all lit (t.drop 1)).2) _ (by omega)]
          have e2 : 1 + (all lit (t.drop 1)).2 + 1 - (1 + (all lit (t.drop 1)).2) = 1 := by omega
          rw [e2]
          have e3 : (t.drop (1 + (all lit (t.drop 1)).2)).take 1 = [34] := by
            rw [e1]
            rfl
          rw [e3]
          have e4 : t.take (1 + (all lit (t.drop 1)).2) = 34 :: (t.drop 1).take (all lit (t.drop 1)).2 := by
            have := take_cons 34 (t.drop 1) (1 + (all lit (t.drop 1)).2) (by omega)
            rw [← ht, Nat.add_sub_cancel_left] at this
            exact this
          rw [e4]
          rfl
        have ha : all lit ((t.drop 1).take (all lit (t.drop 1)).2 ++ (34 :: r)) = all lit (t.drop 1) := by
          refine all_local lit (.inl rfl) pt_quote _ _ r (Nat.le_refl _) ?_
          rw [List.drop_drop]
          exact s1
        rw [e]
        unfold unlit
        have hd : (34 :: ((t.drop 1).take (all lit (t.drop 1)).2 ++ (34 :: r))).drop 1 = (t.drop 1).take (all lit (t.drop 1)).2 ++ (34 :: r) := rfl
        have hen : ended lit (34 :: ((t.drop 1).take (all lit (t.drop 1)).2 ++ (34 :: r))) (1 + (all lit (t.drop 1)).2) = (1 + (all lit (t.drop 1)).2 + 1, 0) := by
          unfold ended
          have : ((34 :: ((t.drop 1).take (all lit (t.drop 1)).2 ++ (34 :: r))).drop (1 + (all lit (t.drop 1)).2)).head? = some (UInt8.ofNat lit.last) := by
            rw [Nat.add_comm 1, List.drop_succ_cons]
            have hl := (all_ok lit (.inl rfl) _ (t.drop 1) (Nat.le_refl _)).2.1
            rw [drop_take_app _ _ _ _ (Nat.le_refl _) hl, Nat.sub_self]
            rfl
          rw [if_pos this]
        rw [hd, ha, hen]
        rw [if_pos (show (34 :: ((t.drop 1).take (all lit (t.drop 1)).2 ++ (34 :: r)) : List UInt8).head? = some 34 from rfl), if_neg (by simp), if_neg hn]
  · unfold unlit fau at h
    rw [if_neg h0] at h
    simp only at h
    split at h <;> cases h

/-- A class. -/
theorem uncls_local (t r : List UInt8) (h : (uncls t).2.2 = 0) : 1 ≤ (uncls t).2.1 ∧ (uncls t).2.1 ≤ t.length ∧ uncls (t.take (uncls t).2.1 ++ r) = uncls t := by
  have hR := uncls_ok h
  have hb := hR.bound
  refine ⟨by omega, hb.2.1, ?_⟩
  have hl := hR.len
  have hc : (t.drop (from_ t + (all cls (t.drop (from_ t))).2)).head? = some 93 := hR.close
  have hfl := from_le t hR.head
  have hf : from_ t = 1 ∨ from_ t = 2 := by unfold from_; split <;> simp
  rw [show (uncls t).2.1 = from_ t + (all cls (t.drop (from_ t))).2 + 1 by rw [hl]]
  have hA := all_ok cls (.inr rfl) _ (t.drop (from_ t)) (Nat.le_refl _)
  rw [List.length_drop] at hA
  have ha : all cls ((t.drop (from_ t)).take (all cls (t.drop (from_ t))).2 ++ (93 :: r)) = all cls (t.drop (from_ t)) := by
    refine all_local cls (.inr rfl) pt_close _ _ r (Nat.le_refl _) ?_
    rw [List.drop_drop]
    exact hc
  have e : t.take (from_ t + (all cls (t.drop (from_ t))).2 + 1) ++ r = t.take (from_ t) ++ ((t.drop (from_ t)).take (all cls (t.drop (from_ t))).2 ++ (93 :: r)) := by
    rw [take_take_app t r (from_ t + (all cls (t.drop (from_ t))).2) _ (by omega)]
    rw [show from_ t + (all cls (t.drop (from_ t))).2 + 1 - (from_ t + (all cls (t.drop (from_ t))).2) = 1 by omega]
    have e3 : (t.drop (from_ t + (all cls (t.drop (from_ t))).2)).take 1 = [93] := by
      rw [head_cons hc]
      rfl
    rw [e3, take_take_app t _ (from_ t) _ (by omega), Nat.add_sub_cancel_left]
    rfl
  rw [e]
  have hdr : (t.take (from_ t) ++ ((t.drop (from_ t)).take (all cls (t.drop (from_ t))).2 ++ (93 :: r))).drop (from_ t) = (t.drop (from_ t)).take (all cls (t.drop (from_ t))).2 ++ (93 :: r) := by
    rw [drop_take_app t _ _ _ (Nat.le_refl _) hfl, Nat.sub_self]
    rfl
  have hhd : (t.take (from_ t) ++ ((t.drop (from_ t)).take (all cls (t.drop (from_ t))).2 ++ (93 :: r))).head? = some 91 := by
    have := take_cons 91 (t.drop 1) (from_ t) (by omega)
    rw [← head_cons hR.head] at this
    rw [this]
    rfl
  have hfr : from_ (t.take (from_ t) ++ ((t.drop (from_ t)).take (all cls (t.drop (from_ t))).2 ++ (93 :: r))) = from_ t := by
    have h91 := head_cons hR.head
    rcases hf with h1 | h1
    · have hne : t[1]? ≠ some 94 := by
        intro h94
        unfold from_ at h1
        rw [if_pos h94] at h1
        cases h1
      conv => rhs; rw [h1]
      unfold from_
      refine if_neg ?_
      rw [show (t.take (if t[1]? = some 94 then 2 else 1) ++ ((t.drop (if t[1]? = some 94 then 2 else 1)).take (all cls (t.drop (if t[1]? = some 94 then 2 else 1))).2 ++ (93 :: r)) : List UInt8) = t.take 1 ++ ((t.drop 1).take (all cls (t.drop 1)).2 ++ (93 :: r)) by rw [if_neg hne]]
      have : t.take 1 = [91] := by rw [h91]; rfl
      rw [this]
      show ((t.drop 1).take (all cls (t.drop 1)).2 ++ (93 :: r))[0]? ≠ some 94
      cases hz : (all cls (t.drop 1)).2 with
      | zero => simp
      | succ m =>
        cases hw : t.drop 1 with
        | nil => simp
        | cons a b =>
          intro h
          apply hne
          have : t[1]? = some a := by
            have := List.getElem?_drop (xs := t) (i := 1) (j := 0)
            rw [hw] at this
            simpa using this.symm
          rw [this]
          simpa using h
    · have h94 : t[1]? = some 94 := by
        unfold from_ at h1
        split at h1
        · assumption
        · cases h1
      conv => rhs; rw [h1]
      unfold from_
      refine if_pos ?_
      rw [if_pos h94, List.getElem?_append_left (by rw [List.length_take]; rw [h1] at hfl; omega), List.getElem?_take]
      simpa using h94
  have hen : (ended cls (t.take (from_ t) ++ ((t.drop (from_ t)).take (all cls (t.drop (from_ t))).2 ++ (93 :: r))) (from_ t + (all cls (t.drop (from_ t))).2)) = (from_ t + (all cls (t.drop (from_ t))).2 + 1, 0) := by
    unfold ended
    have : ((t.take (from_ t) ++ ((t.drop (from_ t)).take (all cls (t.drop (from_ t))).2 ++ (93 :: r))).drop (from_ t + (all cls (t.drop (from_ t))).2)).head? = some (UInt8.ofNat cls.last) := by
      rw [← List.drop_drop, hdr, drop_take_app _ _ _ _ (Nat.le_refl _) (by rw [List.length_drop]; omega), Nat.sub_self]
      rfl
    rw [if_pos this]
  have hR2 : Read (t.take (from_ t) ++ ((t.drop (from_ t)).take (all cls (t.drop (from_ t))).2 ++ (93 :: r))) := by
    refine read_of hhd ?_
    rw [hfr, hdr, ha, hen]
  have q1 := hR2.len
  have q2 := hR2.set
  rw [hfr, hdr, ha] at q1 q2
  exact Prod.ext (q2.trans hR.set.symm) (q1.trans hl.symm)
end Go.Proofs.YtjeogbdeagkomaaDoor.Qm

/- A text's words, by the document's words: what parts them, how one is read, how it is written. Of no program. -/
namespace Go.Proofs.YtjeogbdeagkomaaDoor.Lm
open Go.Proofs.Nm

structure Wd where
  kind : Nat
  text : List UInt8
  set : Nat → Bool
  low : Int
  high : Int

def nset (S : Nat → Bool) : Nat → Bool := fun n => decide (n < 256) && S n
def nul : Nat → Bool := fun _ => false
def bare (k : Nat) : Wd := ⟨k, [], nul, 0, 0⟩
def upto (c : UInt8) (l : List UInt8) : List UInt8 := l.takeWhile (fun b => !(b == c))
def counts (low high : Int) : Bool := decide (0 ≤ low) && (decide (low ≤ 99) && (decide (high = -1) || (decide (low ≤ high) && decide (high ≤ 99))))

/-- The text within braces: its numbers. -/
def first (wi : List UInt8) : List UInt8 := upto 44 wi
def second (wi : List UInt8) : List UInt8 := wi.drop ((upto 44 wi).length + 1)
def high (wi : List UInt8) : Int := if second wi = [] then (if (first wi).length < wi.length then -1 else numV (first wi) 99) else numV (second wi) 99
def cntOk (wi : List UInt8) : Prop := numE (first wi) 99 = 0 ∧ (second wi = [] ∨ numE (second wi) 99 = 0)
instance (wi : List UInt8) : Decidable (cntOk wi) := by unfold cntOk; infer_instance
/-- A count, behind its brace. -/
def cnt (r : List UInt8) : Option (Wd × Nat) :=
  if (upto 125 r).length < r.length ∧ cntOk (upto 125 r) ∧ counts (numV (first (upto 125 r)) 99) (high (upto 125 r)) = true
  then some (⟨14, [], nul, numV (first (upto 125 r)) 99, high (upto 125 r)⟩, (upto 125 r).length + 2) else none

/-- The signs of one byte. -/
def signK (b : Nat) : Nat :=
  if b = 47 then 3 else if b = 38 then 4 else if b = 33 then 5 else if b = 63 then 6 else if b = 42 then 7 else if b = 43 then 8
  else if b = 40 then 9 else if b = 41 then 10 else if b = 62 then 12 else if b = 58 then 13 else 0

/-- The word that a text begins by, and how long it is. -/
def rdw : List UInt8 → Option (Wd × Nat)
  | [] => none
  | c :: r =>
    if isLet c.toNat = true then (if taken (c :: r) ≤ 32 then some (⟨1, (c :: r).take (taken (c :: r)), nul, 0, 0⟩, taken (c :: r)) else none)
    else if c.toNat = 60 then (if r.head? = some 45 then some (bare 2, 2) else some (bare 11, 1))
    else if signK c.toNat ≠ 0 then some (bare (signK c.toNat), 1)
    else if c.toNat = 46 then some (⟨16, [], nset (fun _ => true), 0, 0⟩, 1)
    else if c.toNat = 91 then (if (Qm.uncls (c :: r)).2.2 = 0 then some (⟨16, [], nset (Qm.uncls (c :: r)).1, 0, 0⟩, (Qm.uncls (c :: r)).2.1) else none)
    else if c.toNat = 34 then (if (Qm.unlit (c :: r)).2.2 = 0 then some (⟨15, (Qm.unlit (c :: r)).1, nul, 0, 0⟩, (Qm.unlit (c :: r)).2.1) else none)
    else if c.toNat = 123 then cnt r
    else none

theorem rdw_cons (c : UInt8) (r : List UInt8) : rdw (c :: r) =
    if isLet c.toNat = true then (if taken (c :: r) ≤ 32 then some (⟨1, (c :: r).take (taken (c :: r)), nul, 0, 0⟩, taken (c :: r)) else none)
    else if c.toNat = 60 then (if r.head? = some 45 then some (bare 2, 2) else some (bare 11, 1))
    else if signK c.toNat ≠ 0 then some (bare (signK c.toNat), 1)
    else if c.toNat = 46 then some (⟨16, [], nset (fun _ => true), 0, 0⟩, 1)
    else if c.toNat = 91 then (if (Qm.uncls (c :: r)).2.2 = 0 then some (⟨16, [], nset (Qm.uncls (c :: r)).1, 0, 0⟩, (Qm.uncls (c :: r)).2.1) else none)
    else if c.toNat = 34 then (if (Qm.unlit (c :: r)).2.2 = 0 then some (⟨15, (Qm.unlit (c :: r)).1, nul, 0, 0⟩, (Qm.unlit (c :: r)).2.1) else none)
    else if c.toNat = 123 then cnt r
    else none := rfl

/-- What parts words: how many bytes; are we within a comment? -/
def pgS : Bool → List UInt8 → Nat
  | _, [] => 0
  | true, c :: r => if c.toNat = 10 then pgS false r + 1 else pgS true r + 1
  | false, c :: r => if c.toNat = 32 ∨ c.toNat = 9 ∨ c.toNat = 13 ∨ c.toNat = 10 then pgS false r + 1 else if c.toNat = 35 then pgS true r + 1 else 0
def pg (l : List UInt8) : Nat := pgS false l

theorem pgS_le : ∀ (l : List UInt8) (c : Bool), pgS c l ≤ l.length
  | [], c => by cases c <;> exact Nat.le_refl _
  | b :: r, true => by
    have h1 := pgS_le r true
    have h2 := pgS_le r false
    unfold pgS
    rw [List.length_cons]
    split <;> omega
  | b :: r, false => by
    have h1 := pgS_le r true
    have h2 := pgS_le r false
    unfold pgS
    rw [List.length_cons]
    split
    · omega
    · split <;> omega
theorem pgS_drop : ∀ (l : List UInt8) (c : Bool), pgS false (l.drop (pgS c l)) = 0
  | [], c => by cases c <;> rfl
  | b :: r, true => by
    have h1 := pgS_drop r true
    have h2 := pgS_drop r false
    by_cases h : b.toNat = 10
    · have e : pgS true (b :: r) = pgS false r + 1 := by rw [pgS, if_pos h]
      rw [e]
      exact h2
    · have e : pgS true (b :: r) = pgS true r + 1 := by rw [pgS, if_neg h]
      rw [e]
      exact h1
  | b :: r, false => by
    have h1 := pgS_drop r true
    have h2 := pgS_drop r false
    by_cases h : b.toNat = 32 ∨ b.toNat = 9 ∨ b.toNat = 13 ∨ b.toNat = 10
    · have e : pgS false (b :: r) = pgS false r + 1 := by rw [pgS, if_pos h]
      rw [e]
      exact h2
    · by_cases h' : b.toNat = 35
      · have e : pgS false (b :: r) = pgS true r + 1 := by rw [pgS, if_neg h, if_pos h']
        rw [e]
        exact h1
      · have e : pgS false (b :: r) = 0 := by rw [pgS, if_neg h, if_neg h']
        rw [e]
        exact e
theorem pgS_take : ∀ (l : List UInt8) (c : Bool) (m : Nat), pgS c (l.take m) = min m (pgS c l)
  | [], c, m => by cases c <;> simp [pgS]
  | b :: r, c, 0 => by cases c <;> simp [pgS]
  | b :: r, true, m + 1 => by
    have h1 := pgS_take r true m
    have h2 := pgS_take r false m
    rw [List.take_succ_cons]
    unfold pgS
    split <;> omega
  | b :: r, false, m + 1 => by
    have h1 := pgS_take r true m
    have h2 := pgS_take r false m
    rw [List.take_succ_cons]
    unfold pgS
    split
    · omega
    · split <;> omega

/-- Is the whole of it what parts words? Where does it end: within a comment? -/
def st : Bool → List UInt8 → Option Bool
  | c, [] => some c
  | true, c :: r => if c.toNat = 10 then st false r else st true r
  | false, c :: r => if c.toNat = 32 ∨ c.toNat = 9 ∨ c.toNat = 13 ∨ c.toNat = 10 then st false r else if c.toNat = 35 then st true r else none
theorem pgS_app : ∀ (g x : List UInt8) (c d : Bool), st c g = some d → pgS c (g ++ x) = g.length + pgS d x
  | [], x, c, d, h => by
    unfold st at h
    cases h
    simp
  | b :: r, x, true, d, h => by
    unfold st at h
    rw [List.cons_append, pgS, List.length_cons]
    by_cases h1 : b.toNat = 10
    · rw [if_pos h1] at h ⊢
      rw [pgS_app r x false d h]
      omega
    · rw [if_neg h1] at h ⊢
      rw [pgS_app r x true d h]
      omega
  | b :: r, x, false, d, h => by
    unfold st at h
    rw [List.cons_append, pgS, List.length_cons]
    by_cases h1 : b.toNat = 32 ∨ b.toNat = 9 ∨ b.toNat = 13 ∨ b.toNat = 10
    · rw [if_pos h1] at h ⊢
      rw [pgS_app r x false d h]
      omega
    · rw [if_neg h1] at h ⊢
      by_cases h2 : b.toNat = 35
      · rw [if_pos h2] at h ⊢
        rw [pgS_app r x true d h]
        omega
      · rw [if_neg h2] at h
        cases h

theorem pg_le (l : List UInt8) : pg l ≤ l.length := pgS_le l false
theorem pg_drop (l : List UInt8) : pg (l.drop (pg l)) = 0 := pgS_drop l false
theorem pg_part (l : List UInt8) : pg (l.take (pg l)) = pg l := by
  unfold pg
  rw [pgS_take, Nat.min_self]
theorem pg_head (l r : List UInt8) (h : pg l = 0) (h0 : l ≠ []) (n : Nat) (hn : 1 ≤ n) : pg (l.take n ++ r) = 0 := by
  cases l with
  | nil => exact absurd rfl h0
  | cons b m =>
    rw [Qm.take_cons b m n hn]
    unfold pg pgS at h ⊢
    rw [List.cons_append]
    simp only at h ⊢
    split at h
    · omega
    · split at h
      · omega
      · rename_i h1 h2
        rw [if_neg h1, if_neg h2]

/-! ### Reading one word -/

theorem upto_le (c : UInt8) (l : List UInt8) : (upto c l).length ≤ l.length := by
  unfold upto
  exact (List.takeWhile_sublist _).length_le
theorem upto_app (c : UInt8) : ∀ (l r : List UInt8), (∀ b ∈ l, b ≠ c) → upto c (l ++ c :: r) = l
  | [], r, h => by simp [upto]
  | b :: l, r, h => by
    have h1 := upto_app c l r (fun x hx => h x (List.mem_cons_of_mem _ hx))
    have h2 : b ≠ c := h b List.mem_cons_self
    unfold upto at h1 ⊢
    rw [List.cons_append, List.takeWhile_cons, h1]
    simp [h2]
theorem upto_all (c : UInt8) : ∀ (l : List UInt8), (∀ b ∈ l, b ≠ c) → upto c l = l
  | [], h => rfl
  | b :: l, h => by
    have h1 := upto_all c l (fun x hx => h x (List.mem_cons_of_mem _ hx))
    have h2 : b ≠ c := h b List.mem_cons_self
    unfold upto at h1 ⊢
    rw [List.takeWhile_cons, h1]
    simp [h2]
theorem upto_ne (c : UInt8) (l : List UInt8) : ∀ b ∈ upto c l, b ≠ c := by
  intro b hb
  have := List.all_eq_true.1 (List.all_takeWhile (l := l) (p := fun b => !(b == c))) b hb
  simpa using this
theorem upto_split (c : UInt8) : ∀ (l : List UInt8), (upto c l).length < l.length → l.take ((upto c l).length + 1) = upto c l ++ [c]
  | [], h => by simp at h
  | b :: l, h => by
    by_cases hb : b = c
    · subst hb
      simp [upto]
    · have e : upto c (b :: l) = b :: upto c l := by
        unfold upto
        rw [List.takeWhile_cons]
        simp [hb]
      rw [e] at h ⊢
      simp only [List.length_cons, List.take_succ_cons, List.cons_append] at h ⊢
      rw [upto_split c l (by omega)]

theorem cnt_local (t r : List UInt8) (w : Wd) (n : Nat) (h : cnt t = some (w, n)) : 2 ≤ n ∧ n ≤ t.length + 1 ∧ cnt (t.take (n - 1) ++ r) = some (w, n) := by
  unfold cnt at h
  split at h
  · rename_i hc
    cases h
    have hu := upto_split 125 t hc.1
    have e : t.take ((upto 125 t).length + 2 - 1) ++ r = upto 125 t ++ 125 :: r := by
      rw [show (upto 125 t).length + 2 - 1 = (upto 125 t).length + 1 by omega, hu, List.append_assoc]
      rfl
    refine ⟨by omega, by omega, ?_⟩
    rw [e]
    unfold cnt
    rw [upto_app 125 _ r (upto_ne 125 t), if_pos ⟨by rw [List.length_append, List.length_cons]; omega, hc.2⟩]
  · cases h

theorem run_app : ∀ (l r : List UInt8), (∀ b, r.head? = some b → isLet b.toNat = false ∧ isDig b.toNat = false) → Nm.run (l.take (Nm.run l) ++ r) = Nm.run l
  | [], r, h => by
    show Nm.run r = 0
    cases r with
    | nil => rfl
    | cons b m =>
      obtain ⟨h1, h2⟩ := h b rfl
      rw [run_cons, h1, h2]
      rfl
  | b :: l, r, h => by
    rw [run_cons]
    by_cases k : (isLet b.toNat || isDig b.toNat) = true
    · rw [if_pos k, List.take_succ_cons, List.cons_append, run_cons, if_pos k, run_app l r h]
    · rw [if_neg k]
      show Nm.run r = 0
      cases r with
      | nil => rfl
      | cons b m =>
        obtain ⟨h1, h2⟩ := h b rfl
        rw [run_cons, h1, h2]
        rfl
theorem taken_app (l r : List UInt8) (h0 : 0 < taken l) (h : ∀ b, r.head? = some b → isLet b.toNat = false ∧ isDig b.toNat = false) : taken (l.take (taken l) ++ r) = taken l := by
  cases l with
  | nil => exact absurd h0 (by simp [taken])
  | cons b l =>
    rw [taken_cons] at h0 ⊢
    by_cases k : isLet b.toNat = true
    · rw [if_pos k, List.take_succ_cons, List.cons_append, taken_cons, if_pos k, run_app l r h]
    · rw [if_neg k] at h0
      omega

/-- What may stand behind a word, whatever it is. -/
def Stop (r : List UInt8) : Prop := ∀ b, r.head? = some b → isLet b.toNat = false ∧ isDig b.toNat = false ∧ b ≠ 45

theorem taken_pos (c : UInt8) (r : List UInt8) (h : isLet c.toNat = true) : 0 < taken (c :: r) := by
  rw [taken_cons, if_pos h]
  omega

theorem rdw_cases (c : UInt8) (r : List UInt8) {w : Wd} {n : Nat} (h : rdw (c :: r) = some (w, n)) :
    (isLet c.toNat = true ∧ taken (c :: r) ≤ 32 ∧ w = ⟨1, (c :: r).take (taken (c :: r)), nul, 0, 0⟩ ∧ n = taken (c :: r)) ∨
    (isLet c.toNat = false ∧ c.toNat = 60 ∧ r.head? = some 45 ∧ w = bare 2 ∧ n = 2) ∨
    (isLet c.toNat = false ∧ c.toNat = 60 ∧ r.head? ≠ some 45 ∧ w = bare 11 ∧ n = 1) ∨
    (isLet c.toNat = false ∧ c.toNat ≠ 60 ∧ signK c.toNat ≠ 0 ∧ w = bare (signK c.toNat) ∧ n = 1) ∨
    (c = 46 ∧ w = ⟨16, [], nset (fun _ => true), 0, 0⟩ ∧ n = 1) ∨
    (c = 91 ∧ (Qm.uncls (c :: r)).2.2 = 0 ∧ w = ⟨16, [], nset (Qm.uncls (c :: r)).1, 0, 0⟩ ∧ n = (Qm.uncls (c :: r)).2.1) ∨
    (c = 34 ∧ (Qm.unlit (c :: r)).2.2 = 0 ∧ w = ⟨15, (Qm.unlit (c :: r)).1, nul, 0, 0⟩ ∧ n = (Qm.unlit (c :: r)).2.1) ∨
    (c = 123 ∧ cnt r = some (w, n)) := by
  have hc : ∀ k : Nat, k < 256 → c.toNat = k → c = UInt8.ofNat k := fun k hk h => by
    rw [← h]
    simp
  rw [rdw_cons] at h
  split at h
  · rename_i h1
    split at h
    · cases h
      exact .inl ⟨h1, by assumption, rfl, rfl⟩
    · cases h
  · rename_i h1
    have h1 : isLet c.toNat = false := by simpa using h1
    split at h
    · rename_i h2
      split at h
      · cases h
        exact .inr (.inl ⟨h1, h2, by assumption, rfl, rfl⟩)
      · cases h
        exact .inr (.inr (.inl ⟨h1, h2, by assumption, rfl, rfl⟩))
    · rename_i h2
      split at h
      · cases h
        exact .inr (.inr (.inr (.inl ⟨h1, h2, by assumption, rfl, rfl⟩)))
      · split at h
        · rename_i h3
          cases h
          exact .inr (.inr (.inr (.inr (.inl ⟨hc 46 (by omega) h3, rfl, rfl⟩))))
        · split at h
          · rename_i h3
            split at h
            · cases h
              exact .inr (.inr (.inr (.inr (.inr (.inl ⟨hc 91 (by omega) h3, by assumption, rfl, rfl⟩)))))
            · cases h
          · split at h
            · rename_i h3
              split at h
              · cases h
                exact .inr (.inr (.inr (.inr (.inr (.inr (.inl ⟨hc 34 (by omega) h3, by assumption, rfl, rfl⟩))))))
              · cases h
            · split at h
              · rename_i h3
                exact .inr (.inr (.inr (.inr (.inr (.inr (.inr ⟨hc 123 (by omega) h3, h⟩))))))
              · cases h

/-- A word is not empty, and within the text. -/
theorem rdw_len (t : List UInt8) (w : Wd) (n : Nat) (h : rdw t = some (w, n)) : 1 ≤ n ∧ n ≤ t.length := by
  cases t with
  | nil => cases h
  | cons c r =>
    have hl := taken_le (c :: r)
    rw [List.length_cons] at hl ⊢
    rcases rdw_cases c r h with ⟨h1, -, -, rfl⟩ | ⟨-, -, h2, -, rfl⟩ | ⟨-, -, -, -, rfl⟩ | ⟨-, -, -, -, rfl⟩ | ⟨-, -, rfl⟩ | ⟨-, h2, -, rfl⟩ | ⟨-, h2, -, rfl⟩ | ⟨-, h2⟩
    · exact ⟨taken_pos c r h1, hl⟩
    · cases r with
      | nil => simp at h2
      | cons => simp
    · omega
    · omega
    · omega
    · have := Qm.uncls_local (c :: r) [] h2
      rw [List.length_cons] at this
      exact ⟨this.1, this.2.1⟩
    · have := Qm.unlit_local (c :: r) [] h2
      rw [List.length_cons] at this
      exact ⟨this.1, this.2.1⟩
    · have := cnt_local r [] w n h2
      omega

theorem rdw_letter (c : UInt8) (r : List UInt8) (h : isLet c.toNat = true) : rdw (c :: r) = if taken (c :: r) ≤ 32 then some (⟨1, (c :: r).take (taken (c :: r)), nul, 0, 0⟩, taken (c :: r)) else none := by
  show (if isLet c.toNat = true then _ else _) = _
  rw [if_pos h]
theorem rdw_less (c : UInt8) (r : List UInt8) (h0 : isLet c.toNat = false) (h : c.toNat = 60) : rdw (c :: r) = if r.head? = some 45 then some (bare 2, 2) else some (bare 11, 1) := by
  show (if isLet c.toNat = true then _ else if c.toNat = 60 then _ else _) = _
  rw [if_neg (by rw [h0]; simp), if_pos h]
theorem rdw_sign (c : UInt8) (r : List UInt8) (h0 : isLet c.toNat = false) (h : c.toNat ≠ 60) (h1 : signK c.toNat ≠ 0) : rdw (c :: r) = some (bare (signK c.toNat), 1) := by
  show (if isLet c.toNat = true then _ else if c.toNat = 60 then _ else if signK c.toNat ≠ 0 then _ else _) = _
  rw [if_neg (by rw [h0]; simp), if_neg h, if_pos h1]
theorem rdw_dot (r : List UInt8) : rdw (46 :: r) = some (⟨16, [], nset (fun _ => true), 0, 0⟩, 1) := rfl
theorem rdw_class (r : List UInt8) : rdw (91 :: r) = if (Qm.uncls (91 :: r)).2.2 = 0 then some (⟨16, [], nset (Qm.uncls (91 :: r)).1, 0, 0⟩, (Qm.uncls (91 :: r)).2.1) else none := rfl
theorem rdw_literal (r : List UInt8) : rdw (34 :: r) = if (Qm.unlit (34 :: r)).2.2 = 0 then some (⟨15, (Qm.unlit (34 :: r)).1, nul, 0, 0⟩, (Qm.unlit (34 :: r)).2.1) else none := rfl
theorem rdw_count (r : List UInt8) : rdw (123 :: r) = cnt r := rfl

/-- A word is read from its own bytes, whatever stands behind: as it stood, or what may. -/
theorem rdw_local (t r : List UInt8) (w : Wd) (n : Nat) (h : rdw t = some (w, n)) (hr : r.head? = (t.drop n).head? ∨ Stop r) : rdw (t.take n ++ r) = some (w, n) := by
  cases t with
  | nil => cases h
  | cons c m =>
    rcases rdw_cases c m h with ⟨h1, h2, rfl, rfl⟩ | ⟨h0, h1, h2, rfl, rfl⟩ | ⟨h0, h1, h2, rfl, rfl⟩ | ⟨h0, h1, h2, rfl, rfl⟩ | ⟨rfl, rfl, rfl⟩ | ⟨rfl, h2, rfl, rfl⟩ | ⟨rfl, h2, rfl, rfl⟩ | ⟨rfl, h2⟩
    · have hp := taken_pos c m h1
      have hs : ∀ b, r.head? = some b → isLet b.toNat = false ∧ isDig b.toNat = false := by
        intro b hb
        rcases hr with hr | hr
        · rw [hr, List.head?_drop] at hb
          have := taken_stop (c :: m) b hb
          exact ⟨this.1, this.2 hp⟩
        · exact ⟨(hr b hb).1, (hr b hb).2.1⟩
      have ht := taken_app (c :: m) r hp hs
      have e : (c :: m).take (taken (c :: m)) ++ r = c :: (m.take (taken (c :: m) - 1) ++ r) := by
        rw [Qm.take_cons c m _ hp]
        rfl
      have hw : ((c :: m).take (taken (c :: m)) ++ r).take (taken (c :: m)) = (c :: m).take (taken (c :: m)) := by
        have := taken_le (c :: m)
        rw [List.take_append_of_le_length (by rw [List.length_take]; omega), List.take_take, Nat.min_self]
      rw [e] at ht hw ⊢
      rw [rdw_letter c _ h1, ht, if_pos h2, hw]
    · cases m with
      | nil => simp at h2
      | cons d m =>
        have e : (c :: d :: m).take 2 ++ r = c :: d :: r := rfl
        rw [e, rdw_less c _ h0 h1, if_pos (by simpa using h2)]
    · have e : (c :: m).take 1 ++ r = c :: r := rfl
      rw [e, rdw_less c _ h0 h1]
      refine if_neg fun h => ?_
      rcases hr with hr | hr
      · exact h2 (hr.symm.trans h)
      · exact (hr 45 h).2.2 rfl
    · have e : (c :: m).take 1 ++ r = c :: r := rfl
      rw [e, rdw_sign c _ h0 h1 h2]
    · have e : ((46 : UInt8) :: m).take 1 ++ r = 46 :: r := rfl
      rw [e, rdw_dot]
    · have := Qm.uncls_local (91 :: m) r h2
      obtain ⟨k1, -, k3⟩ := this
      have e : (91 :: m).take (Qm.uncls (91 :: m)).2.1 ++ r = 91 :: (m.take ((Qm.uncls (91 :: m)).2.1 - 1) ++ r) := by
        rw [Qm.take_cons _ m _ k1]
        rfl
      rw [e] at k3 ⊢
      rw [rdw_class, k3, if_pos h2]
    · have := Qm.unlit_local (34 :: m) r h2
      obtain ⟨k1, -, k3⟩ := this
      have e : (34 :: m).take (Qm.unlit (34 :: m)).2.1 ++ r = 34 :: (m.take ((Qm.unlit (34 :: m)).2.1 - 1) ++ r) := by
        rw [Qm.take_cons _ m _ k1]
        rfl
      rw [e] at k3 ⊢
      rw [rdw_literal, k3, if_pos h2]
    · have := cnt_local m r w n h2
      obtain ⟨k1, -, k3⟩ := this
      rw [Qm.take_cons _ m _ (by omega), List.cons_append, rdw_count, k3]
end Go.Proofs.YtjeogbdeagkomaaDoor.Lm

/- All words of a text, or the place of an error; what is written reads back. Of no program. -/
namespace Go.Proofs.YtjeogbdeagkomaaDoor.Lm
open Go.Proofs.Nm

/-- The words from here on, and where something is wrong. -/
def lx : Nat → List UInt8 → Nat → List (Wd × Nat × Nat) × Option Nat
  | 0, _, _ => ([], none)
  | f + 1, t, k =>
    if t.length ≤ pg t then ([], none)
    else match rdw (t.drop (pg t)) with
      | none => ([], some (k + pg t))
      | some (w, n) => ((w, k + pg t, k + pg t + n) :: (lx f (t.drop (pg t + n)) (k + pg t + n)).1, (lx f (t.drop (pg t + n)) (k + pg t + n)).2)

theorem lx_more : ∀ (f g : Nat) (t : List UInt8) (k : Nat), t.length < f → t.length < g → lx f t k = lx g t k
  | 0, _, _, _, h, _ => by omega
  | _ + 1, 0, _, _, _, h => by omega
  | f + 1, g + 1, t, k, h1, h2 => by
    unfold lx
    by_cases h : t.length ≤ pg t
    · rw [if_pos h, if_pos h]
    · rw [if_neg h, if_neg h]
      cases hr : rdw (t.drop (pg t)) with
      | none => rfl
      | some x =>
        obtain ⟨w, n⟩ := x
        have hl := rdw_len _ w n hr
        rw [List.length_drop] at hl
        simp only
        rw [lx_more f g (t.drop (pg t + n)) _ (by rw [List.length_drop]; omega) (by rw [List.length_drop]; omega)]

def lxA (t : List UInt8) (k : Nat) : List (Wd × Nat × Nat) × Option Nat := lx (t.length + 1) t k
theorem lxA_fin (t : List UInt8) (k : Nat) (h : t.length ≤ pg t) : lxA t k = ([], none) := by
  unfold lxA lx
  rw [if_pos h]
theorem lxA_bad (t : List UInt8) (k : Nat) (h : pg t < t.length) (hr : rdw (t.drop (pg t)) = none) : lxA t k = ([], some (k + pg t)) := by
  unfold lxA lx
  rw [if_neg (by omega), hr]
theorem lxA_word (t : List UInt8) (k : Nat) (w : Wd) (n : Nat) (hr : rdw (t.drop (pg t)) = some (w, n)) :
    lxA t k = ((w, k + pg t, k + pg t + n) :: (lxA (t.drop (pg t + n)) (k + pg t + n)).1, (lxA (t.drop (pg t + n)) (k + pg t + n)).2) := by
  have hl := rdw_len _ w n hr
  rw [List.length_drop] at hl
  unfold lxA
  rw [lx, if_neg (by omega), hr]
  simp only
  rw [lx_more t.length ((t.drop (pg t + n)).length + 1) _ _ (by rw [List.length_drop]; omega) (by omega)]

/-- What is read, is one of three. -/
theorem lxA_cases (t : List UInt8) (k : Nat) :
    (t.length ≤ pg t ∧ lxA t k = ([], none)) ∨
    (pg t < t.length ∧ rdw (t.drop (pg t)) = none ∧ lxA t k = ([], some (k + pg t))) ∨
    (pg t < t.length ∧ ∃ w n, rdw (t.drop (pg t)) = some (w, n) ∧ 1 ≤ n ∧ pg t + n ≤ t.length ∧ lxA t k = ((w, k + pg t, k + pg t + n) :: (lxA (t.drop (pg t + n)) (k + pg t + n)).1, (lxA (t.drop (pg t + n)) (k + pg t + n)).2)) := by
  by_cases h : t.length ≤ pg t
  · exact .inl ⟨h, lxA_fin t k h⟩
  · cases hr : rdw (t.drop (pg t)) with
    | none => exact .inr (.inl ⟨by omega, rfl, lxA_bad t k (by omega) hr⟩)
    | some x =>
      obtain ⟨w, n⟩ := x
      have hl := rdw_len _ w n hr
      rw [List.length_drop] at hl
      exact .inr (.inr ⟨by omega, w, n, rfl, hl.1, by omega, lxA_word t k w n hr⟩)

/-- The place of an error: within the text; there no word begins. -/
theorem lxA_place : ∀ (m : Nat) (t : List UInt8) (k a : Nat), t.length ≤ m → (lxA t k).2 = some a → k ≤ a ∧ a < k + t.length ∧ pg (t.drop (a - k)) = 0 ∧ rdw (t.drop (a - k)) = none
  | m, t, k, a, hm, h => by
    rcases lxA_cases t k with ⟨h1, e⟩ | ⟨h1, h2, e⟩ | ⟨h1, w, n, h2, h3, h4, e⟩
    · rw [e] at h
      cases h
    · rw [e] at h
      cases h
      rw [Nat.add_sub_cancel_left]
      exact ⟨by omega, by omega, pg_drop t, h2⟩
    · match m with
      | 0 => omega
      | m + 1 =>
        rw [e] at h
        have ih := lxA_place m (t.drop (pg t + n)) (k + pg t + n) a (by rw [List.length_drop]; omega) h
        rw [List.length_drop, List.drop_drop] at ih
        have e2 : pg t + n + (a - (k + pg t + n)) = a - k := by omega
        rw [e2] at ih
        exact ⟨by omega, by omega, ih.2.2⟩

/-- Ahead of an error's place nothing is wrong. -/
theorem lxA_ahead : ∀ (m : Nat) (t : List UInt8) (k j a : Nat), t.length ≤ m → (lxA t k).2 = some a → (lxA (t.take (a - k)) j).2 = none
  | m, t, k, j, a, hm, h => by
    have hp := lxA_place _ t k a (Nat.le_refl _) h
    rcases lxA_cases t k with ⟨h1, e⟩ | ⟨h1, h2, e⟩ | ⟨h1, w, n, h2, h3, h4, e⟩
    · rw [e] at h
      cases h
    · rw [e] at h
      cases h
      rw [Nat.add_sub_cancel_left, lxA_fin _ _ (by rw [pg_part, List.length_take]; omega)]
    · match m with
      | 0 => omega
      | m + 1 =>
        rw [e] at h
        have hq := lxA_place _ _ _ a (Nat.le_refl _) h
        have ih := lxA_ahead m (t.drop (pg t + n)) (k + pg t + n) (j + pg t + n) a (by rw [List.length_drop]; omega) h
        rw [List.length_drop] at hq
        have hpg : pg (t.take (a - k)) = pg t := by
          unfold pg
          rw [pgS_take]
          have : pgS false t = pg t := rfl
          omega
        have hd : (t.take (a - k)).drop (pg t) = (t.drop (pg t)).take n ++ ((t.drop (pg t + n)).take (a - (k + pg t + n))) := by
          rw [List.drop_take, show a - k - pg t = n + (a - (k + pg t + n)) by omega, List.take_add, List.drop_drop]
        have hw : rdw ((t.take (a - k)).drop (pg (t.take (a - k)))) = some (w, n) := by
          rw [hpg, hd]
          refine rdw_local _ _ w n h2 ?_
          rw [List.drop_drop]
          cases hz : a - (k + pg t + n) with
          | zero => exact .inr (fun b hb => by simp at hb)
          | succ z =>
            left
            cases t.drop (pg t + n) <;> rfl
        rw [lxA_word _ j w n hw, hpg]
        have e3 : (t.take (a - k)).drop (pg t + n) = (t.drop (pg t + n)).take (a - (k + pg t + n)) := by
          rw [List.drop_take, show a - k - (pg t + n) = a - (k + pg t + n) by omega]
        rw [e3]
        exact ih

/-- What parts words alone. -/
theorem lxA_part (t : List UInt8) (j : Nat) : lxA (t.take (pg t)) j = ([], none) :=
  lxA_fin _ _ (by rw [pg_part, List.length_take]; have := pg_le t; omega)

/-- A word alone. -/
theorem lxA_one (t : List UInt8) (w : Wd) (n j : Nat) (hr : rdw t = some (w, n)) (hp : pg t = 0) : lxA (t.take n) j = ([(w, j, j + n)], none) := by
  have hl := rdw_len t w n hr
  have h0 : t ≠ [] := by
    intro h
    rw [h] at hr
    cases hr
  have h1 := pg_head t [] hp h0 n hl.1
  rw [List.append_nil] at h1
  have h2 := rdw_local t [] w n hr (.inr (fun b hb => by simp at hb))
  rw [List.append_nil] at h2
  have h3 : (t.take n).drop (0 + n) = [] := by
    rw [Nat.zero_add]
    exact List.drop_eq_nil_of_le (by rw [List.length_take]; omega)
  have h4 : lxA ([] : List UInt8) (j + 0 + n) = ([], none) := lxA_fin _ _ (Nat.zero_le _)
  rw [lxA_word (t.take n) j w n (by rw [h1]; exact h2), h1, h3, h4, Nat.add_zero]

/-! ### What is written -/

def MayW (w : Wd) : Prop :=
  (∃ s : List UInt8, w = ⟨1, s, nul, 0, 0⟩ ∧ s ≠ [] ∧ s.length ≤ 32 ∧ taken s = s.length) ∨
  (∃ k, 2 ≤ k ∧ k ≤ 13 ∧ w = bare k) ∨
  (∃ lo hi, w = ⟨14, [], nul, lo, hi⟩ ∧ counts lo hi = true) ∨
  (∃ s : List UInt8, w = ⟨15, s, nul, 0, 0⟩ ∧ s.length ≤ 255) ∨
  (∃ S, w = ⟨16, [], nset S, 0, 0⟩)

/-- How a sign is written, by its kind. -/
def sgn (k : Nat) : List UInt8 :=
  if k = 2 then [60, 45] else if k = 3 then [47] else if k = 4 then [38] else if k = 5 then [33] else if k = 6 then [63] else if k = 7 then [42]
  else if k = 8 then [43] else if k = 9 then [40] else if k = 10 then [41] else if k = 11 then [60] else if k = 12 then [62] else if k = 13 then [58] else []
def brT (lo hi : Int) : List UInt8 := 123 :: (Go.Lib.itoa lo ++ (if hi = lo then [] else 44 :: (if hi = -1 then [] else Go.Lib.itoa hi)) ++ [125])
def showW (w : Wd) : List UInt8 :=
  if w.kind = 1 then w.text else if w.kind = 14 then brT w.low w.high else if w.kind = 15 then Qm.litT w.text else if w.kind = 16 then Qm.clsT w.set else sgn w.kind

/-- What reads, may be. -/
theorem rdw_may (t : List UInt8) (w : Wd) (n : Nat) (h : rdw t = some (w, n)) : MayW w := by
  cases t with
  | nil => cases h
  | cons c m =>
    have hk : ∀ b, b < 256 → signK b ≠ 0 → 2 ≤ signK b ∧ signK b ≤ 13 := by decide +kernel
    rcases rdw_cases c m h with ⟨h1, h2, rfl, rfl⟩ | ⟨h0, h1, h2, rfl, rfl⟩ | ⟨h0, h1, h2, rfl, rfl⟩ | ⟨h0, h1, h2, rfl, rfl⟩ | ⟨rfl, rfl, rfl⟩ | ⟨rfl, h2, rfl, rfl⟩ | ⟨rfl, h2, rfl, rfl⟩ | ⟨rfl, h2⟩
    · have hp := taken_pos c m h1
      have hl := taken_le (c :: m)
      have hlen : ((c :: m).take (taken (c :: m))).length = taken (c :: m) := by rw [List.length_take]; omega
      refine .inl ⟨_, rfl, ?_, by omega, by rw [taken_take, hlen]⟩
      intro h
      rw [h] at hlen
      simp at hlen
      omega
    · exact .inr (.inl ⟨2, by omega, by omega, rfl⟩)
    · exact .inr (.inl ⟨11, by omega, by omega, rfl⟩)
    · exact .inr (.inl ⟨_, (hk _ c.toNat_lt h2).1, (hk _ c.toNat_lt h2).2, rfl⟩)
    · exact .inr (.inr (.inr (.inr ⟨_, rfl⟩)))
    · exact .inr (.inr (.inr (.inr ⟨_, rfl⟩)))
    · exact .inr (.inr (.inr (.inl ⟨_, rfl, (Qm.unlit_short _ h2).2⟩)))
    · unfold cnt at h2
      split at h2
      · rename_i hc
        cases h2
        exact .inr (.inr (.inl ⟨_, _, rfl, hc.2.2⟩))
      · cases h2

theorem itoa_small : ∀ n : Nat, n < 100 → (numE (Go.Lib.itoa (n : Int)) 99 = 0 ∧ numV (Go.Lib.itoa (n : Int)) 99 = n ∧ Go.Lib.itoa (n : Int) ≠ []) ∧ ((Go.Lib.itoa (n : Int)).all fun b => !(b == 44) && !(b == 125)) = true := by decide +kernel

theorem itoa_ne (n : Nat) (hn : n < 100) : (∀ b ∈ Go.Lib.itoa (n : Int), b ≠ 44) ∧ (∀ b ∈ Go.Lib.itoa (n : Int), b ≠ 125) := by
  have h := List.all_eq_true.1 (itoa_small n hn).2
  refine ⟨fun b hb => ?_, fun b hb => ?_⟩
  · have := h b hb
    simp at this
    exact this.1
  · have := h b hb
    simp at this
    exact this.2

theorem cnt_of (wi r : List UInt8) (lo hi : Int) (h125 : ∀ b ∈ wi, b ≠ 125) (h1 : cntOk wi) (h2 : numV (first wi) 99 = lo) (h3 : high wi = hi) (h4 : counts lo hi = true) : cnt (wi ++ 125 :: r) = some (⟨14, [], nul, lo, hi⟩, wi.length + 2) := by
  unfold cnt
  rw [upto_app 125 wi r h125, h2, h3, if_pos ⟨by rw [List.length_append, List.length_cons]; omega, h1, h4⟩]

/-- A count reads back. -/
theorem cnt_back (lo hi : Int) (h : counts lo hi = true) (r : List UInt8) : rdw (brT lo hi ++ r) = some (⟨14, [], nul, lo, hi⟩, (brT lo hi).length) := by
  have hc := h
  simp only [counts, Bool.and_eq_true, Bool.or_eq_true, decide_eq_true_eq] at hc
  obtain ⟨a, rfl⟩ : ∃ a : Nat, lo = a := ⟨lo.toNat, by omega⟩
  have ha : a < 100 := by omega
  obtain ⟨⟨a1, a2, a3⟩, -⟩ := itoa_small a ha
  obtain ⟨a4, a5⟩ := itoa_ne a ha
  by_cases h1 : hi = (a : Int)
  · have e : brT a hi = 123 :: (Go.Lib.itoa (a : Int) ++ [125]) := by
      unfold brT
      rw [if_pos h1, List.append_nil]
    have hf : first (Go.Lib.itoa (a : Int)) = Go.Lib.itoa (a : Int) := upto_all 44 _ a4
    have hs : second (Go.Lib.itoa (a : Int)) = [] := by
      unfold second
      rw [upto_all 44 _ a4]
      exact List.drop_eq_nil_of_le (by omega)
    have hh : high (Go.Lib.itoa (a : Int)) = hi := by
      unfold high
      rw [if_pos hs, hf, if_neg (by omega), a2, h1]
    rw [e]
    have e2 : 123 :: (Go.Lib.itoa (a : Int) ++ [125]) ++ r = 123 :: (Go.Lib.itoa (a : Int) ++ 125 :: r) := by simp
    rw [e2, rdw_count, cnt_of _ r a hi a5 ⟨by rw [hf]; exact a1, .inl hs⟩ (by rw [hf]; exact a2) hh h]
    simp
  · by_cases h2 : hi = -1
    · have e : brT a hi = 123 :: ((Go.Lib.itoa (a : Int) ++ [44]) ++ [125]) := by
        unfold brT
        rw [if_neg h1, if_pos h2]
      have hf : first (Go.Lib.itoa (a : Int) ++ [44]) = Go.Lib.itoa (a : Int) := upto_app 44 _ [] a4
      have hs : second (Go.Lib.itoa (a : Int) ++ [44]) = [] := by
        unfold second
        rw [upto_app 44 _ [] a4]
        exact List.drop_eq_nil_of_le (by simp)
      have hh : high (Go.Lib.itoa (a : Int) ++ [44]) = hi := by
        unfold high
        rw [if_pos hs, hf, if_pos (by simp), h2]
      rw [e]
      have e2 : 123 :: ((Go.Lib.itoa (a : Int) ++ [44]) ++ [125]) ++ r = 123 :: ((Go.Lib.itoa (a : Int) ++ [44]) ++ 125 :: r) := by simp
      rw [e2, rdw_count, cnt_of _ r a hi (by
        intro b hb
        rcases List.mem_append.1 hb with hb | hb
        · exact a5 b hb
        · simp at hb; rw [hb]; decide) ⟨by rw [hf]; exact a1, .inl hs⟩ (by rw [hf]; exact a2) hh h]
      simp
    · obtain ⟨b, rfl⟩ : ∃ b : Nat, hi = b := ⟨hi.toNat, by omega⟩
      have hb : b < 100 := by omega
      obtain ⟨⟨b1, b2, b3⟩, -⟩ := itoa_small b hb
      obtain ⟨b4, b5⟩ := itoa_ne b hb
      have e : brT a b = 123 :: ((Go.Lib.itoa (a : Int) ++ 44 :: Go.Lib.itoa (b : Int)) ++ [125]) := by
        unfold brT
        rw [if_neg h1, if_neg h2]
      have hf : first (Go.Lib.itoa (a : Int) ++ 44 :: Go.Lib.itoa (b : Int)) = Go.Lib.itoa (a : Int) := upto_app 44 _ _ a4
      have hs : second (Go.Lib.itoa (a : Int) ++ 44 :: Go.Lib.itoa (b : Int)) = Go.Lib.itoa (b : Int) := by
        unfold second
        rw [upto_app 44 _ _ a4, List.drop_append]
        simp
      have hh : high (Go.Lib.itoa (a : Int) ++ 44 :: Go.Lib.itoa (b : Int)) = b := by
        unfold high
        rw [hs, if_neg b3, b2]
      rw [e]
      have e2 : 123 :: ((Go.Lib.itoa (a : Int) ++ 44 :: Go.Lib.itoa (b : Int)) ++ [125]) ++ r = 123 :: ((Go.Lib.itoa (a : Int) ++ 44 :: Go.Lib.itoa (b : Int)) ++ 125 :: r) := by simp
      rw [e2, rdw_count, cnt_of _ r a b (by
        intro x hx
        rcases List.mem_append.1 hx with hx | hx
        · exact a5 x hx
        · rcases List.mem_cons.1 hx with hx | hx
          · rw [hx]; decide
          · exact b5 x hx) ⟨by rw [hf]; exact a1, .inr (by rw [hs]; exact b1)⟩ (by rw [hf]; exact a2) hh h]
      simp
      omega

theorem nset_congr {S T : Nat → Bool} (h : ∀ n, n < 256 → S n = T n) : nset S = nset T := by
  funext n
  unfold nset
  by_cases hn : n < 256
  · rw [h n hn]
  · simp [hn]

/-- What is written reads back, if behind it stands what may. -/
theorem rdw_show (w : Wd) (hw : MayW w) (r : List UInt8) (hr : Stop r) : rdw (showW w ++ r) = some (w, (showW w).length) := by
  rcases hw with ⟨s, rfl, h0, h1, h2⟩ | ⟨k, h1, h2, rfl⟩ | ⟨lo, hi, rfl, h⟩ | ⟨s, rfl, h⟩ | ⟨S, rfl⟩
  · show rdw (s ++ r) = some (_, s.length)
    cases s with
    | nil => exact absurd rfl h0
    | cons c m =>
      have hc : isLet c.toNat = true := by
        cases hl : isLet c.toNat with
        | true => rfl
        | false =>
          rw [taken_cons, hl] at h2
          simp at h2
      have ht := taken_app (c :: m) r (taken_pos c m hc) (fun b hb => ⟨(hr b hb).1, (hr b hb).2.1⟩)
      rw [h2, List.take_length] at ht
      rw [List.cons_append] at ht ⊢
      rw [rdw_letter c _ hc, ht, if_pos h1, ← List.cons_append, List.take_left]
  · have hk : k = 2 ∨ k = 3 ∨ k = 4 ∨ k = 5 ∨ k = 6 ∨ k = 7 ∨ k = 8 ∨ k = 9 ∨ k = 10 ∨ k = 11 ∨ k = 12 ∨ k = 13 := by omega
    have hs : ∀ (c : UInt8) (k : Nat), isLet c.toNat = false → c.toNat ≠ 60 → signK c.toNat = k → k ≠ 0 → showW (bare k) = [c] → rdw (showW (bare k) ++ r) = some (bare k, (showW (bare k)).length) := by
      intro c k i1 i2 i3 i4 i5
      rw [i5, List.cons_append, rdw_sign c _ i1 i2 (by rw [i3]; exact i4), i3]
      rfl
    rcases hk with rfl | rfl | rfl | rfl | rfl | rfl | rfl | rfl | rfl | rfl | rfl | rfl
    · have e : showW (bare 2) = [60, 45] := rfl
      rw [e, List.cons_append, rdw_less 60 _ rfl rfl, if_pos (show ([45] ++ r : List UInt8).head? = some 45 from rfl)]
      rfl
    · exact hs 47 3 rfl (by decide) rfl (by decide) rfl
    · exact hs 38 4 rfl (by decide) rfl (by decide) rfl
    · exact hs 33 5 rfl (by decide) rfl (by decide) rfl
    · exact hs 63 6 rfl (by decide) rfl (by decide) rfl
    · exact hs 42 7 rfl (by decide) rfl (by decide) rfl
    · exact hs 43 8 rfl (by decide) rfl (by decide) rfl
    · exact hs 40 9 rfl (by decide) rfl (by decide) rfl
    · exact hs 41 10 rfl (by decide) rfl (by decide) rfl
    · have e : showW (bare 11) = [60] := rfl
      rw [e, List.cons_append, rdw_less 60 _ rfl rfl, if_neg]
      · rfl
      · intro h
        exact (hr 45 h).2.2 rfl
    · exact hs 62 12 rfl (by decide) rfl (by decide) rfl
    · exact hs 58 13 rfl (by decide) rfl (by decide) rfl
  · exact cnt_back lo hi h r
  · have e : showW ⟨15, s, nul, 0, 0⟩ = Qm.litT s := rfl
    have hb := Qm.unlit_back s r h
    rw [e]
    have e2 : Qm.litT s ++ r = 34 :: ((Qm.sigs s ++ [34]) ++ r) := by rw [Qm.litT_eq]; rfl
    rw [e2] at hb ⊢
    rw [rdw_literal, hb, if_pos rfl]
  · have e : showW ⟨16, [], nset S, 0, 0⟩ = Qm.clsT (nset S) := rfl
    rw [e]
    cases hA : Qm.isAll (nset S) with
    | true =>
      have e2 : Qm.clsT (nset S) = [46] := by
        unfold Qm.clsT
        rw [hA]
        rfl
      have e3 : nset (fun _ => true) = nset S := by
        refine nset_congr fun n hn => ?_
        have := List.all_eq_true.1 hA n (List.mem_range.2 hn)
        unfold nset at this
        simp [hn] at this
        exact this.symm
      rw [e2, List.cons_append, rdw_dot, e3]
      rfl
    | false =>
      have hb := Qm.uncls_back (nset S) hA r
      have e2 : Qm.clsT (nset S) ++ r = 91 :: ((Qm.runsT (Bset.runsOf (nset S)) ++ [93]) ++ r) := by rw [Qm.clsT_eq _ hA]; rfl
      rw [e2] at hb ⊢
      rw [rdw_class, hb.2, if_pos rfl]
      have e3 : nset (Qm.uncls (91 :: ((Qm.runsT (Bset.runsOf (nset S)) ++ [93]) ++ r))).1 = nset S := by
        refine nset_congr fun n hn => ?_
        rw [hb.1 n hn]
        unfold nset
        simp [hn]
      rw [e3]
end Go.Proofs.YtjeogbdeagkomaaDoor.Lm

/- Words that are put together, with what parts them between, read as they were. Of no program. -/
namespace Go.Proofs.YtjeogbdeagkomaaDoor.Lm
open Go.Proofs.Nm

/-- A gap, a word's text, the word. -/
abbrev Pc := List UInt8 × List UInt8 × Wd
def glue : List Pc → List UInt8 → List UInt8
  | [], e => e
  | (g, x, _) :: l, e => g ++ (x ++ glue l e)
def poss : Nat → List Pc → List (Wd × Nat × Nat)
  | _, [] => []
  | k, (g, x, w) :: l => (w, k + g.length, k + g.length + x.length) :: poss (k + g.length + x.length) l
def Glued : List Pc → List UInt8 → Prop
  | [], e => e.length ≤ pg e
  | (g, x, w) :: l, e => st false g = some false ∧ pg (x ++ glue l e) = 0 ∧ rdw (x ++ glue l e) = some (w, x.length) ∧ Glued l e

theorem lxA_glue : ∀ (l : List Pc) (e : List UInt8) (k : Nat), Glued l e → lxA (glue l e) k = (poss k l, none)
  | [], e, k, h => lxA_fin e k h
  | (g, x, w) :: l, e, k, h => by
    obtain ⟨h1, h2, h3, h4⟩ := h
    have hp : pg (glue ((g, x, w) :: l) e) = g.length := by
      have := pgS_app g (x ++ glue l e) false false h1
      show pgS false (g ++ (x ++ glue l e)) = _
      rw [this]
      show g.length + pg (x ++ glue l e) = _
      rw [h2, Nat.add_zero]
    have hd : (glue ((g, x, w) :: l) e).drop g.length = x ++ glue l e := List.drop_left
    have hd2 : (glue ((g, x, w) :: l) e).drop (g.length + x.length) = glue l e := by
      rw [← List.drop_drop, hd, List.drop_left]
    rw [lxA_word _ k w x.length (by rw [hp, hd]; exact h3), hp, hd2, lxA_glue l e _ h4]
    rfl

theorem poss_words : ∀ (l : List Pc) (k : Nat), (poss k l).map (·.1) = l.map (·.2.2)
  | [], _ => rfl
  | (g, x, w) :: l, k => by
    unfold poss
    rw [List.map_cons, poss_words l, List.map_cons]

/-- What parts words is no part of one. -/
theorem st_stop (g r : List UInt8) (h : st false g = some false) (h0 : g ≠ []) : Stop (g ++ r) := by
  cases g with
  | nil => exact absurd rfl h0
  | cons b m =>
    intro c hc
    have hc : b = c := by simpa using hc
    subst hc
    unfold st at h
    have hB : ∀ n : Nat, n < 256 → (n = 32 ∨ n = 9 ∨ n = 13 ∨ n = 10 ∨ n = 35) → isLet n = false ∧ isDig n = false ∧ n ≠ 45 := by decide +kernel
    have hb : b.toNat = 32 ∨ b.toNat = 9 ∨ b.toNat = 13 ∨ b.toNat = 10 ∨ b.toNat = 35 := by
      split at h
      · omega
      · split at h
        · omega
        · cases h
    have := hB _ b.toNat_lt hb
    exact ⟨this.1, this.2.1, fun e => this.2.2 (by rw [e]; rfl)⟩

def bits (T : List UInt8) : List (Wd × Nat × Nat) → List (List UInt8) → List Pc
  | (w, a, b) :: l, g :: gs => (g, (T.drop a).take (b - a), w) :: bits T l gs
  | _, _ => []
/-- May these be put between: at least something, where something was. -/
def GapsOk : Nat → List (Wd × Nat × Nat) → List (List UInt8) → Prop
  | _, [], [] => True
  | fr, (_, a, b) :: l, g :: gs => st false g = some false ∧ (g = [] → a = fr) ∧ GapsOk b l gs
  | _, _, _ => False

theorem bits_words (T : List UInt8) : ∀ (l : List (Wd × Nat × Nat)) (gs : List (List UInt8)) (fr : Nat), GapsOk fr l gs → (bits T l gs).map (·.2.2) = l.map (·.1)
  | [], [], _, _ => rfl
  | (w, a, b) :: l, g :: gs, fr, h => by
    unfold bits
    rw [List.map_cons, List.map_cons, bits_words T l gs b h.2.2]
  | [], _ :: _, _, h => h.elim
  | _ :: _, [], _, h => h.elim

/-- A text's words, with other gaps between, and an end that parts words. -/
theorem glued_of : ∀ (m : Nat) (T : List UInt8) (k fr : Nat) (gs : List (List UInt8)) (e : List UInt8), (T.drop k).length ≤ m → (lxA (T.drop k) k).2 = none → e.length ≤ pg e → Stop e →
    GapsOk fr (lxA (T.drop k) k).1 gs → Glued (bits T (lxA (T.drop k) k).1 gs) e ∧ (fr = k → (glue (bits T (lxA (T.drop k) k).1 gs) e).head? = (T.drop k).head? ∨ Stop (glue (bits T (lxA (T.drop k) k).1 gs) e))
  | m, T, k, fr, gs, e, hm, h, he, hs, hg => by
    rcases lxA_cases (T.drop k) k with ⟨h1, e1⟩ | ⟨h1, h2, e1⟩ | ⟨h1, w, n, h2, h3, h4, e1⟩
    · rw [e1] at hg ⊢
      cases gs with
      | nil => exact ⟨he, fun _ => .inr hs⟩
      | cons => exact hg.elim
    · rw [e1] at h
      cases h
    · match m with
      | 0 => omega
      | m + 1 =>
        rw [e1] at h hg ⊢
        rw [List.length_drop] at hm
        have e2 : (T.drop k).drop (pg (T.drop k) + n) = T.drop (k + pg (T.drop k) + n) := by rw [List.drop_drop, Nat.add_assoc]
        rw [e2] at h hg ⊢
        cases gs with
        | nil => exact hg.elim
        | cons g gs =>
          obtain ⟨g1, g2, g3⟩ := hg
          have ih := glued_of m T (k + pg (T.drop k) + n) _ gs e (by rw [List.length_drop] at h4 ⊢; omega) h he hs g3
          have e3 : (T.drop (k + pg (T.drop k))).take (k + pg (T.drop k) + n - (k + pg (T.drop k))) = ((T.drop k).drop (pg (T.drop k))).take n := by
            rw [List.drop_drop, Nat.add_sub_cancel_left]
          have hne : (T.drop k).drop (pg (T.drop k)) ≠ [] := by
            intro h0
            rw [h0] at h2
            cases h2
          have hlen : (((T.drop k).drop (pg (T.drop k))).take n).length = n := by
            rw [List.length_take, List.length_drop]
            omega
          have q2 : ((T.drop k).drop (pg (T.drop k))).drop n = T.drop (k + pg (T.drop k) + n) := by rw [List.drop_drop, List.drop_drop, Nat.add_assoc]
          have q1 := rdw_local _ (glue (bits T (lxA (T.drop (k + pg (T.drop k) + n)) (k + pg (T.drop k) + n)).1 gs) e) w n h2 (by rw [q2]; exact ih.2 rfl)
          refine ⟨⟨g1, ?_, ?_, ih.1⟩, ?_⟩
          · rw [e3]
            exact pg_head _ _ (pg_drop _) hne n h3
          · rw [e3, hlen]
            exact q1
          · intro hfr
            subst hfr
            by_cases h0 : g = []
            · left
              have hz : pg (T.drop fr) = 0 := by have := g2 h0; omega
              show (g ++ ((T.drop (fr + pg (T.drop fr))).take (fr + pg (T.drop fr) + n - (fr + pg (T.drop fr))) ++ _)).head? = _
              rw [h0, e3, hz, List.nil_append, List.drop_zero]
              rw [hz, List.drop_zero] at hne
              cases hT : T.drop fr with
              | nil => exact absurd hT hne
              | cons b l =>
                rw [Qm.take_cons b l n h3]
                rfl
            · right
              exact st_stop g _ g1 h0

/-! ### What is joined -/

def joinT : List Wd → List UInt8
  | [] => []
  | [w] => showW w
  | w :: l => showW w ++ 32 :: joinT l
/-- The pieces of what is joined. -/
def pcs : Bool → List Wd → List Pc
  | _, [] => []
  | true, w :: l => ([], showW w, w) :: pcs false l
  | false, w :: l => ([32], showW w, w) :: pcs false l

theorem pcs_glue : ∀ (l : List Wd), glue (pcs true l) [] = joinT l ∧ (l ≠ [] → glue (pcs false l) [] = 32 :: joinT l)
  | [] => ⟨rfl, fun h => absurd rfl h⟩
  | [w] => ⟨by simp [pcs, glue, joinT], fun _ => by simp [pcs, glue, joinT]⟩
  | w :: v :: l => by
    have ih := (pcs_glue (v :: l)).2 (by simp)
    have e : joinT (w :: v :: l) = showW w ++ 32 :: joinT (v :: l) := rfl
    refine ⟨?_, fun _ => ?_⟩
    · show [] ++ (showW w ++ glue (pcs false (v :: l)) []) = _
      rw [ih, e]
      rfl
    · show [32] ++ (showW w ++ glue (pcs false (v :: l)) []) = _
      rw [ih, e]
      rfl

theorem stop_nil : Stop [] := fun b h => by cases h
theorem stop_blank (r : List UInt8) : Stop (32 :: r) := by
  intro b h
  have : (32 : UInt8) = b := by simpa using h
  subst this
  decide

theorem show_ne (w : Wd) (h : MayW w) : 1 ≤ (showW w).length := by
  have := rdw_show w h [] stop_nil
  exact (rdw_len _ _ _ this).1

/-- No word begins by what parts words. -/
theorem rdw_head (t : List UInt8) (w : Wd) (n : Nat) (h : rdw t = some (w, n)) : pg t = 0 := by
  cases t with
  | nil => rfl
  | cons c m =>
    have hB : ∀ b : Nat, b < 256 → (b = 32 ∨ b = 9 ∨ b = 13 ∨ b = 10 ∨ b = 35) → isLet b = false ∧ b ≠ 60 ∧ signK b = 0 := by decide +kernel
    by_cases hc : c.toNat = 32 ∨ c.toNat = 9 ∨ c.toNat = 13 ∨ c.toNat = 10 ∨ c.toNat = 35
    · have hb := hB _ c.toNat_lt hc
      rcases rdw_cases c m h with ⟨h1, -⟩ | ⟨-, h1, -⟩ | ⟨-, h1, -⟩ | ⟨-, -, h1, -⟩ | ⟨rfl, -⟩ | ⟨rfl, -⟩ | ⟨rfl, -⟩ | ⟨rfl, -⟩
      · rw [hb.1] at h1
        cases h1
      · exact absurd h1 hb.2.1
      · exact absurd h1 hb.2.1
      · exact absurd hb.2.2 h1
      all_goals exact absurd hc (by decide)
    · unfold pg pgS
      rw [if_neg (by omega), if_neg (by omega)]

theorem pcs_glued : ∀ (l : List Wd) (c : Bool), (∀ w ∈ l, MayW w) → Glued (pcs c l) []
  | [], c, _ => by cases c <;> exact Nat.zero_le _
  | w :: l, c, h => by
    have ih := pcs_glued l false (fun v hv => h v (List.mem_cons_of_mem _ hv))
    have hs : Stop (glue (pcs false l) []) := by
      cases l with
      | nil => exact stop_nil
      | cons v l => exact stop_blank _
    have hr := rdw_show w (h w List.mem_cons_self) _ hs
    have hp := rdw_head _ _ _ hr
    cases c with
    | true => exact ⟨rfl, hp, hr, ih⟩
    | false => exact ⟨rfl, hp, hr, ih⟩

/-- The words of what was joined. -/
theorem join_back (l : List Wd) (h : ∀ w ∈ l, MayW w) : lxA (joinT l) 0 = (poss 0 (pcs true l), none) := by
  rw [← (pcs_glue l).1]
  exact lxA_glue _ _ 0 (pcs_glued l true h)
end Go.Proofs.YtjeogbdeagkomaaDoor.Lm

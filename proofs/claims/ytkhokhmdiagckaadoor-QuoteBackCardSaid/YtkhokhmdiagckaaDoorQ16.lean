/- QuoteBack's walk. -/
import Derived.Test.YtkhokhmdiagckaaDoorQ15
namespace Go.Proofs.YtkhokhmdiagckaaDoor
open Go.RowKit Go.Maps Go.Shelf Bset Qm

set_option maxRecDepth 100000 in
set_option maxHeartbeats 1000000 in
theorem back_long (a b : ByteArray) (S : Nat → Bool) (t : ByteArray) (ha : a.size ≤ 140737488351232) (hb : b.size ≤ 140737488351232) (ht : t.size ≤ 140737488351232) (h5 : 5000 < a.size + b.size + t.size)
    (w : World) (hT : TabIn w) (hg : 0 < w.heap.size) :
    Calls Tryd.prog 3 #[.string a, .string b, setV S, .string t] w fun e w' => e = .returned (.bool true) ∧ Below w.heap.size w w' := by
  have L0 := (Lies.start hT hg).alloc (.cells (setC S) 24)
  have e1 : IntKind.i64.wrap ((a.size : Int) + (b.size : Int)) = (a.size : Int) + (b.size : Int) := IntWalk.i64_in _ (by omega)
  have e2 : IntKind.i64.wrap ((a.size : Int) + (b.size : Int) + (t.size : Int)) = (a.size : Int) + (b.size : Int) + (t.size : Int) := IntWalk.i64_in _ (by omega)
  have h5i : (5000 : Int) < (a.size : Int) + (b.size : Int) + (t.size : Int) := by omega
  clear ha hb ht h5
  go_enter Tryd.func3, Tryd.ntmps3
  go_wp2_with fail
  refine (awake_any _ L0.tab L0.pos).mono ?_
  rintro e w1 ⟨rfl, hb1⟩
  go_wp2
  go_ret
  exact ⟨rfl, (L0.step hb1).low⟩

theorem len_data (a : ByteArray) : a.data.toList.length = a.size := Array.length_toList
theorem size_of (l : List UInt8) : (⟨l.toArray⟩ : ByteArray).size = l.length := List.size_toArray
theorem lit_size (a A : ByteArray) (hA : (⟨(litT a.data.toList).toArray⟩ : ByteArray) = A) : A.data.toList = litT a.data.toList ∧ a.size + 2 ≤ A.size ∧ A.size ≤ 4 * a.size + 2 := by
  subst hA
  have h1 := litT_len a.data.toList
  have h2 := sigs_len a.data.toList
  rw [len_data] at h2
  have h4 := size_of (litT a.data.toList)
  rw [h1] at h4
  exact ⟨rfl, by omega, by omega⟩
theorem data_append (x y : ByteArray) : (x ++ y).data.toList = x.data.toList ++ y.data.toList := by simp
theorem unlit_at (a A r : ByteArray) (ha : a.size ≤ 255) (hA : (⟨(litT a.data.toList).toArray⟩ : ByteArray) = A) : unlit (A ++ r).data.toList = (a.data.toList, A.size, 0) := by
  have h := lit_size a A hA
  have h3 := len_data A
  rw [data_append, h.1, unlit_back _ _ (by rw [len_data]; exact ha), ← h.1, h3]
theorem tail_of (A R : ByteArray) (n : Nat) (hn : n = A.size + R.size) : (A ++ R).extract A.size n = R := by
  subst hn
  apply ByteArray.ext
  apply Array.ext'
  rw [ByteArray.data_extract, Array.toList_extract, data_append, List.extract_eq_take_drop, ← len_data A, List.drop_left, List.take_of_length_le]
  rw [len_data]
  rw [len_data]
  omega

theorem cls_size (S : Nat → Bool) (hA : isAll S = false) (C : ByteArray) (hC : (⟨(clsT S).toArray⟩ : ByteArray) = C) : C.data.toList = clsT S ∧ C.size ≤ 2400 := by
  subst hC
  have h1 := size_of (clsT S)
  have h2 := runsT_bound (runsOf S) (fun x hx => (runs_good S).mem hx)
  have h3 := runs_len S
  rw [clsT_eq S hA, List.length_cons, List.length_append, List.length_singleton] at h1
  refine ⟨rfl, ?_⟩
  rw [← clsT_eq S hA] at h1
  omega
theorem uncls_at (S : Nat → Bool) (hA : isAll S = false) (C r : ByteArray) (hC : (⟨(clsT S).toArray⟩ : ByteArray) = C) : ∃ Z, uncls (C ++ r).data.toList = (Z, C.size, 0) ∧ setV Z = setV S := by
  have h := (cls_size S hA C hC).1
  have h3 := len_data C
  have h4 := uncls_back S hA r.data.toList
  rw [data_append, h]
  rw [← h, h3, h] at h4
  exact ⟨_, Prod.ext rfl h4.2, setV_congr h4.1⟩
theorem same_self (S : Nat → Bool) : sameS S S = true := sameS_iff.2 fun _ _ => rfl

set_option maxRecDepth 100000 in
set_option maxHeartbeats 4000000 in
theorem back_lits (a b : ByteArray) (S : Nat → Bool) (t : ByteArray) (h5 : a.size + b.size + t.size ≤ 5000) (ha : a.size ≤ 255) (hb : b.size ≤ 255)
    (w : World) (hT : TabIn w) (hg : 0 < w.heap.size) :
    Calls Tryd.prog 3 #[.string a, .string b, setV S, .string t] w fun e w' => e = .returned (.bool true) ∧ Below w.heap.size w w' := by
  have L0 := (Lies.start hT hg).alloc (.cells (setC S) 24)
  have k0 := Cl.new w 24 (setC S)
  have e1 : IntKind.i64.wrap ((a.size : Int) + (b.size : Int)) = (a.size : Int) + (b.size : Int) := IntWalk.i64_in _ (by omega)
  have e2 : IntKind.i64.wrap ((a.size : Int) + (b.size : Int) + (t.size : Int)) = (a.size : Int) + (b.size : Int) + (t.size : Int) := IntWalk.i64_in _ (by omega)
  have h5i : (a.size : Int) + (b.size : Int) + (t.size : Int) ≤ 5000 := by omega
  have hai : (a.size : Int) ≤ 255 := by omega
  have hbi : (b.size : Int) ≤ 255 := by omega
  go_enter Tryd.func3, Tryd.ntmps3
  go_wp2_with fail
  refine (awake_any _ L0.tab L0.pos).mono ?_
  rintro e w1 ⟨rfl, hb1⟩
  have L1 := L0.step hb1
  have k1 := k0.below hb1 k0.lt
  clear L0 k0 hb1
  go_wp2_with fail
  refine (literal_any a (by omega) _).mono ?_
  rintro e w2 ⟨rfl, hb2⟩
  have L2 := L1.step hb2
  have k2 := k1.below hb2 k1.lt
  clear L1 k1 hb2
  generalize hA : (⟨(litT a.data.toList).toArray⟩ : ByteArray) = A
  go_wp2_with fail
  refine (literal_any b (by omega) _).mono ?_
  rintro e w3 ⟨rfl, hb3⟩
  have L3 := L2.step hb3
  have k3 := k2.below hb3 k2.lt
  clear L2 k2 hb3
  generalize hB : (⟨(litT b.data.toList).toArray⟩ : ByteArray) = B
  have zA := (lit_size a A hA).2.2
  have zB := (lit_size b B hB).2.2
  have qA := (lit_size a A hA).2.1
  have z1 : ¬ 9223372036854775807 < A.size + B.size := by omega
  have z2 : ¬ 9223372036854775807 < A.size + B.size + t.size := by omega
  have sz : (A ++ B ++ t).size ≤ 1048576 := by simp; omega
  have u1 := unlit_at a A (B ++ t) ha hA
  rw [← ByteArray.append_assoc] at u1
  have U1 := Lib.hid u1
  have SZ := Lib.hid sz
  clear u1 sz
  go_wp2_with fail
  refine (unliteral_any _ SZ.out _).mono ?_
  rw [U1.out, litV, strOf]
  rintro e w4 ⟨rfl, hb4⟩
  have L4 := L3.step hb4
  have k4 := k3.below hb4 k3.lt
  clear L3 k3 hb4
  have t1 : (A ++ B ++ t).extract A.size (A.size + B.size + t.size) = B ++ t := by
    rw [ByteArray.append_assoc]
    exact tail_of A (B ++ t) _ (by simp; omega)
  have sz2 : (B ++ t).size ≤ 1048576 := by simp; omega
  have SZ2 := Lib.hid sz2
  have U2 := Lib.hid (unlit_at b B t hb hB)
  have T1 := Lib.hid t1
  clear t1 sz2
  go_wp2_with fail
  rw [T1.out]
  refine (unliteral_any _ SZ2.out _).mono ?_
  rw [U2.out, litV, strOf]
  rintro e w5 ⟨rfl, hb5⟩
  have L5 := L4.step hb5
  have k5 := k4.below hb5 k4.lt
  clear L4 k4 hb5 z1 z2 e1 e2 zA zB qA T1 U1 U2 SZ SZ2 hA hB
  have LX := L5
  have kX := k5
  clear L5 k5
  have he := fun w => run_eql_set w S (fun _ => true)
  rw [show sameS S (fun _ => true) = isAll S from rfl] at he
  have x0 := kX.word 0 (by decide)
  have x1 := kX.word 1 (by decide)
  have x2 := kX.word 2 (by decide)
  have x3 := kX.word 3 (by decide)
  cases hAll : isAll S with
  | true =>
      have hc : clsT S = [46] := by unfold clsT; rw [hAll]; rfl
      have HC := Lib.hid hc
      rw [hAll] at he
      clear hc hAll
      go_wp2_with fail
      refine (cls_to S [46] HC.out LX).mono ?_
      rintro e w7 ⟨rfl, hb7⟩
      have LY := LX.step hb7
      have kY := kX.below hb7 kX.lt
      clear LX kX x0 x1 x2 x3 hb7
      have y0 := kY.word 0 (by decide)
      have y1 := kY.word 1 (by decide)
      have y2 := kY.word 2 (by decide)
      have y3 := kY.word 3 (by decide)
      go_wp2_with fail
      go_region_with (go_at_call 10; refine (all_any _).mono ?_; rintro e w8 ⟨rfl, hb8⟩; have k8 := kY.drew.below hb8 kY.lt; have u0 := k8.word 0 (by decide); have u1 := k8.word 1 (by decide); have u2 := k8.word 2 (by decide); have u3 := k8.word 3 (by decide))
      all_goals
        have L8 := LY.drew.step hb8
        go_wp2
        go_ret
        exact ⟨rfl, L8.low⟩
  | false =>
      rw [hAll] at he
      have HA := Lib.hid hAll
      clear hAll
      go_wp2_with fail
      refine (class_any S _ LX.tab LX.pos).mono ?_
      rintro e w7 ⟨rfl, hb7⟩
      have LY := LX.step hb7
      have kY := kX.below hb7 kX.lt
      clear LX kX x0 x1 x2 x3 hb7
      generalize hC : (⟨(clsT S).toArray⟩ : ByteArray) = C
      have zC := (cls_size S HA.out C hC).2
      obtain ⟨Z, u, hZ⟩ := uncls_at S HA.out C t hC
      have U := Lib.hid u
      have HZ := Lib.hid hZ
      have sz : (C ++ t).size ≤ 1048576 := by simp; omega
      have SZ := Lib.hid sz
      have zz : ¬ 9223372036854775807 < C.size + t.size := by omega
      clear zC u hZ sz hC
      have y0 := kY.word 0 (by decide)
      have y1 := kY.word 1 (by decide)
      have y2 := kY.word 2 (by decide)
      have y3 := kY.word 3 (by decide)
      go_wp2_with fail
      go_region_with (go_at_call 10; refine (all_any _).mono ?_; rintro e w8 ⟨rfl, hb8⟩; have k8 := kY.drew.below hb8 kY.lt; have u0 := k8.word 0 (by decide); have u1 := k8.word 1 (by decide); have u2 := k8.word 2 (by decide); have u3 := k8.word 3 (by decide))
      all_goals
        have L8 := LY.drew.step hb8
        have hf := fun w => run_eql_set w S S
        simp only [same_self] at hf
        clear he y0 y1 y2 y3 u0 u1 u2 u3
        go_wp2_with fail
        refine (unclass_any _ SZ.out _).mono ?_
        rw [U.out]
        simp only [clsV]
        rw [HZ.out]
        rintro e w9 ⟨rfl, hb9⟩
        have L9 := L8.step hb9
        have k9 := (k8.below hb9 k8.lt).alloc (.cells (setC S) 24)
        have v0 := k9.word 0 (by decide)
        have v1 := k9.word 1 (by decide)
        have v2 := k9.word 2 (by decide)
        have v3 := k9.word 3 (by decide)
        go_wp2
        go_ret
        exact ⟨rfl, (L9.alloc _).low⟩

set_option maxRecDepth 100000 in
set_option maxHeartbeats 4000000 in
theorem back_second (a b : ByteArray) (S : Nat → Bool) (t : ByteArray) (h5 : a.size + b.size + t.size ≤ 5000) (ha : a.size ≤ 255) (hb : 255 < b.size)
    (w : World) (hT : TabIn w) (hg : 0 < w.heap.size) :
    Calls Tryd.prog 3 #[.string a, .string b, setV S, .string t] w fun e w' => e = .returned (.bool true) ∧ Below w.heap.size w w' := by
  have L0 := (Lies.start hT hg).alloc (.cells (setC S) 24)
  have k0 := Cl.new w 24 (setC S)
  have e1 : IntKind.i64.wrap ((a.size : Int) + (b.size : Int)) = (a.size : Int) + (b.size : Int) := IntWalk.i64_in _ (by omega)
  have e2 : IntKind.i64.wrap ((a.size : Int) + (b.size : Int) + (t.size : Int)) = (a.size : Int) + (b.size : Int) + (t.size : Int) := IntWalk.i64_in _ (by omega)
  have h5i : (a.size : Int) + (b.size : Int) + (t.size : Int) ≤ 5000 := by omega
  have hai : (a.size : Int) ≤ 255 := by omega
  have hbi : (255 : Int) < (b.size : Int) := by omega
  go_enter Tryd.func3, Tryd.ntmps3
  go_wp2_with fail
  refine (awake_any _ L0.tab L0.pos).mono ?_
  rintro e w1 ⟨rfl, hb1⟩
  have L1 := L0.step hb1
  have k1 := k0.below hb1 k0.lt
  clear L0 k0 hb1
  go_wp2_with fail
  refine (literal_any a (by omega) _).mono ?_
  rintro e w2 ⟨rfl, hb2⟩
  have L2 := L1.step hb2
  have k2 := k1.below hb2 k1.lt
  clear L1 k1 hb2
  generalize (⟨(litT a.data.toList).toArray⟩ : ByteArray) = A
  go_wp2_with fail
  refine (literal_any b (by omega) _).mono ?_
  rintro e w3 ⟨rfl, hb3⟩
  have L3 := L2.step hb3
  have k3 := k2.below hb3 k2.lt
  clear L2 k2 hb3
  generalize (⟨(litT b.data.toList).toArray⟩ : ByteArray) = B
  clear e1 e2
  have LX := L3
  have kX := k3
  clear L3 k3
  have he := fun w => run_eql_set w S (fun _ => true)
  rw [show sameS S (fun _ => true) = isAll S from rfl] at he
  have x0 := kX.word 0 (by decide)
  have x1 := kX.word 1 (by decide)
  have x2 := kX.word 2 (by decide)
  have x3 := kX.word 3 (by decide)
  cases hAll : isAll S with
  | true =>
      have hc : clsT S = [46] := by unfold clsT; rw [hAll]; rfl
      have HC := Lib.hid hc
      rw [hAll] at he
      clear hc hAll
      go_wp2_with fail
      refine (cls_to S [46] HC.out LX).mono ?_
      rintro e w7 ⟨rfl, hb7⟩
      have LY := LX.step hb7
      have kY := kX.below hb7 kX.lt
      clear LX kX x0 x1 x2 x3 hb7
      have y0 := kY.word 0 (by decide)
      have y1 := kY.word 1 (by decide)
      have y2 := kY.word 2 (by decide)
      have y3 := kY.word 3 (by decide)
      go_wp2_with fail
      go_region_with (go_at_call 10; refine (all_any _).mono ?_; rintro e w8 ⟨rfl, hb8⟩; have k8 := kY.drew.below hb8 kY.lt; have u0 := k8.word 0 (by decide); have u1 := k8.word 1 (by decide); have u2 := k8.word 2 (by decide); have u3 := k8.word 3 (by decide))
      all_goals
        have L8 := LY.drew.step hb8
        go_wp2
        go_ret
        exact ⟨rfl, L8.low⟩
  | false =>
      rw [hAll] at he
      have HA := Lib.hid hAll
      clear hAll
      go_wp2_with fail
      refine (class_any S _ LX.tab LX.pos).mono ?_
      rintro e w7 ⟨rfl, hb7⟩
      have LY := LX.step hb7
      have kY := kX.below hb7 kX.lt
      clear LX kX x0 x1 x2 x3 hb7
      generalize hC : (⟨(clsT S).toArray⟩ : ByteArray) = C
      have zC := (cls_size S HA.out C hC).2
      obtain ⟨Z, u, hZ⟩ := uncls_at S HA.out C t hC
      have U := Lib.hid u
      have HZ := Lib.hid hZ
      have sz : (C ++ t).size ≤ 1048576 := by simp; omega
      have SZ := Lib.hid sz
      have zz : ¬ 9223372036854775807 < C.size + t.size := by omega
      clear zC u hZ sz hC
      have y0 := kY.word 0 (by decide)
      have y1 := kY.word 1 (by decide)
      have y2 := kY.word 2 (by decide)
      have y3 := kY.word 3 (by decide)
      go_wp2_with fail
      go_region_with (go_at_call 10; refine (all_any _).mono ?_; rintro e w8 ⟨rfl, hb8⟩; have k8 := kY.drew.below hb8 kY.lt; have u0 := k8.word 0 (by decide); have u1 := k8.word 1 (by decide); have u2 := k8.word 2 (by decide); have u3 := k8.word 3 (by decide))
      all_goals
        have L8 := LY.drew.step hb8
        have hf := fun w => run_eql_set w S S
        simp only [same_self] at hf
        clear he y0 y1 y2 y3 u0 u1 u2 u3
        go_wp2_with fail
        refine (unclass_any _ SZ.out _).mono ?_
        rw [U.out]
        simp only [clsV]
        rw [HZ.out]
        rintro e w9 ⟨rfl, hb9⟩
        have L9 := L8.step hb9
        have k9 := (k8.below hb9 k8.lt).alloc (.cells (setC S) 24)
        have v0 := k9.word 0 (by decide)
        have v1 := k9.word 1 (by decide)
        have v2 := k9.word 2 (by decide)
        have v3 := k9.word 3 (by decide)
        go_wp2
        go_ret
        exact ⟨rfl, (L9.alloc _).low⟩

set_option maxRecDepth 100000 in
set_option maxHeartbeats 4000000 in
theorem back_first (a b : ByteArray) (S : Nat → Bool) (t : ByteArray) (h5 : a.size + b.size + t.size ≤ 5000) (ha : 255 < a.size)
    (w : World) (hT : TabIn w) (hg : 0 < w.heap.size) :
    Calls Tryd.prog 3 #[.string a, .string b, setV S, .string t] w fun e w' => e = .returned (.bool true) ∧ Below w.heap.size w w' := by
  have L0 := (Lies.start hT hg).alloc (.cells (setC S) 24)
  have k0 := Cl.new w 24 (setC S)
  have e1 : IntKind.i64.wrap ((a.size : Int) + (b.size : Int)) = (a.size : Int) + (b.size : Int) := IntWalk.i64_in _ (by omega)
  have e2 : IntKind.i64.wrap ((a.size : Int) + (b.size : Int) + (t.size : Int)) = (a.size : Int) + (b.size : Int) + (t.size : Int) := IntWalk.i64_in _ (by omega)
  have h5i : (a.size : Int) + (b.size : Int) + (t.size : Int) ≤ 5000 := by omega
  have hai : (255 : Int) < (a.size : Int) := by omega
  go_enter Tryd.func3, Tryd.ntmps3
  go_wp2_with fail
  refine (awake_any _ L0.tab L0.pos).mono ?_
  rintro e w1 ⟨rfl, hb1⟩
  have L1 := L0.step hb1
  have k1 := k0.below hb1 k0.lt
  clear L0 k0 hb1
  go_wp2_with fail
  refine (literal_any a (by omega) _).mono ?_
  rintro e w2 ⟨rfl, hb2⟩
  have L2 := L1.step hb2
  have k2 := k1.below hb2 k1.lt
  clear L1 k1 hb2
  generalize (⟨(litT a.data.toList).toArray⟩ : ByteArray) = A
  go_wp2_with fail
  refine (literal_any b (by omega) _).mono ?_
  rintro e w3 ⟨rfl, hb3⟩
  have L3 := L2.step hb3
  have k3 := k2.below hb3 k2.lt
  clear L2 k2 hb3
  generalize (⟨(litT b.data.toList).toArray⟩ : ByteArray) = B
  clear e1 e2
  have LX := L3
  have kX := k3
  clear L3 k3
  have he := fun w => run_eql_set w S (fun _ => true)
  rw [show sameS S (fun _ => true) = isAll S from rfl] at he
  have x0 := kX.word 0 (by decide)
  have x1 := kX.word 1 (by decide)
  have x2 := kX.word 2 (by decide)
  have x3 := kX.word 3 (by decide)
  cases hAll : isAll S with
  | true =>
      have hc : clsT S = [46] := by unfold clsT; rw [hAll]; rfl
      have HC := Lib.hid hc
      rw [hAll] at he
      clear hc hAll
      go_wp2_with fail
      refine (cls_to S [46] HC.out LX).mono ?_
      rintro e w7 ⟨rfl, hb7⟩
      have LY := LX.step hb7
      have kY := kX.below hb7 kX.lt
      clear LX kX x0 x1 x2 x3 hb7
      have y0 := kY.word 0 (by decide)
      have y1 := kY.word 1 (by decide)
      have y2 := kY.word 2 (by decide)
      have y3 := kY.word 3 (by decide)
      go_wp2_with fail
      go_region_with (go_at_call 10; refine (all_any _).mono ?_; rintro e w8 ⟨rfl, hb8⟩; have k8 := kY.drew.below hb8 kY.lt; have u0 := k8.word 0 (by decide); have u1 := k8.word 1 (by decide); have u2 := k8.word 2 (by decide); have u3 := k8.word 3 (by decide))
      all_goals
        have L8 := LY.drew.step hb8
        go_wp2
        go_ret
        exact ⟨rfl, L8.low⟩
  | false =>
      rw [hAll] at he
      have HA := Lib.hid hAll
      clear hAll
      go_wp2_with fail
      refine (class_any S _ LX.tab LX.pos).mono ?_
      rintro e w7 ⟨rfl, hb7⟩
      have LY := LX.step hb7
      have kY := kX.below hb7 kX.lt
      clear LX kX x0 x1 x2 x3 hb7
      generalize hC : (⟨(clsT S).toArray⟩ : ByteArray) = C
      have zC := (cls_size S HA.out C hC).2
      obtain ⟨Z, u, hZ⟩ := uncls_at S HA.out C t hC
      have U := Lib.hid u
      have HZ := Lib.hid hZ
      have sz : (C ++ t).size ≤ 1048576 := by simp; omega
      have SZ := Lib.hid sz
      have zz : ¬ 9223372036854775807 < C.size + t.size := by omega
      clear zC u hZ sz hC
      have y0 := kY.word 0 (by decide)
      have y1 := kY.word 1 (by decide)
      have y2 := kY.word 2 (by decide)
      have y3 := kY.word 3 (by decide)
      go_wp2_with fail
      go_region_with (go_at_call 10; refine (all_any _).mono ?_; rintro e w8 ⟨rfl, hb8⟩; have k8 := kY.drew.below hb8 kY.lt; have u0 := k8.word 0 (by decide); have u1 := k8.word 1 (by decide); have u2 := k8.word 2 (by decide); have u3 := k8.word 3 (by decide))
      all_goals
        have L8 := LY.drew.step hb8
        have hf := fun w => run_eql_set w S S
        simp only [same_self] at hf
        clear he y0 y1 y2 y3 u0 u1 u2 u3
        go_wp2_with fail
        refine (unclass_any _ SZ.out _).mono ?_
        rw [U.out]
        simp only [clsV]
        rw [HZ.out]
        rintro e w9 ⟨rfl, hb9⟩
        have L9 := L8.step hb9
        have k9 := (k8.below hb9 k8.lt).alloc (.cells (setC S) 24)
        have v0 := k9.word 0 (by decide)
        have v1 := k9.word 1 (by decide)
        have v2 := k9.word 2 (by decide)
        have v3 := k9.word 3 (by decide)
        go_wp2
        go_ret
        exact ⟨rfl, (L9.alloc _).low⟩

theorem back_any (a b : ByteArray) (S : Nat → Bool) (t : ByteArray) (ha : a.size ≤ 140737488351232) (hb : b.size ≤ 140737488351232) (ht : t.size ≤ 140737488351232)
    (w : World) (hT : TabIn w) (hg : 0 < w.heap.size) :
    Calls Tryd.prog 3 #[.string a, .string b, setV S, .string t] w fun e w' => e = .returned (.bool true) ∧ Below w.heap.size w w' := by
  by_cases h5 : a.size + b.size + t.size ≤ 5000
  · by_cases h1 : a.size ≤ 255
    · by_cases h2 : b.size ≤ 255
      · exact back_lits a b S t h5 h1 h2 w hT hg
      · exact back_second a b S t h5 h1 (by omega) w hT hg
    · exact back_first a b S t h5 (by omega) w hT hg
  · exact back_long a b S t ha hb ht (by omega) w hT hg
end Go.Proofs.YtkhokhmdiagckaaDoor

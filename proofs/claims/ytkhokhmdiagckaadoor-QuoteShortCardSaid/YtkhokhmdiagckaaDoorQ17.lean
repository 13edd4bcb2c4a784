/- QuoteShort's walk. -/
import Derived.Test.YtkhokhmdiagckaaDoorQ16
namespace Go.Proofs.YtkhokhmdiagckaaDoor
open Go.RowKit Go.Maps Go.Shelf Bset Qm

theorem idx_at (t : ByteArray) (k : Nat) (c : UInt8) (h : t.data.toList[k]? = some c) (x : Int) (hx : x = k) (W : World) : (Instr.index 9 (.string t) (.int .i64 x)).run Tryd.prog W = .ok (.int .u8 (c.toNat : Nat)) W := by
  subst hx
  have h0 : (0 : Int) ≤ (k : Int) := by omega
  have h1 : k < t.size := by
    have := (List.getElem?_eq_some_iff.1 h).1
    rwa [len_data] at this
  have e : c = t[k] := by
    have := (List.getElem?_eq_some_iff.1 h).2
    rw [← this]
    simp
    rfl
  rw [e]
  go_simp

theorem lit_read (t : ByteArray) : ∃ (s : ByteArray) (n e : Nat), litV (unlit t.data.toList) = .tuple #[.string s, .int .i64 n, .int .i64 e] ∧ (e = 0 → (litT s.data.toList).length ≤ n ∧ s.size ≤ 255) := by
  refine ⟨⟨(unlit t.data.toList).1.toArray⟩, (unlit t.data.toList).2.1, (unlit t.data.toList).2.2, rfl, fun h => ?_⟩
  have h1 := unlit_short _ h
  exact ⟨h1.1, by rw [size_of]; exact h1.2⟩

theorem cls_bad (t : ByteArray) (h : (uncls t.data.toList).2.2 ≠ 0) : ∃ m f : Nat, clsV (uncls t.data.toList) = .tuple #[.agg #[.int .u64 0, .int .u64 0, .int .u64 0, .int .u64 0], .int .i64 m, .int .i64 f] ∧ f ≠ 0 ∧ m ≤ t.size := by
  have h1 := uncls_bad _ h
  refine ⟨(uncls t.data.toList).2.1, (uncls t.data.toList).2.2, ?_, h, by rw [← len_data t]; exact h1.2⟩
  unfold clsV
  rw [h1.1, setV_none]

/-- What a class that is read gives. -/
structure ToldC (t : ByteArray) (Z : Nat → Bool) (m : Nat) (c : UInt8) : Prop where
  val : clsV (uncls t.data.toList) = .tuple #[setV Z, .int .i64 m, .int .i64 0]
  two : 2 ≤ m
  le : m ≤ t.size
  first : t.data.toList[0]? = some 91
  last : t.data.toList[m - 1]? = some 93
  second : t.data.toList[1]? = some c
  short : c ≠ 94 → (clsT Z).length ≤ m
  other : ∀ o : ByteArray, o.data.toList = Qm.other t.data.toList → ∃ (Y : Nat → Bool) (k : Nat), clsV (uncls o.data.toList) = .tuple #[setV Y, .int .i64 k, .int .i64 0] ∧ Y = (fun n => !Z n) ∧ k + t.size = m + o.size ∧ k ≤ o.size

theorem told_of (t : ByteArray) (h : (uncls t.data.toList).2.2 = 0) : ∃ Z m c, ToldC t Z m c := by
  have R := uncls_ok h
  have hb := R.bound
  have hlen := len_data t
  have h1 : 1 < t.data.toList.length := by omega
  refine ⟨(uncls t.data.toList).1, (uncls t.data.toList).2.1, t.data.toList[1], ?_, hb.1, by omega, ?_, hb.2.2, List.getElem?_eq_getElem h1, fun hc => R.short ?_, fun o ho => ?_⟩
  · unfold clsV
    rw [h]
    rfl
  · have := R.head
    rwa [List.head?_eq_getElem?] at this
  · rw [List.getElem?_eq_getElem h1]
    exact fun e => hc (Option.some.inj e)
  · have hO := R.other
    have hz : (uncls (Qm.other t.data.toList)).2.2 = 0 := by rw [hO.1.len]
    have hlo := len_data o
    have hbo := hO.1.bound
    refine ⟨(uncls o.data.toList).1, (uncls o.data.toList).2.1, ?_, by rw [ho]; exact hO.2.1, ?_, ?_⟩
    · unfold clsV
      rw [ho, hz]
      rfl
    · have h3 := hO.2.2
      rw [← ho] at h3
      omega
    · rw [ho] at hlo ⊢
      omega

theorem data_bytes (l : List UInt8) (x : ByteArray) : ((⟨l.toArray⟩ : ByteArray) ++ x).data.toList = l ++ x.data.toList := data_append _ _
theorem data_from (t : ByteArray) (k : Nat) : (t.extract k t.size).data.toList = t.data.toList.drop k := by
  rw [ByteArray.data_extract, Array.toList_extract, List.extract_eq_take_drop, List.take_of_length_le]
  rw [List.length_drop, len_data]
  omega

theorem pair_keep {w W W' : World} {p r : Nat} {X Y : Nat → Bool} (hb : Below W.heap.size W W') (h : W.cell? ⟨p, 0, none⟩ = some (.int .u64 (word X 0 : Nat)) ∧ W.cell? ⟨p, 1, none⟩ = some (.int .u64 (word X 1 : Nat)) ∧ W.cell? ⟨p, 2, none⟩ = some (.int .u64 (word X 2 : Nat)) ∧ W.cell? ⟨p, 3, none⟩ = some (.int .u64 (word X 3 : Nat)) ∧ W.cell? ⟨r, 0, none⟩ = some (.int .u64 (word Y 0 : Nat)) ∧ W.cell? ⟨r, 1, none⟩ = some (.int .u64 (word Y 1 : Nat)) ∧ W.cell? ⟨r, 2, none⟩ = some (.int .u64 (word Y 2 : Nat)) ∧ W.cell? ⟨r, 3, none⟩ = some (.int .u64 (word Y 3 : Nat)) ∧ Lies w W) : W'.cell? ⟨p, 0, none⟩ = some (.int .u64 (word X 0 : Nat)) ∧ W'.cell? ⟨p, 1, none⟩ = some (.int .u64 (word X 1 : Nat)) ∧ W'.cell? ⟨p, 2, none⟩ = some (.int .u64 (word X 2 : Nat)) ∧ W'.cell? ⟨p, 3, none⟩ = some (.int .u64 (word X 3 : Nat)) ∧ W'.cell? ⟨r, 0, none⟩ = some (.int .u64 (word Y 0 : Nat)) ∧ W'.cell? ⟨r, 1, none⟩ = some (.int .u64 (word Y 1 : Nat)) ∧ W'.cell? ⟨r, 2, none⟩ = some (.int .u64 (word Y 2 : Nat)) ∧ W'.cell? ⟨r, 3, none⟩ = some (.int .u64 (word Y 3 : Nat)) ∧ Lies w W' := by
  obtain ⟨a0, a1, a2, a3, b0, b1, b2, b3, hL⟩ := h
  have l0 := World.block_lt_of_cell? W _ a0
  have l1 := World.block_lt_of_cell? W _ b0
  exact ⟨below_to hb l0 a0, below_to hb l0 a1, below_to hb l0 a2, below_to hb l0 a3, below_to hb l1 b0, below_to hb l1 b1, below_to hb l1 b2, below_to hb l1 b3, hL.step hb⟩
theorem pair_drew {w W : World} {p r : Nat} {X Y : Nat → Bool} (h : W.cell? ⟨p, 0, none⟩ = some (.int .u64 (word X 0 : Nat)) ∧ W.cell? ⟨p, 1, none⟩ = some (.int .u64 (word X 1 : Nat)) ∧ W.cell? ⟨p, 2, none⟩ = some (.int .u64 (word X 2 : Nat)) ∧ W.cell? ⟨p, 3, none⟩ = some (.int .u64 (word X 3 : Nat)) ∧ W.cell? ⟨r, 0, none⟩ = some (.int .u64 (word Y 0 : Nat)) ∧ W.cell? ⟨r, 1, none⟩ = some (.int .u64 (word Y 1 : Nat)) ∧ W.cell? ⟨r, 2, none⟩ = some (.int .u64 (word Y 2 : Nat)) ∧ W.cell? ⟨r, 3, none⟩ = some (.int .u64 (word Y 3 : Nat)) ∧ Lies w W) : W.drew.cell? ⟨p, 0, none⟩ = some (.int .u64 (word X 0 : Nat)) ∧ W.drew.cell? ⟨p, 1, none⟩ = some (.int .u64 (word X 1 : Nat)) ∧ W.drew.cell? ⟨p, 2, none⟩ = some (.int .u64 (word X 2 : Nat)) ∧ W.drew.cell? ⟨p, 3, none⟩ = some (.int .u64 (word X 3 : Nat)) ∧ W.drew.cell? ⟨r, 0, none⟩ = some (.int .u64 (word Y 0 : Nat)) ∧ W.drew.cell? ⟨r, 1, none⟩ = some (.int .u64 (word Y 1 : Nat)) ∧ W.drew.cell? ⟨r, 2, none⟩ = some (.int .u64 (word Y 2 : Nat)) ∧ W.drew.cell? ⟨r, 3, none⟩ = some (.int .u64 (word Y 3 : Nat)) ∧ Lies w W.drew := by
  obtain ⟨a0, a1, a2, a3, b0, b1, b2, b3, hL⟩ := h
  exact ⟨a0, a1, a2, a3, b0, b1, b2, b3, hL.drew⟩
theorem pair_low {w W : World} {p r : Nat} {X Y : Nat → Bool} (h : W.cell? ⟨p, 0, none⟩ = some (.int .u64 (word X 0 : Nat)) ∧ W.cell? ⟨p, 1, none⟩ = some (.int .u64 (word X 1 : Nat)) ∧ W.cell? ⟨p, 2, none⟩ = some (.int .u64 (word X 2 : Nat)) ∧ W.cell? ⟨p, 3, none⟩ = some (.int .u64 (word X 3 : Nat)) ∧ W.cell? ⟨r, 0, none⟩ = some (.int .u64 (word Y 0 : Nat)) ∧ W.cell? ⟨r, 1, none⟩ = some (.int .u64 (word Y 1 : Nat)) ∧ W.cell? ⟨r, 2, none⟩ = some (.int .u64 (word Y 2 : Nat)) ∧ W.cell? ⟨r, 3, none⟩ = some (.int .u64 (word Y 3 : Nat)) ∧ Lies w W) : Below w.heap.size w W := h.2.2.2.2.2.2.2.2.low

set_option maxRecDepth 100000 in
set_option maxHeartbeats 1000000 in
theorem short_long (t : ByteArray) (ht : t.size ≤ 140737488351232) (h5 : 3000 < t.size)
    (w : World) (hT : TabIn w) (hg : 0 < w.heap.size) :
    Calls Tryd.prog 5 #[.string t] w fun e w' => e = .returned (.bool true) ∧ Below w.heap.size w w' := by
  have L0 := Lies.start hT hg
  have h5i : (3000 : Int) < (t.size : Int) := by omega
  clear ht h5
  go_enter Tryd.func5, Tryd.ntmps5
  go_wp2_with fail
  refine (awake_any _ L0.tab L0.pos).mono ?_
  rintro e w1 ⟨rfl, hb1⟩
  go_wp2
  go_ret
  exact ⟨rfl, (L0.step hb1).low⟩

set_option maxRecDepth 100000 in
set_option maxHeartbeats 4000000 in
theorem short_ok_bad (t : ByteArray) (h5 : t.size ≤ 3000) (s : ByteArray) (n : Nat) (hv : litV (unlit t.data.toList) = .tuple #[.string s, .int .i64 n, .int .i64 0]) (hs1 : (litT s.data.toList).length ≤ n) (hs2 : s.size ≤ 255) (m f : Nat) (hc : clsV (uncls t.data.toList) = .tuple #[.agg #[.int .u64 0, .int .u64 0, .int .u64 0, .int .u64 0], .int .i64 m, .int .i64 f]) (hf : f ≠ 0) (hm : m ≤ t.size)
    (w : World) (hT : TabIn w) (hg : 0 < w.heap.size) :
    Calls Tryd.prog 5 #[.string t] w fun e w' => e = .returned (.bool true) ∧ Below w.heap.size w w' := by
  have L0 := Lies.start hT hg
  have h5i : (t.size : Int) ≤ 3000 := by omega
  have hs2i : (s.size : Int) ≤ 255 := by omega
  have HS1 := Lib.hid hs1
  have HS2 : Hid (s.size ≤ 1048576) := Lib.hid (by omega)
  clear hs1
  have HV := Lib.hid hv
  have SZ : Hid (t.size ≤ 1048576) := Lib.hid (by omega)
  clear hv
  go_enter Tryd.func5, Tryd.ntmps5
  go_wp2_with fail
  refine (awake_any _ L0.tab L0.pos).mono ?_
  rintro e1 w1 ⟨rfl, hb1⟩
  have L1 := L0.step hb1
  clear L0 hb1
  go_wp2_with fail
  refine (unliteral_any _ SZ.out _).mono ?_
  rw [HV.out]
  rintro e1 w2 ⟨rfl, hb2⟩
  have L2 := L1.step hb2
  clear L1 hb2
  go_wp2_with fail
  refine (literal_any s HS2.out _).mono ?_
  generalize hA : (⟨(litT s.data.toList).toArray⟩ : ByteArray) = A
  have hAi : (A.size : Int) ≤ (n : Int) := by
    have h1 := HS1.out
    rw [← size_of, hA] at h1
    omega
  clear hA
  rintro e1 w3 ⟨rfl, hb3⟩
  have LX := L2.step hb3
  clear L2 hb3
  have hfi : ((f : Int) != 0) = true := by simp; omega
  have hmi : (m : Int) ≤ (t.size : Int) := by omega
  have hm0 : (0 : Int) ≤ (m : Int) := by omega
  have hz := fun w => run_eql_set w (fun _ => false) (fun _ => false)
  simp only [same_self, setV_none] at hz
  have HC := Lib.hid hc
  clear hc hf hm
  go_wp2_with fail
  refine (unclass_any _ SZ.out _).mono ?_
  rw [HC.out]
  rintro e1 w4 ⟨rfl, hb4⟩
  have L4 := LX.step hb4
  go_wp2
  go_ret
  exact ⟨rfl, (L4.alloc _).low⟩

set_option maxRecDepth 100000 in
set_option maxHeartbeats 4000000 in
theorem short_bad_bad (t : ByteArray) (h5 : t.size ≤ 3000) (s : ByteArray) (n e : Nat) (hv : litV (unlit t.data.toList) = .tuple #[.string s, .int .i64 n, .int .i64 e]) (hs : e ≠ 0) (m f : Nat) (hc : clsV (uncls t.data.toList) = .tuple #[.agg #[.int .u64 0, .int .u64 0, .int .u64 0, .int .u64 0], .int .i64 m, .int .i64 f]) (hf : f ≠ 0) (hm : m ≤ t.size)
    (w : World) (hT : TabIn w) (hg : 0 < w.heap.size) :
    Calls Tryd.prog 5 #[.string t] w fun e w' => e = .returned (.bool true) ∧ Below w.heap.size w w' := by
  have L0 := Lies.start hT hg
  have h5i : (t.size : Int) ≤ 3000 := by omega
  have hs0 : ((e : Int) == 0) = false := by simp; omega
  clear hs
  have HV := Lib.hid hv
  have SZ : Hid (t.size ≤ 1048576) := Lib.hid (by omega)
  clear hv
  go_enter Tryd.func5, Tryd.ntmps5
  go_wp2_with fail
  refine (awake_any _ L0.tab L0.pos).mono ?_
  rintro e1 w1 ⟨rfl, hb1⟩
  have L1 := L0.step hb1
  clear L0 hb1
  go_wp2_with fail
  refine (unliteral_any _ SZ.out _).mono ?_
  rw [HV.out]
  rintro e1 w2 ⟨rfl, hb2⟩
  have L2 := L1.step hb2
  clear L1 hb2
  have LX := L2
  clear L2
  have hfi : ((f : Int) != 0) = true := by simp; omega
  have hmi : (m : Int) ≤ (t.size : Int) := by omega
  have hm0 : (0 : Int) ≤ (m : Int) := by omega
  have hz := fun w => run_eql_set w (fun _ => false) (fun _ => false)
  simp only [same_self, setV_none] at hz
  have HC := Lib.hid hc
  clear hc hf hm
  go_wp2_with fail
  refine (unclass_any _ SZ.out _).mono ?_
  rw [HC.out]
  rintro e1 w4 ⟨rfl, hb4⟩
  have L4 := LX.step hb4
  go_wp2
  go_ret
  exact ⟨rfl, (L4.alloc _).low⟩

set_option maxRecDepth 100000 in
set_option maxHeartbeats 4000000 in
theorem short_ok_no (t : ByteArray) (h5 : t.size ≤ 3000) (s : ByteArray) (n : Nat) (hv : litV (unlit t.data.toList) = .tuple #[.string s, .int .i64 n, .int .i64 0]) (hs1 : (litT s.data.toList).length ≤ n) (hs2 : s.size ≤ 255) (Z : Nat → Bool) (m : Nat) (c : UInt8) (hc : c ≠ 94) (T : ToldC t Z m c)
    (w : World) (hT : TabIn w) (hg : 0 < w.heap.size) :
    Calls Tryd.prog 5 #[.string t] w fun e w' => e = .returned (.bool true) ∧ Below w.heap.size w w' := by
  have L0 := Lies.start hT hg
  have h5i : (t.size : Int) ≤ 3000 := by omega
  have hs2i : (s.size : Int) ≤ 255 := by omega
  have HS1 := Lib.hid hs1
  have HS2 : Hid (s.size ≤ 1048576) := Lib.hid (by omega)
  clear hs1
  have HV := Lib.hid hv
  have SZ : Hid (t.size ≤ 1048576) := Lib.hid (by omega)
  clear hv
  go_enter Tryd.func5, Tryd.ntmps5
  go_wp2_with fail
  refine (awake_any _ L0.tab L0.pos).mono ?_
  rintro e1 w1 ⟨rfl, hb1⟩
  have L1 := L0.step hb1
  clear L0 hb1
  go_wp2_with fail
  refine (unliteral_any _ SZ.out _).mono ?_
  rw [HV.out]
  rintro e1 w2 ⟨rfl, hb2⟩
  have L2 := L1.step hb2
  clear L1 hb2
  go_wp2_with fail
  refine (literal_any s HS2.out _).mono ?_
  generalize hA : (⟨(litT s.data.toList).toArray⟩ : ByteArray) = A
  have hAi : (A.size : Int) ≤ (n : Int) := by
    have h1 := HS1.out
    rw [← size_of, hA] at h1
    omega
  clear hA
  rintro e1 w3 ⟨rfl, hb3⟩
  have LX := L2.step hb3
  clear L2 hb3
  have hm2 : (2 : Int) ≤ (m : Int) := by have := T.two; omega
  have ht1 : (1 : Int) ≤ (t.size : Int) := by have := T.two; have := T.le; omega
  have ht2 : (2 : Int) ≤ (t.size : Int) := by have := T.two; have := T.le; omega
  obtain ⟨q, hq⟩ : ∃ q, q = m - 1 := ⟨_, rfl⟩
  have hw : IntKind.i64.wrap ((m : Int) - 1) = (q : Int) := by
    have := T.two
    have := T.le
    rw [IntWalk.i64_in _ (by omega)]
    omega
  have i0 := idx_at t 0 91 T.first 0 rfl
  have i1 := idx_at t 1 c T.second 1 rfl
  have iq := idx_at t q 93 (by rw [hq]; exact T.last) q rfl
  simp only [show ((91 : UInt8).toNat : Int) = 91 from rfl, show ((93 : UInt8).toNat : Int) = 93 from rfl] at i0 i1 iq
  have HT := Lib.hid T
  clear T hq
  have hci : (((c.toNat : Nat) : Int) != 94) = true := by
    have : c.toNat ≠ 94 := fun e => hc (UInt8.toNat_inj.1 e)
    simp
    omega
  have hcj : (((c.toNat : Nat) : Int) == 94) = false := by
    have : c.toNat ≠ 94 := fun e => hc (UInt8.toNat_inj.1 e)
    simp
    omega
  have HCC := Lib.hid hc
  clear hc
  go_wp2_with fail
  refine (unclass_any _ SZ.out _).mono ?_
  rw [HT.out.val]
  rintro e1 w4 ⟨rfl, hb4⟩
  have L4 := (LX.step hb4).alloc (.cells (setC Z) 24)
  have k4 := Cl.new w4 24 (setC Z)
  clear LX hb4
  have x0 := k4.word 0 (by decide)
  have x1 := k4.word 1 (by decide)
  have x2 := k4.word 2 (by decide)
  have x3 := k4.word 3 (by decide)
  go_wp2_with fail
  refine (class_any Z _ L4.tab L4.pos).mono ?_
  generalize hC : (⟨(clsT Z).toArray⟩ : ByteArray) = C
  have hCi : (C.size : Int) ≤ (m : Int) := by
    have h1 := HT.out.short HCC.out
    rw [← size_of, hC] at h1
    omega
  clear hC
  rintro e1 w5 ⟨rfl, hb5⟩
  have LY := L4.step hb5
  have kY := k4.below hb5 k4.lt
  clear L4 k4 hb5 x0 x1 x2 x3
  have ho : ((⟨#[91, 94]⟩ : ByteArray) ++ t.extract 1 t.size).data.toList = Qm.other t.data.toList := by
    rw [data_bytes [91, 94], data_from]
    unfold Qm.other
    rw [if_neg (by rw [HT.out.second]; exact fun e => HCC.out (Option.some.inj e))]
    rfl
  have hos : ((⟨#[91, 94]⟩ : ByteArray) ++ t.extract 1 t.size).size = t.size + 1 := by
    rw [← len_data, data_bytes [91, 94], data_from, List.length_append, List.length_drop, len_data]
    simp only [List.length_cons, List.length_nil]
    omega
  have HO := Lib.hid ho
  have HOS := Lib.hid hos
  clear ho hos
  go_wp2_with fail
  revert HO HOS
  generalize (⟨#[91, 94]⟩ : ByteArray) ++ t.extract 1 t.size = o
  intro HO HOS
  obtain ⟨Y, k, hval, hY, hk, hko⟩ := HT.out.other o HO.out
  subst hY
  have hso : o.size ≤ 1048576 := by have := HOS.out; omega
  obtain ⟨δ, hδ⟩ : ∃ δ : Int, δ = (k : Int) - (m : Int) := ⟨_, rfl⟩
  have hd1 : IntKind.i64.wrap ((k : Int) - (m : Int)) = δ := by
    have := HT.out.le
    rw [IntWalk.i64_in _ (by omega)]
    exact hδ.symm
  have hd2 : IntKind.i64.wrap ((o.size : Int) - (t.size : Int)) = δ := by
    have := HT.out.le
    rw [IntWalk.i64_in _ (by omega)]
    omega
  clear hδ
  have hf := fun w => run_eql_set w (fun n => !Z n) (fun n => !Z n)
  simp only [same_self] at hf
  refine (unclass_any o hso _).mono ?_
  rw [hval]
  rintro e1 w6 ⟨rfl, hb6⟩
  have L6 := (LY.step hb6).alloc (.cells (setC fun n => !Z n) 24)
  have k6 := (kY.below hb6 kY.lt).alloc (.cells (setC fun n => !Z n) 24)
  have j6 := Cl.new w6 24 (setC fun n => !Z n)
  skip
  clear hval hk hko hso hb6 LY kY
  go_wp2_with fail
  generalize w4.heap.size = p at k6 ⊢
  generalize w6.heap.size = r at j6 ⊢
  generalize w6.alloc _ = w7 at L6 k6 j6 ⊢
  have x0 := k6.word 0 (by decide)
  have x1 := k6.word 1 (by decide)
  have x2 := k6.word 2 (by decide)
  have x3 := k6.word 3 (by decide)
  have y0 := j6.word 0 (by decide)
  have y1 := j6.word 1 (by decide)
  have y2 := j6.word 2 (by decide)
  have y3 := j6.word 3 (by decide)
  have hS : w7.cell? ⟨p, 0, none⟩ = some (.int .u64 (word Z 0 : Nat)) ∧ w7.cell? ⟨p, 1, none⟩ = some (.int .u64 (word Z 1 : Nat)) ∧ w7.cell? ⟨p, 2, none⟩ = some (.int .u64 (word Z 2 : Nat)) ∧ w7.cell? ⟨p, 3, none⟩ = some (.int .u64 (word Z 3 : Nat)) ∧ w7.cell? ⟨r, 0, none⟩ = some (.int .u64 (word (fun n => !Z n) 0 : Nat)) ∧ w7.cell? ⟨r, 1, none⟩ = some (.int .u64 (word (fun n => !Z n) 1 : Nat)) ∧ w7.cell? ⟨r, 2, none⟩ = some (.int .u64 (word (fun n => !Z n) 2 : Nat)) ∧ w7.cell? ⟨r, 3, none⟩ = some (.int .u64 (word (fun n => !Z n) 3 : Nat)) ∧ Lies w w7 := ⟨x0, x1, x2, x3, y0, y1, y2, y3, L6⟩
  clear x0 x1 x2 x3 y0 y1 y2 y3 L6 k6 j6
  go_region_held3 (fun w' => w'.cell? ⟨p, 0, none⟩ = some (.int .u64 (word Z 0 : Nat)) ∧ w'.cell? ⟨p, 1, none⟩ = some (.int .u64 (word Z 1 : Nat)) ∧ w'.cell? ⟨p, 2, none⟩ = some (.int .u64 (word Z 2 : Nat)) ∧ w'.cell? ⟨p, 3, none⟩ = some (.int .u64 (word Z 3 : Nat)) ∧ w'.cell? ⟨r, 0, none⟩ = some (.int .u64 (word (fun n => !Z n) 0 : Nat)) ∧ w'.cell? ⟨r, 1, none⟩ = some (.int .u64 (word (fun n => !Z n) 1 : Nat)) ∧ w'.cell? ⟨r, 2, none⟩ = some (.int .u64 (word (fun n => !Z n) 2 : Nat)) ∧ w'.cell? ⟨r, 3, none⟩ = some (.int .u64 (word (fun n => !Z n) 3 : Nat)) ∧ Lies w w')
    (first | (with_reducible assumption) | exact pair_drew (by assumption) | exact pair_keep hb (by assumption))
    ((go_at_call 12; refine (not_any Z _).mono ?_; rintro e1 w' ⟨rfl, hb⟩))
  all_goals
    have hlow := (pair_low (by assumption) : Below w.heap.size w w')
    go_wp2
    go_ret
    first
      | exact ⟨rfl, hlow⟩
      | exact ⟨ret_bool (by rw [hd1]; exact beq_self_eq_true δ), hlow⟩
      | exact ⟨ret_bool (beq_self_eq_true δ), hlow⟩

set_option maxRecDepth 100000 in
set_option maxHeartbeats 4000000 in
theorem short_ok_hat (t : ByteArray) (h5 : t.size ≤ 3000) (s : ByteArray) (n : Nat) (hv : litV (unlit t.data.toList) = .tuple #[.string s, .int .i64 n, .int .i64 0]) (hs1 : (litT s.data.toList).length ≤ n) (hs2 : s.size ≤ 255) (Z : Nat → Bool) (m : Nat) (T : ToldC t Z m 94)
    (w : World) (hT : TabIn w) (hg : 0 < w.heap.size) :
    Calls Tryd.prog 5 #[.string t] w fun e w' => e = .returned (.bool true) ∧ Below w.heap.size w w' := by
  have L0 := Lies.start hT hg
  have h5i : (t.size : Int) ≤ 3000 := by omega
  have hs2i : (s.size : Int) ≤ 255 := by omega
  have HS1 := Lib.hid hs1
  have HS2 : Hid (s.size ≤ 1048576) := Lib.hid (by omega)
  clear hs1
  have HV := Lib.hid hv
  have SZ : Hid (t.size ≤ 1048576) := Lib.hid (by omega)
  clear hv
  go_enter Tryd.func5, Tryd.ntmps5
  go_wp2_with fail
  refine (awake_any _ L0.tab L0.pos).mono ?_
  rintro e1 w1 ⟨rfl, hb1⟩
  have L1 := L0.step hb1
  clear L0 hb1
  go_wp2_with fail
  refine (unliteral_any _ SZ.out _).mono ?_
  rw [HV.out]
  rintro e1 w2 ⟨rfl, hb2⟩
  have L2 := L1.step hb2
  clear L1 hb2
  go_wp2_with fail
  refine (literal_any s HS2.out _).mono ?_
  generalize hA : (⟨(litT s.data.toList).toArray⟩ : ByteArray) = A
  have hAi : (A.size : Int) ≤ (n : Int) := by
    have h1 := HS1.out
    rw [← size_of, hA] at h1
    omega
  clear hA
  rintro e1 w3 ⟨rfl, hb3⟩
  have LX := L2.step hb3
  clear L2 hb3
  have hm2 : (2 : Int) ≤ (m : Int) := by have := T.two; omega
  have ht1 : (1 : Int) ≤ (t.size : Int) := by have := T.two; have := T.le; omega
  have ht2 : (2 : Int) ≤ (t.size : Int) := by have := T.two; have := T.le; omega
  obtain ⟨q, hq⟩ : ∃ q, q = m - 1 := ⟨_, rfl⟩
  have hw : IntKind.i64.wrap ((m : Int) - 1) = (q : Int) := by
    have := T.two
    have := T.le
    rw [IntWalk.i64_in _ (by omega)]
    omega
  have i0 := idx_at t 0 91 T.first 0 rfl
  have i1 := idx_at t 1 94 T.second 1 rfl
  have iq := idx_at t q 93 (by rw [hq]; exact T.last) q rfl
  simp only [show ((91 : UInt8).toNat : Int) = 91 from rfl, show ((93 : UInt8).toNat : Int) = 93 from rfl, show ((94 : UInt8).toNat : Int) = 94 from rfl] at i0 i1 iq
  have HT := Lib.hid T
  clear T hq
  go_wp2_with fail
  refine (unclass_any _ SZ.out _).mono ?_
  rw [HT.out.val]
  rintro e1 w4 ⟨rfl, hb4⟩
  have L4 := (LX.step hb4).alloc (.cells (setC Z) 24)
  have k4 := Cl.new w4 24 (setC Z)
  clear LX hb4
  have x0 := k4.word 0 (by decide)
  have x1 := k4.word 1 (by decide)
  have x2 := k4.word 2 (by decide)
  have x3 := k4.word 3 (by decide)
  have LY := L4
  have kY := k4
  clear L4 k4
  have ho : ((⟨#[91]⟩ : ByteArray) ++ t.extract 2 t.size).data.toList = Qm.other t.data.toList := by
    rw [data_bytes [91], data_from]
    unfold Qm.other
    rw [if_pos HT.out.second]
    rfl
  have hos : ((⟨#[91]⟩ : ByteArray) ++ t.extract 2 t.size).size + 1 = t.size := by
    rw [← len_data, data_bytes [91], data_from, List.length_append, List.length_drop, len_data]
    simp only [List.length_cons, List.length_nil]
    omega
  have HO := Lib.hid ho
  have HOS := Lib.hid hos
  clear ho hos
  go_wp2_with fail
  revert HO HOS
  generalize (⟨#[91]⟩ : ByteArray) ++ t.extract 2 t.size = o
  intro HO HOS
  obtain ⟨Y, k, hval, hY, hk, hko⟩ := HT.out.other o HO.out
  subst hY
  have hso : o.size ≤ 1048576 := by have := HOS.out; omega
  obtain ⟨δ, hδ⟩ : ∃ δ : Int, δ = (k : Int) - (m : Int) := ⟨_, rfl⟩
  have hd1 : IntKind.i64.wrap ((k : Int) - (m : Int)) = δ := by
    have := HT.out.le
    rw [IntWalk.i64_in _ (by omega)]
    exact hδ.symm
  have hd2 : IntKind.i64.wrap ((o.size : Int) - (t.size : Int)) = δ := by
    have := HT.out.le
    rw [IntWalk.i64_in _ (by omega)]
    omega
  clear hδ
  have hf := fun w => run_eql_set w (fun n => !Z n) (fun n => !Z n)
  simp only [same_self] at hf
  refine (unclass_any o hso _).mono ?_
  rw [hval]
  rintro e1 w6 ⟨rfl, hb6⟩
  have L6 := (LY.step hb6).alloc (.cells (setC fun n => !Z n) 24)
  have k6 := (kY.below hb6 kY.lt).alloc (.cells (setC fun n => !Z n) 24)
  have j6 := Cl.new w6 24 (setC fun n => !Z n)
  clear x0 x1 x2 x3
  clear hval hk hko hso hb6 LY kY
  go_wp2_with fail
  generalize w4.heap.size = p at k6 ⊢
  generalize w6.heap.size = r at j6 ⊢
  generalize w6.alloc _ = w7 at L6 k6 j6 ⊢
  have x0 := k6.word 0 (by decide)
  have x1 := k6.word 1 (by decide)
  have x2 := k6.word 2 (by decide)
  have x3 := k6.word 3 (by decide)
  have y0 := j6.word 0 (by decide)
  have y1 := j6.word 1 (by decide)
  have y2 := j6.word 2 (by decide)
  have y3 := j6.word 3 (by decide)
  have hS : w7.cell? ⟨p, 0, none⟩ = some (.int .u64 (word Z 0 : Nat)) ∧ w7.cell? ⟨p, 1, none⟩ = some (.int .u64 (word Z 1 : Nat)) ∧ w7.cell? ⟨p, 2, none⟩ = some (.int .u64 (word Z 2 : Nat)) ∧ w7.cell? ⟨p, 3, none⟩ = some (.int .u64 (word Z 3 : Nat)) ∧ w7.cell? ⟨r, 0, none⟩ = some (.int .u64 (word (fun n => !Z n) 0 : Nat)) ∧ w7.cell? ⟨r, 1, none⟩ = some (.int .u64 (word (fun n => !Z n) 1 : Nat)) ∧ w7.cell? ⟨r, 2, none⟩ = some (.int .u64 (word (fun n => !Z n) 2 : Nat)) ∧ w7.cell? ⟨r, 3, none⟩ = some (.int .u64 (word (fun n => !Z n) 3 : Nat)) ∧ Lies w w7 := ⟨x0, x1, x2, x3, y0, y1, y2, y3, L6⟩
  clear x0 x1 x2 x3 y0 y1 y2 y3 L6 k6 j6
  go_region_held3 (fun w' => w'.cell? ⟨p, 0, none⟩ = some (.int .u64 (word Z 0 : Nat)) ∧ w'.cell? ⟨p, 1, none⟩ = some (.int .u64 (word Z 1 : Nat)) ∧ w'.cell? ⟨p, 2, none⟩ = some (.int .u64 (word Z 2 : Nat)) ∧ w'.cell? ⟨p, 3, none⟩ = some (.int .u64 (word Z 3 : Nat)) ∧ w'.cell? ⟨r, 0, none⟩ = some (.int .u64 (word (fun n => !Z n) 0 : Nat)) ∧ w'.cell? ⟨r, 1, none⟩ = some (.int .u64 (word (fun n => !Z n) 1 : Nat)) ∧ w'.cell? ⟨r, 2, none⟩ = some (.int .u64 (word (fun n => !Z n) 2 : Nat)) ∧ w'.cell? ⟨r, 3, none⟩ = some (.int .u64 (word (fun n => !Z n) 3 : Nat)) ∧ Lies w w')
    (first | (with_reducible assumption) | exact pair_drew (by assumption) | exact pair_keep hb (by assumption))
    ((go_at_call 12; refine (not_any Z _).mono ?_; rintro e1 w' ⟨rfl, hb⟩))
  all_goals
    have hlow := (pair_low (by assumption) : Below w.heap.size w w')
    go_wp2
    go_ret
    first
      | exact ⟨rfl, hlow⟩
      | exact ⟨ret_bool (by rw [hd1]; exact beq_self_eq_true δ), hlow⟩
      | exact ⟨ret_bool (beq_self_eq_true δ), hlow⟩

set_option maxRecDepth 100000 in
set_option maxHeartbeats 4000000 in
theorem short_bad_no (t : ByteArray) (h5 : t.size ≤ 3000) (s : ByteArray) (n e : Nat) (hv : litV (unlit t.data.toList) = .tuple #[.string s, .int .i64 n, .int .i64 e]) (hs : e ≠ 0) (Z : Nat → Bool) (m : Nat) (c : UInt8) (hc : c ≠ 94) (T : ToldC t Z m c)
    (w : World) (hT : TabIn w) (hg : 0 < w.heap.size) :
    Calls Tryd.prog 5 #[.string t] w fun e w' => e = .returned (.bool true) ∧ Below w.heap.size w w' := by
  have L0 := Lies.start hT hg
  have h5i : (t.size : Int) ≤ 3000 := by omega
  have hs0 : ((e : Int) == 0) = false := by simp; omega
  clear hs
  have HV := Lib.hid hv
  have SZ : Hid (t.size ≤ 1048576) := Lib.hid (by omega)
  clear hv
  go_enter Tryd.func5, Tryd.ntmps5
  go_wp2_with fail
  refine (awake_any _ L0.tab L0.pos).mono ?_
  rintro e1 w1 ⟨rfl, hb1⟩
  have L1 := L0.step hb1
  clear L0 hb1
  go_wp2_with fail
  refine (unliteral_any _ SZ.out _).mono ?_
  rw [HV.out]
  rintro e1 w2 ⟨rfl, hb2⟩
  have L2 := L1.step hb2
  clear L1 hb2
  have LX := L2
  clear L2
  have hm2 : (2 : Int) ≤ (m : Int) := by have := T.two; omega
  have ht1 : (1 : Int) ≤ (t.size : Int) := by have := T.two; have := T.le; omega
  have ht2 : (2 : Int) ≤ (t.size : Int) := by have := T.two; have := T.le; omega
  obtain ⟨q, hq⟩ : ∃ q, q = m - 1 := ⟨_, rfl⟩
  have hw : IntKind.i64.wrap ((m : Int) - 1) = (q : Int) := by
    have := T.two
    have := T.le
    rw [IntWalk.i64_in _ (by omega)]
    omega
  have i0 := idx_at t 0 91 T.first 0 rfl
  have i1 := idx_at t 1 c T.second 1 rfl
  have iq := idx_at t q 93 (by rw [hq]; exact T.last) q rfl
  simp only [show ((91 : UInt8).toNat : Int) = 91 from rfl, show ((93 : UInt8).toNat : Int) = 93 from rfl] at i0 i1 iq
  have HT := Lib.hid T
  clear T hq
  have hci : (((c.toNat : Nat) : Int) != 94) = true := by
    have : c.toNat ≠ 94 := fun e => hc (UInt8.toNat_inj.1 e)
    simp
    omega
  have hcj : (((c.toNat : Nat) : Int) == 94) = false := by
    have : c.toNat ≠ 94 := fun e => hc (UInt8.toNat_inj.1 e)
    simp
    omega
  have HCC := Lib.hid hc
  clear hc
  go_wp2_with fail
  refine (unclass_any _ SZ.out _).mono ?_
  rw [HT.out.val]
  rintro e1 w4 ⟨rfl, hb4⟩
  have L4 := (LX.step hb4).alloc (.cells (setC Z) 24)
  have k4 := Cl.new w4 24 (setC Z)
  clear LX hb4
  have x0 := k4.word 0 (by decide)
  have x1 := k4.word 1 (by decide)
  have x2 := k4.word 2 (by decide)
  have x3 := k4.word 3 (by decide)
  go_wp2_with fail
  refine (class_any Z _ L4.tab L4.pos).mono ?_
  generalize hC : (⟨(clsT Z).toArray⟩ : ByteArray) = C
  have hCi : (C.size : Int) ≤ (m : Int) := by
    have h1 := HT.out.short HCC.out
    rw [← size_of, hC] at h1
    omega
  clear hC
  rintro e1 w5 ⟨rfl, hb5⟩
  have LY := L4.step hb5
  have kY := k4.below hb5 k4.lt
  clear L4 k4 hb5 x0 x1 x2 x3
  have ho : ((⟨#[91, 94]⟩ : ByteArray) ++ t.extract 1 t.size).data.toList = Qm.other t.data.toList := by
    rw [data_bytes [91, 94], data_from]
    unfold Qm.other
    rw [if_neg (by rw [HT.out.second]; exact fun e => HCC.out (Option.some.inj e))]
    rfl
  have hos : ((⟨#[91, 94]⟩ : ByteArray) ++ t.extract 1 t.size).size = t.size + 1 := by
    rw [← len_data, data_bytes [91, 94], data_from, List.length_append, List.length_drop, len_data]
    simp only [List.length_cons, List.length_nil]
    omega
  have HO := Lib.hid ho
  have HOS := Lib.hid hos
  clear ho hos
  go_wp2_with fail
  revert HO HOS
  generalize (⟨#[91, 94]⟩ : ByteArray) ++ t.extract 1 t.size = o
  intro HO HOS
  obtain ⟨Y, k, hval, hY, hk, hko⟩ := HT.out.other o HO.out
  subst hY
  have hso : o.size ≤ 1048576 := by have := HOS.out; omega
  obtain ⟨δ, hδ⟩ : ∃ δ : Int, δ = (k : Int) - (m : Int) := ⟨_, rfl⟩
  have hd1 : IntKind.i64.wrap ((k : Int) - (m : Int)) = δ := by
    have := HT.out.le
    rw [IntWalk.i64_in _ (by omega)]
    exact hδ.symm
  have hd2 : IntKind.i64.wrap ((o.size : Int) - (t.size : Int)) = δ := by
    have := HT.out.le
    rw [IntWalk.i64_in _ (by omega)]
    omega
  clear hδ
  have hf := fun w => run_eql_set w (fun n => !Z n) (fun n => !Z n)
  simp only [same_self] at hf
  refine (unclass_any o hso _).mono ?_
  rw [hval]
  rintro e1 w6 ⟨rfl, hb6⟩
  have L6 := (LY.step hb6).alloc (.cells (setC fun n => !Z n) 24)
  have k6 := (kY.below hb6 kY.lt).alloc (.cells (setC fun n => !Z n) 24)
  have j6 := Cl.new w6 24 (setC fun n => !Z n)
  skip
  clear hval hk hko hso hb6 LY kY
  go_wp2_with fail
  generalize w4.heap.size = p at k6 ⊢
  generalize w6.heap.size = r at j6 ⊢
  generalize w6.alloc _ = w7 at L6 k6 j6 ⊢
  have x0 := k6.word 0 (by decide)
  have x1 := k6.word 1 (by decide)
  have x2 := k6.word 2 (by decide)
  have x3 := k6.word 3 (by decide)
  have y0 := j6.word 0 (by decide)
  have y1 := j6.word 1 (by decide)
  have y2 := j6.word 2 (by decide)
  have y3 := j6.word 3 (by decide)
  have hS : w7.cell? ⟨p, 0, none⟩ = some (.int .u64 (word Z 0 : Nat)) ∧ w7.cell? ⟨p, 1, none⟩ = some (.int .u64 (word Z 1 : Nat)) ∧ w7.cell? ⟨p, 2, none⟩ = some (.int .u64 (word Z 2 : Nat)) ∧ w7.cell? ⟨p, 3, none⟩ = some (.int .u64 (word Z 3 : Nat)) ∧ w7.cell? ⟨r, 0, none⟩ = some (.int .u64 (word (fun n => !Z n) 0 : Nat)) ∧ w7.cell? ⟨r, 1, none⟩ = some (.int .u64 (word (fun n => !Z n) 1 : Nat)) ∧ w7.cell? ⟨r, 2, none⟩ = some (.int .u64 (word (fun n => !Z n) 2 : Nat)) ∧ w7.cell? ⟨r, 3, none⟩ = some (.int .u64 (word (fun n => !Z n) 3 : Nat)) ∧ Lies w w7 := ⟨x0, x1, x2, x3, y0, y1, y2, y3, L6⟩
  clear x0 x1 x2 x3 y0 y1 y2 y3 L6 k6 j6
  go_region_held3 (fun w' => w'.cell? ⟨p, 0, none⟩ = some (.int .u64 (word Z 0 : Nat)) ∧ w'.cell? ⟨p, 1, none⟩ = some (.int .u64 (word Z 1 : Nat)) ∧ w'.cell? ⟨p, 2, none⟩ = some (.int .u64 (word Z 2 : Nat)) ∧ w'.cell? ⟨p, 3, none⟩ = some (.int .u64 (word Z 3 : Nat)) ∧ w'.cell? ⟨r, 0, none⟩ = some (.int .u64 (word (fun n => !Z n) 0 : Nat)) ∧ w'.cell? ⟨r, 1, none⟩ = some (.int .u64 (word (fun n => !Z n) 1 : Nat)) ∧ w'.cell? ⟨r, 2, none⟩ = some (.int .u64 (word (fun n => !Z n) 2 : Nat)) ∧ w'.cell? ⟨r, 3, none⟩ = some (.int .u64 (word (fun n => !Z n) 3 : Nat)) ∧ Lies w w')
    (first | (with_reducible assumption) | exact pair_drew (by assumption) | exact pair_keep hb (by assumption))
    ((go_at_call 12; refine (not_any Z _).mono ?_; rintro e1 w' ⟨rfl, hb⟩))
  all_goals
    have hlow := (pair_low (by assumption) : Below w.heap.size w w')
    go_wp2
    go_ret
    first
      | exact ⟨rfl, hlow⟩
      | exact ⟨ret_bool (by rw [hd1]; exact beq_self_eq_true δ), hlow⟩
      | exact ⟨ret_bool (beq_self_eq_true δ), hlow⟩

set_option maxRecDepth 100000 in
set_option maxHeartbeats 4000000 in
theorem short_bad_hat (t : ByteArray) (h5 : t.size ≤ 3000) (s : ByteArray) (n e : Nat) (hv : litV (unlit t.data.toList) = .tuple #[.string s, .int .i64 n, .int .i64 e]) (hs : e ≠ 0) (Z : Nat → Bool) (m : Nat) (T : ToldC t Z m 94)
    (w : World) (hT : TabIn w) (hg : 0 < w.heap.size) :
    Calls Tryd.prog 5 #[.string t] w fun e w' => e = .returned (.bool true) ∧ Below w.heap.size w w' := by
  have L0 := Lies.start hT hg
  have h5i : (t.size : Int) ≤ 3000 := by omega
  have hs0 : ((e : Int) == 0) = false := by simp; omega
  clear hs
  have HV := Lib.hid hv
  have SZ : Hid (t.size ≤ 1048576) := Lib.hid (by omega)
  clear hv
  go_enter Tryd.func5, Tryd.ntmps5
  go_wp2_with fail
  refine (awake_any _ L0.tab L0.pos).mono ?_
  rintro e1 w1 ⟨rfl, hb1⟩
  have L1 := L0.step hb1
  clear L0 hb1
  go_wp2_with fail
  refine (unliteral_any _ SZ.out _).mono ?_
  rw [HV.out]
  rintro e1 w2 ⟨rfl, hb2⟩
  have L2 := L1.step hb2
  clear L1 hb2
  have LX := L2
  clear L2
  have hm2 : (2 : Int) ≤ (m : Int) := by have := T.two; omega
  have ht1 : (1 : Int) ≤ (t.size : Int) := by have := T.two; have := T.le; omega
  have ht2 : (2 : Int) ≤ (t.size : Int) := by have := T.two; have := T.le; omega
  obtain ⟨q, hq⟩ : ∃ q, q = m - 1 := ⟨_, rfl⟩
  have hw : IntKind.i64.wrap ((m : Int) - 1) = (q : Int) := by
    have := T.two
    have := T.le
    rw [IntWalk.i64_in _ (by omega)]
    omega
  have i0 := idx_at t 0 91 T.first 0 rfl
  have i1 := idx_at t 1 94 T.second 1 rfl
  have iq := idx_at t q 93 (by rw [hq]; exact T.last) q rfl
  simp only [show ((91 : UInt8).toNat : Int) = 91 from rfl, show ((93 : UInt8).toNat : Int) = 93 from rfl, show ((94 : UInt8).toNat : Int) = 94 from rfl] at i0 i1 iq
  have HT := Lib.hid T
  clear T hq
  go_wp2_with fail
  refine (unclass_any _ SZ.out _).mono ?_
  rw [HT.out.val]
  rintro e1 w4 ⟨rfl, hb4⟩
  have L4 := (LX.step hb4).alloc (.cells (setC Z) 24)
  have k4 := Cl.new w4 24 (setC Z)
  clear LX hb4
  have x0 := k4.word 0 (by decide)
  have x1 := k4.word 1 (by decide)
  have x2 := k4.word 2 (by decide)
  have x3 := k4.word 3 (by decide)
  have LY := L4
  have kY := k4
  clear L4 k4
  have ho : ((⟨#[91]⟩ : ByteArray) ++ t.extract 2 t.size).data.toList = Qm.other t.data.toList := by
    rw [data_bytes [91], data_from]
    unfold Qm.other
    rw [if_pos HT.out.second]
    rfl
  have hos : ((⟨#[91]⟩ : ByteArray) ++ t.extract 2 t.size).size + 1 = t.size := by
    rw [← len_data, data_bytes [91], data_from, List.length_append, List.length_drop, len_data]
    simp only [List.length_cons, List.length_nil]
    omega
  have HO := Lib.hid ho
  have HOS := Lib.hid hos
  clear ho hos
  go_wp2_with fail
  revert HO HOS
  generalize (⟨#[91]⟩ : ByteArray) ++ t.extract 2 t.size = o
  intro HO HOS
  obtain ⟨Y, k, hval, hY, hk, hko⟩ := HT.out.other o HO.out
  subst hY
  have hso : o.size ≤ 1048576 := by have := HOS.out; omega
  obtain ⟨δ, hδ⟩ : ∃ δ : Int, δ = (k : Int) - (m : Int) := ⟨_, rfl⟩
  have hd1 : IntKind.i64.wrap ((k : Int) - (m : Int)) = δ := by
    have := HT.out.le
    rw [IntWalk.i64_in _ (by omega)]
    exact hδ.symm
  have hd2 : IntKind.i64.wrap ((o.size : Int) - (t.size : Int)) = δ := by
    have := HT.out.le
    rw [IntWalk.i64_in _ (by omega)]
    omega
  clear hδ
  have hf := fun w => run_eql_set w (fun n => !Z n) (fun n => !Z n)
  simp only [same_self] at hf
  refine (unclass_any o hso _).mono ?_
  rw [hval]
  rintro e1 w6 ⟨rfl, hb6⟩
  have L6 := (LY.step hb6).alloc (.cells (setC fun n => !Z n) 24)
  have k6 := (kY.below hb6 kY.lt).alloc (.cells (setC fun n => !Z n) 24)
  have j6 := Cl.new w6 24 (setC fun n => !Z n)
  clear x0 x1 x2 x3
  clear hval hk hko hso hb6 LY kY
  go_wp2_with fail
  generalize w4.heap.size = p at k6 ⊢
  generalize w6.heap.size = r at j6 ⊢
  generalize w6.alloc _ = w7 at L6 k6 j6 ⊢
  have x0 := k6.word 0 (by decide)
  have x1 := k6.word 1 (by decide)
  have x2 := k6.word 2 (by decide)
  have x3 := k6.word 3 (by decide)
  have y0 := j6.word 0 (by decide)
  have y1 := j6.word 1 (by decide)
  have y2 := j6.word 2 (by decide)
  have y3 := j6.word 3 (by decide)
  have hS : w7.cell? ⟨p, 0, none⟩ = some (.int .u64 (word Z 0 : Nat)) ∧ w7.cell? ⟨p, 1, none⟩ = some (.int .u64 (word Z 1 : Nat)) ∧ w7.cell? ⟨p, 2, none⟩ = some (.int .u64 (word Z 2 : Nat)) ∧ w7.cell? ⟨p, 3, none⟩ = some (.int .u64 (word Z 3 : Nat)) ∧ w7.cell? ⟨r, 0, none⟩ = some (.int .u64 (word (fun n => !Z n) 0 : Nat)) ∧ w7.cell? ⟨r, 1, none⟩ = some (.int .u64 (word (fun n => !Z n) 1 : Nat)) ∧ w7.cell? ⟨r, 2, none⟩ = some (.int .u64 (word (fun n => !Z n) 2 : Nat)) ∧ w7.cell? ⟨r, 3, none⟩ = some (.int .u64 (word (fun n => !Z n) 3 : Nat)) ∧ Lies w w7 := ⟨x0, x1, x2, x3, y0, y1, y2, y3, L6⟩
  clear x0 x1 x2 x3 y0 y1 y2 y3 L6 k6 j6
  go_region_held3 (fun w' => w'.cell? ⟨p, 0, none⟩ = some (.int .u64 (word Z 0 : Nat)) ∧ w'.cell? ⟨p, 1, none⟩ = some (.int .u64 (word Z 1 : Nat)) ∧ w'.cell? ⟨p, 2, none⟩ = some (.int .u64 (word Z 2 : Nat)) ∧ w'.cell? ⟨p, 3, none⟩ = some (.int .u64 (word Z 3 : Nat)) ∧ w'.cell? ⟨r, 0, none⟩ = some (.int .u64 (word (fun n => !Z n) 0 : Nat)) ∧ w'.cell? ⟨r, 1, none⟩ = some (.int .u64 (word (fun n => !Z n) 1 : Nat)) ∧ w'.cell? ⟨r, 2, none⟩ = some (.int .u64 (word (fun n => !Z n) 2 : Nat)) ∧ w'.cell? ⟨r, 3, none⟩ = some (.int .u64 (word (fun n => !Z n) 3 : Nat)) ∧ Lies w w')
    (first | (with_reducible assumption) | exact pair_drew (by assumption) | exact pair_keep hb (by assumption))
    ((go_at_call 12; refine (not_any Z _).mono ?_; rintro e1 w' ⟨rfl, hb⟩))
  all_goals
    have hlow := (pair_low (by assumption) : Below w.heap.size w w')
    go_wp2
    go_ret
    first
      | exact ⟨rfl, hlow⟩
      | exact ⟨ret_bool (by rw [hd1]; exact beq_self_eq_true δ), hlow⟩
      | exact ⟨ret_bool (beq_self_eq_true δ), hlow⟩

theorem short_any (t : ByteArray) (ht : t.size ≤ 140737488351232)
    (w : World) (hT : TabIn w) (hg : 0 < w.heap.size) :
    Calls Tryd.prog 5 #[.string t] w fun e w' => e = .returned (.bool true) ∧ Below w.heap.size w w' := by
  by_cases h5 : t.size ≤ 3000
  · obtain ⟨s, n, e, hv, hok⟩ := lit_read t
    by_cases he : e = 0
    · subst he
      obtain ⟨hs1, hs2⟩ := hok rfl
      by_cases hu : (uncls t.data.toList).2.2 = 0
      · obtain ⟨Z, m, c, T⟩ := told_of t hu
        by_cases hc : c = 94
        · subst hc
          exact short_ok_hat t h5 s n hv hs1 hs2 Z m T w hT hg
        · exact short_ok_no t h5 s n hv hs1 hs2 Z m c hc T w hT hg
      · obtain ⟨m, f, hv2, hf, hm⟩ := cls_bad t hu
        exact short_ok_bad t h5 s n hv hs1 hs2 m f hv2 hf hm w hT hg
    · by_cases hu : (uncls t.data.toList).2.2 = 0
      · obtain ⟨Z, m, c, T⟩ := told_of t hu
        by_cases hc : c = 94
        · subst hc
          exact short_bad_hat t h5 s n e hv he Z m T w hT hg
        · exact short_bad_no t h5 s n e hv he Z m c hc T w hT hg
      · obtain ⟨m, f, hv2, hf, hm⟩ := cls_bad t hu
        exact short_bad_bad t h5 s n e hv he m f hv2 hf hm w hT hg
  · exact short_long t ht (by omega) w hT hg
end Go.Proofs.YtkhokhmdiagckaaDoor

/- bonsailaw06: LexStand. -/
import Derived.Test.YtjeogbdeagkomaaDoorVL17
import Derived.Test.YtjeogbdeagkomaaDoorVMr
namespace Go.Proofs.YtjeogbdeagkomaaDoor
open Go.RowKit Nm Bset Lm

theorem extract_list (s : ByteArray) (a b : Nat) : (s.extract a b).data.toList = (s.data.toList.drop a).take (b - a) := by
  rw [ByteArray.data_extract, Array.toList_extract, List.extract_eq_take_drop]

theorem cell_ltl {w : World} {b o : Nat} {u : Value} (h : w.cell? ⟨b, o, none⟩ = some u) : b < w.heap.size := World.block_lt_of_cell? w _ h

/-- What the statement needs of the memory at its beginning. -/
structure LexEnv (w : World) : Prop where
  signs : SignsIn w
  maxl : MaxL w
theorem LexEnv.below {w w' : World} (h : LexEnv w) (hb : Below w.heap.size w w') : LexEnv w' :=
  ⟨signs_below h.signs hb (World.block_lt_of_cell? w _ (h.signs 2 (by omega))), h.maxl.below_ hb (Nat.le_refl _)⟩

theorem words_all2 (s : ByteArray) (hs : s.size ≤ 65536) (w : World) (hS : SignsIn w) (hM : MaxL w) (h : (lxA s.data.toList 0).2 = none) :
    Calls Tryd.prog 63 #[.string s] w fun e w' => ∃ p c l, e = .returned (.tuple #[.slice p l.length c, .int .i64 0, .int .i64 0]) ∧ WxL l (lxA s.data.toList 0).1 ∧ RowP w' p l ∧ (l.length ≤ c ∧ c ≤ maxLen) ∧ Below w.heap.size w w' := by
  refine (words_any s hs w hS hM).mono ?_
  rintro e w' ⟨hb, ⟨v, xs, rfl, _, hA, hr, hn⟩ | ⟨a, h2, _⟩⟩
  · by_cases h0 : xs = []
    · subst h0
      have := hn.2 rfl
      subst this
      exact ⟨none, 0, [], rfl, hA.wxl, .inl rfl, ⟨Nat.le_refl _, by decide⟩, hb⟩
    · obtain ⟨g, c, ev, hW⟩ := row_words0 hr h0
      rcases hr.2 with ⟨_, h1⟩ | ⟨g', c', cur, ev', _, _, hc, hm, _, _⟩
      · exact absurd (List.length_eq_zero_iff.1 h1) h0
      · have e := ev.symm.trans ev'
        injection e with e1 e2 e3
        subst e3
        subst ev
        exact ⟨_, c, xs.map (·.1), by rw [List.length_map], hA.wxl, .inr ⟨g, rfl, hW⟩, by rw [List.length_map]; exact ⟨hc, hm⟩, hb⟩
  · rw [h] at h2
    cases h2

theorem wxl_one {l : List Lw} {d : Wd} {a b : Nat} (h : WxL l [(d, a, b)]) : ∃ y, l = [y] ∧ Wx y d a b := by
  match l, h with
  | [y], h => exact ⟨y, rfl, h.1⟩
  | [], h => exact h.elim
  | _ :: _ :: _, h => exact h.2.elim
theorem words_one1 (s : ByteArray) (hs : s.size ≤ 65536) (w : World) (hS : SignsIn w) (hM : MaxL w) {d : Wd} {n : Nat} (h : lxA s.data.toList 0 = ([(d, 0, n)], none)) :
    Calls Tryd.prog 63 #[.string s] w fun e w' => ∃ g c y, e = .returned (.tuple #[.slice (some ⟨g, 0, none⟩) 1 c, .int .i64 0, .int .i64 0]) ∧ Wx y d (0 : Nat) n ∧ RowW w' g [y] ∧ Below w.heap.size w w' := by
  refine (words_row s hs w hS hM (by rw [h]) (by rw [h]; simp)).mono ?_
  rintro e w' ⟨g, c, l, rfl, hX, hR, hb⟩
  rw [h] at hX
  obtain ⟨y, rfl, hy⟩ := wxl_one hX
  exact ⟨g, c, y, rfl, hy, hR, hb⟩
theorem RowW.ats {W : World} {g : Nat} {l : List Lw} (h : RowW W g l) {i : Nat} (hi : i < l.length) {y : Lw} (ey : y = l[i]) {a b : Int} (ea : y.at_ = a) (eb : y.to_ = b) :
    W.cell? ⟨g, i * 10 + 1, none⟩ = some (.int .i64 a) ∧ W.cell? ⟨g, i * 10 + 2, none⟩ = some (.int .i64 b) := by
  have hT := h.all i hi
  rw [← ey] at hT
  obtain ⟨_, t1, t2, _⟩ := hT.ten
  rw [ea] at t1
  rw [eb] at t2
  exact ⟨t1, t2⟩
theorem same_one {y y0 : Lw} {d : Wd} {a b a' b' : Int} (hy : Wx y d a b) (h0 : Wx y0 d a' b') {W : World} {g1 g2 c1 c2 : Nat} {l : List Lw} (h1 : RowW W g1 [y]) (h2 : RowW W g2 l) {i : Nat} (hi : i < l.length) (ey : y0 = l[i]) :
    Calls Tryd.prog 64 #[.slice (some ⟨g1, 0, none⟩) 1 c1, .slice (some ⟨g2, i * 10, none⟩) 1 c2] W fun e w' => e = .returned (.bool true) ∧ Below W.heap.size W w' := by
  have k1 : WordsAt W (.slice (some ⟨g1, 0, none⟩) 1 c1) [y] := ⟨_, c1, rfl, .inr ⟨g1, 0, rfl, h1.lt, fun j hj => by rw [Nat.zero_add]; exact h1.all j hj⟩⟩
  have k2 : WordsAt W (.slice (some ⟨g2, i * 10, none⟩) 1 c2) [y0] := ⟨_, c2, rfl, .inr ⟨g2, i * 10, rfl, h2.lt, fun j hj => by
    obtain rfl : j = 0 := by simpa using hj
    have := h2.all i hi
    rw [← ey] at this
    simpa using this⟩⟩
  have hs : sameL [y] [y0] = true := by
    unfold sameL
    rw [hy.same h0]
    rfl
  refine (lsame_any _ _ [y] [y0] W k1 k2 (by simp)).mono ?_
  rintro e w' ⟨rfl, hb⟩
  exact ⟨by rw [hs], hb⟩

theorem meas19 {n i : Nat} (h : i < n) : n - (intOf (.int .i64 ((i : Int) + 1))).toNat < n - (intOf (.int .i64 (i : Int))).toNat := by
  simp only [intOf]
  omega

set_option maxRecDepth 100000 in
set_option maxHeartbeats 8000000 in
theorem lexStand_walk (s : ByteArray) (w : World) (hE : LexEnv w) :
    Calls Tryd.prog 7 #[.string s] w fun e w' => e = .returned (.bool true) ∧ Below w.heap.size w w' := by
  have hwk := fun W (hb : Below w.heap.size w W) => lworks_any W (hE.below hb).signs (hE.below hb).maxl
  have HWK := Lib.hid hwk
  clear hwk
  by_cases hsz : 6000 < s.size
  · have h1 : (6000 : Int) < (s.size : Int) := by omega
    have HE := Lib.hid hE
    clear hE
    go_enter Tryd.func7, Tryd.ntmps7
    go_wp2_with (go_at_call 58; first
      | ((with_reducible refine (HWK.out w (Below.refl _ _)).mono ?_); rintro e w1 ⟨rfl, hb1⟩)
      | ((with_reducible refine (HWK.out w1 hb1).mono ?_); rintro e w2 ⟨rfl, hb2⟩))
    go_ret
    exact ⟨rfl, hb1.trans (hb2.mono hb1.size)⟩
  · have h1 : (s.size : Int) ≤ 6000 := by omega
    cases hF : (lxA s.data.toList 0).2 with
    | some a =>
      have hl := size_list s
      obtain ⟨p1, p2, p3, p4⟩ := lxA_place _ s.data.toList 0 a (Nat.le_refl _) hF
      rw [Nat.sub_zero] at p3 p4
      have hA := lxA_ahead _ s.data.toList 0 0 a (Nat.le_refl _) hF
      rw [Nat.sub_zero] at hA
      have hbad : (lxA (s.data.toList.drop a) 0).2 = some 0 := by
        rw [lxA_bad (s.data.toList.drop a) 0 (by rw [List.length_drop]; omega) (by rw [p3]; exact p4), p3]
      have e1 : (s.extract 0 a).data.toList = s.data.toList.take a := by rw [extract_list]; simp
      have e2 : (s.extract a s.size).data.toList = s.data.toList.drop a := extract_drop s a
      have hw0 := fun W (hb : Below w.heap.size w W) => words_bad s (by omega) W (hE.below hb).signs (hE.below hb).maxl a hF
      have hw1 := fun W (hb : Below w.heap.size w W) => words_all (s.extract 0 a) (by rw [ByteArray.size_extract]; omega) W (hE.below hb).signs (hE.below hb).maxl (by rw [e1]; exact hA)
      have hw2 := fun W (hb : Below w.heap.size w W) => words_bad (s.extract a s.size) (by rw [ByteArray.size_extract]; omega) W (hE.below hb).signs (hE.below hb).maxl 0 (by rw [e2]; exact hbad)
      have HW0 := Lib.hid hw0
      have HW1 := Lib.hid hw1
      have HW2 := Lib.hid hw2
      have n0 : (0 : Int) ≤ (a : Int) := by omega
      have n1 : (a : Int) < (s.size : Int) := by omega
      clear hw0 hw1 hw2 e1 e2 hbad hA p1 p2 p3 p4 hF hE hl
      go_enter Tryd.func7, Tryd.ntmps7
      go_wp2_with (first
        | (go_at_call 58; (with_reducible refine (HWK.out w (Below.refl _ _)).mono ?_); rintro e w1 ⟨rfl, hb1⟩)
        | (go_at_call 63; (with_reducible refine (HW0.out w1 hb1).mono ?_); rintro e w2 ⟨rfl, q2⟩; have hb2 := hb1.trans (q2.mono hb1.size))
        | (go_at_call 63; (with_reducible refine (HW1.out w2 hb2).mono ?_); rintro e w3 ⟨p, c, l, rfl, _, _, _, q3⟩; have hb3 := hb2.trans (q3.mono hb2.size))
        | (go_at_call 63; (with_reducible refine (HW2.out w3 hb3).mono ?_); rintro e w4 ⟨rfl, q4⟩; have hb4 := hb3.trans (q4.mono hb3.size)))
      go_ret
      exact ⟨rfl, hb4⟩
    | none =>
      have hl := size_list s
      have hw0 := fun W (hb : Below w.heap.size w W) => words_all2 s (by omega) W (hE.below hb).signs (hE.below hb).maxl hF
      have HW0 := Lib.hid hw0
      have HWK0 := Lib.hid (Wk.start hF)
      have HE := Lib.hid hE
      have HL := Lib.hid hl
      clear hw0 hF hE hl
      go_enter Tryd.func7, Tryd.ntmps7
      go_wp2_with (first
        | (go_at_call 58; (with_reducible refine (HWK.out w (Below.refl _ _)).mono ?_); rintro e w1 ⟨rfl, hb1⟩)
        | (go_at_call 63; (with_reducible refine (HW0.out w1 hb1).mono ?_); rintro e w2 ⟨p, c, l, rfl, hX, hP, ⟨hc1, hc2⟩, q2⟩; have hb2 := hb1.trans (q2.mono hb1.size)))
      have HX := Lib.hid hX
      have HLN := Lib.hid hX.len
      have HC := Lib.hid hc1
      have HM := Lib.hid hc2
      clear hX hc1 hc2 q2
      go_loopw [12, 13] (fun v u wr => ∃ k i : Nat, v = .int .i64 k ∧ u = .int .i64 i ∧ i ≤ l.length ∧ Hid (Wk s.data.toList k i) ∧ RowP wr p l ∧ Below w.heap.size w wr) (fun _ u _ => l.length - (intOf u).toNat)
      case atStart => exact ⟨0, 0, rfl, rfl, Nat.zero_le _, HWK0, hP, hb2⟩
      case round =>
        clear hP hb2 hb1
        obtain ⟨k, i, rfl, rfl, hi, HW, hP, hB⟩ := hrel
        by_cases hlt : i < l.length
        · have hlt2 : i < (lxA s.data.toList 0).1.length := by rw [← HLN.out]; exact hlt
          obtain ⟨d, a, n, hx⟩ := HW.out.step hlt2
          have hg := hx.get
          rw [List.getElem?_eq_getElem hlt2] at hg
          have hxx := HX.out.at_ i hlt hlt2
          rw [Option.some.inj hg] at hxx
          obtain ⟨y0, ex⟩ : ∃ y0, y0 = l[i] := ⟨_, rfl⟩
          rw [← ex] at hxx
          rcases hP with h0 | ⟨g, rfl, hR⟩
          · rw [h0] at hlt
            simp at hlt
          · have hT := hR.all i hlt
            rw [← ex] at hT
            obtain ⟨b, eb⟩ : ∃ b, b = a + n := ⟨_, rfl⟩
            have ec : ((a + n : Nat) : Int) = (b : Int) := by rw [eb]
            simp only at hxx
            rw [ec] at hxx
            obtain ⟨m1, m2, m3⟩ := may_of hxx (rdw_may _ _ _ hx.rd)
            have hmay := fun W => lmay_any y0 m2 (by omega) W
            rw [m1] at hmay
            simp only [lwV, lwC, hxx.at_, hxx.to_] at hmay
            have e1 : (s.extract k a).data.toList = (s.data.toList.drop k).take (a - k) := extract_list s k a
            have e2 : (s.extract a b).data.toList = (s.data.toList.drop a).take n := by rw [extract_list, show b - a = n from by omega]
            have hba := hx.le
            rw [HL.out, ← eb] at hba
            have hpa := fun W (hb : Below w.heap.size w W) => lparts_any (s.extract k a) (by rw [ByteArray.size_extract]; omega) W (HE.out.below hb).signs (HE.out.below hb).maxl (by rw [e1]; exact hx.part)
            have hwo := fun W (hb : Below w.heap.size w W) => words_one1 (s.extract a b) (by rw [ByteArray.size_extract]; omega) W (HE.out.below hb).signs (HE.out.below hb).maxl (by rw [e2]; exact hx.one)
            have hN1 := hx.n1
            have hka : (k : Int) ≤ (a : Int) := by have := hx.ka; omega
            have hab : (a : Int) < (b : Int) := by omega
            have hbs : (b : Int) ≤ (s.size : Int) := by omega
            have has : (a : Int) < (s.size : Int) := by omega
            have has2 : (a : Int) ≤ (s.size : Int) := by omega
            have hi0 : (0 : Int) ≤ (i : Int) := by omega
            have hi1 : (i : Int) < (l.length : Int) := by omega
            have hk0 : (0 : Int) ≤ (k : Int) := by omega
            have HXX := Lib.hid hxx
            have HMAY := Lib.hid hmay
            have HPA := Lib.hid hpa
            have HWO := Lib.hid hwo
            have HNX := Lib.hid hx.next
            have EB := Lib.hid eb
            have EX := Lib.hid ex
            obtain ⟨t0, t1, t2, t3, t4, t5, t6, t7, t8, t9⟩ := hT.ten
            rw [hxx.at_] at t1
            rw [hxx.to_] at t2
            clear hxx hmay hpa hwo hx eb ex ec e1 e2 m1 hg HW hlt2 hba hN1 m2 m3
            go_wp2_with fail
            have d1 : decide (a < k) = false := by rw [decide_eq_false_iff_not]; omega
            have d2 : decide (b ≤ a) = false := by rw [decide_eq_false_iff_not]; omega
            have d3 : decide (s.size < b) = false := by rw [decide_eq_false_iff_not]; omega
            refine wp_region_mono [Mop.val [] [] (fun _ => .int .i64 (0)), Mop.val [0] [0] (fun _ => .bool false), Mop.val [1] [1] (fun _ => .bool false), Mop.val [2] [2] (fun _ => .slice (some ⟨g, 0, none⟩) l.length c), Mop.val [2] [2] (fun _ => .int .i64 (i : Nat)), Mop.val [2, 3, 4] [2, 3, 4] (fun _ => .pointer (some ⟨g, i * 10, none⟩)), Mop.val [2, 5] [2, 5] (fun _ => .pointer (some ⟨g, i * 10 + 1, none⟩)), Mop.val [2, 6] [2, 6] (fun _ => .int .i64 (a : Nat)), Mop.val [2] [2] (fun _ => .int .i64 (k : Nat)), Mop.val [2, 7, 8] [2, 7, 8] (fun _ => .bool false), Mop.val [2, 9] [2, 9] (fun _ => .bool false), Mop.val [10] [10] (fun _ => .bool false), Mop.val [11] [11] (fun _ => .slice (some ⟨g, 0, none⟩) l.length c), Mop.val [11] [11] (fun _ => .int .i64 (i : Nat)), Mop.val [11, 12, 13] [11, 12, 13] (fun _ => .pointer (some ⟨g, i * 10, none⟩)), Mop.val [11, 14] [11, 14] (fun _ => .pointer (some ⟨g, i * 10 + 2, none⟩)), Mop.val [11, 15] [11, 15] (fun _ => .int .i64 (b : Nat)), Mop.val [11] [11] (fun _ => .slice (some ⟨g, 0, none⟩) l.length c), Mop.val [11] [11] (fun _ => .int .i64 (i : Nat)), Mop.val [11, 17, 18] [11, 17, 18] (fun _ => .pointer (some ⟨g, i * 10, none⟩)), Mop.val [11, 19] [11, 19] (fun _ => .pointer (some ⟨g, i * 10 + 1, none⟩)), Mop.val [11, 20] [11, 20] (fun _ => .int .i64 (a : Nat)), Mop.val [11, 16, 21] [11, 16, 21] (fun _ => .bool false), Mop.val [11, 22] [11, 22] (fun _ => .bool false), Mop.val [23] [23] (fun _ => .bool false), Mop.val [24] [24] (fun _ => .slice (some ⟨g, 0, none⟩) l.length c), Mop.val [24] [24] (fun _ => .int .i64 (i : Nat)), Mop.val [24, 25, 26] [24, 25, 26] (fun _ => .pointer (some ⟨g, i * 10, none⟩)), Mop.val [24, 27] [24, 27] (fun _ => .pointer (some ⟨g, i * 10 + 2, none⟩)), Mop.val [24, 28] [24, 28] (fun _ => .int .i64 (b : Nat)), Mop.val [24] [24] (fun _ => .string s), Mop.val [24, 30] [24, 30] (fun _ => .int .i64 (s.size : Nat)), Mop.val [24, 29, 31] [24, 29, 31] (fun _ => .bool false), Mop.val [24, 32] [24, 32] (fun _ => .bool false), Mop.val [33] [33] (fun _ => .bool false), Mop.val [34] [34] (fun _ => .slice (some ⟨g, 0, none⟩) l.length c), Mop.val [34] [34] (fun _ => .int .i64 (i : Nat)), Mop.val [34, 35, 36] [34, 35, 36] (fun _ => .pointer (some ⟨g, i * 10, none⟩)), Mop.val [34, 37] [34, 37] (fun _ => .agg #[.int .u8 (y0.kind : Nat), .int .i64 (a : Nat), .int .i64 (b : Nat), .string y0.text, .int .u64 (word y0.set 0 : Nat), .int .u64 (word y0.set 1 : Nat), .int .u64 (word y0.set 2 : Nat), .int .u64 (word y0.set 3 : Nat), .int .i64 y0.low, .int .i64 y0.high]), Mop.val [34, 38] [34, 38] (fun _ => .bool true), Mop.val [34, 39] [34, 39] (fun _ => .bool false), Mop.val [34, 40] [34, 40] (fun _ => .bool false), Mop.val [41] [41] (fun _ => .bool false), Mop.val [42] [42] (fun _ => .string s), Mop.val [42] [42] (fun _ => .int .i64 (k : Nat)), Mop.val [42] [42] (fun _ => .slice (some ⟨g, 0, none⟩) l.length c), Mop.val [42] [42] (fun _ => .int .i64 (i : Nat)), Mop.val [42, 45, 46] [42, 45, 46] (fun _ => .pointer (some ⟨g, i * 10, none⟩)), Mop.val [42, 47] [42, 47] (fun _ => .pointer (some ⟨g, i * 10 + 1, none⟩)), Mop.val [42, 48] [42, 48] (fun _ => .int .i64 (a : Nat)), Mop.val [42, 43, 44, 49] [42, 43, 44, 49] (fun _ => .string (s.extract k a)), Mop.val [42, 50] [42, 50] (fun _ => .bool true), Mop.val [42, 51] [42, 51] (fun _ => .bool false), Mop.val [42, 52] [42, 52] (fun _ => .bool false)] [([], [], none), ([0], [0], none), ([1], [1], none), ([2], [2], none), ([2], [2], none), ([2, 3, 4], [2, 3, 4], none), ([2, 5], [2, 5], none), ([2, 6], [2, 6], none), ([2], [2], none), ([2, 7, 8], [2, 7, 8], none), ([2, 9], [2, 9], none), ([10], [10], none), ([11], [11], none), ([11], [11], none), ([11, 12, 13], [11, 12, 13], none), ([11, 14], [11, 14], none), ([11, 15], [11, 15], none), ([11], [11], none), ([11], [11], none), ([11, 17, 18], [11, 17, 18], none), ([11, 19], [11, 19], none), ([11, 20], [11, 20], none), ([11, 16, 21], [11, 16, 21], none), ([11, 22], [11, 22], none), ([23], [23], none), ([24], [24], none), ([24], [24], none), ([24, 25, 26], [24, 25, 26], none), ([24, 27], [24, 27], none), ([24, 28], [24, 28], none), ([24], [24], none), ([24, 30], [24, 30], none), ([24, 29, 31], [24, 29, 31], none), ([24, 32], [24, 32], none), ([33], [33], none), ([34], [34], none), ([34], [34], none), ([34, 35, 36], [34, 35, 36], none), ([34, 37], [34, 37], none), ([34, 38], [34, 38], none), ([34, 39], [34, 39], none), ([34, 40], [34, 40], none), ([41], [41], none), ([42], [42], none), ([42], [42], none), ([42], [42], none), ([42], [42], none), ([42, 45, 46], [42, 45, 46], none), ([42, 47], [42, 47], none), ([42, 48], [42, 48], none), ([42, 43, 44, 49], [42, 43, 44, 49], none), ([42, 50], [42, 50], none), ([42, 51], [42, 51], none), ([42, 52], [42, 52], none)] [0, 1, 2, 3, 4, 5, 6, 7, 8, 9, 10, 11, 12, 13, 14, 15, 16, 17, 18, 19, 20, 21, 22, 23, 24, 25, 26, 27, 28, 29, 30, 31, 32, 33, 34, 35, 36, 37, 38, 39, 40, 41, 42, 43, 44, 45, 46, 47, 48, 49, 50, 51, 52, 53] [0, 1, 2, 3, 4, 5, 6, 7, 8, 9, 10, 11, 12, 13, 14, 15, 16, 17, 18, 19, 20, 21, 22, 23, 24, 25, 26, 27, 28, 29, 30, 31, 32, 33, 34, 35, 36, 37, 38, 39, 40, 41, 42, 43, 44, 45, 46, 47, 48, 49, 50, 51, 52, 53] (by kernel_rfl) (by kernel_rfl) rfl (by kernel_rfl) ⟨?ms0, ?ms1, ?ms2, ?ms3, ?ms4, ?ms5, ?ms6, ?ms7, ?ms8, ?ms9, ?ms10, ?ms11, ?ms12, ?ms13, ?ms14, ?ms15, ?ms16, ?ms17, ?ms18, ?ms19, ?ms20, ?ms21, ?ms22, ?ms23, ?ms24, ?ms25, ?ms26, ?ms27, ?ms28, ?ms29, ?ms30, ?ms31, ?ms32, ?ms33, ?ms34, ?ms35, ?ms36, ?ms37, ?ms38, ?ms39, ?ms40, ?ms41, ?ms42, ?ms43, ?ms44, ?ms45, ?ms46, ?ms47, ?ms48, ?ms49, ?ms50, ?ms51, ?ms52, ?ms53, trivial⟩ ?mgood ?mfin
            case ms0 =>
              refine MStep.mk rfl (fun x lo hi w hb hf K hK => ?_)
              simp only [putAll, Mop.val, List.getElem_toArray, List.getElem_cons_zero, Act.put, List.setIfInBounds_toArray, List.set_cons_zero, List.set_cons_succ] at hK ⊢
              go_simp
              exact hK.out _ _ (Mop.done_make rfl (Below.refl _ _) rfl)
            case ms1 =>
              refine MStep.mk rfl (fun x lo hi w hb hf K hK => ?_)
              simp only [putAll, mdst, Mop.val, List.getElem_toArray, List.getElem_cons_zero, List.getElem_cons_succ, List.getElem?_toArray, List.getElem?_cons_zero, Option.bind_some, Act.put, List.setIfInBounds_toArray, List.set_cons_zero, List.set_cons_succ] at hK ⊢
              obtain ⟨f0, _⟩ := hf
              replace f0 : x 0 = .int .i64 (0) := f0
              simp only [f0] at hK ⊢
              go_simp
              exact hK.out _ _ (Mop.done_make rfl (Below.refl _ _) rfl)
            case ms2 =>
              refine MStep.mk rfl (fun x lo hi w hb hf K hK => ?_)
              simp only [putAll, mdst, Mop.val, List.getElem_toArray, List.getElem_cons_zero, List.getElem_cons_succ, List.getElem?_toArray, List.getElem?_cons_zero, List.getElem?_cons_succ, Option.bind_some, Act.put, List.setIfInBounds_toArray, List.set_cons_zero, List.set_cons_succ] at hK ⊢
              obtain ⟨f1, _⟩ := hf
              replace f1 : x 1 = .bool false := f1
              simp only [f1] at hK ⊢
              go_simp
              exact hK.out _ _ (Mop.done_make rfl (Below.refl _ _) rfl)
            case ms3 =>
              refine MStep.mk rfl (fun x lo hi w hb hf K hK => ?_)
              simp only [putAll, mdst, Mop.val, List.getElem_toArray, List.getElem_cons_zero, List.getElem_cons_succ, List.getElem?_toArray, List.getElem?_cons_zero, List.getElem?_cons_succ, Option.bind_some, Act.put, List.setIfInBounds_toArray, List.set_cons_zero, List.set_cons_succ] at hK ⊢
              obtain ⟨f2, _⟩ := hf
              replace f2 : x 2 = .bool false := f2
              simp only [f2] at hK ⊢
              go_simp
              exact hK.out _ _ (Mop.done_make rfl (Below.refl _ _) rfl)
            case ms4 =>
              refine MStep.mk rfl (fun x lo hi w hb hf K hK => ?_)
              simp only [putAll, mdst, Mop.val, List.getElem_toArray, List.getElem_cons_zero, List.getElem_cons_succ, List.getElem?_toArray, List.getElem?_cons_zero, List.getElem?_cons_succ, Option.bind_some, Act.put, List.setIfInBounds_toArray, List.set_cons_zero, List.set_cons_succ] at hK ⊢
              obtain ⟨f2, _⟩ := hf
              replace f2 : x 2 = .bool false := f2
              simp only [f2] at hK ⊢
              go_simp
              exact hK.out _ _ (Mop.done_make rfl (Below.refl _ _) rfl)
            case ms5 =>
              refine MStep.mk rfl (fun x lo hi w hb hf K hK => ?_)
              simp only [putAll, mdst, Mop.val, List.getElem_toArray, List.getElem_cons_zero, List.getElem_cons_succ, List.getElem?_toArray, List.getElem?_cons_zero, List.getElem?_cons_succ, Option.bind_some, Act.put, List.setIfInBounds_toArray, List.set_cons_zero, List.set_cons_succ] at hK ⊢
              obtain ⟨f2, f3, f4, _⟩ := hf
              replace f2 : x 2 = .bool false := f2
              replace f3 : x 3 = .slice (some ⟨g, 0, none⟩) l.length c := f3
              replace f4 : x 4 = .int .i64 (i : Nat) := f4
              simp only [f2, f3, f4] at hK ⊢
              go_simp
              exact hK.out _ _ (Mop.done_make rfl (Below.refl _ _) rfl)
            case ms6 =>
              refine MStep.mk rfl (fun x lo hi w hb hf K hK => ?_)
              simp only [putAll, mdst, Mop.val, List.getElem_toArray, List.getElem_cons_zero, List.getElem_cons_succ, List.getElem?_toArray, List.getElem?_cons_zero, List.getElem?_cons_succ, Option.bind_some, Act.put, List.setIfInBounds_toArray, List.set_cons_zero, List.set_cons_succ] at hK ⊢
              obtain ⟨f2, f5, _⟩ := hf
              replace f2 : x 2 = .bool false := f2
              replace f5 : x 5 = .pointer (some ⟨g, i * 10, none⟩) := f5
              simp only [f2, f5] at hK ⊢
              go_simp
              exact hK.out _ _ (Mop.done_make rfl (Below.refl _ _) rfl)
            case ms7 =>
              refine MStep.mk rfl (fun x lo hi w hb hf K hK => ?_)
              simp only [putAll, mdst, Mop.val, List.getElem_toArray, List.getElem_cons_zero, List.getElem_cons_succ, List.getElem?_toArray, List.getElem?_cons_zero, List.getElem?_cons_succ, Option.bind_some, Act.put, List.setIfInBounds_toArray, List.set_cons_zero, List.set_cons_succ] at hK ⊢
              obtain ⟨f2, f6, _⟩ := hf
              replace f2 : x 2 = .bool false := f2
              replace f6 : x 6 = .pointer (some ⟨g, i * 10 + 1, none⟩) := f6
              have c0 := (hb.cell (p := ⟨g, i * 10 + 1, none⟩) (cell_ltl t1)).trans t1
              simp only [f2, f6] at hK ⊢
              go_simp
              exact hK.out _ _ (Mop.done_make rfl (Below.refl _ _) rfl)
            case ms8 =>
              refine MStep.mk rfl (fun x lo hi w hb hf K hK => ?_)
              simp only [putAll, mdst, Mop.val, List.getElem_toArray, List.getElem_cons_zero, List.getElem_cons_succ, List.getElem?_toArray, List.getElem?_cons_zero, List.getElem?_cons_succ, Option.bind_some, Act.put, List.setIfInBounds_toArray, List.set_cons_zero, List.set_cons_succ] at hK ⊢
              obtain ⟨f2, _⟩ := hf
              replace f2 : x 2 = .bool false := f2
              simp only [f2] at hK ⊢
              go_simp
              exact hK.out _ _ (Mop.done_make rfl (Below.refl _ _) rfl)
            case ms9 =>
              refine MStep.mk rfl (fun x lo hi w hb hf K hK => ?_)
              simp only [putAll, mdst, Mop.val, List.getElem_toArray, List.getElem_cons_zero, List.getElem_cons_succ, List.getElem?_toArray, List.getElem?_cons_zero, List.getElem?_cons_succ, Option.bind_some, Act.put, List.setIfInBounds_toArray, List.set_cons_zero, List.set_cons_succ] at hK ⊢
              obtain ⟨f2, f7, f8, _⟩ := hf
              replace f2 : x 2 = .bool false := f2
              replace f7 : x 7 = .int .i64 (a : Nat) := f7
              replace f8 : x 8 = .int .i64 (k : Nat) := f8
              simp only [f2, f7, f8] at hK ⊢
              go_simp
              exact hK.out _ _ (Mop.done_make rfl (Below.refl _ _) rfl)
            case ms10 =>
              refine MStep.mk rfl (fun x lo hi w hb hf K hK => ?_)
              simp only [putAll, mdst, Mop.val, List.getElem_toArray, List.getElem_cons_zero, List.getElem_cons_succ, List.getElem?_toArray, List.getElem?_cons_zero, List.getElem?_cons_succ, Option.bind_some, Act.put, List.setIfInBounds_toArray, List.set_cons_zero, List.set_cons_succ] at hK ⊢
              obtain ⟨f2, f9, _⟩ := hf
              replace f2 : x 2 = .bool false := f2
              replace f9 : x 9 = .bool false := f9
              simp only [f2, f9] at hK ⊢
              go_simp
              exact hK.out _ _ (Mop.done_make rfl (Below.refl _ _) rfl)
            case ms11 =>
              refine MStep.mk rfl (fun x lo hi w hb hf K hK => ?_)
              simp only [putAll, mdst, Mop.val, List.getElem_toArray, List.getElem_cons_zero, List.getElem_cons_succ, List.getElem?_toArray, List.getElem?_cons_zero, List.getElem?_cons_succ, Option.bind_some, Act.put, List.setIfInBounds_toArray, List.set_cons_zero, List.set_cons_succ] at hK ⊢
              obtain ⟨f10, _⟩ := hf
              replace f10 : x 10 = .bool false := f10
              simp only [f10] at hK ⊢
              go_simp
              exact hK.out _ _ (Mop.done_make rfl (Below.refl _ _) rfl)
            case ms12 =>
              refine MStep.mk rfl (fun x lo hi w hb hf K hK => ?_)
              simp only [putAll, mdst, Mop.val, List.getElem_toArray, List.getElem_cons_zero, List.getElem_cons_succ, List.getElem?_toArray, List.getElem?_cons_zero, List.getElem?_cons_succ, Option.bind_some, Act.put, List.setIfInBounds_toArray, List.set_cons_zero, List.set_cons_succ] at hK ⊢
              obtain ⟨f11, _⟩ := hf
              replace f11 : x 11 = .bool false := f11
              simp only [f11] at hK ⊢
              go_simp
              exact hK.out _ _ (Mop.done_make rfl (Below.refl _ _) rfl)
            case ms13 =>
              refine MStep.mk rfl (fun x lo hi w hb hf K hK => ?_)
              simp only [putAll, mdst, Mop.val, List.getElem_toArray, List.getElem_cons_zero, List.getElem_cons_succ, List.getElem?_toArray, List.getElem?_cons_zero, List.getElem?_cons_succ, Option.bind_some, Act.put, List.setIfInBounds_toArray, List.set_cons_zero, List.set_cons_succ] at hK ⊢
              obtain ⟨f11, _⟩ := hf
              replace f11 : x 11 = .bool false := f11
              simp only [f11] at hK ⊢
              go_simp
              exact hK.out _ _ (Mop.done_make rfl (Below.refl _ _) rfl)
            case ms14 =>
              refine MStep.mk rfl (fun x lo hi w hb hf K hK => ?_)
              simp only [putAll, mdst, Mop.val, List.getElem_toArray, List.getElem_cons_zero, List.getElem_cons_succ, List.getElem?_toArray, List.getElem?_cons_zero, List.getElem?_cons_succ, Option.bind_some, Act.put, List.setIfInBounds_toArray, List.set_cons_zero, List.set_cons_succ] at hK ⊢
              obtain ⟨f11, f12, f13, _⟩ := hf
              replace f11 : x 11 = .bool false := f11
              replace f12 : x 12 = .slice (some ⟨g, 0, none⟩) l.length c := f12
              replace f13 : x 13 = .int .i64 (i : Nat) := f13
              simp only [f11, f12, f13] at hK ⊢
              go_simp
              exact hK.out _ _ (Mop.done_make rfl (Below.refl _ _) rfl)
            case ms15 =>
              refine MStep.mk rfl (fun x lo hi w hb hf K hK => ?_)
              simp only [putAll, mdst, Mop.val, List.getElem_toArray, List.getElem_cons_zero, List.getElem_cons_succ, List.getElem?_toArray, List.getElem?_cons_zero, List.getElem?_cons_succ, Option.bind_some, Act.put, List.setIfInBounds_toArray, List.set_cons_zero, List.set_cons_succ] at hK ⊢
              obtain ⟨f11, f14, _⟩ := hf
              replace f11 : x 11 = .bool false := f11
              replace f14 : x 14 = .pointer (some ⟨g, i * 10, none⟩) := f14
              simp only [f11, f14] at hK ⊢
              go_simp
              exact hK.out _ _ (Mop.done_make rfl (Below.refl _ _) rfl)
            case ms16 =>
              refine MStep.mk rfl (fun x lo hi w hb hf K hK => ?_)
              simp only [putAll, mdst, Mop.val, List.getElem_toArray, List.getElem_cons_zero, List.getElem_cons_succ, List.getElem?_toArray, List.getElem?_cons_zero, List.getElem?_cons_succ, Option.bind_some, Act.put, List.setIfInBounds_toArray, List.set_cons_zero, List.set_cons_succ] at hK ⊢
              obtain ⟨f11, f15, _⟩ := hf
              replace f11 : x 11 = .bool false := f11
              replace f15 : x 15 = .pointer (some ⟨g, i * 10 + 2, none⟩) := f15
              have c0 := (hb.cell (p := ⟨g, i * 10 + 2, none⟩) (cell_ltl t2)).trans t2
              simp only [f11, f15] at hK ⊢
              go_simp
              exact hK.out _ _ (Mop.done_make rfl (Below.refl _ _) rfl)
            case ms17 =>
              refine MStep.mk rfl (fun x lo hi w hb hf K hK => ?_)
              simp only [putAll, mdst, Mop.val, List.getElem_toArray, List.getElem_cons_zero, List.getElem_cons_succ, List.getElem?_toArray, List.getElem?_cons_zero, List.getElem?_cons_succ, Option.bind_some, Act.put, List.setIfInBounds_toArray, List.set_cons_zero, List.set_cons_succ] at hK ⊢
              obtain ⟨f11, _⟩ := hf
              replace f11 : x 11 = .bool false := f11
              simp only [f11] at hK ⊢
              go_simp
              exact hK.out _ _ (Mop.done_make rfl (Below.refl _ _) rfl)
            case ms18 =>
              refine MStep.mk rfl (fun x lo hi w hb hf K hK => ?_)
              simp only [putAll, mdst, Mop.val, List.getElem_toArray, List.getElem_cons_zero, List.getElem_cons_succ, List.getElem?_toArray, List.getElem?_cons_zero, List.getElem?_cons_succ, Option.bind_some, Act.put, List.setIfInBounds_toArray, List.set_cons_zero, List.set_cons_succ] at hK ⊢
              obtain ⟨f11, _⟩ := hf
              replace f11 : x 11 = .bool false := f11
              simp only [f11] at hK ⊢
              go_simp
              exact hK.out _ _ (Mop.done_make rfl (Below.refl _ _) rfl)
            case ms19 =>
              refine MStep.mk rfl (fun x lo hi w hb hf K hK => ?_)
              simp only [putAll, mdst, Mop.val, List.getElem_toArray, List.getElem_cons_zero, List.getElem_cons_succ, List.getElem?_toArray, List.getElem?_cons_zero, List.getElem?_cons_succ, Option.bind_some, Act.put, List.setIfInBounds_toArray, List.set_cons_zero, List.set_cons_succ] at hK ⊢
              obtain ⟨f11, f17, f18, _⟩ := hf
              replace f11 : x 11 = .bool false := f11
              replace f17 : x 17 = .slice (some ⟨g, 0, none⟩) l.length c := f17
              replace f18 : x 18 = .int .i64 (i : Nat) := f18
              simp only [f11, f17, f18] at hK ⊢
              go_simp
              exact hK.out _ _ (Mop.done_make rfl (Below.refl _ _) rfl)
            case ms20 =>
              refine MStep.mk rfl (fun x lo hi w hb hf K hK => ?_)
              simp only [putAll, mdst, Mop.val, List.getElem_toArray, List.getElem_cons_zero, List.getElem_cons_succ, List.getElem?_toArray, List.getElem?_cons_zero, List.getElem?_cons_succ, Option.bind_some, Act.put, List.setIfInBounds_toArray, List.set_cons_zero, List.set_cons_succ] at hK ⊢
              obtain ⟨f11, f19, _⟩ := hf
              replace f11 : x 11 = .bool false := f11
              replace f19 : x 19 = .pointer (some ⟨g, i * 10, none⟩) := f19
              simp only [f11, f19] at hK ⊢
              go_simp
              exact hK.out _ _ (Mop.done_make rfl (Below.refl _ _) rfl)
            case ms21 =>
              refine MStep.mk rfl (fun x lo hi w hb hf K hK => ?_)
              simp only [putAll, mdst, Mop.val, List.getElem_toArray, List.getElem_cons_zero, List.getElem_cons_succ, List.getElem?_toArray, List.getElem?_cons_zero, List.getElem?_cons_succ, Option.bind_some, Act.put, List.setIfInBounds_toArray, List.set_cons_zero, List.set_cons_succ] at hK ⊢
              obtain ⟨f11, f20, _⟩ := hf
              replace f11 : x 11 = .bool false := f11
              replace f20 : x 20 = .pointer (some ⟨g, i * 10 + 1, none⟩) := f20
              have c0 := (hb.cell (p := ⟨g, i * 10 + 1, none⟩) (cell_ltl t1)).trans t1
              simp only [f11, f20] at hK ⊢
              go_simp
              exact hK.out _ _ (Mop.done_make rfl (Below.refl _ _) rfl)
            case ms22 =>
              refine MStep.mk rfl (fun x lo hi w hb hf K hK => ?_)
              simp only [putAll, mdst, Mop.val, List.getElem_toArray, List.getElem_cons_zero, List.getElem_cons_succ, List.getElem?_toArray, List.getElem?_cons_zero, List.getElem?_cons_succ, Option.bind_some, Act.put, List.setIfInBounds_toArray, List.set_cons_zero, List.set_cons_succ] at hK ⊢
              obtain ⟨f11, f16, f21, _⟩ := hf
              replace f11 : x 11 = .bool false := f11
              replace f16 : x 16 = .int .i64 (b : Nat) := f16
              replace f21 : x 21 = .int .i64 (a : Nat) := f21
              simp only [f11, f16, f21] at hK ⊢
              go_simp
              exact hK.out _ _ (Mop.done_make rfl (Below.refl _ _) rfl)
            case ms23 =>
              refine MStep.mk rfl (fun x lo hi w hb hf K hK => ?_)
              simp only [putAll, mdst, Mop.val, List.getElem_toArray, List.getElem_cons_zero, List.getElem_cons_succ, List.getElem?_toArray, List.getElem?_cons_zero, List.getElem?_cons_succ, Option.bind_some, Act.put, List.setIfInBounds_toArray, List.set_cons_zero, List.set_cons_succ] at hK ⊢
              obtain ⟨f11, f22, _⟩ := hf
              replace f11 : x 11 = .bool false := f11
              replace f22 : x 22 = .bool false := f22
              simp only [f11, f22] at hK ⊢
              go_simp
              exact hK.out _ _ (Mop.done_make rfl (Below.refl _ _) rfl)
            case ms24 =>
              refine MStep.mk rfl (fun x lo hi w hb hf K hK => ?_)
              simp only [putAll, mdst, Mop.val, List.getElem_toArray, List.getElem_cons_zero, List.getElem_cons_succ, List.getElem?_toArray, List.getElem?_cons_zero, List.getElem?_cons_succ, Option.bind_some, Act.put, List.setIfInBounds_toArray, List.set_cons_zero, List.set_cons_succ] at hK ⊢
              obtain ⟨f23, _⟩ := hf
              replace f23 : x 23 = .bool false := f23
              simp only [f23] at hK ⊢
              go_simp
              exact hK.out _ _ (Mop.done_make rfl (Below.refl _ _) rfl)
            case ms25 =>
              refine MStep.mk rfl (fun x lo hi w hb hf K hK => ?_)
              simp only [putAll, mdst, Mop.val, List.getElem_toArray, List.getElem_cons_zero, List.getElem_cons_succ, List.getElem?_toArray, List.getElem?_cons_zero, List.getElem?_cons_succ, Option.bind_some, Act.put, List.setIfInBounds_toArray, List.set_cons_zero, List.set_cons_succ] at hK ⊢
              obtain ⟨f24, _⟩ := hf
              replace f24 : x 24 = .bool false := f24
              simp only [f24] at hK ⊢
              go_simp
              exact hK.out _ _ (Mop.done_make rfl (Below.refl _ _) rfl)
            case ms26 =>
              refine MStep.mk rfl (fun x lo hi w hb hf K hK => ?_)
              simp only [putAll, mdst, Mop.val, List.getElem_toArray, List.getElem_cons_zero, List.getElem_cons_succ, List.getElem?_toArray, List.getElem?_cons_zero, List.getElem?_cons_succ, Option.bind_some, Act.put, List.setIfInBounds_toArray, List.set_cons_zero, List.set_cons_succ] at hK ⊢
              obtain ⟨f24, _⟩ := hf
              replace f24 : x 24 = .bool false := f24
              simp only [f24] at hK ⊢
              go_simp
              exact hK.out _ _ (Mop.done_make rfl (Below.refl _ _) rfl)
            case ms27 =>
              refine MStep.mk rfl (fun x lo hi w hb hf K hK => ?_)
              simp only [putAll, mdst, Mop.val, List.getElem_toArray, List.getElem_cons_zero, List.getElem_cons_succ, List.getElem?_toArray, List.getElem?_cons_zero, List.getElem?_cons_succ, Option.bind_some, Act.put, List.setIfInBounds_toArray, List.set_cons_zero, List.set_cons_succ] at hK ⊢
              obtain ⟨f24, f25, f26, _⟩ := hf
              replace f24 : x 24 = .bool false := f24
              replace f25 : x 25 = .slice (some ⟨g, 0, none⟩) l.length c := f25
              replace f26 : x 26 = .int .i64 (i : Nat) := f26
              simp only [f24, f25, f26] at hK ⊢
              go_simp
              exact hK.out _ _ (Mop.done_make rfl (Below.refl _ _) rfl)
            case ms28 =>
              refine MStep.mk rfl (fun x lo hi w hb hf K hK => ?_)
              simp only [putAll, mdst, Mop.val, List.getElem_toArray, List.getElem_cons_zero, List.getElem_cons_succ, List.getElem?_toArray, List.getElem?_cons_zero, List.getElem?_cons_succ, Option.bind_some, Act.put, List.setIfInBounds_toArray, List.set_cons_zero, List.set_cons_succ] at hK ⊢
              obtain ⟨f24, f27, _⟩ := hf
              replace f24 : x 24 = .bool false := f24
              replace f27 : x 27 = .pointer (some ⟨g, i * 10, none⟩) := f27
              simp only [f24, f27] at hK ⊢
              go_simp
              exact hK.out _ _ (Mop.done_make rfl (Below.refl _ _) rfl)
            case ms29 =>
              refine MStep.mk rfl (fun x lo hi w hb hf K hK => ?_)
              simp only [putAll, mdst, Mop.val, List.getElem_toArray, List.getElem_cons_zero, List.getElem_cons_succ, List.getElem?_toArray, List.getElem?_cons_zero, List.getElem?_cons_succ, Option.bind_some, Act.put, List.setIfInBounds_toArray, List.set_cons_zero, List.set_cons_succ] at hK ⊢
              obtain ⟨f24, f28, _⟩ := hf
              replace f24 : x 24 = .bool false := f24
              replace f28 : x 28 = .pointer (some ⟨g, i * 10 + 2, none⟩) := f28
              have c0 := (hb.cell (p := ⟨g, i * 10 + 2, none⟩) (cell_ltl t2)).trans t2
              simp only [f24, f28] at hK ⊢
              go_simp
              exact hK.out _ _ (Mop.done_make rfl (Below.refl _ _) rfl)
            case ms30 =>
              refine MStep.mk rfl (fun x lo hi w hb hf K hK => ?_)
              simp only [putAll, mdst, Mop.val, List.getElem_toArray, List.getElem_cons_zero, List.getElem_cons_succ, List.getElem?_toArray, List.getElem?_cons_zero, List.getElem?_cons_succ, Option.bind_some, Act.put, List.setIfInBounds_toArray, List.set_cons_zero, List.set_cons_succ] at hK ⊢
              obtain ⟨f24, _⟩ := hf
              replace f24 : x 24 = .bool false := f24
              simp only [f24] at hK ⊢
              go_simp
              exact hK.out _ _ (Mop.done_make rfl (Below.refl _ _) rfl)
            case ms31 =>
              refine MStep.mk rfl (fun x lo hi w hb hf K hK => ?_)
              simp only [putAll, mdst, Mop.val, List.getElem_toArray, List.getElem_cons_zero, List.getElem_cons_succ, List.getElem?_toArray, List.getElem?_cons_zero, List.getElem?_cons_succ, Option.bind_some, Act.put, List.setIfInBounds_toArray, List.set_cons_zero, List.set_cons_succ] at hK ⊢
              obtain ⟨f24, f30, _⟩ := hf
              replace f24 : x 24 = .bool false := f24
              replace f30 : x 30 = .string s := f30
              simp only [f24, f30] at hK ⊢
              go_simp
              exact hK.out _ _ (Mop.done_make rfl (Below.refl _ _) rfl)
            case ms32 =>
              refine MStep.mk rfl (fun x lo hi w hb hf K hK => ?_)
              simp only [putAll, mdst, Mop.val, List.getElem_toArray, List.getElem_cons_zero, List.getElem_cons_succ, List.getElem?_toArray, List.getElem?_cons_zero, List.getElem?_cons_succ, Option.bind_some, Act.put, List.setIfInBounds_toArray, List.set_cons_zero, List.set_cons_succ] at hK ⊢
              obtain ⟨f24, f29, f31, _⟩ := hf
              replace f24 : x 24 = .bool false := f24
              replace f29 : x 29 = .int .i64 (b : Nat) := f29
              replace f31 : x 31 = .int .i64 (s.size : Nat) := f31
              simp only [f24, f29, f31] at hK ⊢
              go_simp
              exact hK.out _ _ (Mop.done_make rfl (Below.refl _ _) rfl)
            case ms33 =>
              refine MStep.mk rfl (fun x lo hi w hb hf K hK => ?_)
              simp only [putAll, mdst, Mop.val, List.getElem_toArray, List.getElem_cons_zero, List.getElem_cons_succ, List.getElem?_toArray, List.getElem?_cons_zero, List.getElem?_cons_succ, Option.bind_some, Act.put, List.setIfInBounds_toArray, List.set_cons_zero, List.set_cons_succ] at hK ⊢
              obtain ⟨f24, f32, _⟩ := hf
              replace f24 : x 24 = .bool false := f24
              replace f32 : x 32 = .bool false := f32
              simp only [f24, f32] at hK ⊢
              go_simp
              exact hK.out _ _ (Mop.done_make rfl (Below.refl _ _) rfl)
            case ms34 =>
              refine MStep.mk rfl (fun x lo hi w hb hf K hK => ?_)
              simp only [putAll, mdst, Mop.val, List.getElem_toArray, List.getElem_cons_zero, List.getElem_cons_succ, List.getElem?_toArray, List.getElem?_cons_zero, List.getElem?_cons_succ, Option.bind_some, Act.put, List.setIfInBounds_toArray, List.set_cons_zero, List.set_cons_succ] at hK ⊢
              obtain ⟨f33, _⟩ := hf
              replace f33 : x 33 = .bool false := f33
              simp only [f33] at hK ⊢
              go_simp
              exact hK.out _ _ (Mop.done_make rfl (Below.refl _ _) rfl)
            case ms35 =>
              refine MStep.mk rfl (fun x lo hi w hb hf K hK => ?_)
              simp only [putAll, mdst, Mop.val, List.getElem_toArray, List.getElem_cons_zero, List.getElem_cons_succ, List.getElem?_toArray, List.getElem?_cons_zero, List.getElem?_cons_succ, Option.bind_some, Act.put, List.setIfInBounds_toArray, List.set_cons_zero, List.set_cons_succ] at hK ⊢
              obtain ⟨f34, _⟩ := hf
              replace f34 : x 34 = .bool false := f34
              simp only [f34] at hK ⊢
              go_simp
              exact hK.out _ _ (Mop.done_make rfl (Below.refl _ _) rfl)
            case ms36 =>
              refine MStep.mk rfl (fun x lo hi w hb hf K hK => ?_)
              simp only [putAll, mdst, Mop.val, List.getElem_toArray, List.getElem_cons_zero, List.getElem_cons_succ, List.getElem?_toArray, List.getElem?_cons_zero, List.getElem?_cons_succ, Option.bind_some, Act.put, List.setIfInBounds_toArray, List.set_cons_zero, List.set_cons_succ] at hK ⊢
              obtain ⟨f34, _⟩ := hf
              replace f34 : x 34 = .bool false := f34
              simp only [f34] at hK ⊢
              go_simp
              exact hK.out _ _ (Mop.done_make rfl (Below.refl _ _) rfl)
            case ms37 =>
              refine MStep.mk rfl (fun x lo hi w hb hf K hK => ?_)
              simp only [putAll, mdst, Mop.val, List.getElem_toArray, List.getElem_cons_zero, List.getElem_cons_succ, List.getElem?_toArray, List.getElem?_cons_zero, List.getElem?_cons_succ, Option.bind_some, Act.put, List.setIfInBounds_toArray, List.set_cons_zero, List.set_cons_succ] at hK ⊢
              obtain ⟨f34, f35, f36, _⟩ := hf
              replace f34 : x 34 = .bool false := f34
              replace f35 : x 35 = .slice (some ⟨g, 0, none⟩) l.length c := f35
              replace f36 : x 36 = .int .i64 (i : Nat) := f36
              simp only [f34, f35, f36] at hK ⊢
              go_simp
              exact hK.out _ _ (Mop.done_make rfl (Below.refl _ _) rfl)
            case ms38 =>
              refine MStep.mk rfl (fun x lo hi w hb hf K hK => ?_)
              simp only [putAll, mdst, Mop.val, List.getElem_toArray, List.getElem_cons_zero, List.getElem_cons_succ, List.getElem?_toArray, List.getElem?_cons_zero, List.getElem?_cons_succ, Option.bind_some, Act.put, List.setIfInBounds_toArray, List.set_cons_zero, List.set_cons_succ] at hK ⊢
              obtain ⟨f34, f37, _⟩ := hf
              replace f34 : x 34 = .bool false := f34
              replace f37 : x 37 = .pointer (some ⟨g, i * 10, none⟩) := f37
              have c0 := (hb.cell (p := ⟨g, i * 10, none⟩) (cell_ltl t0)).trans t0
              have c1 := (hb.cell (p := ⟨g, i * 10 + 1, none⟩) (cell_ltl t1)).trans t1
              have c2 := (hb.cell (p := ⟨g, i * 10 + 2, none⟩) (cell_ltl t2)).trans t2
              have c3 := (hb.cell (p := ⟨g, i * 10 + 3, none⟩) (cell_ltl t3)).trans t3
              have c4 := (hb.cell (p := ⟨g, i * 10 + 4, none⟩) (cell_ltl t4)).trans t4
              have c5 := (hb.cell (p := ⟨g, i * 10 + 5, none⟩) (cell_ltl t5)).trans t5
              have c6 := (hb.cell (p := ⟨g, i * 10 + 6, none⟩) (cell_ltl t6)).trans t6
              have c7 := (hb.cell (p := ⟨g, i * 10 + 7, none⟩) (cell_ltl t7)).trans t7
              have c8 := (hb.cell (p := ⟨g, i * 10 + 8, none⟩) (cell_ltl t8)).trans t8
              have c9 := (hb.cell (p := ⟨g, i * 10 + 9, none⟩) (cell_ltl t9)).trans t9
              simp only [f34, f37] at hK ⊢
              go_simp
              exact hK.out _ _ (Mop.done_make rfl (Below.refl _ _) rfl)
            case ms39 =>
              refine MStep.mk rfl (fun x lo hi w hb hf K hK => ?_)
              simp only [putAll, mdst, Mop.val, List.getElem_toArray, List.getElem_cons_zero, List.getElem_cons_succ, List.getElem?_toArray, List.getElem?_cons_zero, List.getElem?_cons_succ, Option.bind_some, Act.put, List.setIfInBounds_toArray, List.set_cons_zero, List.set_cons_succ] at hK ⊢
              obtain ⟨f34, f38, _⟩ := hf
              replace f34 : x 34 = .bool false := f34
              replace f38 : x 38 = .agg #[.int .u8 (y0.kind : Nat), .int .i64 (a : Nat), .int .i64 (b : Nat), .string y0.text, .int .u64 (word y0.set 0 : Nat), .int .u64 (word y0.set 1 : Nat), .int .u64 (word y0.set 2 : Nat), .int .u64 (word y0.set 3 : Nat), .int .i64 y0.low, .int .i64 y0.high] := f38
              simp only [f34, f38] at hK ⊢
              go_simp
              refine (HMAY.out _).mono ?_
              rintro e w' ⟨rfl, hb'⟩
              try go_simp
              exact hK.out _ _ (Mop.done_make rfl hb' rfl)
            case ms40 =>
              refine MStep.mk rfl (fun x lo hi w hb hf K hK => ?_)
              simp only [putAll, mdst, Mop.val, List.getElem_toArray, List.getElem_cons_zero, List.getElem_cons_succ, List.getElem?_toArray, List.getElem?_cons_zero, List.getElem?_cons_succ, Option.bind_some, Act.put, List.setIfInBounds_toArray, List.set_cons_zero, List.set_cons_succ] at hK ⊢
              obtain ⟨f34, f39, _⟩ := hf
              replace f34 : x 34 = .bool false := f34
              replace f39 : x 39 = .bool true := f39
              simp only [f34, f39] at hK ⊢
              go_simp
              exact hK.out _ _ (Mop.done_make rfl (Below.refl _ _) rfl)
            case ms41 =>
              refine MStep.mk rfl (fun x lo hi w hb hf K hK => ?_)
              simp only [putAll, mdst, Mop.val, List.getElem_toArray, List.getElem_cons_zero, List.getElem_cons_succ, List.getElem?_toArray, List.getElem?_cons_zero, List.getElem?_cons_succ, Option.bind_some, Act.put, List.setIfInBounds_toArray, List.set_cons_zero, List.set_cons_succ] at hK ⊢
              obtain ⟨f34, f40, _⟩ := hf
              replace f34 : x 34 = .bool false := f34
              replace f40 : x 40 = .bool false := f40
              simp only [f34, f40] at hK ⊢
              go_simp
              exact hK.out _ _ (Mop.done_make rfl (Below.refl _ _) rfl)
            case ms42 =>
              refine MStep.mk rfl (fun x lo hi w hb hf K hK => ?_)
              simp only [putAll, mdst, Mop.val, List.getElem_toArray, List.getElem_cons_zero, List.getElem_cons_succ, List.getElem?_toArray, List.getElem?_cons_zero, List.getElem?_cons_succ, Option.bind_some, Act.put, List.setIfInBounds_toArray, List.set_cons_zero, List.set_cons_succ] at hK ⊢
              obtain ⟨f41, _⟩ := hf
              replace f41 : x 41 = .bool false := f41
              simp only [f41] at hK ⊢
              go_simp
              exact hK.out _ _ (Mop.done_make rfl (Below.refl _ _) rfl)
            case ms43 =>
              refine MStep.mk rfl (fun x lo hi w hb hf K hK => ?_)
              simp only [putAll, mdst, Mop.val, List.getElem_toArray, List.getElem_cons_zero, List.getElem_cons_succ, List.getElem?_toArray, List.getElem?_cons_zero, List.getElem?_cons_succ, Option.bind_some, Act.put, List.setIfInBounds_toArray, List.set_cons_zero, List.set_cons_succ] at hK ⊢
              obtain ⟨f42, _⟩ := hf
              replace f42 : x 42 = .bool false := f42
              simp only [f42] at hK ⊢
              go_simp
              exact hK.out _ _ (Mop.done_make rfl (Below.refl _ _) rfl)
            case ms44 =>
              refine MStep.mk rfl (fun x lo hi w hb hf K hK => ?_)
              simp only [putAll, mdst, Mop.val, List.getElem_toArray, List.getElem_cons_zero, List.getElem_cons_succ, List.getElem?_toArray, List.getElem?_cons_zero, List.getElem?_cons_succ, Option.bind_some, Act.put, List.setIfInBounds_toArray, List.set_cons_zero, List.set_cons_succ] at hK ⊢
              obtain ⟨f42, _⟩ := hf
              replace f42 : x 42 = .bool false := f42
              simp only [f42] at hK ⊢
              go_simp
              exact hK.out _ _ (Mop.done_make rfl (Below.refl _ _) rfl)
            case ms45 =>
              refine MStep.mk rfl (fun x lo hi w hb hf K hK => ?_)
              simp only [putAll, mdst, Mop.val, List.getElem_toArray, List.getElem_cons_zero, List.getElem_cons_succ, List.getElem?_toArray, List.getElem?_cons_zero, List.getElem?_cons_succ, Option.bind_some, Act.put, List.setIfInBounds_toArray, List.set_cons_zero, List.set_cons_succ] at hK ⊢
              obtain ⟨f42, _⟩ := hf
              replace f42 : x 42 = .bool false := f42
              simp only [f42] at hK ⊢
              go_simp
              exact hK.out _ _ (Mop.done_make rfl (Below.refl _ _) rfl)
            case ms46 =>
              refine MStep.mk rfl (fun x lo hi w hb hf K hK => ?_)
              simp only [putAll, mdst, Mop.val, List.getElem_toArray, List.getElem_cons_zero, List.getElem_cons_succ, List.getElem?_toArray, List.getElem?_cons_zero, List.getElem?_cons_succ, Option.bind_some, Act.put, List.setIfInBounds_toArray, List.set_cons_zero, List.set_cons_succ] at hK ⊢
              obtain ⟨f42, _⟩ := hf
              replace f42 : x 42 = .bool false := f42
              simp only [f42] at hK ⊢
              go_simp
              exact hK.out _ _ (Mop.done_make rfl (Below.refl _ _) rfl)
            case ms47 =>
              refine MStep.mk rfl (fun x lo hi w hb hf K hK => ?_)
              simp only [putAll, mdst, Mop.val, List.getElem_toArray, List.getElem_cons_zero, List.getElem_cons_succ, List.getElem?_toArray, List.getElem?_cons_zero, List.getElem?_cons_succ, Option.bind_some, Act.put, List.setIfInBounds_toArray, List.set_cons_zero, List.set_cons_succ] at hK ⊢
              obtain ⟨f42, f45, f46, _⟩ := hf
              replace f42 : x 42 = .bool false := f42
              replace f45 : x 45 = .slice (some ⟨g, 0, none⟩) l.length c := f45
              replace f46 : x 46 = .int .i64 (i : Nat) := f46
              simp only [f42, f45, f46] at hK ⊢
              go_simp
              exact hK.out _ _ (Mop.done_make rfl (Below.refl _ _) rfl)
            case ms48 =>
              refine MStep.mk rfl (fun x lo hi w hb hf K hK => ?_)
              simp only [putAll, mdst, Mop.val, List.getElem_toArray, List.getElem_cons_zero, List.getElem_cons_succ, List.getElem?_toArray, List.getElem?_cons_zero, List.getElem?_cons_succ, Option.bind_some, Act.put, List.setIfInBounds_toArray, List.set_cons_zero, List.set_cons_succ] at hK ⊢
              obtain ⟨f42, f47, _⟩ := hf
              replace f42 : x 42 = .bool false := f42
              replace f47 : x 47 = .pointer (some ⟨g, i * 10, none⟩) := f47
              simp only [f42, f47] at hK ⊢
              go_simp
              exact hK.out _ _ (Mop.done_make rfl (Below.refl _ _) rfl)
            case ms49 =>
              refine MStep.mk rfl (fun x lo hi w hb hf K hK => ?_)
              simp only [putAll, mdst, Mop.val, List.getElem_toArray, List.getElem_cons_zero, List.getElem_cons_succ, List.getElem?_toArray, List.getElem?_cons_zero, List.getElem?_cons_succ, Option.bind_some, Act.put, List.setIfInBounds_toArray, List.set_cons_zero, List.set_cons_succ] at hK ⊢
              obtain ⟨f42, f48, _⟩ := hf
              replace f42 : x 42 = .bool false := f42
              replace f48 : x 48 = .pointer (some ⟨g, i * 10 + 1, none⟩) := f48
              have c0 := (hb.cell (p := ⟨g, i * 10 + 1, none⟩) (cell_ltl t1)).trans t1
              simp only [f42, f48] at hK ⊢
              go_simp
              exact hK.out _ _ (Mop.done_make rfl (Below.refl _ _) rfl)
            case ms50 =>
              refine MStep.mk rfl (fun x lo hi w hb hf K hK => ?_)
              simp only [putAll, mdst, Mop.val, List.getElem_toArray, List.getElem_cons_zero, List.getElem_cons_succ, List.getElem?_toArray, List.getElem?_cons_zero, List.getElem?_cons_succ, Option.bind_some, Act.put, List.setIfInBounds_toArray, List.set_cons_zero, List.set_cons_succ] at hK ⊢
              obtain ⟨f42, f43, f44, f49, _⟩ := hf
              replace f42 : x 42 = .bool false := f42
              replace f43 : x 43 = .string s := f43
              replace f44 : x 44 = .int .i64 (k : Nat) := f44
              replace f49 : x 49 = .int .i64 (a : Nat) := f49
              simp only [f42, f43, f44, f49] at hK ⊢
              go_simp
              exact hK.out _ _ (Mop.done_make rfl (Below.refl _ _) rfl)
            case ms51 =>
              refine MStep.mk rfl (fun x lo hi w hb hf K hK => ?_)
              simp only [putAll, mdst, Mop.val, List.getElem_toArray, List.getElem_cons_zero, List.getElem_cons_succ, List.getElem?_toArray, List.getElem?_cons_zero, List.getElem?_cons_succ, Option.bind_some, Act.put, List.setIfInBounds_toArray, List.set_cons_zero, List.set_cons_succ] at hK ⊢
              obtain ⟨f42, f50, _⟩ := hf
              replace f42 : x 42 = .bool false := f42
              replace f50 : x 50 = .string (s.extract k a) := f50
              simp only [f42, f50] at hK ⊢
              go_simp
              refine (HPA.out _ (hB.trans (hb.mono hB.size))).mono ?_
              rintro e w' ⟨rfl, hb'⟩
              try go_simp
              exact hK.out _ _ (Mop.done_make rfl hb' rfl)
            case ms52 =>
              refine MStep.mk rfl (fun x lo hi w hb hf K hK => ?_)
              simp only [putAll, mdst, Mop.val, List.getElem_toArray, List.getElem_cons_zero, List.getElem_cons_succ, List.getElem?_toArray, List.getElem?_cons_zero, List.getElem?_cons_succ, Option.bind_some, Act.put, List.setIfInBounds_toArray, List.set_cons_zero, List.set_cons_succ] at hK ⊢
              obtain ⟨f42, f51, _⟩ := hf
              replace f42 : x 42 = .bool false := f42
              replace f51 : x 51 = .bool true := f51
              simp only [f42, f51] at hK ⊢
              go_simp
              exact hK.out _ _ (Mop.done_make rfl (Below.refl _ _) rfl)
            case ms53 =>
              refine MStep.mk rfl (fun x lo hi w hb hf K hK => ?_)
              simp only [putAll, mdst, Mop.val, List.getElem_toArray, List.getElem_cons_zero, List.getElem_cons_succ, List.getElem?_toArray, List.getElem?_cons_zero, List.getElem?_cons_succ, Option.bind_some, Act.put, List.setIfInBounds_toArray, List.set_cons_zero, List.set_cons_succ] at hK ⊢
              obtain ⟨f42, f52, _⟩ := hf
              replace f42 : x 42 = .bool false := f42
              replace f52 : x 52 = .bool false := f52
              simp only [f42, f52] at hK ⊢
              go_simp
              exact hK.out _ _ (Mop.done_make rfl (Below.refl _ _) rfl)
            case mgood => exact ⟨Mop.Good.val (fun _ _ _ => rfl), Mop.Good.val (fun _ _ _ => rfl), Mop.Good.val (fun _ _ _ => rfl), Mop.Good.val (fun _ _ _ => rfl), Mop.Good.val (fun _ _ _ => rfl), Mop.Good.val (fun _ _ _ => rfl), Mop.Good.val (fun _ _ _ => rfl), Mop.Good.val (fun _ _ _ => rfl), Mop.Good.val (fun _ _ _ => rfl), Mop.Good.val (fun _ _ _ => rfl), Mop.Good.val (fun _ _ _ => rfl), Mop.Good.val (fun _ _ _ => rfl), Mop.Good.val (fun _ _ _ => rfl), Mop.Good.val (fun _ _ _ => rfl), Mop.Good.val (fun _ _ _ => rfl), Mop.Good.val (fun _ _ _ => rfl), Mop.Good.val (fun _ _ _ => rfl), Mop.Good.val (fun _ _ _ => rfl), Mop.Good.val (fun _ _ _ => rfl), Mop.Good.val (fun _ _ _ => rfl), Mop.Good.val (fun _ _ _ => rfl), Mop.Good.val (fun _ _ _ => rfl), Mop.Good.val (fun _ _ _ => rfl), Mop.Good.val (fun _ _ _ => rfl), Mop.Good.val (fun _ _ _ => rfl), Mop.Good.val (fun _ _ _ => rfl), Mop.Good.val (fun _ _ _ => rfl), Mop.Good.val (fun _ _ _ => rfl), Mop.Good.val (fun _ _ _ => rfl), Mop.Good.val (fun _ _ _ => rfl), Mop.Good.val (fun _ _ _ => rfl), Mop.Good.val (fun _ _ _ => rfl), Mop.Good.val (fun _ _ _ => rfl), Mop.Good.val (fun _ _ _ => rfl), Mop.Good.val (fun _ _ _ => rfl), Mop.Good.val (fun _ _ _ => rfl), Mop.Good.val (fun _ _ _ => rfl), Mop.Good.val (fun _ _ _ => rfl), Mop.Good.val (fun _ _ _ => rfl), Mop.Good.val (fun _ _ _ => rfl), Mop.Good.val (fun _ _ _ => rfl), Mop.Good.val (fun _ _ _ => rfl), Mop.Good.val (fun _ _ _ => rfl), Mop.Good.val (fun _ _ _ => rfl), Mop.Good.val (fun _ _ _ => rfl), Mop.Good.val (fun _ _ _ => rfl), Mop.Good.val (fun _ _ _ => rfl), Mop.Good.val (fun _ _ _ => rfl), Mop.Good.val (fun _ _ _ => rfl), Mop.Good.val (fun _ _ _ => rfl), Mop.Good.val (fun _ _ _ => rfl), Mop.Good.val (fun _ _ _ => rfl), Mop.Good.val (fun _ _ _ => rfl), Mop.Good.val (fun _ _ _ => rfl), trivial⟩
            case mfin =>
              intro x lo hi w' hb hf
              obtain ⟨-, -, -, -, -, -, -, -, -, -, -, -, -, -, -, -, -, -, -, -, -, -, -, -, -, -, -, -, -, -, -, -, -, -, -, -, -, -, -, -, -, -, -, -, -, -, -, -, -, -, -, -, -, f53, -⟩ := hf
              replace f53 : x 53 = .bool false := f53
              simp only [putAll, mdst, List.getElem?_toArray, List.getElem?_cons_zero, List.getElem?_cons_succ, Option.bind_some, Act.put, List.setIfInBounds_toArray, List.set_cons_zero, List.set_cons_succ, f53]
              have hR2 := hR.below hb
              have hB2 := hB.trans (hb.mono hB.size)
              obtain ⟨u1, u2⟩ := hR2.ats hlt EX.out HXX.out.at_ HXX.out.to_
              have h4 : ((i : Int) + 1) ≤ (c : Int) := by have := HC.out; omega
              have h5 : IntKind.i64.wrap ((i : Int) + 1) = (i : Int) + 1 := by have h := HC.out; have h2 := HM.out; unfold maxLen at h2; rw [IntWalk.i64_in _ (by omega)]
              have h6 : (i : Int) ≤ (i : Int) + 1 := by omega
              have HB := Lib.hid hB2.drew
              have HR := Lib.hid (show RowW w'.drew g l from ⟨hR2.lt, hR2.all⟩)
              clear t0 t1 t2 t3 t4 t5 t6 t7 t8 t9 hT hR hb d1 d2 d3 f53 HMAY HPA hB hB2 hR2
              go_wp2_with fail
              go_region_with (first
                | (go_at_call 63; (with_reducible refine (HWO.out _ HB.out).mono ?_); rintro e w3 ⟨g3, c3, y, rfl, hy, hR3, q3⟩; have HB3 := Lib.hid (HB.out.trans (q3.mono HB.out.size)); have HR3 := Lib.hid (HR.out.below q3)))
              go_wp2_with (first
                | (go_at_call 64; (with_reducible refine (same_one hy HXX.out hR3 HR3.out hlt EX.out).mono ?_); rintro e w4 ⟨rfl, q4⟩; have HB4 := Lib.hid (HB3.out.trans (q4.mono HB3.out.size)); have HR4 := Lib.hid (HR3.out.below q4); obtain ⟨v1, v2⟩ := HR4.out.ats hlt EX.out HXX.out.at_ HXX.out.to_))
              all_goals exact ⟨⟨b, i + 1, rfl, by rw [Int.natCast_add]; rfl, by omega, Lib.hid (by rw [EB.out]; exact HNX.out), .inr ⟨g, rfl, HR4.out⟩, HB4.out⟩, meas19 hlt⟩
        · obtain rfl : i = l.length := by omega
          have hdn := HW.out.done (by rw [← HLN.out]; omega)
          have hkl := HW.out.le
          rw [HL.out] at hkl
          have e3 : (s.extract k s.size).data.toList = s.data.toList.drop k := extract_drop s k
          have hpa := fun W (hb : Below w.heap.size w W) => lparts_any (s.extract k s.size) (by rw [ByteArray.size_extract]; omega) W (HE.out.below hb).signs (HE.out.below hb).maxl (by rw [e3]; exact hdn)
          have HPA := Lib.hid hpa
          have HBB := Lib.hid hB
          have k0 : (0 : Int) ≤ (k : Int) := by omega
          have k1 : (k : Int) ≤ (s.size : Int) := by omega
          clear hdn hkl e3 hpa hP HW hB hlt hi
          go_wp2_with (go_at_call 65; (with_reducible refine (HPA.out _ HBB.out).mono ?_); rintro e w3 ⟨rfl, q3⟩)
          go_ret
          exact ⟨rfl, HBB.out.trans (q3.mono HBB.out.size)⟩
end Go.Proofs.YtjeogbdeagkomaaDoor

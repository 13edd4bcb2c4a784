/- bonsailaw06: is, wrong, parts; Words in two halves. -/
import Derived.Test.YtjeogbdeagkomaaDoorVL14
import Derived.Test.YtjeogbdeagkomaaDoorVL16
import Derived.Deep.QuietTactic
import Derived.BigQuiet
namespace Go.Proofs.YtjeogbdeagkomaaDoor
open Go.RowKit Nm Bset Lm

/-- Words as the program has them are words of the maths, each where it stands. -/
def WxL : List Lw → List Pw → Prop
  | [], [] => True
  | x :: l, p :: ps => Wx x p.1 (p.2.1 : Nat) (p.2.2 : Nat) ∧ WxL l ps
  | _, _ => False
theorem WxL.len : ∀ {l : List Lw} {ps : List Pw}, WxL l ps → l.length = ps.length
  | [], [], _ => rfl
  | _ :: l, _ :: ps, h => by rw [List.length_cons, List.length_cons, WxL.len h.2]
  | [], _ :: _, h => h.elim
  | _ :: _, [], h => h.elim
theorem WxL.at_ : ∀ {l : List Lw} {ps : List Pw} (_ : WxL l ps) (i : Nat) (h1 : i < l.length) (h2 : i < ps.length), Wx l[i] ps[i].1 (ps[i].2.1 : Nat) (ps[i].2.2 : Nat)
  | [], [], _, i, h1, _ => by simp at h1
  | _ :: l, _ :: ps, h, 0, _, _ => h.1
  | _ :: l, _ :: ps, h, i + 1, h1, h2 => WxL.at_ h.2 i (by simpa using h1) (by simpa using h2)
  | [], _ :: _, h, _, _, _ => h.elim
  | _ :: _, [], h, _, _, _ => h.elim
theorem Alike.wxl : ∀ {xs : List Te} {ps : List Pw}, Alike xs ps → WxL (xs.map (·.1)) ps
  | [], [], _ => trivial
  | _ :: _, _ :: _, h => ⟨h.1.2, Alike.wxl h.2⟩
  | [], _ :: _, h => h.elim
  | _ :: _, [], h => h.elim

/-- A row of words, in a slice of the call's own, is words that lie there. -/
theorem wordC_get (xs : List Te) (i : Nat) (h : i < xs.length) (j : Nat) (hj : j < 10) : (wordC xs)[i * 10 + j]? = (lwC xs[i].1).toList[j]? := by
  induction xs generalizing i with
  | nil => simp at h
  | cons x xs ih =>
    have e : wordC (x :: xs) = (lwC x.1).toList ++ wordC xs := by unfold wordC; rw [List.flatMap_cons]
    have hl : (lwC x.1).toList.length = 10 := by simp
    rw [e]
    match i, h with
    | 0, _ => rw [List.getElem?_append_left (by rw [hl]; omega), Nat.zero_mul, Nat.zero_add]; rfl
    | i + 1, h =>
      rw [List.getElem?_append_right (by rw [hl]; omega), hl, show (i + 1) * 10 + j - 10 = i * 10 + j from by omega]
      exact ih i (by simpa using h)
theorem row_words {W : World} {B : Nat} {v : Value} {xs : List Te} (h : W.ownsRow B 64 10 v xs.length (wordC xs)) : ∃ p c, v = .slice p xs.length c ∧ WordsAt W (.slice p xs.length c) (xs.map (·.1)) := by
  have hl : (xs.map (·.1)).length = xs.length := by simp
  rcases h.2 with ⟨rfl, h0⟩ | ⟨g, cap, cur, rfl, hb, hg, hc, hm, hs, ht⟩
  · have e : xs = [] := List.length_eq_zero_iff.1 h0
    subst e
    exact ⟨none, 0, rfl, none, 0, rfl, .inl ⟨rfl, rfl⟩⟩
  · refine ⟨_, _, rfl, _, cap, by rw [hl], .inr ⟨g, 0, rfl, (Array.getElem?_eq_some_iff.1 hg).1, fun i hi j u hu => ?_⟩⟩
    rw [hl] at hi
    have hj : j < 10 := by
      have := (Array.getElem?_eq_some_iff.1 hu).1
      simpa using this
    have e1 := wordC_get xs i hi j hj
    have e2 : (lwC xs[i].1).toList[j]? = some u := by
      rw [List.getElem_map] at hu
      simpa using hu
    rw [e2, ← ht, List.getElem?_take] at e1
    have hlt : i * 10 + j < xs.length * 10 := by omega
    rw [if_pos hlt] at e1
    unfold World.cell?
    simp only [hg, Nat.zero_add]
    simpa using e1

theorem words_ok (s : ByteArray) (hs : s.size ≤ 65536) (w : World) (hS : SignsIn w) (hM : MaxL w) (h : (lxA s.data.toList 0).2 = none) :
    Calls Tryd.prog 63 #[.string s] w fun e w' => ∃ p c l, e = .returned (.tuple #[.slice p l.length c, .int .i64 0, .int .i64 0]) ∧ WxL l (lxA s.data.toList 0).1 ∧ WordsAt w' (.slice p l.length c) l ∧ Below w.heap.size w w' := by
  refine (words_any s hs w hS hM).mono ?_
  rintro e w' ⟨hb, ⟨v, xs, rfl, _, hA, hr, _⟩ | ⟨a, h2, _⟩⟩
  · obtain ⟨p, c, rfl, hW⟩ := row_words hr
    refine ⟨p, c, xs.map (·.1), by rw [List.length_map], hA.wxl, ?_, hb⟩
    rw [List.length_map]
    exact hW
  · rw [h] at h2
    cases h2
theorem words_bad (s : ByteArray) (hs : s.size ≤ 65536) (w : World) (hS : SignsIn w) (hM : MaxL w) (a : Nat) (h : (lxA s.data.toList 0).2 = some a) :
    Calls Tryd.prog 63 #[.string s] w fun e w' => e = .returned (.tuple #[.slice none 0 0, .int .i64 a, .int .i64 4]) ∧ Below w.heap.size w w' := by
  refine (words_any s hs w hS hM).mono ?_
  rintro e w' ⟨hb, ⟨v, xs, _, h2, _⟩ | ⟨a', h2, rfl⟩⟩
  · rw [h] at h2
    cases h2
  · rw [h] at h2
    cases h2
    exact ⟨rfl, hb⟩

set_option maxRecDepth 100000 in
set_option maxHeartbeats 2000000 in
theorem wrong_any (s : ByteArray) (hs : s.size ≤ 65536) (r : Int) (w : World) (hS : SignsIn w) (hM : MaxL w) (h : (match (lxA s.data.toList 0).2 with | none => -1 | some a => (a : Int)) = r) :
    Calls Tryd.prog 94 #[.string s] w fun e w' => e = .returned (.int .i64 r) ∧ Below w.heap.size w w' := by
  cases hE : (lxA s.data.toList 0).2 with
  | none =>
    rw [hE] at h
    subst h
    have hW := words_ok s hs w hS hM hE
    clear hE
    go_enter Tryd.func94, Tryd.ntmps94
    go_wp2_with (go_at_call 63; refine hW.mono ?_; rintro e w' ⟨p, c, l, rfl, _, _, hb⟩)
    go_ret
    exact ⟨rfl, hb⟩
  | some a =>
    rw [hE] at h
    subst h
    have hW := words_bad s hs w hS hM a hE
    clear hE
    go_enter Tryd.func94, Tryd.ntmps94
    go_wp2_with (go_at_call 63; refine hW.mono ?_; rintro e w' ⟨rfl, hb⟩)
    go_ret
    exact ⟨rfl, hb⟩

set_option maxRecDepth 100000 in
set_option maxHeartbeats 2000000 in
theorem lparts_any (s : ByteArray) (hs : s.size ≤ 65536) (w : World) (hS : SignsIn w) (hM : MaxL w) (h : lxA s.data.toList 0 = ([], none)) :
    Calls Tryd.prog 65 #[.string s] w fun e w' => e = .returned (.bool true) ∧ Below w.heap.size w w' := by
  have hW := words_ok s hs w hS hM (by rw [h])
  rw [h] at hW
  clear h
  go_enter Tryd.func65, Tryd.ntmps65
  go_wp2_with (go_at_call 63; refine hW.mono ?_; rintro e w' ⟨p, c, l, rfl, hl, _, hb⟩; obtain rfl : l = [] := List.length_eq_zero_iff.1 hl.len)
  go_ret
  exact ⟨rfl, hb⟩

set_option maxRecDepth 100000 in
set_option maxHeartbeats 2000000 in
theorem lis_any (x : Lw) (w : World) :
    Calls Tryd.prog 93 #[lwV x, .int .u8 (x.kind : Nat), .int .i64 x.at_, .int .i64 x.to_, .string x.text] w fun e w' => e = .returned (.bool true) ∧ Below w.heap.size w w' := by
  obtain ⟨W1, hW1⟩ : ∃ W1, w.alloc (.cells (lwC x) 64) = W1 := ⟨_, rfl⟩
  have k1 : Cl W1 w.heap.size 64 (lwC x) := by rw [← hW1]; exact Cl.new w _ _
  have b1 : Below w.heap.size w W1 := by rw [← hW1]; exact (Below.refl w.heap.size w).alloc (Nat.le_refl _) _
  obtain ⟨⟨y0, y1, y2, y3, y4, y5, y6, y7, y8, y9⟩, yf⟩ := k1.ten
  go_enter Tryd.func93, Tryd.ntmps93
  go_upto_region 1 with fail
  clear hW1
  go_wp2
  go_ret
  exact ⟨rfl, b1⟩
end Go.Proofs.YtjeogbdeagkomaaDoor

/- bonsailaw06: works. Printed by l18gen.py. -/
namespace Go.Proofs.YtjeogbdeagkomaaDoor
open Go.RowKit Nm Bset Lm

theorem Wx.eq {x : Lw} {d : Wd} {a b : Int} (h : Wx x d a b) : x = ⟨d.kind, a, b, ⟨d.text.toArray⟩, x.set, d.low, d.high⟩ := by
  obtain ⟨k, xa, xb, t, s, lo, hi⟩ := x
  obtain ⟨rfl, rfl, rfl, h4, _, rfl, rfl⟩ := h
  have : t = ⟨d.text.toArray⟩ := by
    obtain ⟨⟨t⟩⟩ := t
    have h5 : t = d.text := h4
    rw [h5]
  rw [this]

/-- Words in a row of the call's own. -/
structure RowW (W : World) (g : Nat) (l : List Lw) : Prop where
  lt : g < W.heap.size
  all : ∀ i (h : i < l.length), TenAt W g (i * 10) l[i]
theorem RowW.below {W W' : World} {g : Nat} {l : List Lw} (h : RowW W g l) (hb : Below W.heap.size W W') : RowW W' g l := ⟨Nat.lt_of_lt_of_le h.lt hb.size, fun i hi => (h.all i hi).keep (hb.block g h.lt)⟩
theorem RowW.cell {W : World} {g : Nat} {l : List Lw} (h : RowW W g l) (i : Nat) (hi : i < l.length) (j k : Nat) (hk : k = i * 10 + j) {v : Value} (e : (lwC l[i])[j]? = some v) : W.cell? ⟨g, k, none⟩ = some v := by
  rw [hk]
  exact h.all i hi j v e
theorem row_words0 {W : World} {B : Nat} {v : Value} {xs : List Te} (h : W.ownsRow B 64 10 v xs.length (wordC xs)) (h0 : xs ≠ []) : ∃ g c, v = .slice (some ⟨g, 0, none⟩) xs.length c ∧ RowW W g (xs.map (·.1)) := by
  have hl : (xs.map (·.1)).length = xs.length := by simp
  rcases h.2 with ⟨rfl, h1⟩ | ⟨g, cap, cur, rfl, hb, hg, hc, hm, hs, ht⟩
  · exact absurd (List.length_eq_zero_iff.1 h1) h0
  · refine ⟨g, cap, rfl, (Array.getElem?_eq_some_iff.1 hg).1, fun i hi j u hu => ?_⟩
    rw [hl] at hi
    have hj : j < 10 := by
      have := (Array.getElem?_eq_some_iff.1 hu).1
      simpa using this
    have e1 := wordC_get xs i hi j hj
    have e2 : (lwC xs[i].1).toList[j]? = some u := by
      rw [List.getElem_map] at hu
      simpa using hu
    rw [e2, ← ht, List.getElem?_take] at e1
    have hlt : i * 10 + j < xs.length * 10 := by omega
    rw [if_pos hlt] at e1
    unfold World.cell?
    simp only [hg]
    simpa using e1
theorem words_row (s : ByteArray) (hs : s.size ≤ 65536) (w : World) (hS : SignsIn w) (hM : MaxL w) (h : (lxA s.data.toList 0).2 = none) (h0 : (lxA s.data.toList 0).1 ≠ []) :
    Calls Tryd.prog 63 #[.string s] w fun e w' => ∃ g c l, e = .returned (.tuple #[.slice (some ⟨g, 0, none⟩) l.length c, .int .i64 0, .int .i64 0]) ∧ WxL l (lxA s.data.toList 0).1 ∧ RowW w' g l ∧ Below w.heap.size w w' := by
  refine (words_any s hs w hS hM).mono ?_
  rintro e w' ⟨hb, ⟨v, xs, rfl, _, hA, hr, _⟩ | ⟨a, h2, _⟩⟩
  · obtain ⟨g, c, rfl, hW⟩ := row_words0 hr (fun e => by
      subst e
      exact h0 (List.length_eq_zero_iff.1 hA.len.symm))
    exact ⟨g, c, xs.map (·.1), by rw [List.length_map], hA.wxl, hW, hb⟩
  · rw [h] at h2
    cases h2

theorem lis_eq (x : Lw) (k a b : Int) (t : ByteArray) (w : World) (hk : (x.kind : Int) = k) (ha : x.at_ = a) (hb : x.to_ = b) (ht : x.text = t) :
    Calls Tryd.prog 93 #[lwV x, .int .u8 k, .int .i64 a, .int .i64 b, .string t] w fun e w' => e = .returned (.bool true) ∧ Below w.heap.size w w' := by
  subst hk ha hb ht
  exact lis_any x w

abbrev ex0 : ByteArray := ⟨#[97, 60, 45, 98, 35, 99, 10, 47, 123, 50, 44, 125]⟩
abbrev exW : List Pw := [(⟨1, [97], nul, 0, 0⟩, 0, 1), (bare 2, 1, 3), (⟨1, [98], nul, 0, 0⟩, 3, 4), (bare 3, 7, 8), (⟨14, [], nul, 2, -1⟩, 8, 12)]
theorem ex0_words : lxA ex0.data.toList 0 = (exW, none) := by kernel_rfl
theorem ex1_place : (lxA (⟨#[60, 32, 45]⟩ : ByteArray).data.toList 0).2 = some 2 := by kernel_rfl
theorem ex2_place : (lxA (⟨#[123, 50, 44, 49, 125]⟩ : ByteArray).data.toList 0).2 = some 0 := by kernel_rfl
theorem ex3_place : (lxA (⟨#[120, 32, 34, 97, 98]⟩ : ByteArray).data.toList 0).2 = some 2 := by kernel_rfl
theorem ex4_place : (lxA (⟨#[]⟩ : ByteArray).data.toList 0).2 = none := by kernel_rfl

theorem exW_eq {l : List Lw} (h : WxL l exW) : ∃ S0 S1 S2 S3 S4, l = [⟨1, 0, 1, ⟨#[97]⟩, S0, 0, 0⟩, ⟨2, 1, 3, ⟨#[]⟩, S1, 0, 0⟩, ⟨1, 3, 4, ⟨#[98]⟩, S2, 0, 0⟩, ⟨3, 7, 8, ⟨#[]⟩, S3, 0, 0⟩, ⟨14, 8, 12, ⟨#[]⟩, S4, 2, -1⟩] := by
  match l, h with
  | [x0, x1, x2, x3, x4], ⟨h0, h1, h2, h3, h4, _⟩ =>
    refine ⟨x0.set, x1.set, x2.set, x3.set, x4.set, ?_⟩
    have e0 := h0.eq
    have e1 := h1.eq
    have e2 := h2.eq
    have e3 := h3.eq
    have e4 := h4.eq
    simp only [List.cons.injEq, and_true]
    exact ⟨e0, e1, e2, e3, e4⟩

set_option maxRecDepth 100000 in
set_option maxHeartbeats 8000000 in
theorem lworks_any (w : World) (hS : SignsIn w) (hM : MaxL w) :
    Calls Tryd.prog 58 #[] w fun e w' => e = .returned (.bool true) ∧ Below w.heap.size w w' := by
  have hgS : 1 < w.heap.size := World.block_lt_of_cell? w _ (hS 2 (by omega))
  have hW := words_row ex0 (by decide) w hS hM (by rw [ex0_words]) (by rw [ex0_words]; simp)
  rw [ex0_words] at hW
  have hwr : ∀ (s : ByteArray) (r : Int) (W : World), s.size ≤ 65536 → Below w.heap.size w W → (match (lxA s.data.toList 0).2 with | none => -1 | some a => (a : Int)) = r → Calls Tryd.prog 94 #[.string s] W fun e w' => e = .returned (.int .i64 r) ∧ Below w.heap.size w w' := fun s r W hs hb h =>
    (wrong_any s hs r W (signs_below hS hb hgS) (hM.below_ hb (Nat.le_refl _)) h).mono fun _ _ ⟨h1, h2⟩ => ⟨h1, hb.trans (h2.mono hb.size)⟩
  have HQ0 := Lib.hid (fun W hb => hwr ⟨#[60, 32, 45]⟩ 2 W (by decide) hb (by rw [ex1_place]; try rfl))
  have HQ1 := Lib.hid (fun W hb => hwr ⟨#[123, 50, 44, 49, 125]⟩ 0 W (by decide) hb (by rw [ex2_place]; try rfl))
  have HQ2 := Lib.hid (fun W hb => hwr ⟨#[120, 32, 34, 97, 98]⟩ 2 W (by decide) hb (by rw [ex3_place]; try rfl))
  have HQ3 := Lib.hid (fun W hb => hwr ⟨#[]⟩ (-1) W (by decide) hb (by rw [ex4_place]; try rfl))
  have HW := Lib.hid hW
  clear hwr hW hS hM
  go_enter Tryd.func58, Tryd.ntmps58
  go_upto_region 2 with (go_at_call 63; refine HW.out.mono ?_; rintro e w1 ⟨g, c, l, rfl, hx, hr, hB⟩; obtain ⟨S0, S1, S2, S3, S4, rfl⟩ := exW_eq hx)
  simp only [List.append_eq, List.cons_append, List.nil_append]
  have c0 := hr.cell 0 (by simp) 0 0 rfl (show (lwC ⟨1, 0, 1, ⟨#[97]⟩, S0, 0, 0⟩)[0]? = some (.int .u8 1) from rfl)
  have c1 := hr.cell 0 (by simp) 1 1 rfl (show (lwC ⟨1, 0, 1, ⟨#[97]⟩, S0, 0, 0⟩)[1]? = some (.int .i64 0) from rfl)
  have c2 := hr.cell 0 (by simp) 2 2 rfl (show (lwC ⟨1, 0, 1, ⟨#[97]⟩, S0, 0, 0⟩)[2]? = some (.int .i64 1) from rfl)
  have c3 := hr.cell 0 (by simp) 3 3 rfl (show (lwC ⟨1, 0, 1, ⟨#[97]⟩, S0, 0, 0⟩)[3]? = some (.string ⟨#[97]⟩) from rfl)
  have c4 := hr.cell 0 (by simp) 4 4 rfl (show (lwC ⟨1, 0, 1, ⟨#[97]⟩, S0, 0, 0⟩)[4]? = some (.int .u64 (word S0 0 : Nat)) from rfl)
  have c5 := hr.cell 0 (by simp) 5 5 rfl (show (lwC ⟨1, 0, 1, ⟨#[97]⟩, S0, 0, 0⟩)[5]? = some (.int .u64 (word S0 1 : Nat)) from rfl)
  have c6 := hr.cell 0 (by simp) 6 6 rfl (show (lwC ⟨1, 0, 1, ⟨#[97]⟩, S0, 0, 0⟩)[6]? = some (.int .u64 (word S0 2 : Nat)) from rfl)
  have c7 := hr.cell 0 (by simp) 7 7 rfl (show (lwC ⟨1, 0, 1, ⟨#[97]⟩, S0, 0, 0⟩)[7]? = some (.int .u64 (word S0 3 : Nat)) from rfl)
  have c8 := hr.cell 0 (by simp) 8 8 rfl (show (lwC ⟨1, 0, 1, ⟨#[97]⟩, S0, 0, 0⟩)[8]? = some (.int .i64 0) from rfl)
  have c9 := hr.cell 0 (by simp) 9 9 rfl (show (lwC ⟨1, 0, 1, ⟨#[97]⟩, S0, 0, 0⟩)[9]? = some (.int .i64 0) from rfl)
  have hi0 : ∀ W, Calls Tryd.prog 93 #[.agg #[.int .u8 1, .int .i64 0, .int .i64 1, .string ⟨#[97]⟩, .int .u64 (word S0 0 : Nat), .int .u64 (word S0 1 : Nat), .int .u64 (word S0 2 : Nat), .int .u64 (word S0 3 : Nat), .int .i64 0, .int .i64 0], .int .u8 1, .int .i64 0, .int .i64 1, .string ⟨#[97]⟩] W fun e w' => e = .returned (.bool true) ∧ Below W.heap.size W w' := fun W => lis_eq ⟨1, 0, 1, ⟨#[97]⟩, S0, 0, 0⟩ 1 0 1 ⟨#[97]⟩ W rfl rfl rfl rfl
  have HI0 := Lib.hid hi0
  clear hi0
  have hi1 : ∀ W, Calls Tryd.prog 93 #[.agg #[.int .u8 2, .int .i64 1, .int .i64 3, .string ⟨#[]⟩, .int .u64 (word S1 0 : Nat), .int .u64 (word S1 1 : Nat), .int .u64 (word S1 2 : Nat), .int .u64 (word S1 3 : Nat), .int .i64 0, .int .i64 0], .int .u8 2, .int .i64 1, .int .i64 3, .string ⟨#[]⟩] W fun e w' => e = .returned (.bool true) ∧ Below W.heap.size W w' := fun W => lis_eq ⟨2, 1, 3, ⟨#[]⟩, S1, 0, 0⟩ 2 1 3 ⟨#[]⟩ W rfl rfl rfl rfl
  have HI1 := Lib.hid hi1
  clear hi1
  have hi2 : ∀ W, Calls Tryd.prog 93 #[.agg #[.int .u8 1, .int .i64 3, .int .i64 4, .string ⟨#[98]⟩, .int .u64 (word S2 0 : Nat), .int .u64 (word S2 1 : Nat), .int .u64 (word S2 2 : Nat), .int .u64 (word S2 3 : Nat), .int .i64 0, .int .i64 0], .int .u8 1, .int .i64 3, .int .i64 4, .string ⟨#[98]⟩] W fun e w' => e = .returned (.bool true) ∧ Below W.heap.size W w' := fun W => lis_eq ⟨1, 3, 4, ⟨#[98]⟩, S2, 0, 0⟩ 1 3 4 ⟨#[98]⟩ W rfl rfl rfl rfl
  have HI2 := Lib.hid hi2
  clear hi2
  have hi3 : ∀ W, Calls Tryd.prog 93 #[.agg #[.int .u8 3, .int .i64 7, .int .i64 8, .string ⟨#[]⟩, .int .u64 (word S3 0 : Nat), .int .u64 (word S3 1 : Nat), .int .u64 (word S3 2 : Nat), .int .u64 (word S3 3 : Nat), .int .i64 0, .int .i64 0], .int .u8 3, .int .i64 7, .int .i64 8, .string ⟨#[]⟩] W fun e w' => e = .returned (.bool true) ∧ Below W.heap.size W w' := fun W => lis_eq ⟨3, 7, 8, ⟨#[]⟩, S3, 0, 0⟩ 3 7 8 ⟨#[]⟩ W rfl rfl rfl rfl
  have HI3 := Lib.hid hi3
  clear hi3
  have hi4 : ∀ W, Calls Tryd.prog 93 #[.agg #[.int .u8 14, .int .i64 8, .int .i64 12, .string ⟨#[]⟩, .int .u64 (word S4 0 : Nat), .int .u64 (word S4 1 : Nat), .int .u64 (word S4 2 : Nat), .int .u64 (word S4 3 : Nat), .int .i64 2, .int .i64 (-1)], .int .u8 14, .int .i64 8, .int .i64 12, .string ⟨#[]⟩] W fun e w' => e = .returned (.bool true) ∧ Below W.heap.size W w' := fun W => lis_eq ⟨14, 8, 12, ⟨#[]⟩, S4, 2, -1⟩ 14 8 12 ⟨#[]⟩ W rfl rfl rfl rfl
  have HI4 := Lib.hid hi4
  clear hi4
  go_wp2_with (first
    | (go_at_call 93; (with_reducible refine (HI0.out _).mono ?_); rintro e v0 ⟨rfl, q0⟩; have hr1 := hr.below q0; have hB1 := hB.trans (q0.mono hB.size); have c0 := hr1.cell 1 (by simp) 0 10 rfl (show (lwC ⟨2, 1, 3, ⟨#[]⟩, S1, 0, 0⟩)[0]? = some (.int .u8 2) from rfl); have c1 := hr1.cell 1 (by simp) 1 11 rfl (show (lwC ⟨2, 1, 3, ⟨#[]⟩, S1, 0, 0⟩)[1]? = some (.int .i64 1) from rfl); have c2 := hr1.cell 1 (by simp) 2 12 rfl (show (lwC ⟨2, 1, 3, ⟨#[]⟩, S1, 0, 0⟩)[2]? = some (.int .i64 3) from rfl); have c3 := hr1.cell 1 (by simp) 3 13 rfl (show (lwC ⟨2, 1, 3, ⟨#[]⟩, S1, 0, 0⟩)[3]? = some (.string ⟨#[]⟩) from rfl); have c4 := hr1.cell 1 (by simp) 4 14 rfl (show (lwC ⟨2, 1, 3, ⟨#[]⟩, S1, 0, 0⟩)[4]? = some (.int .u64 (word S1 0 : Nat)) from rfl); have c5 := hr1.cell 1 (by simp) 5 15 rfl (show (lwC ⟨2, 1, 3, ⟨#[]⟩, S1, 0, 0⟩)[5]? = some (.int .u64 (word S1 1 : Nat)) from rfl); have c6 := hr1.cell 1 (by simp) 6 16 rfl (show (lwC ⟨2, 1, 3, ⟨#[]⟩, S1, 0, 0⟩)[6]? = some (.int .u64 (word S1 2 : Nat)) from rfl); have c7 := hr1.cell 1 (by simp) 7 17 rfl (show (lwC ⟨2, 1, 3, ⟨#[]⟩, S1, 0, 0⟩)[7]? = some (.int .u64 (word S1 3 : Nat)) from rfl); have c8 := hr1.cell 1 (by simp) 8 18 rfl (show (lwC ⟨2, 1, 3, ⟨#[]⟩, S1, 0, 0⟩)[8]? = some (.int .i64 0) from rfl); have c9 := hr1.cell 1 (by simp) 9 19 rfl (show (lwC ⟨2, 1, 3, ⟨#[]⟩, S1, 0, 0⟩)[9]? = some (.int .i64 0) from rfl))
    | (go_at_call 93; (with_reducible refine (HI1.out _).mono ?_); rintro e v1 ⟨rfl, q1⟩; have hr2 := hr1.below q1; have hB2 := hB1.trans (q1.mono hB1.size); have c0 := hr2.cell 2 (by simp) 0 20 rfl (show (lwC ⟨1, 3, 4, ⟨#[98]⟩, S2, 0, 0⟩)[0]? = some (.int .u8 1) from rfl); have c1 := hr2.cell 2 (by simp) 1 21 rfl (show (lwC ⟨1, 3, 4, ⟨#[98]⟩, S2, 0, 0⟩)[1]? = some (.int .i64 3) from rfl); have c2 := hr2.cell 2 (by simp) 2 22 rfl (show (lwC ⟨1, 3, 4, ⟨#[98]⟩, S2, 0, 0⟩)[2]? = some (.int .i64 4) from rfl); have c3 := hr2.cell 2 (by simp) 3 23 rfl (show (lwC ⟨1, 3, 4, ⟨#[98]⟩, S2, 0, 0⟩)[3]? = some (.string ⟨#[98]⟩) from rfl); have c4 := hr2.cell 2 (by simp) 4 24 rfl (show (lwC ⟨1, 3, 4, ⟨#[98]⟩, S2, 0, 0⟩)[4]? = some (.int .u64 (word S2 0 : Nat)) from rfl); have c5 := hr2.cell 2 (by simp) 5 25 rfl (show (lwC ⟨1, 3, 4, ⟨#[98]⟩, S2, 0, 0⟩)[5]? = some (.int .u64 (word S2 1 : Nat)) from rfl); have c6 := hr2.cell 2 (by simp) 6 26 rfl (show (lwC ⟨1, 3, 4, ⟨#[98]⟩, S2, 0, 0⟩)[6]? = some (.int .u64 (word S2 2 : Nat)) from rfl); have c7 := hr2.cell 2 (by simp) 7 27 rfl (show (lwC ⟨1, 3, 4, ⟨#[98]⟩, S2, 0, 0⟩)[7]? = some (.int .u64 (word S2 3 : Nat)) from rfl); have c8 := hr2.cell 2 (by simp) 8 28 rfl (show (lwC ⟨1, 3, 4, ⟨#[98]⟩, S2, 0, 0⟩)[8]? = some (.int .i64 0) from rfl); have c9 := hr2.cell 2 (by simp) 9 29 rfl (show (lwC ⟨1, 3, 4, ⟨#[98]⟩, S2, 0, 0⟩)[9]? = some (.int .i64 0) from rfl))
    | (go_at_call 93; (with_reducible refine (HI2.out _).mono ?_); rintro e v2 ⟨rfl, q2⟩; have hr3 := hr2.below q2; have hB3 := hB2.trans (q2.mono hB2.size); have c0 := hr3.cell 3 (by simp) 0 30 rfl (show (lwC ⟨3, 7, 8, ⟨#[]⟩, S3, 0, 0⟩)[0]? = some (.int .u8 3) from rfl); have c1 := hr3.cell 3 (by simp) 1 31 rfl (show (lwC ⟨3, 7, 8, ⟨#[]⟩, S3, 0, 0⟩)[1]? = some (.int .i64 7) from rfl); have c2 := hr3.cell 3 (by simp) 2 32 rfl (show (lwC ⟨3, 7, 8, ⟨#[]⟩, S3, 0, 0⟩)[2]? = some (.int .i64 8) from rfl); have c3 := hr3.cell 3 (by simp) 3 33 rfl (show (lwC ⟨3, 7, 8, ⟨#[]⟩, S3, 0, 0⟩)[3]? = some (.string ⟨#[]⟩) from rfl); have c4 := hr3.cell 3 (by simp) 4 34 rfl (show (lwC ⟨3, 7, 8, ⟨#[]⟩, S3, 0, 0⟩)[4]? = some (.int .u64 (word S3 0 : Nat)) from rfl); have c5 := hr3.cell 3 (by simp) 5 35 rfl (show (lwC ⟨3, 7, 8, ⟨#[]⟩, S3, 0, 0⟩)[5]? = some (.int .u64 (word S3 1 : Nat)) from rfl); have c6 := hr3.cell 3 (by simp) 6 36 rfl (show (lwC ⟨3, 7, 8, ⟨#[]⟩, S3, 0, 0⟩)[6]? = some (.int .u64 (word S3 2 : Nat)) from rfl); have c7 := hr3.cell 3 (by simp) 7 37 rfl (show (lwC ⟨3, 7, 8, ⟨#[]⟩, S3, 0, 0⟩)[7]? = some (.int .u64 (word S3 3 : Nat)) from rfl); have c8 := hr3.cell 3 (by simp) 8 38 rfl (show (lwC ⟨3, 7, 8, ⟨#[]⟩, S3, 0, 0⟩)[8]? = some (.int .i64 0) from rfl); have c9 := hr3.cell 3 (by simp) 9 39 rfl (show (lwC ⟨3, 7, 8, ⟨#[]⟩, S3, 0, 0⟩)[9]? = some (.int .i64 0) from rfl))
    | (go_at_call 93; (with_reducible refine (HI3.out _).mono ?_); rintro e v3 ⟨rfl, q3⟩; have hr4 := hr3.below q3; have hB4 := hB3.trans (q3.mono hB3.size); have c0 := hr4.cell 4 (by simp) 0 40 rfl (show (lwC ⟨14, 8, 12, ⟨#[]⟩, S4, 2, -1⟩)[0]? = some (.int .u8 14) from rfl); have c1 := hr4.cell 4 (by simp) 1 41 rfl (show (lwC ⟨14, 8, 12, ⟨#[]⟩, S4, 2, -1⟩)[1]? = some (.int .i64 8) from rfl); have c2 := hr4.cell 4 (by simp) 2 42 rfl (show (lwC ⟨14, 8, 12, ⟨#[]⟩, S4, 2, -1⟩)[2]? = some (.int .i64 12) from rfl); have c3 := hr4.cell 4 (by simp) 3 43 rfl (show (lwC ⟨14, 8, 12, ⟨#[]⟩, S4, 2, -1⟩)[3]? = some (.string ⟨#[]⟩) from rfl); have c4 := hr4.cell 4 (by simp) 4 44 rfl (show (lwC ⟨14, 8, 12, ⟨#[]⟩, S4, 2, -1⟩)[4]? = some (.int .u64 (word S4 0 : Nat)) from rfl); have c5 := hr4.cell 4 (by simp) 5 45 rfl (show (lwC ⟨14, 8, 12, ⟨#[]⟩, S4, 2, -1⟩)[5]? = some (.int .u64 (word S4 1 : Nat)) from rfl); have c6 := hr4.cell 4 (by simp) 6 46 rfl (show (lwC ⟨14, 8, 12, ⟨#[]⟩, S4, 2, -1⟩)[6]? = some (.int .u64 (word S4 2 : Nat)) from rfl); have c7 := hr4.cell 4 (by simp) 7 47 rfl (show (lwC ⟨14, 8, 12, ⟨#[]⟩, S4, 2, -1⟩)[7]? = some (.int .u64 (word S4 3 : Nat)) from rfl); have c8 := hr4.cell 4 (by simp) 8 48 rfl (show (lwC ⟨14, 8, 12, ⟨#[]⟩, S4, 2, -1⟩)[8]? = some (.int .i64 2) from rfl); have c9 := hr4.cell 4 (by simp) 9 49 rfl (show (lwC ⟨14, 8, 12, ⟨#[]⟩, S4, 2, -1⟩)[9]? = some (.int .i64 (-1)) from rfl))
    | (go_at_call 93; (with_reducible refine (HI4.out _).mono ?_); rintro e v4 ⟨rfl, q4⟩; have hr5 := hr4.below q4; have hB5 := hB4.trans (q4.mono hB4.size); have c0 := hr5.cell 4 (by simp) 0 40 rfl (show (lwC ⟨14, 8, 12, ⟨#[]⟩, S4, 2, -1⟩)[0]? = some (.int .u8 14) from rfl); have c1 := hr5.cell 4 (by simp) 1 41 rfl (show (lwC ⟨14, 8, 12, ⟨#[]⟩, S4, 2, -1⟩)[1]? = some (.int .i64 8) from rfl); have c2 := hr5.cell 4 (by simp) 2 42 rfl (show (lwC ⟨14, 8, 12, ⟨#[]⟩, S4, 2, -1⟩)[2]? = some (.int .i64 12) from rfl); have c3 := hr5.cell 4 (by simp) 3 43 rfl (show (lwC ⟨14, 8, 12, ⟨#[]⟩, S4, 2, -1⟩)[3]? = some (.string ⟨#[]⟩) from rfl); have c4 := hr5.cell 4 (by simp) 4 44 rfl (show (lwC ⟨14, 8, 12, ⟨#[]⟩, S4, 2, -1⟩)[4]? = some (.int .u64 (word S4 0 : Nat)) from rfl); have c5 := hr5.cell 4 (by simp) 5 45 rfl (show (lwC ⟨14, 8, 12, ⟨#[]⟩, S4, 2, -1⟩)[5]? = some (.int .u64 (word S4 1 : Nat)) from rfl); have c6 := hr5.cell 4 (by simp) 6 46 rfl (show (lwC ⟨14, 8, 12, ⟨#[]⟩, S4, 2, -1⟩)[6]? = some (.int .u64 (word S4 2 : Nat)) from rfl); have c7 := hr5.cell 4 (by simp) 7 47 rfl (show (lwC ⟨14, 8, 12, ⟨#[]⟩, S4, 2, -1⟩)[7]? = some (.int .u64 (word S4 3 : Nat)) from rfl); have c8 := hr5.cell 4 (by simp) 8 48 rfl (show (lwC ⟨14, 8, 12, ⟨#[]⟩, S4, 2, -1⟩)[8]? = some (.int .i64 2) from rfl); have c9 := hr5.cell 4 (by simp) 9 49 rfl (show (lwC ⟨14, 8, 12, ⟨#[]⟩, S4, 2, -1⟩)[9]? = some (.int .i64 (-1)) from rfl))
    | (go_at_call 94; (with_reducible refine (HQ0.out _ hB5).mono ?_); rintro e u0 ⟨rfl, hC1⟩)
    | (go_at_call 94; (with_reducible refine (HQ1.out _ hC1).mono ?_); rintro e u1 ⟨rfl, hC2⟩)
    | (go_at_call 94; (with_reducible refine (HQ2.out _ hC2).mono ?_); rintro e u2 ⟨rfl, hC3⟩)
    | (go_at_call 94; (with_reducible refine (HQ3.out _ hC3).mono ?_); rintro e u3 ⟨rfl, hC4⟩))
  go_ret
  exact ⟨rfl, hC4⟩
end Go.Proofs.YtjeogbdeagkomaaDoor

/- Where words stand in a text: one after the other. Maths of bonsailaw06. -/
namespace Go.Proofs.YtjeogbdeagkomaaDoor
open Go.RowKit Nm Bset Lm

/-- The words from k on are those from the i-th one on. -/
structure Wk (L : List UInt8) (k i : Nat) : Prop where
  le : k ≤ L.length
  fin : (lxA (L.drop k) k).2 = none
  rest : (lxA L 0).1.drop i = (lxA (L.drop k) k).1
theorem Wk.start {L : List UInt8} (h : (lxA L 0).2 = none) : Wk L 0 0 := ⟨Nat.zero_le _, by simpa using h, by simp⟩
/-- The next word. -/
structure Nx (L : List UInt8) (k i : Nat) (d : Wd) (a n : Nat) : Prop where
  get : (lxA L 0).1[i]? = some (d, a, a + n)
  ka : k ≤ a
  n1 : 1 ≤ n
  le : a + n ≤ L.length
  rd : rdw (L.drop a) = some (d, n)
  next : Wk L (a + n) (i + 1)
  part : lxA ((L.drop k).take (a - k)) 0 = ([], none)
  one : lxA ((L.drop a).take n) 0 = ([(d, 0, n)], none)
theorem Wk.step {L : List UInt8} {k i : Nat} (h : Wk L k i) (hi : i < (lxA L 0).1.length) : ∃ d a n, Nx L k i d a n := by
  have hr := h.rest
  rw [List.drop_eq_getElem_cons hi] at hr
  rcases lxA_cases (L.drop k) k with ⟨h1, e⟩ | ⟨h1, h2, e⟩ | ⟨h1, d, n, h2, h3, h4, e⟩
  · rw [e] at hr
    cases hr
  · rw [e] at hr
    cases hr
  · have hl := h.le
    rw [List.length_drop] at h4
    have hp := pg_drop (L.drop k)
    rw [List.drop_drop] at h2 hp
    have hf := h.fin
    rw [e] at hr hf
    rw [List.drop_drop, ← Nat.add_assoc] at hr hf
    simp only [List.cons.injEq] at hr
    refine ⟨d, k + pg (L.drop k), n, ?_, by omega, h3, by omega, h2, ⟨by omega, hf, hr.2⟩, ?_, ?_⟩
    · rw [List.getElem?_eq_getElem hi, hr.1]
    · rw [Nat.add_sub_cancel_left]
      exact lxA_part (L.drop k) 0
    · have := lxA_one (L.drop (k + pg (L.drop k))) d n 0 h2 hp
      rw [Nat.zero_add] at this
      exact this
theorem Wk.done {L : List UInt8} {k i : Nat} (h : Wk L k i) (hi : ¬ i < (lxA L 0).1.length) : lxA (L.drop k) 0 = ([], none) := by
  have hr := h.rest
  rw [List.drop_eq_nil_of_le (by omega)] at hr
  have hf := h.fin
  rcases lxA_cases (L.drop k) k with ⟨h1, e⟩ | ⟨h1, h2, e⟩ | ⟨h1, d, n, h2, h3, h4, e⟩
  · exact lxA_fin _ _ h1
  · rw [e] at hf
    cases hf
  · rw [e] at hr
    cases hr

theorem sameW_of {x y : Lw} (h1 : x.kind = y.kind) (h2 : x.at_ = y.at_) (h3 : x.to_ = y.to_) (h4 : x.text.data.toList = y.text.data.toList) (h5 : nset x.set = nset y.set) (h6 : x.low = y.low) (h7 : x.high = y.high) : sameW x y = true := by
  have e5 : sameS x.set y.set = true := sameS_iff.2 fun n hn => by
    have := congrFun h5 n
    unfold nset at this
    simpa [hn] using this
  unfold sameW
  rw [h1, h2, h3, e5, h6, h7, ByteArray.toList_eq, ByteArray.toList_eq, h4]
  simp
theorem Wx.same {x y : Lw} {d : Wd} {a b a' b' : Int} (h : Wx x d a b) (k : Wx y d a' b') : sameW x.bare y.bare = true :=
  sameW_of (h.kind.trans k.kind.symm) rfl rfl (h.text.trans k.text.symm) (h.set.trans k.set.symm) (h.low.trans k.low.symm) (h.high.trans k.high.symm)
theorem WxL.same : ∀ {l m : List Lw} {ps qs : List Pw}, WxL l ps → WxL m qs → ps.map (·.1) = qs.map (·.1) → sameL l m = true
  | [], [], [], [], _, _, _ => rfl
  | x :: l, y :: m, p :: ps, q :: qs, h, k, e => by
    simp only [List.map_cons, List.cons.injEq] at e
    have h1 := h.1
    rw [e.1] at h1
    unfold sameL
    rw [h1.same k.1, WxL.same h.2 k.2 e.2]
    rfl
  | [], _ :: _, [], [], _, k, _ => k.elim
  | _ :: _, [], [], _, h, _, _ => h.elim
  | _ :: _, _ :: _, [], _, h, _, _ => h.elim
  | [], _, _ :: _, _, h, _, _ => h.elim
  | [], [], [], _ :: _, _, k, _ => k.elim
  | [], _ :: _, [], _ :: _, _, _, e => by simp at e
  | _ :: _, [], _ :: _, [], _, _, e => by simp at e
  | _ :: _, [], _ :: _, _ :: _, _, k, _ => k.elim
  | _ :: _, _ :: _, _ :: _, [], _, k, _ => k.elim

theorem size_list (t : ByteArray) : t.data.toList.length = t.size := by simp
/-- What the maths calls a word that may be, May does. -/
theorem may_of {x : Lw} {d : Wd} {a b : Int} (h : Wx x d a b) (hd : MayW d) : mayW x = true ∧ x.kind < 256 ∧ x.text.size ≤ 255 := by
  obtain ⟨k, xa, xb, t, S, lo, hi⟩ := x
  have hz := size_list t
  obtain ⟨e1, _, _, e4, e5, e6, e7⟩ := h
  simp only at e1 e4 e5 e6 e7
  unfold mayW
  rcases hd with ⟨s, rfl, h1, h2, h3⟩ | ⟨n, h2, h13, rfl⟩ | ⟨p, q, rfl, hc⟩ | ⟨s, rfl, h2⟩ | ⟨T, rfl⟩
  · simp only at e1 e4 e5 e6 e7
    subst e1 e6 e7
    have hs : t.size = s.length := by rw [← hz, e4]
    refine ⟨?_, by simp, by simp only; omega⟩
    rw [Bool.and_eq_true]
    refine ⟨?_, sameW_of rfl rfl rfl rfl (by rw [e5]; exact nset_nul.symm) rfl rfl⟩
    show mayB t = true
    unfold mayB
    have : s.length ≠ 0 := fun e => h1 (List.length_eq_zero_iff.1 e)
    rw [e4, h3, hs]
    simp only [Bool.and_eq_true, decide_eq_true_eq]
    exact ⟨this, h2, trivial⟩
  · simp only [bare] at e1 e4 e5 e6 e7
    subst e1 e6 e7
    have ht : t.data.toList = (⟨#[]⟩ : ByteArray).data.toList := e4
    refine ⟨?_, by simp only; omega, by simp only; rw [← hz, e4]; simp⟩
    rw [Bool.and_eq_true]
    have n1 : ¬ k = 1 := by omega
    have n2 : ¬ k = 14 := by omega
    have n3 : ¬ k = 15 := by omega
    have n4 : ¬ k = 16 := by omega
    constructor
    · unfold fitsW
      simp only [n1, n2, n3, if_false]
      simp
      omega
    · have hj : justW ⟨k, xa, xb, t, S, 0, 0⟩ = ⟨k, 0, 0, ⟨#[]⟩, nul, 0, 0⟩ := by
        unfold justW
        simp only [n1, n2, n3, n4, if_false]
      rw [hj]
      exact sameW_of rfl rfl rfl ht (by simp only; rw [e5]; exact nset_nul.symm) rfl rfl
  · simp only at e1 e4 e5 e6 e7
    subst e1 e6 e7
    have ht : t.data.toList = (⟨#[]⟩ : ByteArray).data.toList := e4
    refine ⟨?_, by simp, by simp only; rw [← hz, e4]; simp⟩
    rw [Bool.and_eq_true]
    exact ⟨hc, sameW_of rfl rfl rfl ht (by rw [e5]; exact nset_nul.symm) rfl rfl⟩
  · simp only at e1 e4 e5 e6 e7
    subst e1 e6 e7
    have hs : t.size = s.length := by rw [← hz, e4]
    refine ⟨?_, by simp, by simp only; omega⟩
    rw [Bool.and_eq_true]
    refine ⟨?_, sameW_of rfl rfl rfl rfl (by rw [e5]; exact nset_nul.symm) rfl rfl⟩
    show decide (t.size ≤ 255) = true
    rw [decide_eq_true_eq]
    omega
  · simp only at e1 e4 e5 e6 e7
    subst e1 e6 e7
    have ht : t.data.toList = (⟨#[]⟩ : ByteArray).data.toList := e4
    refine ⟨?_, by simp, by simp only; rw [← hz, e4]; simp⟩
    rw [Bool.and_eq_true]
    exact ⟨rfl, sameW_of rfl rfl rfl ht rfl rfl rfl⟩

/-- Words lie in a row of the call's own, if there are any. -/
def RowP (W : World) (p : Option Addr) (l : List Lw) : Prop := l = [] ∨ ∃ g, p = some ⟨g, 0, none⟩ ∧ RowW W g l
theorem RowP.below {W W' : World} {p : Option Addr} {l : List Lw} (h : RowP W p l) (hb : Below W.heap.size W W') : RowP W' p l := h.imp id fun ⟨g, e, r⟩ => ⟨g, e, r.below hb⟩
theorem RowP.words {W : World} {p : Option Addr} {l : List Lw} (h : RowP W p l) (c : Nat) (hp : l = [] → p = none) : WordsAt W (.slice p l.length c) l := by
  rcases h with rfl | ⟨g, rfl, r⟩
  · exact ⟨p, c, rfl, .inl ⟨hp rfl, rfl⟩⟩
  · exact ⟨_, c, rfl, .inr ⟨g, 0, rfl, r.lt, fun i hi => by rw [Nat.zero_add]; exact r.all i hi⟩⟩
theorem words_all (s : ByteArray) (hs : s.size ≤ 65536) (w : World) (hS : SignsIn w) (hM : MaxL w) (h : (lxA s.data.toList 0).2 = none) :
    Calls Tryd.prog 63 #[.string s] w fun e w' => ∃ p c l, e = .returned (.tuple #[.slice p l.length c, .int .i64 0, .int .i64 0]) ∧ WxL l (lxA s.data.toList 0).1 ∧ RowP w' p l ∧ (l = [] → p = none) ∧ Below w.heap.size w w' := by
  refine (words_any s hs w hS hM).mono ?_
  rintro e w' ⟨hb, ⟨v, xs, rfl, _, hA, hr, hn⟩ | ⟨a, h2, _⟩⟩
  · by_cases h0 : xs = []
    · subst h0
      have := hn.2 rfl
      subst this
      exact ⟨none, 0, [], rfl, hA.wxl, .inl rfl, fun _ => rfl, hb⟩
    · obtain ⟨g, c, rfl, hW⟩ := row_words0 hr h0
      exact ⟨_, c, xs.map (·.1), by rw [List.length_map], hA.wxl, .inr ⟨g, rfl, hW⟩, fun e => absurd (List.map_eq_nil_iff.1 e) h0, hb⟩
  · rw [h] at h2
    cases h2
end Go.Proofs.YtjeogbdeagkomaaDoor

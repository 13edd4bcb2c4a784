/- Package lex: count. -/
import Derived.Test.YtjeogbdeagkomaaDoorVL6
import Derived.Test.YtjeogbdeagkomaaDoorVL3
import Derived.Test.YtjeogbdeagkomaaDoorVN2
namespace Go.Proofs.YtjeogbdeagkomaaDoor
open Go.RowKit Nm Bset Lm

abbrev toB (l : List UInt8) : ByteArray := ⟨l.toArray⟩
theorem toB_list (l : List UInt8) : (toB l).data.toList = l := by simp
theorem toB_size (l : List UInt8) : (toB l).size = l.length := by show l.toArray.size = _; simp

theorem cut_any (s : ByteArray) (c : UInt8) (hs : s.size < 4294967281) (w : World) (hM : MaxL w) :
    Calls Tryd.prog 153 #[.string s, .string ⟨#[c]⟩] w fun e w' => e = .returned (.tuple #[.string (toB (upto c s.data.toList)), .string (toB (s.data.toList.drop ((upto c s.data.toList).length + 1))), .bool (decide ((upto c s.data.toList).length < s.data.toList.length))]) ∧ ∃ k, w.drewN k = w' := by
  obtain ⟨m, hm⟩ := hM
  refine (sh_strings_Cut s ⟨#[c]⟩ m w hs hm).mono ?_
  rintro e w' ⟨he, k, rfl⟩
  have hsep : (⟨#[c]⟩ : ByteArray).data.toList = [c] := rfl
  rw [hsep, cut_upto] at he
  exact ⟨he, k, rfl⟩

/-- What count makes of the text within the braces. -/
def cntS (wi : List UInt8) : Bool := (numE (first wi) 99 == 0) && !(second wi).isEmpty
def cntH (wi : List UInt8) : Int := if cntS wi then numV (second wi) 99 else if (second wi).isEmpty && decide ((first wi).length < wi.length) then -1 else numV (first wi) 99
def cntE (wi : List UInt8) : Int := if cntS wi then numE (second wi) 99 else numE (first wi) 99

set_option maxRecDepth 100000 in
set_option maxHeartbeats 8000000 in
theorem count_rd (s : ByteArray) (h0 : 1 ≤ s.size) (hs : s.size ≤ 1048576) (w : World) (hM : MaxL w) :
    Calls Tryd.prog 147 #[.string s] w fun e w' => e = .returned (.tuple #[lwV ⟨14, 0, ((upto 125 (s.data.toList.drop 1)).length + 2 : Nat), ⟨#[]⟩, nul, numV (first (upto 125 (s.data.toList.drop 1))) 99, cntH (upto 125 (s.data.toList.drop 1))⟩,
      .bool (decide ((upto 125 (s.data.toList.drop 1)).length < (s.data.toList.drop 1).length) && (cntE (upto 125 (s.data.toList.drop 1)) == 0))]) ∧ Below w.heap.size w w' := by
  obtain ⟨q0, q1, q2, q3⟩ := word_nul
  obtain ⟨W1, hW1⟩ : ∃ W1, w.alloc (.cells lwZ 64) = W1 := ⟨_, rfl⟩
  have k1 : Cl W1 w.heap.size 64 lwZ := by rw [← hW1]; exact Cl.new w _ _
  have b0 : Below w.heap.size w W1 := by rw [← hW1]; exact (Below.refl w.heap.size w).alloc (Nat.le_refl _) _
  have M1 : MaxL W1 := by
    obtain ⟨m, hm⟩ := hM
    exact ⟨m, (b0.cell (p := ⟨3, 0, none⟩) (World.block_lt_of_cell? w _ hm)).trans hm⟩
  have hlen : s.data.toList.length = s.size := by simp
  have hex : (s.extract 1 s.size).data.toList = s.data.toList.drop 1 := extract_drop s 1
  have hc1 := fun W hW => cut_any (s.extract 1 s.size) 125 (by rw [ByteArray.size_extract]; omega) W hW
  rw [hex] at hc1
  obtain ⟨r, hr⟩ : ∃ r, r = s.data.toList.drop 1 := ⟨_, rfl⟩
  have hrl : r.length ≤ 1048576 := by rw [hr, List.length_drop]; omega
  rw [← hr] at hc1 ⊢
  obtain ⟨cl, hcl⟩ : ∃ cl, cl = decide ((upto 125 r).length < r.length) := ⟨_, rfl⟩
  rw [← hcl] at hc1 ⊢
  have hwl := upto_le 125 r
  obtain ⟨wi, hwi⟩ : ∃ wi, wi = upto 125 r := ⟨_, rfl⟩
  rw [← hwi] at hc1 hwl ⊢
  have hc2 := fun W hW => cut_any (toB wi) 44 (by rw [toB_size]; omega) W hW
  rw [toB_list] at hc2
  obtain ⟨tw, htw⟩ : ∃ tw, tw = decide ((first wi).length < wi.length) := ⟨_, rfl⟩
  obtain ⟨fi, hfi⟩ : ∃ fi, fi = first wi := ⟨_, rfl⟩
  obtain ⟨se, hse⟩ : ∃ se, se = second wi := ⟨_, rfl⟩
  have hc3 : ∀ W, MaxL W → Calls Tryd.prog 153 #[.string (toB wi), .string ⟨#[44]⟩] W fun e w' => e = .returned (.tuple #[.string (toB fi), .string (toB se), .bool tw]) ∧ ∃ k, W.drewN k = w' := fun W hW => by
    rw [hfi, hse, htw]
    exact hc2 W hW
  have hfl : fi.length ≤ 1048576 := by
    rw [hfi]
    have := upto_le 44 wi
    unfold first
    omega
  have hsl : se.length ≤ 1048576 := by rw [hse]; unfold second; rw [List.length_drop]; omega
  have hn1 := fun W => (num_any (toB fi) (by rw [toB_size]; omega) 99 (by decide) (by decide) W).mono fun _ _ h => (⟨h.1, h.2.symm⟩ : _ ∧ W = _)
  have hn2 := fun W => (num_any (toB se) (by rw [toB_size]; omega) 99 (by decide) (by decide) W).mono fun _ _ h => (⟨h.1, h.2.symm⟩ : _ ∧ W = _)
  rw [toB_list] at hn1 hn2
  obtain ⟨v1, hv1⟩ : ∃ v1, v1 = numV fi 99 := ⟨_, rfl⟩
  obtain ⟨e1, he1⟩ : ∃ e1, e1 = numE fi 99 := ⟨_, rfl⟩
  obtain ⟨v2, hv2⟩ : ∃ v2, v2 = numV se 99 := ⟨_, rfl⟩
  obtain ⟨e2, he2⟩ : ∃ e2, e2 = numE se 99 := ⟨_, rfl⟩
  have hH : cntH wi = if (e1 == 0) && !se.isEmpty then v2 else if se.isEmpty && tw then -1 else v1 := by
    unfold cntH cntS
    rw [← hse, ← hfi, ← he1, ← hv1, ← hv2, htw, ← hfi]
  have hE : cntE wi = if (e1 == 0) && !se.isEmpty then e2 else e1 := by
    unfold cntE cntS
    rw [← hse, ← hfi, ← he1, ← he2]
  rw [← hfi, ← hv1, hH, hE]
  rw [← hv1, ← he1] at hn1
  rw [← hv2, ← he2] at hn2
  have hws : (toB wi).size = wi.length := toB_size wi
  have hsz : wi.length ≤ 1048576 := by omega
  have hw2 : wrap64 (2 + (wi.length : Int)) = ((wi.length + 2 : Nat) : Int) := by unfold wrap64; omega
  have HW2 := Lib.hid hw2
  have n1 : (1 : Int) ≤ (s.size : Int) := by omega
  have k10 := k1.ten
  have M3 : ∀ k, MaxL (W1.drewN k) := fun _ => M1
  have hC1 := Lib.hid (hc1 W1 M1)
  have hC3 := Lib.hid (fun k => hc3 (W1.drewN k) (M3 k))
  have hN1 := Lib.hid hn1
  have hN2 := Lib.hid hn2
  clear hc1 hc2 hc3 hn1 hn2 hH hE hv1 he1 hv2 he2 hfi hse htw hwi hcl hr hex hM M1 M3 hw2 hlen hwl hrl hfl hsl
  go_enter Tryd.func147, Tryd.ntmps147
  go_upto_region 2 with (go_at_call 153; refine hC1.out.mono ?_; rintro e w2 ⟨rfl, d1, rfl⟩)
  clear hC1 hW1
  go_upto_region 3 with (go_at_call 153; refine (hC3.out _).mono ?_; rintro e w2 ⟨rfl, d2, rfl⟩)
  clear hC3
  obtain ⟨W2, hW2⟩ : ∃ W2, W1.drewN (d1 + d2) = W2 := ⟨_, rfl⟩
  have k2 : Cl W2 w.heap.size 64 lwZ := by rw [← hW2]; exact k1.drewN _
  have b2 : Below w.heap.size w W2 := by rw [← hW2]; exact below_drewN b0 _
  rw [hW2]
  clear hW2 k10 k1 b0
  obtain ⟨⟨y0, y1, y2, y3, y4, y5, y6, y7, y8, y9⟩, yf⟩ := k2.ten
  have hcm : (2 : Int) + (wi.length : Int) = (wi.length : Int) + 2 := Int.add_comm _ _
  have HCM := Lib.hid hcm
  clear hcm
  cases t1 : (e1 == 0) with
  | true =>
    cases se with
    | nil =>
      have z1 : (toB []).toList.isEmpty = true := by simp
      cases tw with
      | true =>
        go_upto_region 4 with (go_at_call 167; ((with_reducible refine (hN1.out _).mono ?_); rintro e w2 ⟨rfl, rfl⟩))
        clear hN1
        clear hN2
        go_upto_region 9 with fail
        clear z1 hws
        cases cl
        all_goals go_wp2
        all_goals refine end_word_bool (T := 64) (Cl.set10 k2 _ _ _ _ _ _ _ _ _ _) rfl rfl rfl rfl ⟨?_, below_set10 b2 (Nat.le_refl _) _ _ _ _ _ _ _ _ _ _⟩
        all_goals (simp only [lwV, lwC, q0, q1, q2, q3, HCM.out]; rfl)
      | false =>
        go_upto_region 4 with (go_at_call 167; ((with_reducible refine (hN1.out _).mono ?_); rintro e w2 ⟨rfl, rfl⟩))
        clear hN1
        clear hN2
        go_upto_region 9 with fail
        clear z1 hws
        cases cl
        all_goals go_wp2
        all_goals refine end_word_bool (T := 64) (Cl.set10 k2 _ _ _ _ _ _ _ _ _ _) rfl rfl rfl rfl ⟨?_, below_set10 b2 (Nat.le_refl _) _ _ _ _ _ _ _ _ _ _⟩
        all_goals (simp only [lwV, lwC, q0, q1, q2, q3, HCM.out]; rfl)
    | cons b l =>
      have z1 : (toB (b :: l)).toList.isEmpty = false := by simp
      cases tw with
      | true =>
        go_upto_region 4 with (go_at_call 167; ((with_reducible refine (hN1.out _).mono ?_); rintro e w2 ⟨rfl, rfl⟩))
        clear hN1
        go_upto_region 9 with (go_at_call 167; ((with_reducible refine (hN2.out _).mono ?_); rintro e w2 ⟨rfl, rfl⟩))
        clear hN2
        clear z1 hws
        cases cl
        all_goals go_wp2
        all_goals refine end_word_bool (T := 64) (Cl.set10 k2 _ _ _ _ _ _ _ _ _ _) rfl rfl rfl rfl ⟨?_, below_set10 b2 (Nat.le_refl _) _ _ _ _ _ _ _ _ _ _⟩
        all_goals (simp only [lwV, lwC, q0, q1, q2, q3, HCM.out]; rfl)
      | false =>
        go_upto_region 4 with (go_at_call 167; ((with_reducible refine (hN1.out _).mono ?_); rintro e w2 ⟨rfl, rfl⟩))
        clear hN1
        go_upto_region 9 with (go_at_call 167; ((with_reducible refine (hN2.out _).mono ?_); rintro e w2 ⟨rfl, rfl⟩))
        clear hN2
        clear z1 hws
        cases cl
        all_goals go_wp2
        all_goals refine end_word_bool (T := 64) (Cl.set10 k2 _ _ _ _ _ _ _ _ _ _) rfl rfl rfl rfl ⟨?_, below_set10 b2 (Nat.le_refl _) _ _ _ _ _ _ _ _ _ _⟩
        all_goals (simp only [lwV, lwC, q0, q1, q2, q3, HCM.out]; rfl)
  | false =>
    cases se with
    | nil =>
      have z1 : (toB []).toList.isEmpty = true := by simp
      cases tw with
      | true =>
        go_upto_region 4 with (go_at_call 167; ((with_reducible refine (hN1.out _).mono ?_); rintro e w2 ⟨rfl, rfl⟩))
        clear hN1
        clear hN2
        go_upto_region 9 with fail
        clear z1 hws
        cases cl
        all_goals go_wp2
        all_goals refine end_word_bool (T := 64) (Cl.set10 k2 _ _ _ _ _ _ _ _ _ _) rfl rfl rfl rfl ⟨?_, below_set10 b2 (Nat.le_refl _) _ _ _ _ _ _ _ _ _ _⟩
        all_goals (simp only [lwV, lwC, q0, q1, q2, q3, HCM.out]; rfl)
      | false =>
        go_upto_region 4 with (go_at_call 167; ((with_reducible refine (hN1.out _).mono ?_); rintro e w2 ⟨rfl, rfl⟩))
        clear hN1
        clear hN2
        go_upto_region 9 with fail
        clear z1 hws
        cases cl
        all_goals go_wp2
        all_goals refine end_word_bool (T := 64) (Cl.set10 k2 _ _ _ _ _ _ _ _ _ _) rfl rfl rfl rfl ⟨?_, below_set10 b2 (Nat.le_refl _) _ _ _ _ _ _ _ _ _ _⟩
        all_goals (simp only [lwV, lwC, q0, q1, q2, q3, HCM.out]; rfl)
    | cons b l =>
      have z1 : (toB (b :: l)).toList.isEmpty = false := by simp
      cases tw with
      | true =>
        go_upto_region 4 with (go_at_call 167; ((with_reducible refine (hN1.out _).mono ?_); rintro e w2 ⟨rfl, rfl⟩))
        clear hN1
        clear hN2
        go_upto_region 9 with fail
        clear z1 hws
        cases cl
        all_goals go_wp2
        all_goals refine end_word_bool (T := 64) (Cl.set10 k2 _ _ _ _ _ _ _ _ _ _) rfl rfl rfl rfl ⟨?_, below_set10 b2 (Nat.le_refl _) _ _ _ _ _ _ _ _ _ _⟩
        all_goals (simp only [lwV, lwC, q0, q1, q2, q3, HCM.out]; rfl)
      | false =>
        go_upto_region 4 with (go_at_call 167; ((with_reducible refine (hN1.out _).mono ?_); rintro e w2 ⟨rfl, rfl⟩))
        clear hN1
        clear hN2
        go_upto_region 9 with fail
        clear z1 hws
        cases cl
        all_goals go_wp2
        all_goals refine end_word_bool (T := 64) (Cl.set10 k2 _ _ _ _ _ _ _ _ _ _) rfl rfl rfl rfl ⟨?_, below_set10 b2 (Nat.le_refl _) _ _ _ _ _ _ _ _ _ _⟩
        all_goals (simp only [lwV, lwC, q0, q1, q2, q3, HCM.out]; rfl)
end Go.Proofs.YtjeogbdeagkomaaDoor

/- The examples of package name, as each law asks them. -/
import Derived.Test.YtlekhoicdmgbcaaDoorN5
import Derived.Test.YtlekhoicdmgbcaaDoorN2
import Derived.Deep.RegionHeld3
namespace Go.Proofs.YtlekhoicdmgbcaaDoor
open Go.RowKit Nm

/-- What a world of a call keeps: the table of tens, and all that lay when the call began. -/
structure Lie (w W : World) : Prop where
  tab : Tens W
  pos : 1 < W.heap.size
  low : Below w.heap.size w W

theorem Lie.start {w : World} (hT : Tens w) (hg : 1 < w.heap.size) : Lie w w := ⟨hT, hg, Below.refl _ _⟩
theorem Lie.step {w W W' : World} (h : Lie w W) (hb : Below W.heap.size W W') : Lie w W' := ⟨h.tab.below hb h.pos, Nat.lt_of_lt_of_le h.pos hb.size, h.low.trans (hb.mono h.low.size)⟩
theorem Lie.drew {w W : World} (h : Lie w W) : Lie w W.drew := ⟨h.tab, h.pos, h.low.drew⟩
theorem Lie.alloc {w W : World} (h : Lie w W) (o : Obj) : Lie w (W.alloc o) := h.step ((Below.refl _ W).alloc (Nat.le_refl _) o)

theorem num_at (s : ByteArray) (hs : s.size < 9223372036854775807) (most v e : Int) (hm0 : -9223372036854775808 ≤ most) (hm1 : most ≤ 9223372036854775807) (hv : numV s.data.toList most = v) (he : numE s.data.toList most = e) (w : World) :
    Calls Tryd.prog 15 #[.string s, .int .i64 most] w fun e' w' => e' = .returned (.tuple #[.int .i64 v, .int .i64 e]) ∧ w' = w := by
  subst hv he
  exact num_any s hs most hm0 hm1 w
theorem may_at (s : ByteArray) (hs : s.size < 9223372036854775807) (r : Bool) (h : mayB s = r) (w : World) :
    Calls Tryd.prog 11 #[.string s] w fun e w' => e = .returned (.bool r) ∧ w' = w := by
  subst h
  exact may_any s hs w
theorem take_at (s : ByteArray) (hs : s.size ≤ 281474976710656) (r : ByteArray) (h : takeS s = r) (w : World) :
    Calls Tryd.prog 13 #[.string s] w fun e w' => e = .returned (.string r) ∧ Below w.heap.size w w' := by
  subst h
  exact take_any s hs w
theorem show_at (n : Int) (h0 : -9223372036854775808 ≤ n) (h1 : n ≤ 9223372036854775807) (r : ByteArray) (h : showB n = r) (w : World) (ht : Tens w) :
    Calls Tryd.prog 16 #[.int .i64 n] w fun e w' => e = .returned (.string r) ∧ Below w.heap.size w w' := by
  subst h
  exact show_any n h0 h1 w ht
theorem free_at (stem : ByteArray) (hs : stem.size ≤ 281474976710656) (us : List ByteArray) (hu : ∀ u ∈ us, u.size ≤ maxLen) (hl : us.length < maxLen) (r : ByteArray) (hr : FreeAns stem us r) (v : Value) (w : World) (hv : Strs w v us) (hT : Tens w) (hg0 : 1 < w.heap.size) :
    Calls Tryd.prog 18 #[.string stem, v] w fun e w' => e = .returned (.string r) ∧ Below w.heap.size w w' := by
  refine (free_any stem hs us hu hl v w hv hT hg0).mono ?_
  rintro e w' ⟨r', rfl, h, hb⟩
  rw [h.one hr]
  exact ⟨rfl, hb⟩

theorem f_a3 : FreeAns ⟨#[97]⟩ [⟨#[97]⟩, ⟨#[97, 50]⟩] ⟨#[97, 51]⟩ := by
  have e0 : cand ⟨#[97]⟩ 0 = ⟨#[97]⟩ := rfl
  have e1 : cand ⟨#[97]⟩ 1 = ⟨#[97, 50]⟩ := by decide +kernel
  have e2 : cand ⟨#[97]⟩ 2 = ⟨#[97, 51]⟩ := by decide +kernel
  refine ⟨2, fun j hj => ?_, Or.inl ⟨e2.symm, ?_, ?_⟩⟩
  · match j, hj with
    | 0, _ => exact ⟨by rw [e0]; decide +kernel, by rw [e0]; simp⟩
    | 1, _ => exact ⟨by rw [e1]; decide +kernel, by rw [e1]; simp⟩
  · rw [e2]; decide +kernel
  · rw [e2]; simp
theorem x1 : numV [48, 55] 9 = 0 := by decide +kernel
theorem x2 : numE [48, 55] 9 = 4 := by decide +kernel
theorem x3 : numV [49, 50] 11 = 0 := by decide +kernel
theorem x4 : numE [49, 50] 11 = 40 := by decide +kernel
theorem x5 : mayB ⟨#[97, 95, 49]⟩ = true := by decide +kernel
theorem x6 : mayB ⟨#[95]⟩ = true := by decide +kernel
theorem x7 : mayB ⟨#[90, 57]⟩ = true := by decide +kernel
theorem x8 : mayB ⟨#[49, 97]⟩ = false := by decide +kernel
theorem x9 : mayB ⟨#[]⟩ = false := by decide +kernel
theorem x10 : mayB ⟨#[97, 45, 98]⟩ = false := by decide +kernel
theorem x11 : takeS ⟨#[97, 98, 43, 99]⟩ = ⟨#[97, 98]⟩ := by decide +kernel
theorem x12 : showB (-5) = ⟨#[45, 53]⟩ := by decide +kernel

theorem strs_two (W : World) : Strs (W.alloc (.cells #[.string ⟨#[97]⟩, .string ⟨#[97, 50]⟩] 9)) (.slice (some ⟨W.heap.size, 0, none⟩) 2 2) [⟨#[97]⟩, ⟨#[97, 50]⟩] := by
  have h : Cl (W.alloc (.cells #[.string ⟨#[97]⟩, .string ⟨#[97, 50]⟩] 9)) W.heap.size 9 #[.string ⟨#[97]⟩, .string ⟨#[97, 50]⟩] := Cl.new _ _ _
  refine .inr (.inr ⟨W.heap.size, 0, 2, rfl, h.lt, fun j hj => ?_⟩)
  rw [h.cell]
  match j, hj with
  | 0, _ => rfl
  | 1, _ => rfl

set_option maxRecDepth 100000 in
set_option maxHeartbeats 2000000 in
theorem works_any (w : World) (hT : Tens w) (hg : 1 < w.heap.size) :
    Calls Tryd.prog 10 #[] w fun e w' => e = .returned (.bool true) ∧ Below w.heap.size w w' := by
  have L0 := Lie.start hT hg
  go_enter Tryd.func10, Tryd.ntmps10
  go_wp2_with (first
    | (go_at_call_of 15 (Value.string ⟨#[48, 55]⟩); refine (num_at _ (by decide) _ 0 4 (by decide) (by decide) x1 x2 _).mono ?_; rintro e w' ⟨rfl, rfl⟩)
    | (go_at_call_of 15 (Value.string ⟨#[49, 50]⟩); refine (num_at _ (by decide) _ 0 40 (by decide) (by decide) x3 x4 _).mono ?_; rintro e w' ⟨rfl, rfl⟩)
    | (go_at_call_of 11 (Value.string ⟨#[97, 95, 49]⟩); refine (may_at _ (by decide) true x5 _).mono ?_; rintro e w' ⟨rfl, rfl⟩)
    | (go_at_call_of 11 (Value.string ⟨#[95]⟩); refine (may_at _ (by decide) true x6 _).mono ?_; rintro e w' ⟨rfl, rfl⟩)
    | (go_at_call_of 11 (Value.string ⟨#[90, 57]⟩); refine (may_at _ (by decide) true x7 _).mono ?_; rintro e w' ⟨rfl, rfl⟩)
    | (go_at_call_of 11 (Value.string ⟨#[49, 97]⟩); refine (may_at _ (by decide) false x8 _).mono ?_; rintro e w' ⟨rfl, rfl⟩)
    | (go_at_call_of 11 (Value.string ⟨#[]⟩); refine (may_at _ (by decide) false x9 _).mono ?_; rintro e w' ⟨rfl, rfl⟩)
    | (go_at_call_of 11 (Value.string ⟨#[97, 45, 98]⟩); refine (may_at _ (by decide) false x10 _).mono ?_; rintro e w' ⟨rfl, rfl⟩)
    | (go_at_call 13; refine (take_at _ (by decide) _ x11 _).mono ?_; rintro e w1 ⟨rfl, hb1⟩; have L1 := L0.step hb1; clear L0)
    | (go_at_call 16; refine (show_at _ (by decide) (by decide) _ x12 _ L1.tab).mono ?_; rintro e w2 ⟨rfl, hb2⟩; have L2 := (L1.step hb2); clear L1)
    | (go_at_call 18; refine (free_at _ (by decide) _ (by decide) (by decide) _ f_a3 _ _ (strs_two w2) (L2.alloc _).tab (L2.alloc _).pos).mono ?_; rintro e w3 ⟨rfl, hb3⟩; have L3 := ((L2.alloc _).step hb3); clear L2))
  go_ret
  exact ⟨rfl, L3.low⟩
end Go.Proofs.YtlekhoicdmgbcaaDoor

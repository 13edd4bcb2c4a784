/- The examples of package quote, as each law asks them first. -/
import Derived.Deep.RegionHeld3
import Derived.Test.YtkhokhmdiagckaaDoorQ14
namespace Go.Proofs.YtkhokhmdiagckaaDoor
open Go.RowKit Go.Maps Go.Shelf Bset Qm

theorem lit_to (s : ByteArray) (l : List UInt8) (hs : s.size ≤ 1048576) (h : litT s.data.toList = l) (w : World) :
    Calls Tryd.prog 7 #[.string s] w fun e w' => e = .returned (.string ⟨l.toArray⟩) ∧ Below w.heap.size w w' := by
  subst h
  exact literal_any s hs w
theorem cls_to {w W : World} (S : Nat → Bool) (l : List UInt8) (h : clsT S = l) (hL : Lies w W) :
    Calls Tryd.prog 9 #[setV S] W fun e w' => e = .returned (.string ⟨l.toArray⟩) ∧ Below W.heap.size W w' := by
  subst h
  exact class_any S W hL.tab hL.pos
theorem cls_zero {w W : World} (hL : Lies w W) :
    Calls Tryd.prog 9 #[.agg #[.int .u64 0, .int .u64 0, .int .u64 0, .int .u64 0]] W fun e w' => e = .returned (.string ⟨#[91, 93]⟩) ∧ Below W.heap.size W w' := by
  have h := cls_to (fun _ => false) [91, 93] (by decide +kernel) hL
  rw [setV_none] at h
  exact h

theorem below_to {W W' : World} (hb : Below W.heap.size W W') {b j : Nat} {v : Value} (l : b < W.heap.size) (h : W.cell? ⟨b, j, none⟩ = some v) : W'.cell? ⟨b, j, none⟩ = some v := (hb.cell (p := ⟨b, j, none⟩) l).trans h
theorem box_keep {w W W' : World} {p : Nat} {X : Nat → Bool} (hb : Below W.heap.size W W') (h : W.cell? ⟨p, 0, none⟩ = some (.int .u64 (word X 0 : Nat)) ∧ W.cell? ⟨p, 1, none⟩ = some (.int .u64 (word X 1 : Nat)) ∧ W.cell? ⟨p, 2, none⟩ = some (.int .u64 (word X 2 : Nat)) ∧ W.cell? ⟨p, 3, none⟩ = some (.int .u64 (word X 3 : Nat)) ∧ Lies w W) : W'.cell? ⟨p, 0, none⟩ = some (.int .u64 (word X 0 : Nat)) ∧ W'.cell? ⟨p, 1, none⟩ = some (.int .u64 (word X 1 : Nat)) ∧ W'.cell? ⟨p, 2, none⟩ = some (.int .u64 (word X 2 : Nat)) ∧ W'.cell? ⟨p, 3, none⟩ = some (.int .u64 (word X 3 : Nat)) ∧ Lies w W' := by
  obtain ⟨a0, a1, a2, a3, hL⟩ := h
  have l0 := World.block_lt_of_cell? W _ a0
  exact ⟨below_to hb l0 a0, below_to hb l0 a1, below_to hb l0 a2, below_to hb l0 a3, hL.step hb⟩
theorem box_drew {w W : World} {p : Nat} {X : Nat → Bool} (h : W.cell? ⟨p, 0, none⟩ = some (.int .u64 (word X 0 : Nat)) ∧ W.cell? ⟨p, 1, none⟩ = some (.int .u64 (word X 1 : Nat)) ∧ W.cell? ⟨p, 2, none⟩ = some (.int .u64 (word X 2 : Nat)) ∧ W.cell? ⟨p, 3, none⟩ = some (.int .u64 (word X 3 : Nat)) ∧ Lies w W) : W.drew.cell? ⟨p, 0, none⟩ = some (.int .u64 (word X 0 : Nat)) ∧ W.drew.cell? ⟨p, 1, none⟩ = some (.int .u64 (word X 1 : Nat)) ∧ W.drew.cell? ⟨p, 2, none⟩ = some (.int .u64 (word X 2 : Nat)) ∧ W.drew.cell? ⟨p, 3, none⟩ = some (.int .u64 (word X 3 : Nat)) ∧ Lies w W.drew := by
  obtain ⟨a0, a1, a2, a3, hL⟩ := h
  exact ⟨a0, a1, a2, a3, hL.drew⟩
theorem box_low {w W : World} {p : Nat} {X : Nat → Bool} (h : W.cell? ⟨p, 0, none⟩ = some (.int .u64 (word X 0 : Nat)) ∧ W.cell? ⟨p, 1, none⟩ = some (.int .u64 (word X 1 : Nat)) ∧ W.cell? ⟨p, 2, none⟩ = some (.int .u64 (word X 2 : Nat)) ∧ W.cell? ⟨p, 3, none⟩ = some (.int .u64 (word X 3 : Nat)) ∧ Lies w W) : Below w.heap.size w W := h.2.2.2.2.low

def notA : Nat → Bool := (uncls [91, 94, 97, 93]).1
theorem not_a : uncls [91, 94, 97, 93] = (notA, 4, 0) := by
  have h : (uncls [91, 94, 97, 93]).2 = (4, 0) := by decide +kernel
  exact Prod.ext rfl h
theorem wr1 : uncls [91, 98, 45, 97, 93] = (fun _ => false, 1, 4) := by
  have h : (uncls [91, 98, 45, 97, 93]).2 = (1, 4) := by decide +kernel
  exact Prod.ext (uncls_bad _ (by rw [h]; decide)).1 h
theorem wr2 : uncls [91, 97] = (fun _ => false, 2, 8) := by
  have h : (uncls [91, 97]).2 = (2, 8) := by decide +kernel
  exact Prod.ext (uncls_bad _ (by rw [h]; decide)).1 h
theorem wr3 : uncls [91, 97, 94, 93] = (fun _ => false, 2, 4) := by
  have h : (uncls [91, 97, 94, 93]).2 = (2, 4) := by decide +kernel
  exact Prod.ext (uncls_bad _ (by rw [h]; decide)).1 h
theorem not_a_same : sameS notA (fun n => !ofT [97] n) = true := by decide +kernel
theorem cl1 : clsT (ofT [97, 98, 99, 100, 45]) = [91, 92, 45, 97, 45, 100, 93] := by decide +kernel
theorem cl2 : clsT (ofT [97, 98]) = [91, 97, 98, 93] := by decide +kernel
theorem cl3 : clsT (fun _ => true) = [46] := by decide +kernel
theorem tx1 : unlit [34, 92, 120, 52, 65, 34, 120] = ([74], 6, 0) := by decide +kernel

set_option maxRecDepth 100000 in
set_option maxHeartbeats 4000000 in
theorem awake_any (w : World) (hT : TabIn w) (hg : 0 < w.heap.size) :
    Calls Tryd.prog 6 #[] w fun e w' => e = .returned (.bool true) ∧ Below w.heap.size w w' := by
  have L0 := Lies.start hT hg
  obtain ⟨V1, O1, H1⟩ : ∃ V, Hid (∀ W, Calls Tryd.prog 14 #[.string ⟨#[97, 98, 99, 100, 45]⟩] W fun e w' => e = .returned V ∧ Below W.heap.size W w') ∧ Hid (∀ W, Lies w W → Calls Tryd.prog 9 #[V] W fun e w' => e = .returned (.string ⟨#[91, 92, 45, 97, 45, 100, 93]⟩) ∧ Below W.heap.size W w') :=
    ⟨setV (ofT [97, 98, 99, 100, 45]), hid fun W => of_any _ (by decide) W, hid fun W hL => cls_to _ _ cl1 hL⟩
  obtain ⟨V2, O2, H2⟩ : ∃ V, Hid (∀ W, Calls Tryd.prog 14 #[.string ⟨#[97, 98]⟩] W fun e w' => e = .returned V ∧ Below W.heap.size W w') ∧ Hid (∀ W, Lies w W → Calls Tryd.prog 9 #[V] W fun e w' => e = .returned (.string ⟨#[91, 97, 98, 93]⟩) ∧ Below W.heap.size W w') :=
    ⟨setV (ofT [97, 98]), hid fun W => of_any _ (by decide) W, hid fun W hL => cls_to _ _ cl2 hL⟩
  obtain ⟨V3, O3, H3⟩ : ∃ V, Hid (∀ W, Calls Tryd.prog 10 #[] W fun e w' => e = .returned V ∧ Below W.heap.size W w') ∧ Hid (∀ W, Lies w W → Calls Tryd.prog 9 #[V] W fun e w' => e = .returned (.string ⟨#[46]⟩) ∧ Below W.heap.size W w') :=
    ⟨setV (fun _ => true), hid fun W => all_any W, hid fun W hL => cls_to _ _ cl3 hL⟩
  obtain ⟨V4, S5, O4, H4, he⟩ : ∃ V S, Hid (∀ W, Calls Tryd.prog 14 #[.string ⟨#[97]⟩] W fun e w' => e = .returned V ∧ Below W.heap.size W w') ∧ Hid (∀ W, Calls Tryd.prog 12 #[V] W fun e w' => e = .returned (setV S) ∧ Below W.heap.size W w') ∧ ∀ w, (binOp .eql 24 (setV notA) (setV S)).run Tryd.prog w = .ok (.bool true) w :=
    ⟨setV (ofT [97]), fun n => !ofT [97] n, hid fun W => of_any _ (by decide) W, hid fun W => not_any _ W, fun w => by rw [run_eql_set, not_a_same]⟩
  have X1 : Hid (∀ W, Calls Tryd.prog 13 #[.string ⟨#[34, 92, 120, 52, 65, 34, 120]⟩, .string ⟨#[74]⟩, .int .i64 6] W fun e w' => e = .returned (.bool true) ∧ Below W.heap.size W w') :=
    hid fun W => text_any ⟨#[34, 92, 120, 52, 65, 34, 120]⟩ ⟨#[74]⟩ 6 (by decide) tx1 W
  have X2 : Hid (∀ W, Calls Tryd.prog 7 #[.string ⟨#[97, 34, 10, 0]⟩] W fun e w' => e = .returned (.string ⟨#[34, 97, 92, 34, 92, 110, 92, 120, 48, 48, 34]⟩) ∧ Below W.heap.size W w') :=
    hid fun W => lit_to ⟨#[97, 34, 10, 0]⟩ _ (by decide) (by decide +kernel) W
  have N1 : Hid (∀ W, Calls Tryd.prog 15 #[.string ⟨#[91, 98, 45, 97, 93]⟩, .int .i64 1, .int .i64 4] W fun e w' => e = .returned (.bool true) ∧ Below W.heap.size W w') :=
    hid fun W => wrong_any ⟨#[91, 98, 45, 97, 93]⟩ 1 4 (by decide) (by decide +kernel) (by intro w; kernel_rfl) wr1 W
  have N2 : Hid (∀ W, Calls Tryd.prog 15 #[.string ⟨#[91, 97]⟩, .int .i64 2, .int .i64 8] W fun e w' => e = .returned (.bool true) ∧ Below W.heap.size W w') :=
    hid fun W => wrong_any ⟨#[91, 97]⟩ 2 8 (by decide) (by decide +kernel) (by intro w; kernel_rfl) wr2 W
  have N3 : Hid (∀ W, Calls Tryd.prog 15 #[.string ⟨#[91, 97, 94, 93]⟩, .int .i64 2, .int .i64 4] W fun e w' => e = .returned (.bool true) ∧ Below W.heap.size W w') :=
    hid fun W => wrong_any ⟨#[91, 97, 94, 93]⟩ 2 4 (by decide) (by decide +kernel) (by intro w; kernel_rfl) wr3 W
  go_enter Tryd.func6, Tryd.ntmps6
  go_wp2_with (go_at_call 11; refine (unclass_any _ (by decide) _).mono ?_; rintro e w1 ⟨rfl, hb1⟩; rw [show uncls _ = _ from not_a, clsV])
  have d1 := Cl.new w1 24 (setC notA)
  have L1 := (L0.step hb1).alloc (.cells (setC notA) 24)
  have hS : ∀ W, W = w1.alloc (.cells (setC notA) 24) → W.cell? ⟨w1.heap.size, 0, none⟩ = some (.int .u64 (word notA 0 : Nat)) ∧ W.cell? ⟨w1.heap.size, 1, none⟩ = some (.int .u64 (word notA 1 : Nat)) ∧ W.cell? ⟨w1.heap.size, 2, none⟩ = some (.int .u64 (word notA 2 : Nat)) ∧ W.cell? ⟨w1.heap.size, 3, none⟩ = some (.int .u64 (word notA 3 : Nat)) ∧ Lies w W := by
    rintro W rfl
    exact ⟨d1.word 0 (by decide), d1.word 1 (by decide), d1.word 2 (by decide), d1.word 3 (by decide), L1⟩
  replace hS := hS _ rfl
  clear d1 L1 L0 hb1 hT hg
  generalize w1.heap.size = p at hS ⊢
  generalize w1.alloc _ = W1 at hS ⊢
  go_region_held3 (fun w' => w'.cell? ⟨p, 0, none⟩ = some (.int .u64 (word notA 0 : Nat)) ∧ w'.cell? ⟨p, 1, none⟩ = some (.int .u64 (word notA 1 : Nat)) ∧ w'.cell? ⟨p, 2, none⟩ = some (.int .u64 (word notA 2 : Nat)) ∧ w'.cell? ⟨p, 3, none⟩ = some (.int .u64 (word notA 3 : Nat)) ∧ Lies w w')
    (first | (with_reducible assumption) | exact box_drew (by assumption) | exact box_keep hb (by assumption))
    ((first
      | (go_at_call 7; with_reducible refine (X2.out _).mono ?_; rintro e w' ⟨rfl, hb⟩)
      | (go_at_call 13; with_reducible refine (X1.out _).mono ?_; rintro e w' ⟨rfl, hb⟩)
      | (go_at_call 14; with_reducible refine (O1.out _).mono ?_; rintro e w' ⟨rfl, hb⟩)
      | (go_at_call 14; with_reducible refine (O2.out _).mono ?_; rintro e w' ⟨rfl, hb⟩)
      | (go_at_call 14; with_reducible refine (O4.out _).mono ?_; rintro e w' ⟨rfl, hb⟩)
      | (go_at_call 10; with_reducible refine (O3.out _).mono ?_; rintro e w' ⟨rfl, hb⟩)
      | (go_at_call 12; with_reducible refine (H4.out _).mono ?_; rintro e w' ⟨rfl, hb⟩)
      | (go_at_call 15; with_reducible refine (N1.out _).mono ?_; rintro e w' ⟨rfl, hb⟩)
      | (go_at_call 15; with_reducible refine (N2.out _).mono ?_; rintro e w' ⟨rfl, hb⟩)
      | (go_at_call 15; with_reducible refine (N3.out _).mono ?_; rintro e w' ⟨rfl, hb⟩)
      | (go_at_call 9; with_reducible refine (H1.out _ ?_).mono ?_; (first | (go_split_ands; assumption) | (go_split_ands; exact Lies.drew (by assumption))); rintro e w' ⟨rfl, hb⟩)
      | (go_at_call 9; with_reducible refine (H2.out _ ?_).mono ?_; (first | (go_split_ands; assumption) | (go_split_ands; exact Lies.drew (by assumption))); rintro e w' ⟨rfl, hb⟩)
      | (go_at_call 9; with_reducible refine (H3.out _ ?_).mono ?_; (first | (go_split_ands; assumption) | (go_split_ands; exact Lies.drew (by assumption))); rintro e w' ⟨rfl, hb⟩)
      | (go_at_call 9; with_reducible refine (cls_zero (w := w) ?_).mono ?_; (first | (go_split_ands; assumption) | (go_split_ands; exact Lies.drew (by assumption))); rintro e w' ⟨rfl, hb⟩)))
  all_goals
    have hlow := (box_low (by assumption) : Below w.heap.size w w')
    go_wp2
    go_ret
    exact ⟨rfl, hlow⟩
end Go.Proofs.YtkhokhmdiagckaaDoor

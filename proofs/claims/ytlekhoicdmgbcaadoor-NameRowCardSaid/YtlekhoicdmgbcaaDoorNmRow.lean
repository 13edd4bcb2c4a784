/- bonsailaw02.NameRow, walked. -/
import Derived.Test.YtlekhoicdmgbcaaDoorN6
import Derived.Test.YtlekhoicdmgbcaaDoorNcb
namespace Go.Proofs.YtlekhoicdmgbcaaDoor
open Go.RowKit Nm

theorem eq_list (a b : ByteArray) : a.data.toList = b.data.toList ↔ a = b :=
  ⟨fun h => ByteArray.ext (Array.toList_inj.1 h), fun h => by rw [h]⟩

set_option maxRecDepth 100000 in
set_option maxHeartbeats 2000000 in
theorem nameRow_walk (a b c : ByteArray) (w : World) (hT : Tens w) (hg : 1 < w.heap.size) :
    Calls Tryd.prog 8 #[.string a, .string b, .string c] w fun e w' => e = .returned (.bool true) ∧ Below w.heap.size w w' := by
  have L0 := Lie.start hT hg
  have h1 := cb_range a.data.toList b.data.toList
  have h2 := cb_anti a.data.toList b.data.toList
  have h3 := cb_zero a.data.toList b.data.toList
  have h4 := cb_trans a.data.toList b.data.toList c.data.toList
  rw [eq_list] at h3
  obtain ⟨x, hx⟩ : ∃ x, x = Lib.compareBytes a.data.toList b.data.toList := ⟨_, rfl⟩
  obtain ⟨y, hy⟩ : ∃ y, y = Lib.compareBytes b.data.toList c.data.toList := ⟨_, rfl⟩
  obtain ⟨z, hz⟩ : ∃ z, z = Lib.compareBytes a.data.toList c.data.toList := ⟨_, rfl⟩
  rw [← hx] at h1 h2 h3 h4
  rw [← hy, ← hz] at h4
  have x1 := hx.symm
  have y1 := hy.symm
  have z1 := hz.symm
  clear hx hy hz
  have H4 := Lib.hid h4
  have e1 : (x == 0) = (a.toList == b.toList) := by
    rw [Bool.eq_iff_iff, beq_iff_eq, beq_iff_eq, ByteArray.toList_eq, ByteArray.toList_eq, eq_list]
    exact h3
  clear h3 h4 hT hg
  go_enter Tryd.func8, Tryd.ntmps8
  go_wp2_with (first
    | (go_at_call 10; refine (works_any _ L0.tab L0.pos).mono ?_; rintro e w1 ⟨rfl, hb1⟩; replace L0 := L0.step hb1; clear hb1)
    | (go_at_call 17; refine (compare_any _ _ _).mono ?_; rintro e w' ⟨rfl, rfl⟩))
  all_goals
    go_ret
    refine ⟨congrArg (fun r => Ending.returned (.bool r)) ?_, L0.low⟩
    first
      | rfl
      | (have h4 := (H4.out (by omega) (by omega)).1
         simp
         omega)
end Go.Proofs.YtlekhoicdmgbcaaDoor

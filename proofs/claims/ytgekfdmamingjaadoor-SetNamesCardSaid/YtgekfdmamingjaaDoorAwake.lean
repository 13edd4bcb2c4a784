/- The examples of package set, as each law asks them first. -/
import Derived.Test.YtgekfdmamingjaaDoorCmp2
import Derived.Test.YtgekfdmamingjaaDoorRuns
import Derived.Test.YtgekfdmamingjaaDoorSw2
namespace Go.Proofs.YtgekfdmamingjaaDoor
open Go.RowKit Bset

/-- What a world of a call keeps for package set: the table, and all that lay when the call began. -/
structure Lies (w W : World) : Prop where
  tab : TabIn W
  pos : 0 < W.heap.size
  low : Below w.heap.size w W

theorem Lies.start {w : World} (hT : TabIn w) (hg : 0 < w.heap.size) : Lies w w := ⟨hT, hg, Below.refl _ _⟩
theorem Lies.step {w W W' : World} (h : Lies w W) (hb : Below W.heap.size W W') : Lies w W' := ⟨h.tab.below hb h.pos, Nat.lt_of_lt_of_le h.pos hb.size, h.low.trans (hb.mono h.low.size)⟩
theorem Lies.drew {w W : World} (h : Lies w W) : Lies w W.drew := ⟨h.tab, h.pos, h.low.drew⟩
theorem Lies.alloc {w W : World} (h : Lies w W) (o : Obj) : Lies w (W.alloc o) := h.step ((Below.refl _ W).alloc (Nat.le_refl _) o)
theorem Lies.setCell {w W : World} (h : Lies w W) {p : Addr} (hp : w.heap.size ≤ p.block) (hg : 0 < w.heap.size) (u : Value) : Lies w (W.setCell p u) :=
  ⟨h.tab.below ((Below.refl w.heap.size W).setCell hp u) hg, by rw [World.size_setCell]; exact h.pos, h.low.setCell hp u⟩

def sBa : Nat → Bool := ofT [98, 97]

theorem ba_len : (mem (ofT [98, 97])).length = 2 := by decide +kernel
theorem all_len : (mem fun _ => true).length = 256 := by decide +kernel
theorem ba_list : bytesOf (ofT [98, 97]) = [97, 98] := by decide +kernel
theorem ba_runs : runsOf (ofT [98, 97]) = [(97, 98)] := by decide +kernel
theorem x_only : onlyOf (ofT [120]) = (120, true) := by decide +kernel
theorem xy_only : onlyOf (ofT [120, 121]) = (0, false) := by decide +kernel
theorem za_none : sameS (fun m => decide (122 ≤ m) && decide (m ≤ 97)) (fun _ => false) = true := by decide +kernel
theorem cmp1 : cmpS (ofT [97]) (ofT [97, 98]) = -1 := by decide +kernel
theorem cmp2 : cmpS (ofT [98]) (ofT [97, 99]) = 1 := by decide +kernel

set_option maxRecDepth 100000 in
set_option maxHeartbeats 2000000 in
theorem awake_any (w : World) (hT : TabIn w) (hg : 0 < w.heap.size) :
    Calls Tryd.prog 9 #[] w fun e w' => e = .returned (.bool true) ∧ Below w.heap.size w w' := by
  have L0 := Lies.start hT hg
  have k1 := ba_len
  have k2 := all_len
  have k3 := ba_list
  have k4 := x_only
  have k5 := xy_only
  have k6 := cmp1
  have k7 := cmp2
  have k8 := fun w => run_eql_set w (fun m => decide (122 ≤ m) && decide (m ≤ 97)) (fun _ => false)
  have k9 := fun w => run_eql_set w (fun _ => true) (fun _ => true)
  have k10 := run_eql_pair
  rw [za_none, setV_none] at k8
  rw [show sameS (fun _ => true) (fun _ => true) = true from by decide +kernel] at k9
  go_enter Tryd.func9, Tryd.ntmps9
  go_wp2_with (fail)
  refine (of_any _ (by decide) _).mono ?_
  rintro e w1 ⟨rfl, hb1⟩
  have L1 := L0.step hb1
  have c1 := Cl.new w1 26 (setC (ofT [98, 97]))
  replace L1 := L1.alloc (.cells (setC (ofT [98, 97])) 26)
  clear L0
  go_wp2_with (fail)
  refine (of_any _ (by decide) _).mono ?_
  rintro e w2 ⟨rfl, hb2⟩
  have L2 := L1.step hb2
  have c2 := c1.below hb2 c1.lt
  have x20 := c2.word 0 (by decide)
  have x21 := c2.word 1 (by decide)
  have x22 := c2.word 2 (by decide)
  have x23 := c2.word 3 (by decide)
  clear L1 c1
  go_wp2_with (fail)
  refine (only_any _ _ L2.tab L2.pos).mono ?_
  rintro e w3 ⟨rfl, hb3⟩
  have L3 := L2.step hb3
  have c3 := c2.below hb3 c2.lt
  have x30 := c3.word 0 (by decide)
  have x31 := c3.word 1 (by decide)
  have x32 := c3.word 2 (by decide)
  have x33 := c3.word 3 (by decide)
  clear L2 c2
  go_wp2_with (fail)
  refine (of_any _ (by decide) _).mono ?_
  rintro e w4 ⟨rfl, hb4⟩
  have L4 := L3.step hb4
  have c4 := c3.below hb4 c3.lt
  have x40 := c4.word 0 (by decide)
  have x41 := c4.word 1 (by decide)
  have x42 := c4.word 2 (by decide)
  have x43 := c4.word 3 (by decide)
  clear L3 c3
  go_wp2_with (fail)
  refine (only_any _ _ L4.tab L4.pos).mono ?_
  rintro e w5 ⟨rfl, hb5⟩
  have L5 := L4.step hb5
  have c5 := c4.below hb5 c4.lt
  have x50 := c5.word 0 (by decide)
  have x51 := c5.word 1 (by decide)
  have x52 := c5.word 2 (by decide)
  have x53 := c5.word 3 (by decide)
  clear L4 c4
  go_wp2_with (fail)
  refine (runs_any _ _ L5.tab L5.pos).mono ?_
  rintro e w6 ⟨v, rfl, hrow, _, hb6⟩
  have L6 := L5.step hb6
  have c6 := c5.below hb6 c5.lt
  have x60 := c6.word 0 (by decide)
  have x61 := c6.word 1 (by decide)
  have x62 := c6.word 2 (by decide)
  have x63 := c6.word 3 (by decide)
  rw [ba_runs] at hrow
  replace hrow : w6.ownsRow w5.heap.size 40 2 v (0 + 1) [.int .u8 97, .int .u8 98] := hrow
  obtain ⟨g, cap, rfl⟩ := ownsRow_succ hrow
  have hgl : g < w6.heap.size := (hrow.lt g rfl).2
  have y60 : w6.cell? ⟨g, 0, none⟩ = some (.int .u8 97) := hrow.cellAt 0 (by decide)
  have y61 : w6.cell? ⟨g, 1, none⟩ = some (.int .u8 98) := hrow.cellAt 1 (by decide)
  clear hrow
  clear L5 c5
  go_wp2_with (fail)
  refine (len_any _ _).mono ?_
  rintro e w7 ⟨rfl, hb7⟩
  have L7 := L6.step hb7
  have c7 := c6.below hb7 c6.lt
  have x70 := c7.word 0 (by decide)
  have x71 := c7.word 1 (by decide)
  have x72 := c7.word 2 (by decide)
  have x73 := c7.word 3 (by decide)
  have y70 := (hb7.cell (p := ⟨g, 0, none⟩) hgl).trans y60
  have y71 := (hb7.cell (p := ⟨g, 1, none⟩) hgl).trans y61
  have hgl := Nat.lt_of_lt_of_le hgl hb7.size
  clear L6 c6
  go_wp2_with (fail)
  refine (list_any _ _ L7.tab L7.pos).mono ?_
  rintro e w8 ⟨rfl, hb8⟩
  have L8 := L7.step hb8
  have c8 := c7.below hb8 c7.lt
  have x80 := c8.word 0 (by decide)
  have x81 := c8.word 1 (by decide)
  have x82 := c8.word 2 (by decide)
  have x83 := c8.word 3 (by decide)
  have y80 := (hb8.cell (p := ⟨g, 0, none⟩) hgl).trans y70
  have y81 := (hb8.cell (p := ⟨g, 1, none⟩) hgl).trans y71
  have hgl := Nat.lt_of_lt_of_le hgl hb8.size
  clear L7 c7
  go_wp2_with (fail)
  refine (range_any 122 97 (by decide) (by decide) _).mono ?_
  rintro e w9 ⟨rfl, hb9⟩
  have L9 := L8.step hb9
  clear L8
  go_wp2_with (fail)
  refine (not_none _).mono ?_
  rintro e w10 ⟨rfl, hb10⟩
  have L10 := L9.step hb10
  clear L9
  go_wp2_with (fail)
  refine (all_any _).mono ?_
  rintro e w11 ⟨rfl, hb11⟩
  have L11 := L10.step hb11
  clear L10
  go_wp2_with (fail)
  refine (all_any _).mono ?_
  rintro e w12 ⟨rfl, hb12⟩
  have L12 := L11.step hb12
  clear L11
  go_wp2_with (fail)
  refine (len_any _ _).mono ?_
  rintro e w13 ⟨rfl, hb13⟩
  have L13 := L12.step hb13
  clear L12
  go_wp2_with (fail)
  refine (of_any _ (by decide) _).mono ?_
  rintro e w14 ⟨rfl, hb14⟩
  have L14 := L13.step hb14
  clear L13
  go_wp2_with (fail)
  refine (of_any _ (by decide) _).mono ?_
  rintro e w15 ⟨rfl, hb15⟩
  have L15 := L14.step hb15
  clear L14
  go_wp2_with (fail)
  refine (compare_any _ _ _ L15.tab L15.pos).mono ?_
  rintro e w16 ⟨rfl, hb16⟩
  have L16 := L15.step hb16
  clear L15
  go_wp2_with (fail)
  refine (of_any _ (by decide) _).mono ?_
  rintro e w17 ⟨rfl, hb17⟩
  have L17 := L16.step hb17
  clear L16
  go_wp2_with (fail)
  refine (of_any _ (by decide) _).mono ?_
  rintro e w18 ⟨rfl, hb18⟩
  have L18 := L17.step hb18
  clear L17
  go_wp2_with (fail)
  refine (compare_any _ _ _ L18.tab L18.pos).mono ?_
  rintro e w19 ⟨rfl, hb19⟩
  have L19 := L18.step hb19
  clear L18
  go_wp2
  go_ret
  exact ⟨rfl, L19.low⟩
end Go.Proofs.YtgekfdmamingjaaDoor

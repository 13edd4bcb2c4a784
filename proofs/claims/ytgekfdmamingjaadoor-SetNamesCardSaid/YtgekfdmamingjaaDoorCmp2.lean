/- Package set's Compare. -/
import Derived.Test.YtgekfdmamingjaaDoorCmp
namespace Go.Proofs.YtgekfdmamingjaaDoor
open Go.RowKit Bset

/-- Two boxed sets, and the table, as a call goes on. -/
structure Two (w : World) (S T : Nat → Bool) (W : World) : Prop where
  c0 : Cl W w.heap.size 26 (setC S)
  c1 : Cl W (w.heap.size + 1) 26 (setC T)
  tab : TabIn W
  pos : 0 < W.heap.size
  low : Below w.heap.size w W

theorem Two.start {w : World} {S T : Nat → Bool} (hT : TabIn w) (hg : 0 < w.heap.size) : Two w S T ((w.alloc (.cells (setC S) 26)).alloc (.cells (setC T) 26)) where
  c0 := (Cl.new' (by simp) _ _).alloc _
  c1 := Cl.new' (by simp) _ _
  tab := hT.below (((Below.refl _ w).alloc (Nat.le_refl _) _).alloc (by simp) _) hg
  pos := by have h := hg; simp only [World.size_alloc]; omega
  low := ((Below.refl _ w).alloc (Nat.le_refl _) _).alloc (by simp) _

theorem Two.drew {w : World} {S T : Nat → Bool} {W : World} (h : Two w S T W) : Two w S T W.drew := ⟨h.c0.drew, h.c1.drew, h.tab, h.pos, h.low.drew⟩

theorem Two.step {w : World} {S T : Nat → Bool} {W W' : World} (h : Two w S T W) (hb : Below W.heap.size W W') : Two w S T W' where
  c0 := h.c0.below hb h.c0.lt
  c1 := h.c1.below hb h.c1.lt
  tab := h.tab.below hb h.pos
  pos := Nat.lt_of_lt_of_le h.pos hb.size
  low := h.low.trans (hb.mono h.low.size)

theorem Two.cells {w : World} {S T : Nat → Bool} {W : World} (h : Two w S T W) :
    W.cell? ⟨w.heap.size, 0, none⟩ = some (.int .u64 (word S 0 : Nat)) ∧ W.cell? ⟨w.heap.size, 1, none⟩ = some (.int .u64 (word S 1 : Nat)) ∧ W.cell? ⟨w.heap.size, 2, none⟩ = some (.int .u64 (word S 2 : Nat)) ∧ W.cell? ⟨w.heap.size, 3, none⟩ = some (.int .u64 (word S 3 : Nat)) ∧
    W.cell? ⟨w.heap.size + 1, 0, none⟩ = some (.int .u64 (word T 0 : Nat)) ∧ W.cell? ⟨w.heap.size + 1, 1, none⟩ = some (.int .u64 (word T 1 : Nat)) ∧ W.cell? ⟨w.heap.size + 1, 2, none⟩ = some (.int .u64 (word T 2 : Nat)) ∧ W.cell? ⟨w.heap.size + 1, 3, none⟩ = some (.int .u64 (word T 3 : Nat)) :=
  ⟨h.c0.word 0 (by decide), h.c0.word 1 (by decide), h.c0.word 2 (by decide), h.c0.word 3 (by decide), h.c1.word 0 (by decide), h.c1.word 1 (by decide), h.c1.word 2 (by decide), h.c1.word 3 (by decide)⟩

set_option maxRecDepth 100000 in
set_option maxHeartbeats 2000000 in
theorem compare_any (S T : Nat → Bool) (w : World) (hT : TabIn w) (hg : 0 < w.heap.size) :
    Calls Tryd.prog 21 #[setV S, setV T] w fun e w' => e = .returned (.int .i64 (cmpS S T)) ∧ Below w.heap.size w w' := by
  have he := fun w => run_eql_set w S T
  have hI := (Two.start (S := S) (T := T) hT hg).drew
  have hl : Below w.heap.size w ((w.alloc (.cells (setC S) 26)).alloc (.cells (setC T) 26)) := (Two.start (S := S) (T := T) hT hg).low
  unfold cmpS
  cases hs : sameS S T with
  | true =>
    rw [hs] at he
    clear hs hI
    go_enter Tryd.func21, Tryd.ntmps21
    go_wp2
    go_ret
    exact ⟨rfl, hl⟩
  | false =>
    rw [hs] at he
    clear hs
    go_enter Tryd.func21, Tryd.ntmps21
    go_wp2
    go_region_with (first
      | (go_at_call 18; refine (list_any _ _ hI.tab hI.pos).mono ?_; rintro e w' ⟨rfl, hb⟩; have hI := hI.step hb; obtain ⟨v0, v1, v2, v3, u0, u1, u2, u3⟩ := hI.cells)
      | (go_at_call 45; refine (strings_compare _ _ _).mono ?_; rintro e w' ⟨rfl, rfl⟩))
    all_goals
      go_wp2
      go_ret
      exact ⟨rfl, hI.low⟩
end Go.Proofs.YtgekfdmamingjaaDoor

/- Package expr: newMaker. -/
import Derived.Test.YtpkjfdgjmcphmaaDoorVEq7
namespace Go.Proofs.YtpkjfdgjmcphmaaDoor
open Go.RowKit Bset Tm

theorem infoRow : (Tryd.prog.info? 108).map (fun i => (i.zero, i.size, i.bytes)) = some (some (.agg #[.int .i64 0, .int .i64 0, .int .i64 0]), 3, 24) := by kernel_rfl
theorem mk3 (n : Nat) : ∀ i, i < (madeCells #[Value.int .i64 0, .int .i64 0, .int .i64 0] n).size → (madeCells #[Value.int .i64 0, .int .i64 0, .int .i64 0] n)[i]? = some (.int .i64 0) := by
  intro i hi
  rw [size_madeCells] at hi
  have h3 : i % 3 = 0 ∨ i % 3 = 1 ∨ i % 3 = 2 := by omega
  rcases h3 with h | h | h <;> simp [madeCells, hi, h]
theorem four_new (w : World) (o0 o1 o2 o3 : Obj) : ((((w.alloc o0).alloc o1).alloc o2).alloc o3).heap[w.heap.size]? = some o0 ∧ ((((w.alloc o0).alloc o1).alloc o2).alloc o3).heap[w.heap.size + 1]? = some o1 ∧ ((((w.alloc o0).alloc o1).alloc o2).alloc o3).heap[w.heap.size + 1 + 1]? = some o2 ∧ ((((w.alloc o0).alloc o1).alloc o2).alloc o3).heap[w.heap.size + 1 + 1 + 1]? = some o3 ∧ Below w.heap.size w ((((w.alloc o0).alloc o1).alloc o2).alloc o3) := by
  refine ⟨?_, ?_, ?_, ?_, ?_⟩
  · rw [Below.heap_alloc _ _ _ (by simp <;> omega), Below.heap_alloc _ _ _ (by simp <;> omega), Below.heap_alloc _ _ _ (by simp), heap_alloc_new]
  · rw [Below.heap_alloc _ _ _ (by simp <;> omega), Below.heap_alloc _ _ _ (by simp)]
    have := heap_alloc_new (w.alloc o0) o1
    rwa [World.size_alloc] at this
  · rw [Below.heap_alloc _ _ _ (by simp)]
    have := heap_alloc_new ((w.alloc o0).alloc o1) o2
    rwa [World.size_alloc, World.size_alloc] at this
  · have := heap_alloc_new (((w.alloc o0).alloc o1).alloc o2) o3
    rwa [World.size_alloc, World.size_alloc, World.size_alloc] at this
  · exact ((((Below.refl _ w).alloc (Nat.le_refl _) _).alloc (by simp) _).alloc (by simp <;> omega) _).alloc (by simp <;> omega) _
theorem row_made {w : World} {g n : Nat} (h : w.heap[g]? = some (.cells (madeCells #[Value.int .i64 0] n) 3 (0, 0))) : w.rowIs g 3 n (fun _ => .int .i64 0) :=
  ⟨_, h, size_madeCells _ _, fun i hi => by simp [madeCells, hi, Nat.mod_one]⟩
theorem row_made3 {w : World} {g n : Nat} (h : w.heap[g]? = some (.cells (madeCells #[Value.int .i64 0, .int .i64 0, .int .i64 0] (n * 3)) 108 (0, 0))) : w.rowIs g 108 (n * 3) (fun _ => .int .i64 0) :=
  ⟨_, h, size_madeCells _ _, fun i hi => mk3 _ i (by rw [size_madeCells]; exact hi)⟩
theorem make_rows (n : Nat) (h : n ≤ 4294967296) (w : World) : (Instr.makeSlice 94 (.int .i64 (n : Int)) (.int .i64 (n : Int))).run Tryd.prog w = .ok (.slice (some ⟨w.heap.size, 0, none⟩) n n) (w.alloc (.cells (madeCells #[.int .i64 0, .int .i64 0, .int .i64 0] (n * 3)) 108)) := by
  obtain ⟨i0, hi, hz0, hz1, hz2⟩ := info_parts infoRow
  have hr := run_make (P := Tryd.prog) w 94 108 i0 (.agg #[.int .i64 0, .int .i64 0, .int .i64 0]) Tryd.underlying94 hi hz0 .i64 .i64 n n (by omega) (Int.le_refl _) (by rw [hz2]; omega) (by omega)
  simp only [Int.toNat_natCast, hz1] at hr
  exact hr

set_option maxRecDepth 100000 in
set_option maxHeartbeats 8000000 in
theorem newMaker_any (gN n c : Nat) (w : World) (hn : n ≤ 2147483647) :
    Calls Tryd.prog 91 #[.slice (some ⟨gN, 0, none⟩) n c] w fun e w' => ∃ gm gI gR gX, e = .returned (.pointer (some ⟨gm, 0, none⟩)) ∧
      Cl w' gm 96 #[.slice (some ⟨gN, 0, none⟩) n c, .slice (some ⟨gI, 0, none⟩) n n, .slice (some ⟨gR, 0, none⟩) n n, .slice (some ⟨gX, 0, none⟩) n n] ∧
      w'.rowIs gI 3 n (fun _ => .int .i64 0) ∧ w'.rowIs gR 108 (n * 3) (fun _ => .int .i64 0) ∧ w'.rowIs gX 3 n (fun _ => .int .i64 0) ∧ [gm, gI, gR, gX].Nodup ∧ (∀ b ∈ [gm, gI, gR, gX], w.heap.size ≤ b) ∧ Below w.heap.size w w' := by
  have hmi := make_ints n (by omega)
  have hmr := make_rows n (by omega)
  go_enter Tryd.func91, Tryd.ntmps91
  go_wp2
  go_region
  all_goals go_wp2
  all_goals go_ret
  all_goals
    obtain ⟨g0, g1, g2, g3, hb⟩ := four_new w _ _ _ _
    refine ⟨_, _, _, _, rfl, g3, ?_, ?_, ?_, by simp <;> omega, fun b hb => by simp at hb; omega, hb.drew⟩
    all_goals first
      | exact row_made g0
      | exact row_made g1
      | exact row_made g2
      | exact row_made3 g0
      | exact row_made3 g1
      | exact row_made3 g2
end Go.Proofs.YtpkjfdgjmcphmaaDoor

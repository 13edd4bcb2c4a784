/- The document's own answers (bonsairef01): Same, of two rows that hold the same runs. -/
import Derived.Test.YtgekfdmamingjaaDoorRef7
import Derived.Test.YtgekfdmamingjaaDoorEq
namespace Go.Proofs.YtgekfdmamingjaaDoor
open Go.RowKit Bset

theorem runC_parts (pre post : List (Nat × Nat)) (a c : Nat) : (runC (pre ++ (a, c) :: post))[pre.length * 2]? = some (.int .u8 (a : Nat)) ∧ (runC (pre ++ (a, c) :: post))[pre.length * 2 + 1]? = some (.int .u8 (c : Nat)) := by
  have e : runC (pre ++ (a, c) :: post) = runC pre ++ (Value.int .u8 (a : Nat) :: Value.int .u8 (c : Nat) :: runC post) := by
    unfold runC
    simp
  have hl := runC_len pre
  rw [e]
  constructor
  · rw [List.getElem?_append_right (by omega), hl, Nat.sub_self]
    rfl
  · rw [List.getElem?_append_right (by omega), hl, show pre.length * 2 + 1 - pre.length * 2 = 1 from by omega]
    rfl

theorem runC_at (rs : List (Nat × Nat)) (n : Nat) (h : n < rs.length) : ∃ a c : Nat, (runC rs)[n * 2]? = some (.int .u8 (a : Nat)) ∧ (runC rs)[n * 2 + 1]? = some (.int .u8 (c : Nat)) := by
  have e : rs = rs.take n ++ (rs[n].1, rs[n].2) :: rs.drop (n + 1) := by
    rw [← List.drop_eq_getElem_cons h, List.take_append_drop]
  have hl : (rs.take n).length = n := by rw [List.length_take]; omega
  have h2 := runC_parts (rs.take n) (rs.drop (n + 1)) rs[n].1 rs[n].2
  rw [← e, hl] at h2
  exact ⟨_, _, h2.1, h2.2⟩

theorem row_open {w : World} {B : Nat} {v : Value} {rs : List (Nat × Nat)} (h : w.ownsRow B 40 2 v rs.length (runC rs)) :
    ∃ A cap g, v = .slice A rs.length cap ∧ (rs ≠ [] → A = some ⟨g, 0, none⟩) ∧ (∀ j u, (runC rs)[j]? = some u → w.cell? ⟨g, j, none⟩ = some u) := by
  rcases h.2 with ⟨rfl, h0⟩ | ⟨g, cap, cur, rfl, _⟩
  · have e : rs = [] := List.eq_nil_of_length_eq_zero h0
    subst e
    exact ⟨none, 0, 0, rfl, fun h => absurd rfl h, fun j u hu => by simp [runC] at hu⟩
  · refine ⟨_, cap, g, rfl, fun _ => rfl, fun j u hu => ?_⟩
    have hj : j < rs.length * 2 := by
      rw [← runC_len]
      exact (List.getElem?_eq_some_iff.1 hu).1
    rw [h.cellAt j hj]
    exact hu

set_option maxRecDepth 100000 in
set_option maxHeartbeats 2000000 in
theorem rsame_true (rs : List (Nat × Nat)) (hl : rs.length ≤ 256) (B1 B2 : Nat) (v1 v2 : Value) (w : World) (h1 : w.ownsRow B1 40 2 v1 rs.length (runC rs)) (h2 : w.ownsRow B2 40 2 v2 rs.length (runC rs)) :
    Calls Tryd.prog 28 #[v1, v2] w fun e w' => e = .returned (.bool true) ∧ Below w.heap.size w w' := by
  obtain ⟨A1, c1, g1, rfl, hA1, k1⟩ := row_open h1
  obtain ⟨A2, c2, g2, rfl, hA2, k2⟩ := row_open h2
  clear h1 h2
  have en := run_neq_pair
  obtain ⟨L, hL⟩ : ∃ L, L = rs.length := ⟨_, rfl⟩
  rw [← hL] at hl ⊢
  have hat : ∀ n, n < L → ∃ a c : Nat, (runC rs)[n * 2]? = some (.int .u8 (a : Nat)) ∧ (runC rs)[n * 2 + 1]? = some (.int .u8 (c : Nat)) := fun n hn => runC_at rs n (by omega)
  have hne : ∀ n, n < L → rs ≠ [] := fun n hn he => by rw [he] at hL; simp at hL; omega
  generalize runC rs = cs at k1 k2 hat
  have HAT := Lib.hid hat
  have HA1 := Lib.hid hA1
  have HA2 := Lib.hid hA2
  have HNE := Lib.hid hne
  clear hL hat hA1 hA2 hne
  go_enter Tryd.func28, Tryd.ntmps28
  go_wp2_with (fail)
  go_loopw [5] (fun i wr => ∃ n : Nat, i = .int .i64 n ∧ n ≤ L ∧ Hid (∀ j u, cs[j]? = some u → wr.cell? ⟨g1, j, none⟩ = some u) ∧ Hid (∀ j u, cs[j]? = some u → wr.cell? ⟨g2, j, none⟩ = some u) ∧ Below w.heap.size w wr) (fun i _ => L - (intOf i).toNat)
  case atStart => exact ⟨0, rfl, by omega, k1, k2, Below.refl _ _⟩
  case round =>
    clear k1 k2
    obtain ⟨n, rfl, h1, K1, K2, hB⟩ := hrel
    by_cases hlt : n < L
    · obtain ⟨a, c, m1, m2⟩ := HAT.out n hlt
      have r1 := K1.out _ _ m1
      have r2 := K1.out _ _ m2
      have r3 := K2.out _ _ m1
      have r4 := K2.out _ _ m2
      have ea := HA1.out (HNE.out n hlt)
      have eb := HA2.out (HNE.out n hlt)
      subst ea eb
      have hni : (n : Int) < (L : Int) := by omega
      have hn0 : (0 : Int) ≤ (n : Int) := by omega
      clear m1 m2
      go_wp2_with (fail)
      go_quiet (fail)
      go_wp2_with (fail)
      go_roundw
      case rel => exact ⟨n + 1, by go_num, by omega, K1, K2, bdrewN hB⟩
      case measure => simp [intOf]; omega
    · obtain rfl : n = L := by omega
      go_wp2_with (fail)
      go_ret
      exact ⟨rfl, hB⟩
end Go.Proofs.YtgekfdmamingjaaDoor

/- bonsailaw04: long. -/
import Derived.Test.YtpkjfdgjmcphmaaDoorVTz2
namespace Go.Proofs.YtpkjfdgjmcphmaaDoor
open Go.RowKit Bset Tm

def cnt (l : List Ar) : Nat := (l.map fun t => 1 + t.nodes.length).sum
theorem cnt_next {l : List Ar} {i : Nat} (h : i < l.length) : cnt (l.take (i + 1)) = cnt (l.take i) + 1 + l[i].nodes.length := by
  unfold cnt
  rw [List.take_succ_eq_append_getElem h, List.map_append, List.sum_append]
  simp
  omega
theorem cnt_ge (l : List Ar) : ∀ i, i ≤ l.length → i ≤ cnt (l.take i)
  | 0, _ => Nat.zero_le _
  | i + 1, h => by
    rw [cnt_next (by omega)]
    have := cnt_ge l i (by omega)
    omega
/-- What long lets through. -/
def small (l : List Ar) : Prop := cnt l < 4000 ∧ ∀ t ∈ l, ∀ n ∈ t.nodes, n.kids.length < 4000
def LongO (l : List Ar) (i n : Nat) : Prop := i ≤ n ∧ (n < 4000 → cnt (l.take i) ≤ n ∧ ∀ t ∈ l.take i, ∀ n ∈ t.nodes, n.kids.length < 4000)
def LongI (l : List Ar) (i n : Nat) (A : List Nd) (k : Nat) : Prop := i + 1 ≤ n ∧ (n < 4000 → cnt (l.take i) + 1 + k ≤ n ∧ (∀ t ∈ l.take i, ∀ n ∈ t.nodes, n.kids.length < 4000) ∧ ∀ x ∈ A.take k, x.kids.length < 4000)
theorem LongO.start (l : List Ar) : LongO l 0 0 := ⟨Nat.le_refl _, fun _ => ⟨by simp [cnt], by simp⟩⟩
theorem LongO.open {l : List Ar} {i n : Nat} (h : LongO l i n) (A : List Nd) : LongI l i (n + 1) A 0 :=
  ⟨by have := h.1; omega, fun hn => by
    obtain ⟨h1, h2⟩ := h.2 (by omega)
    exact ⟨by omega, h2, by simp⟩⟩
theorem LongI.next {l : List Ar} {i n k : Nat} {A : List Nd} (h : LongI l i n A k) (hk : k < A.length) (x : Nat) : LongI l i (n + 1 + min 4000 A[k].kids.length + x) A (k + 1) :=
  ⟨by have := h.1; omega, fun hn => by
    obtain ⟨h1, h2, h3⟩ := h.2 (by omega)
    refine ⟨by omega, h2, fun y hy => ?_⟩
    rw [List.take_succ_eq_append_getElem hk, List.mem_append, List.mem_singleton] at hy
    rcases hy with hy | rfl
    · exact h3 y hy
    · omega⟩
theorem LongI.close {l : List Ar} {i n : Nat} (hi : i < l.length) (h : LongI l i n l[i].nodes l[i].nodes.length) : LongO l (i + 1) n :=
  ⟨h.1, fun hn => by
    obtain ⟨h1, h2, h3⟩ := h.2 hn
    rw [List.take_of_length_le (Nat.le_refl _)] at h3
    refine ⟨by rw [cnt_next hi]; omega, fun t ht => ?_⟩
    rw [List.take_succ_eq_append_getElem hi, List.mem_append, List.mem_singleton] at ht
    rcases ht with ht | rfl
    · exact h2 t ht
    · exact h3⟩
theorem LongI.over {l : List Ar} {i n k : Nat} {A : List Nd} (h : LongI l i n A k) (hn : 4000 ≤ n) : LongO l (i + 1) n := ⟨h.1, fun h => by omega⟩
theorem LongO.last {l : List Ar} {n : Nat} (h : LongO l l.length n) (hn : n < 4000) : small l := by
  obtain ⟨h1, h2⟩ := h.2 hn
  rw [List.take_of_length_le (Nat.le_refl _)] at h1 h2
  exact ⟨by omega, h2⟩

set_option maxRecDepth 100000 in
set_option maxHeartbeats 2000000 in
theorem long_any (v : Value) (l : List Ar) (w : World) (h : Trees w v l) :
    Calls Tryd.prog 28 #[v] w fun e w' => ∃ b, e = .returned (.bool b) ∧ (b = false → small l) ∧ Below w.heap.size w w' := by
  obtain ⟨p, c, rfl, hh⟩ := h
  go_enter Tryd.func28, Tryd.ntmps28
  go_wp2
  go_loopw [3, 4, 5] (fun v3 v4 _ W => ∃ n i : Nat, v3 = .int .i64 n ∧ v4 = .int .i64 i ∧ i ≤ l.length ∧ n ≤ 9000 ∧ Hid (LongO l i n) ∧ Below w.heap.size w W) (fun _ v4 _ _ => l.length - (intOf v4).toNat)
  case atStart => exact ⟨0, 0, rfl, rfl, Nat.zero_le _, by omega, Lib.hid (LongO.start l), Below.refl _ _⟩
  case round =>
    obtain ⟨n, i, rfl, rfl, hi, hn9, hL, hB⟩ := hrel
    have hi4 := hL.out.1
    by_cases hlt : i < l.length
    · have hlt' : (i : Int) < (l.length : Int) := by omega
      by_cases hn : n < 4000
      · have hn' : (n : Int) < 4000 := by omega
        rcases hh with rfl | ⟨b, off, rfl, hc⟩
        · simp at hlt
        have hh' := hc
        obtain ⟨nv, X0, X1, hN⟩ := hc i hlt
        obtain ⟨A, hA⟩ : ∃ A, A = l[i].nodes := ⟨_, rfl⟩
        rw [← hA] at hN
        obtain ⟨p1, c1, rfl, hn1⟩ := hN
        have x0 := (hB.cell (p := ⟨b, off + i * 2, none⟩) (cell_lt X0)).trans X0
        have HA := Lib.hid hA
        have hLI := Lib.hid (hL.out.open A)
        have hi0 : (0 : Int) ≤ (i : Int) := by omega
        have hwn : IntKind.i64.wrap ((n : Int) + 1) = ((n + 1 : Nat) : Int) := by rw [IntWalk.i64_in _ (by omega)]; omega
        have hwi : IntKind.i64.wrap ((i : Int) + 1) = ((i + 1 : Nat) : Int) := by rw [IntWalk.i64_in _ (by omega)]; omega
        clear hc hA X1
        go_wp2
        go_loopw [3, 5] (fun v3 v5 W => ∃ n k : Nat, v3 = .int .i64 n ∧ v5 = .int .i64 k ∧ k ≤ A.length ∧ n ≤ 9000 ∧ Hid (LongI l i n A k) ∧ Below w.heap.size w W) (fun _ v5 _ => A.length - (intOf v5).toNat)
        case atStart => exact ⟨n + 1, 0, rfl, rfl, Nat.zero_le _, by omega, hLI, hB⟩
        case round =>
          clear hB hLI hL hi4 hn9 hn hn' hwn x0
          obtain ⟨n, k, rfl, rfl, hk, hn9, hLI, hB⟩ := hrel
          have hi4 := hLI.out.1
          have x0 := (hB.cell (p := ⟨b, off + i * 2, none⟩) (cell_lt X0)).trans X0
          by_cases hkA : k < A.length
          · have hkA' : (k : Int) < (A.length : Int) := by omega
            have hk0 : (0 : Int) ≤ (k : Int) := by omega
            by_cases hn : n < 4000
            · have hn' : (n : Int) < 4000 := by omega
              rcases hn1 with rfl | ⟨b2, off2, rfl, hc2⟩
              · simp at hkA
              obtain ⟨kv, hNk, hIk⟩ := hc2 k hkA
              obtain ⟨p3, c3, rfl⟩ := hIk.len
              obtain ⟨c0, c1, c2, c3, c4, c5, c6, c7, c8⟩ := hNk.keep hB.block
              have hnx := fun x => hLI.out.next hkA x
              obtain ⟨m, hm⟩ : ∃ m, m = A[k].kids.length := ⟨_, rfl⟩
              rw [← hm] at c8 hnx
              obtain ⟨T, hT⟩ : ∃ T, T = A[k].hd.text := ⟨_, rfl⟩
              rw [← hT] at c5
              have HNX := Lib.hid hnx
              have hwn : IntKind.i64.wrap ((n : Int) + 1) = ((n + 1 : Nat) : Int) := by rw [IntWalk.i64_in _ (by omega)]; omega
              have hk4 : k < 4000 := by
                have := (hLI.out.2 hn).1
                omega
              have hwk : IntKind.i64.wrap ((k : Int) + 1) = ((k + 1 : Nat) : Int) := by rw [IntWalk.i64_in _ (by omega)]; omega
              have HE := Lib.hid (show (n : Int) + 1 + min 4000 (m : Int) + min 4000 (T.size : Int) / 20 = ((n + 1 + min 4000 m + min 4000 T.size / 20 : Nat) : Int) by omega)
              clear hnx hm hT hc2 hNk hIk hk4
              go_wp2
              go_region
              go_wp2
              refine ⟨⟨n + 1 + min 4000 m + min 4000 T.size / 20, k + 1, congrArg (Value.int .i64) HE.out, by go_num, by omega, by omega, Lib.hid (HNX.out _), hB.drew⟩, by simp [intOf]; omega⟩
            · have hn' : ¬ (n : Int) < 4000 := by omega
              have HO := Lib.hid (hLI.out.over (by omega))
              clear hn
              go_wp2
              exact ⟨⟨n, i + 1, rfl, by go_num, by omega, hn9, HO, hB⟩, by simp [intOf]; omega⟩
          · obtain rfl : k = A.length := by omega
            have HO := Lib.hid (show LongO l (i + 1) n by
              have := hLI.out
              rw [HA.out] at this
              exact this.close hlt)
            go_wp2
            exact ⟨⟨n, i + 1, rfl, by go_num, by omega, hn9, HO, hB⟩, by simp [intOf]; omega⟩
      · have hn' : ¬ (n : Int) < 4000 := by omega
        have hg : (4000 : Int) ≤ (n : Int) := by omega
        go_wp2
        go_ret
        first | exact .inr ⟨rfl, hB⟩ | exact ⟨true, rfl, (fun h => by cases h), hB⟩
    · obtain rfl : i = l.length := by omega
      by_cases hn : n < 4000
      · have hg : ¬ (4000 : Int) ≤ (n : Int) := by omega
        have HS := Lib.hid (hL.out.last hn)
        clear hn
        go_wp2
        go_ret
        first | exact .inl ⟨rfl, HS.out, hB⟩ | exact ⟨false, rfl, fun _ => HS.out, hB⟩
      · have hg : (4000 : Int) ≤ (n : Int) := by omega
        go_wp2
        go_ret
        first | exact .inr ⟨rfl, hB⟩ | exact ⟨true, rfl, (fun h => by cases h), hB⟩
end Go.Proofs.YtpkjfdgjmcphmaaDoor

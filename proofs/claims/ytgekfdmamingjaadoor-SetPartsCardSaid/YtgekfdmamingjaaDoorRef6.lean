/- The document's own answers (bonsairef01): Compare. -/
import Derived.Test.YtgekfdmamingjaaDoorRef5
import Derived.Deep.RegionHeld3
namespace Go.Proofs.YtgekfdmamingjaaDoor
open Go.RowKit Bset

theorem rb_keep {w W W' : World} {X Y : Nat → Bool} (hb : Below W.heap.size W W') (h : W.cell? ⟨w.heap.size, 0, none⟩ = some (.int .u64 (word X 0 : Nat)) ∧ W.cell? ⟨w.heap.size, 1, none⟩ = some (.int .u64 (word X 1 : Nat)) ∧ W.cell? ⟨w.heap.size, 2, none⟩ = some (.int .u64 (word X 2 : Nat)) ∧ W.cell? ⟨w.heap.size, 3, none⟩ = some (.int .u64 (word X 3 : Nat)) ∧ W.cell? ⟨w.heap.size + 1, 0, none⟩ = some (.int .u64 (word Y 0 : Nat)) ∧ W.cell? ⟨w.heap.size + 1, 1, none⟩ = some (.int .u64 (word Y 1 : Nat)) ∧ W.cell? ⟨w.heap.size + 1, 2, none⟩ = some (.int .u64 (word Y 2 : Nat)) ∧ W.cell? ⟨w.heap.size + 1, 3, none⟩ = some (.int .u64 (word Y 3 : Nat)) ∧ Below w.heap.size w W) : W'.cell? ⟨w.heap.size, 0, none⟩ = some (.int .u64 (word X 0 : Nat)) ∧ W'.cell? ⟨w.heap.size, 1, none⟩ = some (.int .u64 (word X 1 : Nat)) ∧ W'.cell? ⟨w.heap.size, 2, none⟩ = some (.int .u64 (word X 2 : Nat)) ∧ W'.cell? ⟨w.heap.size, 3, none⟩ = some (.int .u64 (word X 3 : Nat)) ∧ W'.cell? ⟨w.heap.size + 1, 0, none⟩ = some (.int .u64 (word Y 0 : Nat)) ∧ W'.cell? ⟨w.heap.size + 1, 1, none⟩ = some (.int .u64 (word Y 1 : Nat)) ∧ W'.cell? ⟨w.heap.size + 1, 2, none⟩ = some (.int .u64 (word Y 2 : Nat)) ∧ W'.cell? ⟨w.heap.size + 1, 3, none⟩ = some (.int .u64 (word Y 3 : Nat)) ∧ Below w.heap.size w W' := by
  obtain ⟨a0, a1, a2, a3, b0, b1, b2, b3, hL⟩ := h
  have l0 := World.block_lt_of_cell? W _ a0
  have l1 := World.block_lt_of_cell? W _ b0
  exact ⟨(hb.cell (p := ⟨w.heap.size, 0, none⟩) l0).trans a0, (hb.cell (p := ⟨w.heap.size, 1, none⟩) l0).trans a1, (hb.cell (p := ⟨w.heap.size, 2, none⟩) l0).trans a2, (hb.cell (p := ⟨w.heap.size, 3, none⟩) l0).trans a3, (hb.cell (p := ⟨w.heap.size + 1, 0, none⟩) l1).trans b0, (hb.cell (p := ⟨w.heap.size + 1, 1, none⟩) l1).trans b1, (hb.cell (p := ⟨w.heap.size + 1, 2, none⟩) l1).trans b2, (hb.cell (p := ⟨w.heap.size + 1, 3, none⟩) l1).trans b3, hL.trans (hb.mono hL.size)⟩
theorem rb_drew {w W : World} {X Y : Nat → Bool} (h : W.cell? ⟨w.heap.size, 0, none⟩ = some (.int .u64 (word X 0 : Nat)) ∧ W.cell? ⟨w.heap.size, 1, none⟩ = some (.int .u64 (word X 1 : Nat)) ∧ W.cell? ⟨w.heap.size, 2, none⟩ = some (.int .u64 (word X 2 : Nat)) ∧ W.cell? ⟨w.heap.size, 3, none⟩ = some (.int .u64 (word X 3 : Nat)) ∧ W.cell? ⟨w.heap.size + 1, 0, none⟩ = some (.int .u64 (word Y 0 : Nat)) ∧ W.cell? ⟨w.heap.size + 1, 1, none⟩ = some (.int .u64 (word Y 1 : Nat)) ∧ W.cell? ⟨w.heap.size + 1, 2, none⟩ = some (.int .u64 (word Y 2 : Nat)) ∧ W.cell? ⟨w.heap.size + 1, 3, none⟩ = some (.int .u64 (word Y 3 : Nat)) ∧ Below w.heap.size w W) : W.drew.cell? ⟨w.heap.size, 0, none⟩ = some (.int .u64 (word X 0 : Nat)) ∧ W.drew.cell? ⟨w.heap.size, 1, none⟩ = some (.int .u64 (word X 1 : Nat)) ∧ W.drew.cell? ⟨w.heap.size, 2, none⟩ = some (.int .u64 (word X 2 : Nat)) ∧ W.drew.cell? ⟨w.heap.size, 3, none⟩ = some (.int .u64 (word X 3 : Nat)) ∧ W.drew.cell? ⟨w.heap.size + 1, 0, none⟩ = some (.int .u64 (word Y 0 : Nat)) ∧ W.drew.cell? ⟨w.heap.size + 1, 1, none⟩ = some (.int .u64 (word Y 1 : Nat)) ∧ W.drew.cell? ⟨w.heap.size + 1, 2, none⟩ = some (.int .u64 (word Y 2 : Nat)) ∧ W.drew.cell? ⟨w.heap.size + 1, 3, none⟩ = some (.int .u64 (word Y 3 : Nat)) ∧ Below w.heap.size w W.drew := by
  obtain ⟨a0, a1, a2, a3, b0, b1, b2, b3, hL⟩ := h
  exact ⟨a0, a1, a2, a3, b0, b1, b2, b3, hL.drew⟩
theorem rb_low {w W : World} {X Y : Nat → Bool} (h : W.cell? ⟨w.heap.size, 0, none⟩ = some (.int .u64 (word X 0 : Nat)) ∧ W.cell? ⟨w.heap.size, 1, none⟩ = some (.int .u64 (word X 1 : Nat)) ∧ W.cell? ⟨w.heap.size, 2, none⟩ = some (.int .u64 (word X 2 : Nat)) ∧ W.cell? ⟨w.heap.size, 3, none⟩ = some (.int .u64 (word X 3 : Nat)) ∧ W.cell? ⟨w.heap.size + 1, 0, none⟩ = some (.int .u64 (word Y 0 : Nat)) ∧ W.cell? ⟨w.heap.size + 1, 1, none⟩ = some (.int .u64 (word Y 1 : Nat)) ∧ W.cell? ⟨w.heap.size + 1, 2, none⟩ = some (.int .u64 (word Y 2 : Nat)) ∧ W.cell? ⟨w.heap.size + 1, 3, none⟩ = some (.int .u64 (word Y 3 : Nat)) ∧ Below w.heap.size w W) : Below w.heap.size w W := h.2.2.2.2.2.2.2.2
theorem rb_begin (w : World) (X Y : Nat → Bool) : ∀ W, W = (w.alloc (.cells (setC X) 26)).alloc (.cells (setC Y) 26) → W.cell? ⟨w.heap.size, 0, none⟩ = some (.int .u64 (word X 0 : Nat)) ∧ W.cell? ⟨w.heap.size, 1, none⟩ = some (.int .u64 (word X 1 : Nat)) ∧ W.cell? ⟨w.heap.size, 2, none⟩ = some (.int .u64 (word X 2 : Nat)) ∧ W.cell? ⟨w.heap.size, 3, none⟩ = some (.int .u64 (word X 3 : Nat)) ∧ W.cell? ⟨w.heap.size + 1, 0, none⟩ = some (.int .u64 (word Y 0 : Nat)) ∧ W.cell? ⟨w.heap.size + 1, 1, none⟩ = some (.int .u64 (word Y 1 : Nat)) ∧ W.cell? ⟨w.heap.size + 1, 2, none⟩ = some (.int .u64 (word Y 2 : Nat)) ∧ W.cell? ⟨w.heap.size + 1, 3, none⟩ = some (.int .u64 (word Y 3 : Nat)) ∧ Below w.heap.size w W := by
  rintro W rfl
  have a : Cl ((w.alloc (.cells (setC X) 26)).alloc (.cells (setC Y) 26)) w.heap.size 26 (setC X) := (Cl.new' (by simp) _ _).alloc _
  have b : Cl ((w.alloc (.cells (setC X) 26)).alloc (.cells (setC Y) 26)) (w.heap.size + 1) 26 (setC Y) := Cl.new' (by simp) _ _
  exact ⟨a.word 0 (by decide), a.word 1 (by decide), a.word 2 (by decide), a.word 3 (by decide), b.word 0 (by decide), b.word 1 (by decide), b.word 2 (by decide), b.word 3 (by decide), ((Below.refl _ w).alloc (Nat.le_refl _) _).alloc (by simp) _⟩

theorem drop_cons (s : ByteArray) (n : Nat) (h : n < s.size) : s.data.toList.drop n = s[n] :: s.data.toList.drop (n + 1) := by
  rw [List.drop_eq_getElem_cons (by simpa using h)]
  rfl
theorem cb_at (s t : ByteArray) (n : Nat) (h1 : n < s.size) (h2 : n < t.size) : Lib.compareBytes (s.data.toList.drop n) (t.data.toList.drop n) =
    if s[n].toNat < t[n].toNat then -1 else if t[n].toNat < s[n].toNat then 1 else Lib.compareBytes (s.data.toList.drop (n + 1)) (t.data.toList.drop (n + 1)) := by
  rw [drop_cons s n h1, drop_cons t n h2]
  rfl
theorem cb_end (s t : ByteArray) (n : Nat) (h1 : n ≤ s.size) (h2 : n ≤ t.size) (h : ¬(n < s.size ∧ n < t.size)) : Lib.compareBytes (s.data.toList.drop n) (t.data.toList.drop n) =
    if s.size < t.size then -1 else if t.size < s.size then 1 else 0 := by
  by_cases hs : n < s.size
  · have ht : n = t.size := by omega
    have e : t.data.toList.drop n = [] := List.drop_eq_nil_of_le (by simp; omega)
    rw [drop_cons s n hs, e, if_neg (by omega), if_pos (by omega)]
    rfl
  · have e : s.data.toList.drop n = [] := List.drop_eq_nil_of_le (by simp; omega)
    by_cases ht : n < t.size
    · rw [drop_cons t n ht, e, if_pos (by omega)]
      rfl
    · have e2 : t.data.toList.drop n = [] := List.drop_eq_nil_of_le (by simp; omega)
      rw [e, e2, if_neg (by omega), if_neg (by omega)]
      rfl
theorem listS_list (S : Nat → Bool) : (listS S).data.toList = bytesOf S := rfl

set_option maxRecDepth 100000 in
set_option maxHeartbeats 4000000 in
theorem rcompare_any (X Y : Nat → Bool) (w : World) :
    Calls Tryd.prog 39 #[setV X, setV Y] w fun e w' => e = .returned (.int .i64 (cmpS X Y)) ∧ Below w.heap.size w w' := by
  have hc : cmpS X Y = Lib.compareBytes (listS X).data.toList (listS Y).data.toList := by rw [cmpS_eq, listS_list, listS_list]
  have z1 : (listS X).size ≤ 256 := by rw [listS_size]; exact upTo_len X 256
  have z2 : (listS Y).size ≤ 256 := by rw [listS_size]; exact upTo_len Y 256
  rw [hc]
  clear hc
  obtain ⟨c, hc⟩ : ∃ c, c = Lib.compareBytes (listS X).data.toList (listS Y).data.toList := ⟨_, rfl⟩
  rw [← hc]
  have HC0 := Lib.hid hc
  clear hc
  have hzs : ((listS X).size : Int) ≤ 256 := by omega
  have hzt : ((listS Y).size : Int) ≤ 256 := by omega
  have h0 := rb_begin w X Y _ rfl
  go_enter Tryd.func39, Tryd.ntmps39
  go_wp2_with (fail)
  go_region_held3 (fun w' => w'.cell? ⟨w.heap.size, 0, none⟩ = some (.int .u64 (word X 0 : Nat)) ∧ w'.cell? ⟨w.heap.size, 1, none⟩ = some (.int .u64 (word X 1 : Nat)) ∧ w'.cell? ⟨w.heap.size, 2, none⟩ = some (.int .u64 (word X 2 : Nat)) ∧ w'.cell? ⟨w.heap.size, 3, none⟩ = some (.int .u64 (word X 3 : Nat)) ∧ w'.cell? ⟨w.heap.size + 1, 0, none⟩ = some (.int .u64 (word Y 0 : Nat)) ∧ w'.cell? ⟨w.heap.size + 1, 1, none⟩ = some (.int .u64 (word Y 1 : Nat)) ∧ w'.cell? ⟨w.heap.size + 1, 2, none⟩ = some (.int .u64 (word Y 2 : Nat)) ∧ w'.cell? ⟨w.heap.size + 1, 3, none⟩ = some (.int .u64 (word Y 3 : Nat)) ∧ Below w.heap.size w w')
    (first | (with_reducible assumption) | exact rb_drew (by assumption) | exact rb_keep hb (by assumption))
    ((go_at_call 27; refine (rlist_o _ _).mono ?_; rintro e w' ⟨rfl, hb⟩))
  have hlow := (rb_low (by assumption) : Below w.heap.size w w')
  clear h0
  go_wp2_with (fail)
  go_loopw [7] (fun i wr => ∃ n : Nat, i = .int .i64 n ∧ n ≤ (listS X).size ∧ n ≤ (listS Y).size ∧ Hid (c = Lib.compareBytes ((listS X).data.toList.drop n) ((listS Y).data.toList.drop n)) ∧ Below w.heap.size w wr) (fun i _ => (listS X).size - (intOf i).toNat)
  case atStart => exact ⟨0, rfl, by omega, by omega, HC0, hlow⟩
  case round =>
    obtain ⟨n, rfl, h1, h2, HC, hB⟩ := hrel
    clear hlow HC0
    by_cases hl : n < (listS X).size ∧ n < (listS Y).size
    · obtain ⟨l1, l2⟩ := hl
      have hc := HC.out
      rw [cb_at _ _ n l1 l2] at hc
      by_cases x1 : (listS X)[n].toNat < (listS Y)[n].toNat
      · rw [if_pos x1] at hc
        subst hc
        go_wp2_with (fail)
        go_quiet (fail)
        go_wp2_with (fail)
        go_ret
        exact ⟨rfl, bdrewN hB⟩
      · rw [if_neg x1] at hc
        by_cases x2 : (listS Y)[n].toNat < (listS X)[n].toNat
        · rw [if_pos x2] at hc
          subst hc
          go_wp2_with (fail)
          go_quiet (fail)
          go_wp2_with (fail)
          go_quiet (fail)
          go_wp2_with (fail)
          go_ret
          exact ⟨rfl, bdrewN (bdrewN hB)⟩
        · rw [if_neg x2] at hc
          have HC2 := Lib.hid hc
          clear hc
          go_wp2_with (fail)
          go_quiet (fail)
          go_wp2_with (fail)
          go_quiet (fail)
          go_wp2_with (fail)
          go_roundw
          case rel => exact ⟨n + 1, by go_num, by omega, by omega, HC2, by first | exact bdrewN (bdrewN hB) | exact bdrewN hB⟩
          case measure => simp [intOf]; omega
    · have hc := HC.out
      rw [cb_end _ _ n h1 h2 hl] at hc
      by_cases x1 : (listS X).size < (listS Y).size
      · rw [if_pos x1] at hc
        subst hc
        by_cases l1 : n < (listS X).size
        · have l2 : ¬ n < (listS Y).size := fun h => hl ⟨l1, h⟩
          clear hl
          go_wp2_with (fail)
          go_ret
          exact ⟨rfl, hB⟩
        · clear hl
          go_wp2_with (fail)
          go_ret
          exact ⟨rfl, hB⟩
      · rw [if_neg x1] at hc
        by_cases x2 : (listS Y).size < (listS X).size
        · rw [if_pos x2] at hc
          subst hc
          by_cases l1 : n < (listS X).size
          · have l2 : ¬ n < (listS Y).size := fun h => hl ⟨l1, h⟩
            clear hl
            go_wp2_with (fail)
            go_ret
            exact ⟨rfl, hB⟩
          · clear hl
            go_wp2_with (fail)
            go_ret
            exact ⟨rfl, hB⟩
        · rw [if_neg x2] at hc
          subst hc
          by_cases l1 : n < (listS X).size
          · have l2 : ¬ n < (listS Y).size := fun h => hl ⟨l1, h⟩
            clear hl
            go_wp2_with (fail)
            go_ret
            exact ⟨rfl, hB⟩
          · clear hl
            go_wp2_with (fail)
            go_ret
            exact ⟨rfl, hB⟩
end Go.Proofs.YtgekfdmamingjaaDoor

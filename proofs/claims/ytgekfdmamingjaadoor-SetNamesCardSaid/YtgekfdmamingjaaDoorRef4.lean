/- The document's own answers (bonsairef01): List, Len, Only, Subset, Meets. -/
import Derived.WalkKit
import Derived.OwnWalk
import Derived.Laws.IdiomStrings
import Derived.Laws.BytesArg
import Derived.Test.YtgekfdmamingjaaDoorRef3
import Derived.Test.YtgekfdmamingjaaDoorList
namespace Go.Proofs.YtgekfdmamingjaaDoor
open Go.RowKit Bset

theorem infoByte : (Tryd.prog.info? 5).map (fun i => (i.zero, i.size, i.bytes)) = some (some (.int .u8 0), 1, 1) := by kernel_rfl

theorem ownsRow_below {w w' : World} {base size n : Nat} {e : TypeId} {v : Value} {xs : List Value} (h : w.ownsRow base e size v n xs) (hb : Below w.heap.size w w') : w'.ownsRow base e size v n xs :=
  ⟨h.1, h.2.imp id fun ⟨g, cap, cur, e1, e2, e3, r⟩ => ⟨g, cap, cur, e1, e2, (hb.block g (lt_of_block e3)).trans e3, r⟩⟩

theorem cell_one_new (w : World) (x : Value) (t : TypeId) : ∀ j u, [x][j]? = some u → (w.alloc (.cells #[x] t)).cell? ((⟨w.heap.size, 0, none⟩ : Addr).add j) = some u := by
  intro j u hj
  match j, hj with
  | 0, hj =>
    simp at hj
    subst hj
    simp [Addr.add]

/-- The bytes below n, as cells. -/
def bL (S : Nat → Bool) (n : Nat) : List Value := (upTo S n).map fun m => .int .u8 (m : Nat)
theorem bL_in {S : Nat → Bool} {n : Nat} (h : S n = true) : bL S (n + 1) = bL S n ++ [.int .u8 (n : Nat)] ∧ (upTo S (n + 1)).length = (upTo S n).length + 1 := by
  unfold bL
  rw [upTo_succ]
  simp [h]
theorem bL_out {S : Nat → Bool} {n : Nat} (h : S n = false) : upTo S (n + 1) = upTo S n := by
  rw [upTo_succ]
  simp [h]

theorem conv_list (S : Nat → Bool) (base : Nat) (v : Value) (W : World) (hrow : W.ownsRow base 5 1 v (upTo S 256).length (bL S 256)) :
    (convert 32 9 v).run Tryd.prog W = .ok (.string ⟨(bytesOf S).toArray⟩) W := by
  have hlen : (bytesOf S).length = (upTo S 256).length := by
    unfold bytesOf mem
    rw [List.length_map]
  rcases hrow.2 with ⟨rfl, h0⟩ | ⟨g, cap, cur, rfl, _⟩
  · have e : bytesOf S = [] := List.eq_nil_of_length_eq_zero (hlen.trans h0)
    rw [e]
    exact run_convert_bytes_nil W _ _ Tryd.underlying32 Tryd.underlying5 _ _ _ Tryd.underlying9
  · rw [← hlen]
    refine run_convert_bytes_back W _ _ _ _ _ (bytesOf S) Tryd.underlying32 Tryd.underlying5 Tryd.underlying9 (fun j hj => ?_)
    have hj2 : j < (upTo S 256).length := by omega
    rw [show (⟨g, 0, none⟩ : Addr).add j = ⟨g, j, none⟩ by simp [Addr.add]; omega, hrow.cellAt j (by omega)]
    unfold bL
    rw [List.getElem?_map, List.getElem?_eq_getElem hj2]
    have hm := (mem_upTo.1 (List.getElem_mem hj2)).1
    have e : (bytesOf S)[j]? = some (UInt8.ofNat (upTo S 256)[j]) := by
      unfold bytesOf mem
      rw [List.getElem?_map, List.getElem?_eq_getElem hj2]
      rfl
    have e1 : (bytesOf S)[j] = UInt8.ofNat (upTo S 256)[j] := by
      rw [List.getElem?_eq_getElem hj] at e
      exact Option.some.inj e
    rw [e1, UInt8.toNat_ofNat', Nat.mod_eq_of_lt hm]
    rfl

set_option maxRecDepth 100000 in
set_option maxHeartbeats 4000000 in
theorem rlist_any (S : Nat → Bool) (w : World) :
    Calls Tryd.prog 27 #[setV S] w fun e w' => e = .returned (.string ⟨(bytesOf S).toArray⟩) ∧ Below w.heap.size w w' := by
  obtain ⟨i0, hi, hz0, hz1, hz2⟩ := info_parts infoByte
  have x0 := Cl.new w 26 (setC S)
  have hB0 : Below w.heap.size w (w.alloc (.cells (setC S) 26)) := (Below.refl _ w).alloc (Nat.le_refl _) _
  go_enter Tryd.func27, Tryd.ntmps27
  go_wp2_with (fail)
  go_loopw [3, 4] (fun v i wr => ∃ n : Nat, i = .int .i64 n ∧ n ≤ 256 ∧ Cl wr w.heap.size 26 (setC S) ∧ wr.ownsRow (w.heap.size + 1) 5 1 v (upTo S n).length (bL S n) ∧ Below w.heap.size w wr) (fun _ i _ => 256 - (intOf i).toNat)
  case atStart => exact ⟨0, rfl, by omega, x0, World.ownsRow_nil _ _ _ _, hB0⟩
  case round =>
    obtain ⟨n, rfl, h1, hx, hown, hB⟩ := hrel
    clear x0 hB0
    by_cases hlt : n < 256
    · have hn8 : IntKind.u8.wrap (n : Int) = (n : Int) := IntWalk.u8_in _ (by omega)
      have hni : (n : Int) < 256 := by omega
      have x00 := hx.word 0 (by omega)
      have x01 := hx.word 1 (by omega)
      have x02 := hx.word 2 (by omega)
      have x03 := hx.word 3 (by omega)
      rcases hS : S n with _ | _
      · have hup := bL_out hS
        have HU := Lib.hid hup
        clear hup
        go_wp2_with (go_at_call 25; refine (rhas_any _ n hlt _).mono ?_; rintro e w' ⟨rfl, hb⟩)
        go_roundw
        case rel =>
          refine ⟨n + 1, by go_num, by omega, hx.below hb hx.lt, ?_, hB.trans (hb.mono hB.size)⟩
          unfold bL
          rw [HU.out]
          exact ownsRow_below hown hb
        case measure => simp [intOf]; omega
      · obtain ⟨hup, hup2⟩ := bL_in hS
        have hle := upTo_len S n
        have HU := Lib.hid hup
        have HU2 := Lib.hid hup2
        clear hup hup2
        generalize hL : (upTo S n).length = L at hown hle
        have HL := Lib.hid hL
        clear hL
        go_wp2_with (first
          | (go_at_call 25; refine (rhas_any _ n hlt _).mono ?_; rintro e w' ⟨rfl, hb⟩; have hx1 := hx.below hb hx.lt; have hown1 := ownsRow_below hown hb; have hB1 := hB.trans (hb.mono hB.size); clear hx hown hB hb x00 x01 x02 x03)
          | (at_builtin; refine wpList_append_own _ rfl _ _ 32 rfl (w.heap.size + 1) 5 i0 (.int .u8 0) 1 1 Tryd.underlying32 hi hz0 hz1 hz2 rfl (by decide) _ _ _ rfl (hown1.alloc _) ⟨w'.heap.size, 0, none⟩ 1 1 [.int .u8 n] rfl rfl (cell_one_new _ _ _) (by simp [Value.oneCell']) (by unfold maxLen; omega) (by omega) (by have := hx1.lt; simp; omega) ?_; intro v' w1 hown' hgrow _))
        go_roundw
        case rel =>
          have hlt1 := hx1.lt
          refine ⟨n + 1, by go_num, by omega, ?_, ?_, ?_⟩
          · exact (hgrow.block w.heap.size (by simp; omega) (fun e => by have := (hown1.lt w.heap.size e.symm).1; omega)).trans (hx1.alloc _)
          · rw [HU.out, HU2.out, HL.out]
            exact hown'
          · exact (hB1.alloc hB1.size _).grown hgrow (by simp; omega) (fun j hj => by have := (hown1.lt j hj).1; omega)
        case measure => simp [intOf]; omega
    · obtain rfl : n = 256 := by omega
      have hcv := conv_list S _ _ _ hown
      go_wp2
      go_ret
      exact ⟨rfl, hB⟩

set_option maxHeartbeats 1000000 in
theorem rlen_any (S : Nat → Bool) (w : World) :
    Calls Tryd.prog 26 #[setV S] w fun e w' => e = .returned (.int .i64 ((mem S).length : Nat)) ∧ Below w.heap.size w w' := by
  have hl : (⟨(bytesOf S).toArray⟩ : ByteArray).size = (mem S).length := by
    unfold bytesOf
    simp [ByteArray.size]
  have hB0 : Below w.heap.size w (w.alloc (.cells (setC S) 26)) := (Below.refl _ w).alloc (Nat.le_refl _) _
  generalize hs : (⟨(bytesOf S).toArray⟩ : ByteArray) = s at hl
  go_enter Tryd.func26, Tryd.ntmps26
  go_wp2_with (go_at_call 27; refine (rlist_any S _).mono ?_; rintro e w' ⟨rfl, hb⟩; rw [hs])
  go_ret
  exact ⟨rfl, hB0.trans (hb.mono hB0.size)⟩
end Go.Proofs.YtgekfdmamingjaaDoor

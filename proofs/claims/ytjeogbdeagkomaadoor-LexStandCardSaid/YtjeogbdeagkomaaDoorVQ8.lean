/- Package quote: Literal. -/
import Derived.Test.YtjeogbdeagkomaaDoorVQ6
import Derived.Test.YtjeogbdeagkomaaDoorVShs
namespace Go.Proofs.YtjeogbdeagkomaaDoor
open Go.RowKit Go.Maps Bset Qm

theorem MapIs.others {e : TypeId} {b g : Nat} {W W' : World} {f : Nat → Option Nat} (h : MapIs W g f) (hk : Lib.OthersKept e (some b) W W') (hg : g ≠ b) : MapIs W' g f := by
  obtain ⟨n, D, ⟨es, clock, hh, r⟩, h2⟩ := h
  exact ⟨n, D, ⟨es, clock, obj_others hk hh hg rfl, r⟩, h2⟩

/-- What a loop that writes signs to a builder keeps. -/
structure Writes (w : World) (p : Sp) (bb ba Bs Bb : Nat) (l : List UInt8) (W : World) : Prop where
  sp : Spell W p bb ba
  box : Cl W Bs 126 (spC p bb ba)
  bld : Lib.IsBuilderF 109 5 w.heap.size Bb (Lib.byteCells l) W
  low : Below w.heap.size w W
  ne : Bs ≠ Bb
  nb : bb ≠ Bb
  na : ba ≠ Bb

theorem Writes.below {w W W' : World} {p : Sp} {bb ba Bs Bb : Nat} {l : List UInt8} (h : Writes w p bb ba Bs Bb l W) (hb : Below W.heap.size W W') : Writes w p bb ba Bs Bb l W' :=
  ⟨h.sp.below hb, h.box.below hb h.box.lt, builder_below h.bld hb, h.low.trans (hb.mono h.low.size), h.ne, h.nb, h.na⟩
theorem Writes.drew {w W : World} {p : Sp} {bb ba Bs Bb : Nat} {l : List UInt8} (h : Writes w p bb ba Bs Bb l W) : Writes w p bb ba Bs Bb l W.drew := ⟨h.sp.drew, h.box, h.bld, h.low.drew, h.ne, h.nb, h.na⟩
theorem Writes.wrote {w W W' : World} {p : Sp} {bb ba Bs Bb : Nat} {l l' : List UInt8} (h : Writes w p bb ba Bs Bb l W) (h2 : Lib.IsBuilderF 109 5 w.heap.size Bb (Lib.byteCells l') W') (hb : Below w.heap.size W W') (hk : Lib.OthersKept 5 (some Bb) W W') : Writes w p bb ba Bs Bb l' W' :=
  ⟨⟨h.sp.isp, h.sp.beh.others hk h.nb, h.sp.ahd.others hk h.na⟩, cl_others hk h.box h.ne (by decide), h2, h.low.trans hb, h.ne, h.nb, h.na⟩
theorem Writes.byte {w W : World} {p : Sp} {bb ba Bs Bb : Nat} {l : List UInt8} (h : Writes w p bb ba Bs Bb l W) (c : UInt8) (hl : l.length < 100000000) :
    Calls Tryd.prog 101 #[.pointer (some ⟨Bb, 0, none⟩), .int .u8 c.toNat] W fun e w' => e = .returned .nilIface ∧ Writes w p bb ba Bs Bb (l ++ [c]) w' := by
  refine (builder_WriteByte _ _ _ _ _ h.bld (by rw [byteCells_length]; omega) h.low.size).mono ?_
  rintro e w' ⟨rfl, h2, hb, hk⟩
  exact ⟨rfl, h.wrote (.inr (by rw [← byteCells_append]; exact h2)) hb hk⟩
theorem Writes.str {w W : World} {p : Sp} {bb ba Bs Bb : Nat} {l : List UInt8} (h : Writes w p bb ba Bs Bb l W) (s : List UInt8) (hl : l.length + s.length < 100000000) :
    Calls Tryd.prog 102 #[.pointer (some ⟨Bb, 0, none⟩), .string ⟨s.toArray⟩] W fun e w' => e = .returned (.tuple #[.int .i64 s.length, .nilIface]) ∧ Writes w p bb ba Bs Bb (l ++ s) w' := by
  refine (builder_WriteString _ _ _ ⟨s.toArray⟩ _ h.bld (by rw [byteCells_length]; show l.length + s.length ≤ _; omega) h.low.size).mono ?_
  rintro e w' ⟨rfl, h2, hb, hk⟩
  exact ⟨rfl, h.wrote (.inr (by rw [← byteCells_append, ← strCells_of]; exact h2)) hb hk⟩
theorem Writes.text {w W : World} {p : Sp} {bb ba Bs Bb : Nat} {l : List UInt8} (h : Writes w p bb ba Bs Bb l W) :
    Calls Tryd.prog 103 #[.pointer (some ⟨Bb, 0, none⟩)] W fun e w' => e = .returned (.string ⟨l.toArray⟩) ∧ Below w.heap.size w w' := by
  refine (builder_String _ _ _ _ h.bld h.low.size).mono ?_
  rintro e w' ⟨rfl, _, hb, _⟩
  exact ⟨rfl, h.low.trans hb⟩
theorem Writes.sign {w W : World} {p : Sp} {bb ba Bs Bb : Nat} {l : List UInt8} (h : Writes w p bb ba Bs Bb l W) (b : Nat) (hb : b < 256) :
    Calls Tryd.prog 120 #[spV p bb ba, .int .u8 b] W fun e w' => e = .returned (.string ⟨(sign p b).toArray⟩) ∧ Writes w p bb ba Bs Bb l w' := by
  refine (sign_any p bb ba b hb W h.sp).mono ?_
  rintro e w' ⟨rfl, hb⟩
  exact ⟨rfl, h.below hb⟩

/-- A builder, just laid. -/
theorem Writes.start {w w1 : World} {p : Sp} {bb ba : Nat} (hS : Spell w1 p bb ba) (hb : Below w.heap.size w w1) :
    Writes w p bb ba w1.heap.size (w1.heap.size + 1) [] ((w1.alloc (.cells (spC p bb ba) 126)).alloc (.cells #[.pointer none, .slice none 0 0] 109)) where
  sp := (hS.alloc _).alloc _
  box := (Cl.new w1 _ _).alloc _
  bld := .inl ⟨by have := hb.size; omega, _, (Cl.new' (by simp) _ _), World.ownsRowF_nil _ _ _ _, by simp [Value.ownBlock]⟩
  low := (hb.alloc hb.size _).alloc (by have := hb.size; simp; omega) _
  ne := by omega
  nb := by have := hS.beh.lt; omega
  na := by have := hS.ahd.lt; omega

set_option maxRecDepth 100000 in
set_option maxHeartbeats 4000000 in
/-- **Literal(s).** -/
theorem literal_any (s : ByteArray) (hs : s.size ≤ 1048576) (w : World) :
    Calls Tryd.prog 99 #[.string s] w fun e w' => e = .returned (.string ⟨(litT s.data.toList).toArray⟩) ∧ Below w.heap.size w w' := by
  have hlen : ∀ k, (sigs (s.data.toList.take k)).length ≤ 4194304 := fun k => by
    have h1 := (sigs_len (s.data.toList.take k)).2
    have h2 := List.length_take_le k s.data.toList
    have h3 : s.data.toList.length = s.size := by simp
    have h4 : (s.data.toList.take k).length ≤ s.data.toList.length := List.length_take_le' k _
    omega
  have HL := Lib.hid hlen
  clear hlen
  go_enter Tryd.func99, Tryd.ntmps99
  go_wp2_with (go_at_call 119; refine (literals_any _).mono ?_; rintro e w1 ⟨bb, ba, rfl, hS, hb1⟩)
  have h0 := Writes.start hS hb1
  obtain ⟨Bs, hBs⟩ : ∃ Bs, Bs = w1.heap.size := ⟨_, rfl⟩
  rw [← hBs] at h0 ⊢
  refine (h0.byte 34 (by decide)).mono ?_
  rintro e w2 ⟨rfl, h2⟩
  replace h2 : Writes w lit bb ba Bs (Bs + 1) (34 :: sigs (s.data.toList.take 0)) w2 := h2
  have hs63 : s.size ≤ 9223372036854775807 := by omega
  clear h0 hS hb1 hBs
  go_wp2
  go_loopw [10] (fun v wr => ∃ k : Nat, v = .int .i64 k ∧ k ≤ s.size ∧ Writes w lit bb ba Bs (Bs + 1) (34 :: sigs (s.data.toList.take k)) wr)
    (fun v _ => s.size - (intOf v).toNat)
  case atStart => exact ⟨0, rfl, Nat.zero_le _, h2⟩
  case round =>
    clear h2
    obtain ⟨k, rfl, hk, hW⟩ := hrel
    by_cases hlt : k < s.size
    · have c0 := hW.box.cell 0
      have c1 := hW.box.cell 1
      have c2 := hW.box.cell 2
      have c3 := hW.box.cell 3
      have c4 := hW.box.cell 4
      have c5 := hW.box.cell 5
      have c6 := hW.box.cell 6
      have c7 := hW.box.cell 7
      have n0 : (0 : Int) ≤ (k : Int) := by omega
      have n1 : (k : Int) < (s.size : Int) := by omega
      have hu8 := s[k].toNat_lt
      have hnew : (34 :: sigs (s.data.toList.take k)) ++ sign lit s[k].toNat = 34 :: sigs (s.data.toList.take (k + 1)) := by
        rw [take_snoc s k hlt]
        simp [sigs]
      have hroom : (34 :: sigs (s.data.toList.take k)).length + (sign lit s[k].toNat).length < 100000000 := by
        have h1 := HL.out k
        have h2 := (sign_len lit (.inl rfl) s[k].toNat hu8).2
        rw [List.length_cons]
        omega
      have HN := Lib.hid hnew
      have HR := Lib.hid hroom
      clear hnew hroom
      go_wp2
      go_region_with (first
        | (go_at_call 120; refine (hW.drew.sign s[k].toNat hu8).mono ?_; rintro e w3 ⟨rfl, h3⟩)
        | (go_at_call 102; refine (h3.str _ HR.out).mono ?_; rintro e w4 ⟨rfl, h4⟩))
      all_goals
        go_wp2
        go_roundw
        case rel =>
          refine ⟨k + 1, by go_num, by omega, ?_⟩
          rw [← HN.out]
          exact h4
        case measure => simp [intOf]; omega
    · obtain rfl : k = s.size := by omega
      have hall : s.data.toList.take s.size = s.data.toList := List.take_of_length_le (by simp)
      have hroom := HL.out s.size
      rw [hall] at hW hroom
      have HR := Lib.hid hroom
      clear hall hlt hroom
      go_wp2_with (first
        | (go_at_call 101; refine (hW.byte 34 (by have := HR.out; rw [List.length_cons]; omega)).mono ?_; rintro e w3 ⟨rfl, h3⟩)
        | (go_at_call 103; refine h3.text.mono ?_; rintro e w4 ⟨rfl, h4⟩))
      go_ret
      exact ⟨rfl, h4⟩
end Go.Proofs.YtjeogbdeagkomaaDoor

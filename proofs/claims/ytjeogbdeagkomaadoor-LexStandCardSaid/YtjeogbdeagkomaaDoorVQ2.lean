/- Package quote: the two maps of a spelling; a byte's sign; a sign that is read. -/
import Derived.Test.YtjeogbdeagkomaaDoorVQ1
import Derived.Test.YtjeogbdeagkomaaDoorVTz
import Derived.Maps.OwnSet
import Derived.Maps.OwnIn
import Derived.Deep.RegionWith
import Derived.RegionTactic
import Derived.BigRegion
namespace Go.Proofs.YtjeogbdeagkomaaDoor
open Go.RowKit Go.Maps Bset Qm

theorem keyed8 : Keyed Tryd.prog 5 := int_keyed Tryd.underlying5

/-- A map of bytes that holds just this. -/
def MapIs (w : World) (b : Nat) (f : Nat → Option Nat) : Prop :=
  ∃ n D, w.ownsMap (H := Unit) Tryd.prog 5 (plainElem Tryd.prog 5) b n D ∧ ∀ k : Nat, k < 256 → Maps.has D (.int .u8 k) = (f k).isSome ∧ D.atKey (.int .u8 k) (.lit (.int .u8 0)) = .lit (.int .u8 ((f k).getD 0 : Nat))

theorem MapIs.lt {w : World} {b : Nat} {f : Nat → Option Nat} (h : MapIs w b f) : b < w.heap.size := by
  obtain ⟨_, _, h, _⟩ := h
  exact h.lt
theorem MapIs.kept {w w' : World} {b : Nat} {f : Nat → Option Nat} {row : Option Nat} (h : MapIs w b f) (hg : w.grownBy w' row) (hne : some b ≠ row) : MapIs w' b f := by
  obtain ⟨n, D, h, h2⟩ := h
  exact ⟨n, D, h.kept hg hne, h2⟩
theorem grown_of_below {w w' : World} (h : Below w.heap.size w w') : w.grownBy w' none :=
  ⟨h.os, h.tape, h.output, h.size, fun j hj _ => h.block j hj⟩
theorem MapIs.below {w w' : World} {b B : Nat} {f : Nat → Option Nat} (h : MapIs w b f) (hb : Below B w w') (hlt : b < B) : MapIs w' b f := by
  obtain ⟨n, D, ⟨es, clock, hh, r⟩, h2⟩ := h
  exact ⟨n, D, ⟨es, clock, (hb.block b hlt).trans hh, r⟩, h2⟩
theorem MapIs.drew {w : World} {b : Nat} {f : Nat → Option Nat} (h : MapIs w b f) : MapIs w.drew b f := h
theorem MapIs.alloc {w : World} {b : Nat} {f : Nat → Option Nat} (h : MapIs w b f) (o : Obj) : MapIs (w.alloc o) b f := h.kept (World.grownBy_alloc w o none) (by simp)

/-- A look-up. -/
theorem MapIs.look {w : World} {b : Nat} {f : Nat → Option Nat} (h : MapIs w b f) {k : Nat} (hk : k < 256) :
    (Instr.lookup 124 (.map (some b)) (.int .u8 k) true).run Tryd.prog w = .ok (.tuple #[.int .u8 ((f k).getD 0 : Nat), .bool (f k).isSome]) w := by
  obtain ⟨n, D, ho, h2⟩ := h
  obtain ⟨e1, e2⟩ := h2 k hk
  obtain ⟨v, ps, hrun, hv⟩ := ho.look_ok keyed8 Tryd.underlying124 (Tryd.zeroValue5 w) (zd := .lit (.int .u8 0)) (zp := []) (plainElem_int Tryd.underlying5 (by decide)) (keyOf_int_mk Tryd.underlying5 (q := .u8) (a := (k : Int)) (WalkArith.wf_u8 (by omega)))
  rw [e1] at hrun
  rw [e2] at hv
  obtain ⟨c, rfl, hc, _⟩ := plainElem_int_inv Tryd.underlying5 hv
  have : (((f k).getD 0 : Nat) : Int) = c := by simp at hc; exact hc.1
  rw [this]
  exact hrun

/-- A spelling's cells. -/
abbrev spC (p : Sp) (bb ba : Nat) : Array Value := #[.int .u64 (word (plain p) 0 : Nat), .int .u64 (word (plain p) 1 : Nat), .int .u64 (word (plain p) 2 : Nat), .int .u64 (word (plain p) 3 : Nat), .map (some bb), .map (some ba), .bool p.rng, .int .u8 (p.last : Nat)]
abbrev spV (p : Sp) (bb ba : Nat) : Value := .agg (spC p bb ba)

/-- The maps of a spelling lie there. -/
structure Spell (w : World) (p : Sp) (bb ba : Nat) : Prop where
  isp : Is p
  beh : MapIs w bb (behind p)
  ahd : MapIs w ba (Qm.ahead p)

theorem Spell.below {w w' : World} {p : Sp} {bb ba : Nat} (h : Spell w p bb ba) (hb : Below w.heap.size w w') : Spell w' p bb ba := ⟨h.isp, h.beh.below hb h.beh.lt, h.ahd.below hb h.ahd.lt⟩
theorem Spell.alloc {w : World} {p : Sp} {bb ba : Nat} (h : Spell w p bb ba) (o : Obj) : Spell (w.alloc o) p bb ba := ⟨h.isp, h.beh.alloc o, h.ahd.alloc o⟩
theorem Spell.drew {w : World} {p : Sp} {bb ba : Nat} (h : Spell w p bb ba) : Spell w.drew p bb ba := ⟨h.isp, h.beh, h.ahd⟩

theorem cells_new (w : World) (cs : Array Value) (t : TypeId) (j : Nat) : (w.alloc (.cells cs t)).cell? ((⟨w.heap.size, 0, none⟩ : Addr).add j) = cs[j]? := by
  have h := (Cl.new w t cs).cell j
  have e : (⟨w.heap.size, 0, none⟩ : Addr).add j = ⟨w.heap.size, j, none⟩ := by
    simp only [Addr.add]
    split
    · simp_all
    · simp
  rw [e]
  exact h
theorem conv_cells (l : List UInt8) (w : World) (g n : Nat) (hg : g = w.heap.size) (cs : Array Value) (hcs : cs = (l.map fun c => Value.int .u8 c.toNat).toArray) (hn : n = l.length) :
    (convert 72 9 (.slice (some ⟨g, 0, none⟩) n n)).run Tryd.prog (w.alloc (.cells cs 5)) = .ok (.string ⟨l.toArray⟩) (w.alloc (.cells cs 5)) := by
  subst hg hcs hn
  refine run_convert_bytes_back _ _ _ _ _ _ l Tryd.underlying72 Tryd.underlying5 Tryd.underlying9 (fun j hj => ?_)
  rw [cells_new]
  simp [hj]
theorem conv_cells_drew (l : List UInt8) (w : World) (g n : Nat) (hg : g = w.heap.size) (cs : Array Value) (hcs : cs = (l.map fun c => Value.int .u8 c.toNat).toArray) (hn : n = l.length) :
    (convert 72 9 (.slice (some ⟨g, 0, none⟩) n n)).run Tryd.prog (w.alloc (.cells cs 5)).drew = .ok (.string ⟨l.toArray⟩) (w.alloc (.cells cs 5)).drew := by
  subst hg hcs hn
  refine run_convert_bytes_back _ _ _ _ _ _ l Tryd.underlying72 Tryd.underlying5 Tryd.underlying9 (fun j hj => ?_)
  show (w.alloc _).cell? _ = _
  rw [cells_new]
  simp [hj]

theorem idx_hex (n : Nat) (hn : n < 16) (x : Int) (hx : x = n) (W : World) : (Instr.index 9 (.string ⟨#[48, 49, 50, 51, 52, 53, 54, 55, 56, 57, 97, 98, 99, 100, 101, 102]⟩) (.int .u8 x)).run Tryd.prog W = .ok (.int .u8 ((hexd n).toNat : Nat)) W := by
  show (Instr.index 9 (.string hexB) (.int .u8 x)).run Tryd.prog W = _
  subst hx
  have h0 : (0 : Int) ≤ (n : Int) := by omega
  have h1 : n < hexB.size := by rw [show hexB.size = 16 from rfl]; exact hn
  have e : hexd n = hexB[n] := by
    unfold hexd
    rw [List.getD_eq_getElem?_getD, List.getElem?_eq_getElem (by simpa using h1)]
    rfl
  rw [e]
  go_simp

theorem spell_cells (w : World) (p : Sp) (bb ba : Nat) (j : Nat) : (w.alloc (.cells (spC p bb ba) 126)).cell? ⟨w.heap.size, j, none⟩ = (spC p bb ba)[j]? := (Cl.new w 126 (spC p bb ba)).cell j

theorem sign_plain {p : Sp} {b : Nat} (h : plain p b = true) : sign p b = [UInt8.ofNat b] := by unfold sign; rw [if_pos h]
theorem sign_back {p : Sp} {b c : Nat} (h : plain p b = false) (h2 : Qm.ahead p b = some c) : sign p b = [92, UInt8.ofNat c] := by unfold sign; rw [h, h2]; rfl
theorem sign_hex {p : Sp} {b : Nat} (h : plain p b = false) (h2 : Qm.ahead p b = none) : sign p b = [92, 120, hexd (b / 16), hexd (b % 16)] := by unfold sign; rw [h, h2]; rfl

set_option maxHeartbeats 2000000 in
/-- A byte's own sign. -/
theorem sign_any (p : Sp) (bb ba b : Nat) (hb : b < 256) (w : World) (h : Spell w p bb ba) :
    Calls Tryd.prog 120 #[spV p bb ba, .int .u8 b] w fun e w' => e = .returned (.string ⟨(sign p b).toArray⟩) ∧ Below w.heap.size w w' := by
  have hc := spell_cells w p bb ba
  have h1 := h.alloc (.cells (spC p bb ba) 126)
  have c0 := hc 0
  have c1 := hc 1
  have c2 := hc 2
  have c3 := hc 3
  have c5 := hc 5
  have hh := has_any (plain p) b hb
  have hb0 : Below w.heap.size w (w.alloc (.cells (spC p bb ba) 126)) := (Below.refl _ w).alloc (Nat.le_refl _) _
  clear hc
  cases hp : plain p b with
  | true =>
    have hs := sign_plain hp
    rw [hp] at hh
    have hcv := fun w g hg => conv_cells [UInt8.ofNat b] w g 1 hg #[.int .u8 b] (by simp [u8 hb]) rfl
    have HS := Lib.hid hs
    clear hs hp
    go_enter Tryd.func120, Tryd.ntmps120
    go_wp2_with (go_at_call 142; refine (hh _).mono ?_; rintro e w1 ⟨rfl, hb1⟩)
    go_ret
    exact ⟨by rw [HS.out]; rfl, (hb0.trans (hb1.mono hb0.size)).alloc (Nat.le_trans hb0.size hb1.size) _⟩
  | false =>
    rw [hp] at hh
    cases ha : Qm.ahead p b with
    | some c =>
      have hs := sign_back hp ha
      have hc8 : c < 256 := by
        have := ahead_behind p h.isp b hb
        rw [ha] at this
        simp at this
        exact this.1
      have hcv := fun w g hg => conv_cells [92, UInt8.ofNat c] w g 2 hg #[.int .u8 92, .int .u8 c] (by simp [u8 hc8]) rfl
      have HS := Lib.hid hs
      have HA := Lib.hid ha
      clear hs hp ha
      go_enter Tryd.func120, Tryd.ntmps120
      go_wp2_with (go_at_call 142; refine (hh _).mono ?_; rintro e w1 ⟨rfl, hb1⟩; have c51 := (hb1.cell (p := ⟨w.heap.size, 5, none⟩) (by simp)).trans c5; have hl := (h1.below hb1).ahd.look hb; rw [HA.out] at hl; simp only [Option.getD_some, Option.isSome_some] at hl)
      go_ret
      exact ⟨by rw [HS.out]; rfl, (hb0.trans (hb1.mono hb0.size)).alloc (Nat.le_trans hb0.size hb1.size) _⟩
    | none =>
      have hs := sign_hex hp ha
      have i1 := idx_hex (b / 16) (by omega) ((b : Int) / 16) (by omega)
      have i2 := idx_hex (b % 16) (by omega) ((b : Int) % 16) (by omega)
      have hcv := fun w g hg => conv_cells_drew [92, 120, hexd (b / 16), hexd (b % 16)] w g 4 hg #[.int .u8 92, .int .u8 120, .int .u8 (hexd (b / 16)).toNat, .int .u8 (hexd (b % 16)).toNat] rfl rfl
      have HS := Lib.hid hs
      have HA := Lib.hid ha
      clear hs hp ha
      go_enter Tryd.func120, Tryd.ntmps120
      go_wp2_with (go_at_call 142; refine (hh _).mono ?_; rintro e w1 ⟨rfl, hb1⟩; have c51 := (hb1.cell (p := ⟨w.heap.size, 5, none⟩) (by simp)).trans c5; have hl := (h1.below hb1).ahd.look hb; rw [HA.out] at hl; simp only [Option.getD_none, Option.isSome_none] at hl)
      go_region
      all_goals
        go_wp2
        go_ret
        exact ⟨by rw [HS.out]; rfl, ((hb0.trans (hb1.mono hb0.size)).drew.alloc (Nat.le_trans hb0.size hb1.size) _)⟩

set_option maxHeartbeats 4000000 in
/-- A sign is read. -/
theorem read_any (p : Sp) (bb ba : Nat) (s : ByteArray) (hs : s.size ≤ maxLen) (k : Nat) (hk : k ≤ s.size) (w : World) (h : Spell w p bb ba) :
    Calls Tryd.prog 202 #[spV p bb ba, .string s, .int .i64 k] w fun e w' => e = .returned (resT k (rd p (s.data.toList.drop k))) ∧ Below w.heap.size w w' := by
  unfold maxLen at hs
  have hc := spell_cells w p bb ba
  have hb0 : Below w.heap.size w (w.alloc (.cells (spC p bb ba) 126)) := (Below.refl _ w).alloc (Nat.le_refl _) _
  have h1 := h.alloc (.cells (spC p bb ba) 126)
  have c0 := hc 0
  have c1 := hc 1
  have c2 := hc 2
  have c3 := hc 3
  have c4 := hc 4
  clear hc
  by_cases he : k = s.size
  · have hh : rd p (s.data.toList.drop k) = (0, 0, false) := by rw [drop_end s k (by omega)]; rfl
    have HH := Lib.hid hh
    clear hh
    go_enter Tryd.func202, Tryd.ntmps202
    go_wp2
    go_ret3
    exact ⟨ret_tup (by rw [HH.out]; simp), hb0⟩
  · have hlt : k < s.size := by omega
    have t1 : ((k : Int) == (s.size : Int)) = false := by simp; omega
    have hc8 := s[k].toNat_lt
    have hd := drop_at s k hlt
    by_cases h92 : s[k].toNat = 92
    · have t2 : ((s[k].toNat : Int) != 92) = false := by simp [h92]
      by_cases he2 : k + 1 = s.size
      · have hh : rd p (s.data.toList.drop k) = (0, 1, false) := by rw [hd, drop_end s (k + 1) (by omega)]; exact rd2 p _ h92
        have t3 : ((k : Int) + 1 == (s.size : Int)) = true := by simp; omega
        have HH := Lib.hid hh
        clear hh hd h92
        go_enter Tryd.func202, Tryd.ntmps202
        go_wp2
        go_ret3
        exact ⟨ret_tup (by rw [HH.out]; simp), hb0⟩
      · have hlt2 : k + 1 < s.size := by omega
        have t3 : ((k : Int) + 1 == (s.size : Int)) = false := by simp; omega
        have hd8 := s[k + 1].toNat_lt
        have hd2 := drop_at s (k + 1) hlt2
        have hl := h1.drew.beh.look hd8
        have n0 : (0 : Int) ≤ (k : Int) + 1 := by omega
        have n1 : (k : Int) + 1 < (s.size : Int) := by omega
        cases hb : behind p s[k + 1].toNat with
        | some v =>
          have hh : rd p (s.data.toList.drop k) = (v, 2, true) := by rw [hd, hd2, rd3 p _ _ _ h92, hb]
          rw [hb] at hl
          simp only [Option.getD_some, Option.isSome_some] at hl
          have HH := Lib.hid hh
          clear hh hd h92 hb hd2
          go_enter Tryd.func202, Tryd.ntmps202
          go_wp2
          go_region
          all_goals
            go_wp2
            go_ret3
            exact ⟨ret_tup (by rw [HH.out]; simp; omega), hb0.drew⟩
        | none =>
          rw [hb] at hl
          simp only [Option.getD_none, Option.isSome_none] at hl
          by_cases hx : s[k + 1].toNat = 120
          · have hh : rd p (s.data.toList.drop k) = ((Qm.hx (s.data.toList.drop (k + 2))).1, 2 + (Qm.hx (s.data.toList.drop (k + 2))).2.1, (Qm.hx (s.data.toList.drop (k + 2))).2.2) := by rw [hd, hd2, rd3 p _ _ _ h92, hb]; simp only; rw [if_pos hx]
            have hhx := hex_any s (by unfold maxLen; exact hs) (k + 2) (by omega)
            have t4 : ((s[k + 1].toNat : Int) != 120) = false := by simp [hx]
            generalize Qm.hx (s.data.toList.drop (k + 2)) = r at hh hhx
            have HH := Lib.hid hh
            have e2 : (((k + 2 : Nat) : Int)) = (k : Int) + 1 + 1 := by omega
            rw [e2] at hhx
            have HHX := Lib.hid hhx
            clear hh hd h92 hb hd2 hhx hx e2
            go_enter Tryd.func202, Tryd.ntmps202
            go_wp2
            go_region
            all_goals
              go_wp2_with (go_at_call 206; refine (HHX.out _).mono ?_; rintro e w1 ⟨rfl, rfl⟩)
              go_ret3
              exact ⟨ret_tup (by rw [HH.out]; simp; omega), hb0.drew⟩
          · have hh : rd p (s.data.toList.drop k) = (0, 1, false) := by rw [hd, hd2, rd3 p _ _ _ h92, hb]; simp only; rw [if_neg hx]
            have t4 : ((s[k + 1].toNat : Int) != 120) = true := by simp; omega
            have HH := Lib.hid hh
            clear hh hd h92 hb hd2
            go_enter Tryd.func202, Tryd.ntmps202
            go_wp2
            go_region
            all_goals
              go_wp2
              go_ret3
              exact ⟨ret_tup (by rw [HH.out]; simp), hb0.drew⟩
    · have t2 : ((s[k].toNat : Int) != 92) = true := by simp; omega
      have n0 : (0 : Int) ≤ (k : Int) := by omega
      have n1 : (k : Int) < (s.size : Int) := by omega
      have hh := has_any (plain p) s[k].toNat hc8
      cases hp : plain p s[k].toNat with
      | true =>
        have hr : rd p (s.data.toList.drop k) = (s[k].toNat, 1, true) := by rw [hd, rd1 p _ _ h92, if_pos hp]
        rw [hp] at hh
        have HH := Lib.hid hr
        clear hr hd h92 hp
        go_enter Tryd.func202, Tryd.ntmps202
        go_wp2
        go_region_with (go_at_call 142; refine (hh _).mono ?_; rintro e w1 ⟨rfl, hb1⟩)
        all_goals
          go_wp2
          go_ret3
          exact ⟨ret_tup (by rw [HH.out]; simp), hb0.drew.trans (hb1.mono hb0.size)⟩
      | false =>
        have hr : rd p (s.data.toList.drop k) = (0, 0, false) := by rw [hd, rd1 p _ _ h92, hp]; rfl
        rw [hp] at hh
        have HH := Lib.hid hr
        clear hr hd h92 hp
        go_enter Tryd.func202, Tryd.ntmps202
        go_wp2
        go_region_with (go_at_call 142; refine (hh _).mono ?_; rintro e w1 ⟨rfl, hb1⟩)
        all_goals
          go_wp2
          go_ret3
          exact ⟨ret_tup (by rw [HH.out]; simp), hb0.drew.trans (hb1.mono hb0.size)⟩
end Go.Proofs.YtjeogbdeagkomaaDoor

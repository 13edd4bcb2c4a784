/- QuotePlain's walk. -/
import Derived.Test.YtkhokhmdiagckaaDoorQ16
namespace Go.Proofs.YtkhokhmdiagckaaDoor
open Go.RowKit Go.Maps Go.Shelf Bset Qm

theorem idx_in (t : ByteArray) (k : Nat) (c : UInt8) (h : t.data.toList[k]? = some c) (x : Int) (hx : x = k) (W : World) : (Instr.index 9 (.string t) (.int .i64 x)).run Tryd.prog W = .ok (.int .u8 (c.toNat : Nat)) W := by
  subst hx
  have h0 : (0 : Int) ≤ (k : Int) := by omega
  have h1 : k < t.size := by
    have := (List.getElem?_eq_some_iff.1 h).1
    rwa [len_data] at this
  have e : c = t[k] := by
    have := (List.getElem?_eq_some_iff.1 h).2
    rw [← this]
    simp
    rfl
  rw [e]
  go_simp

theorem idx_is (t : ByteArray) (k : Nat) (c : UInt8) (h : t.data.toList[k]? = some c) (x : Int) (hx : x = k) (y : Int) (hy : y = (c.toNat : Nat)) (W : World) : (Instr.index 9 (.string t) (.int .i64 x)).run Tryd.prog W = .ok (.int .u8 y) W := by
  rw [hy]
  exact idx_in t k c h x hx W
/-- What each text that is written keeps: all is printable; the end stands at the end alone. -/
structure Fine (T : ByteArray) : Prop where
  one : 1 ≤ T.size
  dot : T.size = 1 → T = ⟨#[46]⟩
  seen : ∀ (j : Nat) c, T.data.toList[j]? = some c → 32 ≤ c.toNat ∧ c.toNat ≤ 126
  held : ∀ (j : Nat) a c, 0 < j → j + 1 < T.size → T.data.toList[0]? = some a → T.data.toList[j]? = some c → (a = 34 → c = 34 → T.data.toList[j - 1]? = some 92) ∧ (a ≠ 34 → c = 93 → T.data.toList[j - 1]? = some 92)

theorem fine_lit (s A : ByteArray) (hA : (⟨(litT s.data.toList).toArray⟩ : ByteArray) = A) : Fine A := by
  have h := lit_size s A hA
  have hl := len_data A
  refine ⟨by omega, fun h1 => by omega, fun j c hj => ?_, fun j a c h0 h1 ha hc => ?_⟩
  · exact seen_lit s.data.toList c (by rw [← h.1]; exact List.mem_of_getElem? hj)
  · rw [h.1, litT_eq] at ha hc hl ⊢
    obtain rfl : a = 34 := by
      rw [List.getElem?_cons_zero] at ha
      exact (Option.some.inj ha).symm
    refine ⟨fun _ e => ?_, fun e => absurd rfl e⟩
    subst e
    simp only [List.length_cons, List.length_append, List.length_nil] at hl
    exact ends_alone (held_sigs s.data.toList) j h0 (by omega) hc

theorem fine_cls (S : Nat → Bool) (B : ByteArray) (hB : (⟨(clsT S).toArray⟩ : ByteArray) = B) : Fine B := by
  have hd : B.data.toList = clsT S := by subst hB; rfl
  have hl := len_data B
  have hseen : ∀ (j : Nat) c, B.data.toList[j]? = some c → 32 ≤ c.toNat ∧ c.toNat ≤ 126 := fun j c hj => seen_cls S c (by rw [← hd]; exact List.mem_of_getElem? hj)
  cases hA : isAll S with
  | true =>
    have hc : clsT S = [46] := by unfold clsT; rw [hA]; rfl
    rw [hc] at hB
    have e : B = ⟨#[46]⟩ := hB.symm
    have hs : B.size = 1 := by rw [e]; rfl
    exact ⟨by omega, fun _ => e, hseen, fun j a c h0 h1 => by omega⟩
  | false =>
    have hc := clsT_eq S hA
    rw [hd, hc] at hl
    simp only [List.length_cons, List.length_append, List.length_nil] at hl
    refine ⟨by omega, fun h1 => by omega, hseen, fun j a c h0 h1 ha hc2 => ?_⟩
    rw [hd, hc] at ha hc2 ⊢
    obtain rfl : a = 91 := by
      rw [List.getElem?_cons_zero] at ha
      exact (Option.some.inj ha).symm
    refine ⟨fun e => absurd e (by decide), fun _ e => ?_⟩
    subst e
    exact ends_alone (held_runs (runsOf S) (fun x hx => (runs_good S).mem hx)) j h0 (by omega) hc2

theorem box_alloc {w W : World} {p : Nat} {X : Nat → Bool} (o : Obj) (h : W.cell? ⟨p, 0, none⟩ = some (.int .u64 (word X 0 : Nat)) ∧ W.cell? ⟨p, 1, none⟩ = some (.int .u64 (word X 1 : Nat)) ∧ W.cell? ⟨p, 2, none⟩ = some (.int .u64 (word X 2 : Nat)) ∧ W.cell? ⟨p, 3, none⟩ = some (.int .u64 (word X 3 : Nat)) ∧ Lies w W) : (W.alloc o).cell? ⟨p, 0, none⟩ = some (.int .u64 (word X 0 : Nat)) ∧ (W.alloc o).cell? ⟨p, 1, none⟩ = some (.int .u64 (word X 1 : Nat)) ∧ (W.alloc o).cell? ⟨p, 2, none⟩ = some (.int .u64 (word X 2 : Nat)) ∧ (W.alloc o).cell? ⟨p, 3, none⟩ = some (.int .u64 (word X 3 : Nat)) ∧ Lies w (W.alloc o) := box_keep ((Below.refl _ W).alloc (Nat.le_refl _) o) h

set_option maxRecDepth 100000 in
set_option maxHeartbeats 1000000 in
theorem plain_long (s : ByteArray) (S : Nat → Bool) (hs : s.size ≤ 140737488351232) (h5 : 5000 < s.size)
    (w : World) (hT : TabIn w) (hg : 0 < w.heap.size) :
    Calls Tryd.prog 4 #[.string s, setV S] w fun e w' => e = .returned (.bool true) ∧ Below w.heap.size w w' := by
  have L0 := (Lies.start hT hg).alloc (.cells (setC S) 24)
  have h5i : (5000 : Int) < (s.size : Int) := by omega
  clear hs h5
  go_enter Tryd.func4, Tryd.ntmps4
  go_wp2_with fail
  refine (awake_any _ L0.tab L0.pos).mono ?_
  rintro e w1 ⟨rfl, hb1⟩
  go_wp2
  go_ret
  exact ⟨rfl, (L0.step hb1).low⟩

set_option maxRecDepth 100000 in
set_option maxHeartbeats 8000000 in
theorem plain_short (s : ByteArray) (S : Nat → Bool) (h5 : s.size ≤ 5000)
    (w : World) (hT : TabIn w) (hg : 0 < w.heap.size) :
    Calls Tryd.prog 4 #[.string s, setV S] w fun e w' => e = .returned (.bool true) ∧ Below w.heap.size w w' := by
  have L0 := (Lies.start hT hg).alloc (.cells (setC S) 24)
  have k0 := Cl.new w 24 (setC S)
  have h5i : (s.size : Int) ≤ 5000 := by omega
  obtain ⟨A, XA, FA, ZA⟩ : ∃ A, Hid (∀ W, Calls Tryd.prog 7 #[.string s] W fun e w' => e = .returned (.string A) ∧ Below W.heap.size W w') ∧ Hid (Fine A) ∧ Hid (A.size ≤ 1048576) :=
    ⟨⟨(litT s.data.toList).toArray⟩, Lib.hid fun W => literal_any s (by omega) W, Lib.hid (fine_lit s _ rfl), Lib.hid (by have := (lit_size s _ rfl).2.2; omega)⟩
  obtain ⟨B, XB, FB, ZB⟩ : ∃ B, Hid (∀ W, Lies w W → Calls Tryd.prog 9 #[setV S] W fun e w' => e = .returned (.string B) ∧ Below W.heap.size W w') ∧ Hid (Fine B) ∧ Hid (B.size ≤ 1048576) :=
    ⟨⟨(clsT S).toArray⟩, Lib.hid fun W hL => class_any S W hL.tab hL.pos, Lib.hid (fine_cls S _ rfl), Lib.hid (by
      cases hA : isAll S with
      | true => rw [show clsT S = [46] by unfold clsT; rw [hA]; rfl]; decide
      | false => have := (cls_size S hA _ rfl).2; omega)⟩
  go_enter Tryd.func4, Tryd.ntmps4
  go_wp2_with fail
  refine (awake_any _ L0.tab L0.pos).mono ?_
  rintro e w1 ⟨rfl, hb1⟩
  have L1 := L0.step hb1
  have k1 := k0.below hb1 k0.lt
  clear L0 k0 hb1
  go_wp2_with fail
  generalize hp : w.heap.size = p at k1 ⊢
  have x0 := k1.word 0 (by decide)
  have x1 := k1.word 1 (by decide)
  have x2 := k1.word 2 (by decide)
  have x3 := k1.word 3 (by decide)
  have hS : w1.cell? ⟨p, 0, none⟩ = some (.int .u64 (word S 0 : Nat)) ∧ w1.cell? ⟨p, 1, none⟩ = some (.int .u64 (word S 1 : Nat)) ∧ w1.cell? ⟨p, 2, none⟩ = some (.int .u64 (word S 2 : Nat)) ∧ w1.cell? ⟨p, 3, none⟩ = some (.int .u64 (word S 3 : Nat)) ∧ Lies w w1 := ⟨x0, x1, x2, x3, L1⟩
  clear x0 x1 x2 x3 L1 k1
  go_region_held3 (fun w' => w'.cell? ⟨p, 0, none⟩ = some (.int .u64 (word S 0 : Nat)) ∧ w'.cell? ⟨p, 1, none⟩ = some (.int .u64 (word S 1 : Nat)) ∧ w'.cell? ⟨p, 2, none⟩ = some (.int .u64 (word S 2 : Nat)) ∧ w'.cell? ⟨p, 3, none⟩ = some (.int .u64 (word S 3 : Nat)) ∧ Lies w w')
    (first | (with_reducible assumption) | exact box_drew (by assumption) | exact box_keep hb (by assumption) | exact box_alloc _ (by assumption))
    ((first
      | (go_at_call 7; with_reducible refine (XA.out _).mono ?_; rintro e w' ⟨rfl, hb⟩)
      | (go_at_call 9; refine (XB.out _ ?_).mono ?_; (first | (go_split_ands; assumption) | (go_split_ands; exact Lies.drew (by assumption))); rintro e w' ⟨rfl, hb⟩)))
  have L3 : Lies w (w'.alloc (.cells #[.string A, .string B] 9)) := by go_split_ands; assumption
  have q0 := Cl.new w' 9 #[.string A, .string B]
  clear hS
  generalize w'.heap.size = g at q0 ⊢
  generalize w'.alloc _ = w3 at L3 q0 ⊢
  have HQ := Lib.hid q0
  have HL := Lib.hid L3
  clear q0 L3
  go_wp2_with fail
  go_loopw [22] (fun v wr => ∃ i : Nat, v = .int .i64 i ∧ i ≤ 2 ∧ wr = w3) (fun v _ => 2 - (intOf v).toNat)
  case atStart => exact ⟨0, rfl, by omega, rfl⟩
  case round =>
    obtain ⟨i, rfl, hi, rfl⟩ := hrel
    by_cases hlt : i < 2
    · obtain ⟨T, hcell, FT⟩ : ∃ T, wr.cell? ⟨g, i, none⟩ = some (.string T) ∧ Hid (Fine T) ∧ Hid (T.size ≤ 1048576) := by
        rcases (show i = 0 ∨ i = 1 by omega) with rfl | rfl
        · exact ⟨A, HQ.out.cell 0, FA, ZA⟩
        · exact ⟨B, HQ.out.cell 1, FB, ZB⟩
      obtain ⟨FT, ZT⟩ := FT
      have hti : (i : Int) < 2 := by omega
      have ht0 : (0 : Int) ≤ (i : Int) := by omega
      have h1 : (1 : Int) ≤ (T.size : Int) := by have := FT.out.one; omega
      have hz20 : (T.size : Int) ≤ 1048576 := by have := ZT.out; omega
      obtain ⟨a, ha⟩ : ∃ a, T.data.toList[0]? = some a := by
        have := FT.out.one
        exact ⟨_, List.getElem?_eq_getElem (by rw [len_data]; omega)⟩
      obtain ⟨z, hz⟩ : ∃ z, z = T.size - 1 := ⟨_, rfl⟩
      have hwz : IntKind.i64.wrap ((T.size : Int) - 1) = (z : Int) := by
        rw [IntWalk.i64_in _ (by omega)]
        omega
      have HZ := Lib.hid hz
      have HA := Lib.hid ha
      clear hz ha
      by_cases ho : T.size = 1
      · have hdT := FT.out.dot ho
        have hd : (!T.toList == [46]) = false := by rw [hdT]; decide +kernel
        have ho1 : (T.size : Int) = 1 := by omega
        have HO := Lib.hid ho
        have i0 := idx_is T 0 46 (by rw [hdT]; rfl) 0 rfl 46 rfl
        clear hdT ho
        go_wp2_with fail
        go_loopw [7] (fun v wq => ∃ j : Nat, v = .int .i64 j ∧ j ≤ T.size ∧ wq = wr) (fun v _ => T.size - (intOf v).toNat)
        case atStart => exact ⟨0, rfl, by omega, rfl⟩
        case round =>
          obtain ⟨j, rfl, hj, rfl⟩ := hrel
          by_cases hjt : j < T.size
          · obtain rfl : j = 0 := by have := HO.out; omega
            have hji : (0 : Int) < (T.size : Int) := by omega
            go_wp2_with fail
            go_roundw
            case rel => exact ⟨1, by go_num, by omega, trivial⟩
            case measure => simp [intOf]; omega
          · obtain rfl : j = T.size := by omega
            have hti2 : ¬ (T.size : Int) < T.size := by omega
            go_wp2_with fail
            go_roundw
            case rel => exact ⟨i + 1, by go_num, by omega, trivial⟩
            case measure => simp [intOf]; omega
      · have ho1 : ((T.size : Int) == 1) = false := by simp; omega
        by_cases ha34 : a = 34
        · have i0 := idx_is T 0 a HA.out 0 rfl 34 (by rw [ha34]; rfl)
          have HA34 := Lib.hid ha34
          clear ha34 ho
          go_wp2_with fail
          go_loopw [7] (fun v wq => ∃ j : Nat, v = .int .i64 j ∧ j ≤ T.size ∧ wq = wr) (fun v _ => T.size - (intOf v).toNat)
          case atStart => exact ⟨0, rfl, by omega, rfl⟩
          case round =>
            obtain ⟨j, rfl, hj, rfl⟩ := hrel
            by_cases hjt : j < T.size
            · have hji : (j : Int) < (T.size : Int) := by omega
              by_cases hj0 : j = 0
              · subst hj0
                have hjz : (0 : Int) < (T.size : Int) := by omega
                go_wp2_with fail
                go_roundw
                case rel => exact ⟨1, by go_num, by omega, trivial⟩
                case measure => simp [intOf]; omega
              · obtain ⟨c, hc⟩ : ∃ c, T.data.toList[j]? = some c := ⟨_, List.getElem?_eq_getElem (by rw [len_data]; omega)⟩
                obtain ⟨y, hy⟩ : ∃ y : Int, y = (c.toNat : Nat) := ⟨_, rfl⟩
                have hs := FT.out.seen j c hc
                have b1 : (32 : Int) ≤ y := by omega
                have b2 : y ≤ 126 := by omega
                have ij := idx_is T j c hc j rfl y hy
                obtain ⟨q, hq⟩ : ∃ q, q = j - 1 := ⟨_, rfl⟩
                have hwj : IntKind.i64.wrap ((j : Int) - 1) = (q : Int) := by
                  rw [IntWalk.i64_in _ (by omega)]
                  omega
                have hjp : (0 : Int) < (j : Int) := by omega
                have HQ2 := Lib.hid hq
                have HC := Lib.hid hc
                have HY := Lib.hid hy
                clear hq hc hy hs
                by_cases hl : j + 1 < T.size
                · have hlz : (j : Int) < (z : Int) := by have := HZ.out; omega
                  have hh := FT.out.held j a c (by omega) hl HA.out HC.out
                  by_cases hy34 : y = 34
                  · have hc34 : c = 34 := UInt8.toNat_inj.1 (by have := HY.out; rw [hy34] at this; exact (Int.ofNat.inj this).symm)
                    have hb := hh.1 HA34.out hc34
                    rw [← HQ2.out] at hb
                    have iq := idx_is T q 92 hb q rfl 92 rfl
                    have hne : ¬ y = 93 := by omega
                    clear hb hh hne hc34 HY
                    subst hy34
                    go_wp2_with fail
                    go_roundw
                    case rel => exact ⟨j + 1, by go_num, by omega, trivial⟩
                    case measure => simp [intOf]; omega
                  · have e34 : (y == 34) = false := by simpa using hy34
                    by_cases hy93 : y = 93
                    · clear hh HY
                      subst hy93
                      go_wp2_with fail
                      go_roundw
                      case rel => exact ⟨j + 1, by go_num, by omega, trivial⟩
                      case measure => simp [intOf]; omega
                    · have e93 : (y == 93) = false := by simpa using hy93
                      clear hh HY
                      go_wp2_with fail
                      go_roundw
                      case rel => exact ⟨j + 1, by go_num, by omega, trivial⟩
                      case measure => simp [intOf]; omega
                · have hlz : (z : Int) ≤ (j : Int) := by have := HZ.out; omega
                  by_cases hy34 : y = 34
                  · clear HY
                    subst hy34
                    go_wp2_with fail
                    go_roundw
                    case rel => exact ⟨j + 1, by go_num, by omega, trivial⟩
                    case measure => simp [intOf]; omega
                  · have e34 : (y == 34) = false := by simpa using hy34
                    go_wp2_with fail
                    go_roundw
                    case rel => exact ⟨j + 1, by go_num, by omega, trivial⟩
                    case measure => simp [intOf]; omega
            · obtain rfl : j = T.size := by omega
              have hti2 : ¬ (T.size : Int) < T.size := by omega
              go_wp2_with fail
              go_roundw
              case rel => exact ⟨i + 1, by go_num, by omega, trivial⟩
              case measure => simp [intOf]; omega
        · obtain ⟨ya, hya⟩ : ∃ y : Int, y = (a.toNat : Nat) := ⟨_, rfl⟩
          have i0 := idx_is T 0 a HA.out 0 rfl ya hya
          have hs := FT.out.seen 0 a HA.out
          have a1 : (32 : Int) ≤ ya := by omega
          have a2 : ya ≤ 126 := by omega
          have hya34 : ya ≠ 34 := fun e => ha34 (UInt8.toNat_inj.1 (by rw [e] at hya; exact (Int.ofNat.inj hya).symm))
          have ea : (ya == 34) = false := by simpa using hya34
          have ea2 : (ya != 34) = true := by simpa using hya34
          have HA34 := Lib.hid ha34
          clear ha34 ho hya hs hya34
          go_wp2_with fail
          go_loopw [7] (fun v wq => ∃ j : Nat, v = .int .i64 j ∧ j ≤ T.size ∧ wq = wr) (fun v _ => T.size - (intOf v).toNat)
          case atStart => exact ⟨0, rfl, by omega, rfl⟩
          case round =>
            obtain ⟨j, rfl, hj, rfl⟩ := hrel
            by_cases hjt : j < T.size
            · have hji : (j : Int) < (T.size : Int) := by omega
              by_cases hj0 : j = 0
              · subst hj0
                have hjz : (0 : Int) < (T.size : Int) := by omega
                go_wp2_with fail
                go_roundw
                case rel => exact ⟨1, by go_num, by omega, trivial⟩
                case measure => simp [intOf]; omega
              · obtain ⟨c, hc⟩ : ∃ c, T.data.toList[j]? = some c := ⟨_, List.getElem?_eq_getElem (by rw [len_data]; omega)⟩
                obtain ⟨y, hy⟩ : ∃ y : Int, y = (c.toNat : Nat) := ⟨_, rfl⟩
                have hs := FT.out.seen j c hc
                have b1 : (32 : Int) ≤ y := by omega
                have b2 : y ≤ 126 := by omega
                have ij := idx_is T j c hc j rfl y hy
                obtain ⟨q, hq⟩ : ∃ q, q = j - 1 := ⟨_, rfl⟩
                have hwj : IntKind.i64.wrap ((j : Int) - 1) = (q : Int) := by
                  rw [IntWalk.i64_in _ (by omega)]
                  omega
                have hjp : (0 : Int) < (j : Int) := by omega
                have HQ2 := Lib.hid hq
                have HC := Lib.hid hc
                have HY := Lib.hid hy
                clear hq hc hy hs
                by_cases hl : j + 1 < T.size
                · have hlz : (j : Int) < (z : Int) := by have := HZ.out; omega
                  have hh := FT.out.held j a c (by omega) hl HA.out HC.out
                  by_cases hy93 : y = 93
                  · have hc93 : c = 93 := UInt8.toNat_inj.1 (by have := HY.out; rw [hy93] at this; exact (Int.ofNat.inj this).symm)
                    have hb := hh.2 HA34.out hc93
                    rw [← HQ2.out] at hb
                    have iq := idx_is T q 92 hb q rfl 92 rfl
                    clear hb hh hc93 HY
                    subst hy93
                    go_wp2_with fail
                    go_roundw
                    case rel => exact ⟨j + 1, by go_num, by omega, trivial⟩
                    case measure => simp [intOf]; omega
                  · have e93 : (y == 93) = false := by simpa using hy93
                    by_cases hy34 : y = 34
                    · clear hh HY
                      subst hy34
                      go_wp2_with fail
                      go_roundw
                      case rel => exact ⟨j + 1, by go_num, by omega, trivial⟩
                      case measure => simp [intOf]; omega
                    · have e34 : (y == 34) = false := by simpa using hy34
                      clear hh HY
                      go_wp2_with fail
                      go_roundw
                      case rel => exact ⟨j + 1, by go_num, by omega, trivial⟩
                      case measure => simp [intOf]; omega
                · have hlz : (z : Int) ≤ (j : Int) := by have := HZ.out; omega
                  go_wp2_with fail
                  go_roundw
                  case rel => exact ⟨j + 1, by go_num, by omega, trivial⟩
                  case measure => simp [intOf]; omega
            · obtain rfl : j = T.size := by omega
              have hti2 : ¬ (T.size : Int) < T.size := by omega
              go_wp2_with fail
              go_roundw
              case rel => exact ⟨i + 1, by go_num, by omega, trivial⟩
              case measure => simp [intOf]; omega
    · obtain rfl : i = 2 := by omega
      have hlow := HL.out.low
      go_wp2
      go_ret
      exact ⟨rfl, hlow⟩

theorem plain_any (s : ByteArray) (S : Nat → Bool) (hs : s.size ≤ 140737488351232)
    (w : World) (hT : TabIn w) (hg : 0 < w.heap.size) :
    Calls Tryd.prog 4 #[.string s, setV S] w fun e w' => e = .returned (.bool true) ∧ Below w.heap.size w w' := by
  by_cases h5 : s.size ≤ 5000
  · exact plain_short s S h5 w hT hg
  · exact plain_long s S hs (by omega) w hT hg
end Go.Proofs.YtkhokhmdiagckaaDoor

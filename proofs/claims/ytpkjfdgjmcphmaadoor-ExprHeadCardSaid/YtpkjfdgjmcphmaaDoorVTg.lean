/- Package tree: Fits. -/
import Derived.Test.YtpkjfdgjmcphmaaDoorVTsh
namespace Go.Proofs.YtpkjfdgjmcphmaaDoor
open Go.RowKit Bset Tm

theorem tab_at {w : World} (hT : TabK w) (k : Nat) (hk : k < 10) : w.cell? ⟨0, 2 * k, none⟩ = some (.int .i64 kidsTab[2 * k]!) ∧ w.cell? ⟨0, 2 * k + 1, none⟩ = some (.int .i64 kidsTab[2 * k + 1]!) := by
  have hl : kidsTab.length = 20 := rfl
  have h1 := hT (2 * k) (by omega)
  have h2 := hT (2 * k + 1) (by omega)
  rw [h1, h2, getElem!_pos kidsTab (2 * k) (by omega), getElem!_pos kidsTab (2 * k + 1) (by omega)]
  exact ⟨rfl, rfl⟩

theorem list_size (s : ByteArray) : s.toList = [] ↔ s.size = 0 := by
  rw [ByteArray.toList_eq]
  constructor
  · intro e
    have := congrArg List.length e
    simpa using this
  · intro e
    exact List.eq_nil_of_length_eq_zero (by simpa using e)

set_option maxRecDepth 100000 in
set_option maxHeartbeats 4000000 in
theorem fits_0 (set : BitVec 256) (text : ByteArray) (lo hi : Int) (kv : Value) (m : Int) (w : World) (hT : TabK w) (hg : 0 < w.heap.size) (ht : text.size < 9223372036854775807) :
    Calls Tryd.prog 21 #[nodeV ⟨0, set, text, lo, hi⟩ kv, .int .i64 m] w fun e w' => e = .returned (.bool (fits ⟨0, set, text, lo, hi⟩ m)) ∧ Below w.heap.size w w' := by
  have b0 := (Below.refl w.heap.size w).alloc (Nat.le_refl _) (.cells (nodeC ⟨0, set, text, lo, hi⟩ kv) 38)
  have k0 := Cl.new w 38 (nodeC ⟨0, set, text, lo, hi⟩ kv)
  obtain ⟨t0, t1⟩ := tab_at (hT.below b0 hg) 0 (by omega)
  simp [kidsTab] at t0 t1
  have he := set_eql_none set
  have h0 := set_eql_none 0#256
  rw [setN_zero, setV_none] at h0
  have hl := list_size text
  have hm := fun w => may_any text ht w
  have hr := fun w => repeats_any lo hi w
  go_enter Tryd.func21, Tryd.ntmps21
  go_wp2_with (first | (go_at_call 75; refine (within_any _ _ _ _).mono ?_; rintro e w' ⟨rfl, hb⟩; have b1 := b0.trans (hb.mono (Nat.le_of_lt k0.lt)); obtain ⟨⟨x0, x1, x2, x3, x4, x5, x6, x7, x8⟩, xf⟩ := (k0.below hb k0.lt).nine; clear hb) | (go_at_call 76; refine (hm _).mono ?_; rintro e w' ⟨rfl, rfl⟩) | (go_at_call 77; refine (hr _).mono ?_; rintro e w' ⟨rfl, rfl⟩))
  all_goals go_ret
  all_goals refine ⟨congrArg (fun x => Ending.returned (.bool x)) ?_, ?_⟩
  all_goals clear he h0 hm hr b0 k0 t0 t1 hT hg
  all_goals first
    | (repeat (refine Below.setCell ?_ (by simp) _)
       assumption)
    | (clear x0 x1 x2 x3 x4 x5 x6 x7 x8 xf b1
       rw [Bool.eq_iff_iff]
       simp_all [fits, noSet, noText, isZ]
       try omega)
    | (clear b1
       rw [Bool.eq_iff_iff]
       simp_all [fits, noSet, noText, isZ]
       try omega)

set_option maxRecDepth 100000 in
set_option maxHeartbeats 4000000 in
theorem fits_1 (set : BitVec 256) (text : ByteArray) (lo hi : Int) (kv : Value) (m : Int) (w : World) (hT : TabK w) (hg : 0 < w.heap.size) (ht : text.size < 9223372036854775807) :
    Calls Tryd.prog 21 #[nodeV ⟨1, set, text, lo, hi⟩ kv, .int .i64 m] w fun e w' => e = .returned (.bool (fits ⟨1, set, text, lo, hi⟩ m)) ∧ Below w.heap.size w w' := by
  have b0 := (Below.refl w.heap.size w).alloc (Nat.le_refl _) (.cells (nodeC ⟨1, set, text, lo, hi⟩ kv) 38)
  have k0 := Cl.new w 38 (nodeC ⟨1, set, text, lo, hi⟩ kv)
  obtain ⟨t0, t1⟩ := tab_at (hT.below b0 hg) 1 (by omega)
  simp [kidsTab] at t0 t1
  have he := set_eql_none set
  have h0 := set_eql_none 0#256
  rw [setN_zero, setV_none] at h0
  have hl := list_size text
  have hm := fun w => may_any text ht w
  have hr := fun w => repeats_any lo hi w
  go_enter Tryd.func21, Tryd.ntmps21
  go_wp2_with (first | (go_at_call 75; refine (within_any _ _ _ _).mono ?_; rintro e w' ⟨rfl, hb⟩; have b1 := b0.trans (hb.mono (Nat.le_of_lt k0.lt)); obtain ⟨⟨x0, x1, x2, x3, x4, x5, x6, x7, x8⟩, xf⟩ := (k0.below hb k0.lt).nine; clear hb) | (go_at_call 76; refine (hm _).mono ?_; rintro e w' ⟨rfl, rfl⟩) | (go_at_call 77; refine (hr _).mono ?_; rintro e w' ⟨rfl, rfl⟩))
  all_goals go_ret
  all_goals refine ⟨congrArg (fun x => Ending.returned (.bool x)) ?_, ?_⟩
  all_goals clear he h0 hm hr b0 k0 t0 t1 hT hg
  all_goals first
    | (repeat (refine Below.setCell ?_ (by simp) _)
       assumption)
    | (clear x0 x1 x2 x3 x4 x5 x6 x7 x8 xf b1
       rw [Bool.eq_iff_iff]
       simp_all [fits, noText, isZ]
       try omega)
    | (clear b1
       rw [Bool.eq_iff_iff]
       simp_all [fits, noSet, noText, isZ]
       try omega)

set_option maxRecDepth 100000 in
set_option maxHeartbeats 4000000 in
theorem fits_2 (set : BitVec 256) (text : ByteArray) (lo hi : Int) (kv : Value) (m : Int) (w : World) (hT : TabK w) (hg : 0 < w.heap.size) (ht : text.size < 9223372036854775807) :
    Calls Tryd.prog 21 #[nodeV ⟨2, set, text, lo, hi⟩ kv, .int .i64 m] w fun e w' => e = .returned (.bool (fits ⟨2, set, text, lo, hi⟩ m)) ∧ Below w.heap.size w w' := by
  have b0 := (Below.refl w.heap.size w).alloc (Nat.le_refl _) (.cells (nodeC ⟨2, set, text, lo, hi⟩ kv) 38)
  have k0 := Cl.new w 38 (nodeC ⟨2, set, text, lo, hi⟩ kv)
  obtain ⟨t0, t1⟩ := tab_at (hT.below b0 hg) 2 (by omega)
  simp [kidsTab] at t0 t1
  have he := set_eql_none set
  have h0 := set_eql_none 0#256
  rw [setN_zero, setV_none] at h0
  have hl := list_size text
  have hm := fun w => may_any text ht w
  have hr := fun w => repeats_any lo hi w
  go_enter Tryd.func21, Tryd.ntmps21
  go_wp2_with (first | (go_at_call 75; refine (within_any _ _ _ _).mono ?_; rintro e w' ⟨rfl, hb⟩; have b1 := b0.trans (hb.mono (Nat.le_of_lt k0.lt)); obtain ⟨⟨x0, x1, x2, x3, x4, x5, x6, x7, x8⟩, xf⟩ := (k0.below hb k0.lt).nine; clear hb) | (go_at_call 76; refine (hm _).mono ?_; rintro e w' ⟨rfl, rfl⟩) | (go_at_call 77; refine (hr _).mono ?_; rintro e w' ⟨rfl, rfl⟩))
  all_goals go_ret
  all_goals refine ⟨congrArg (fun x => Ending.returned (.bool x)) ?_, ?_⟩
  all_goals clear he h0 hm hr b0 k0 t0 t1 hT hg
  all_goals first
    | (repeat (refine Below.setCell ?_ (by simp) _)
       assumption)
    | (clear x0 x1 x2 x3 x4 x5 x6 x7 x8 xf b1
       rw [Bool.eq_iff_iff]
       simp_all [fits, noSet, isZ]
       try omega)
    | (clear b1
       rw [Bool.eq_iff_iff]
       simp_all [fits, noSet, noText, isZ]
       try omega)

set_option maxRecDepth 100000 in
set_option maxHeartbeats 4000000 in
theorem fits_3 (set : BitVec 256) (text : ByteArray) (lo hi : Int) (kv : Value) (m : Int) (w : World) (hT : TabK w) (hg : 0 < w.heap.size) (ht : text.size < 9223372036854775807) :
    Calls Tryd.prog 21 #[nodeV ⟨3, set, text, lo, hi⟩ kv, .int .i64 m] w fun e w' => e = .returned (.bool (fits ⟨3, set, text, lo, hi⟩ m)) ∧ Below w.heap.size w w' := by
  have b0 := (Below.refl w.heap.size w).alloc (Nat.le_refl _) (.cells (nodeC ⟨3, set, text, lo, hi⟩ kv) 38)
  have k0 := Cl.new w 38 (nodeC ⟨3, set, text, lo, hi⟩ kv)
  obtain ⟨t0, t1⟩ := tab_at (hT.below b0 hg) 3 (by omega)
  simp [kidsTab] at t0 t1
  have he := set_eql_none set
  have h0 := set_eql_none 0#256
  rw [setN_zero, setV_none] at h0
  have hl := list_size text
  have hm := fun w => may_any text ht w
  have hr := fun w => repeats_any lo hi w
  go_enter Tryd.func21, Tryd.ntmps21
  go_wp2_with (first | (go_at_call 75; refine (within_any _ _ _ _).mono ?_; rintro e w' ⟨rfl, hb⟩; have b1 := b0.trans (hb.mono (Nat.le_of_lt k0.lt)); obtain ⟨⟨x0, x1, x2, x3, x4, x5, x6, x7, x8⟩, xf⟩ := (k0.below hb k0.lt).nine; clear hb) | (go_at_call 76; refine (hm _).mono ?_; rintro e w' ⟨rfl, rfl⟩) | (go_at_call 77; refine (hr _).mono ?_; rintro e w' ⟨rfl, rfl⟩))
  all_goals go_ret
  all_goals refine ⟨congrArg (fun x => Ending.returned (.bool x)) ?_, ?_⟩
  all_goals clear he h0 hm hr b0 k0 t0 t1 hT hg
  all_goals first
    | (repeat (refine Below.setCell ?_ (by simp) _)
       assumption)
    | (clear x0 x1 x2 x3 x4 x5 x6 x7 x8 xf b1
       rw [Bool.eq_iff_iff]
       simp_all [fits, noSet, isZ]
       try omega)
    | (clear b1
       rw [Bool.eq_iff_iff]
       simp_all [fits, noSet, noText, isZ]
       try omega)

set_option maxRecDepth 100000 in
set_option maxHeartbeats 4000000 in
theorem fits_4 (set : BitVec 256) (text : ByteArray) (lo hi : Int) (kv : Value) (m : Int) (w : World) (hT : TabK w) (hg : 0 < w.heap.size) (ht : text.size < 9223372036854775807) :
    Calls Tryd.prog 21 #[nodeV ⟨4, set, text, lo, hi⟩ kv, .int .i64 m] w fun e w' => e = .returned (.bool (fits ⟨4, set, text, lo, hi⟩ m)) ∧ Below w.heap.size w w' := by
  have b0 := (Below.refl w.heap.size w).alloc (Nat.le_refl _) (.cells (nodeC ⟨4, set, text, lo, hi⟩ kv) 38)
  have k0 := Cl.new w 38 (nodeC ⟨4, set, text, lo, hi⟩ kv)
  obtain ⟨t0, t1⟩ := tab_at (hT.below b0 hg) 4 (by omega)
  simp [kidsTab] at t0 t1
  have he := set_eql_none set
  have h0 := set_eql_none 0#256
  rw [setN_zero, setV_none] at h0
  have hl := list_size text
  have hm := fun w => may_any text ht w
  have hr := fun w => repeats_any lo hi w
  go_enter Tryd.func21, Tryd.ntmps21
  go_wp2_with (first | (go_at_call 75; refine (within_any _ _ _ _).mono ?_; rintro e w' ⟨rfl, hb⟩; have b1 := b0.trans (hb.mono (Nat.le_of_lt k0.lt)); obtain ⟨⟨x0, x1, x2, x3, x4, x5, x6, x7, x8⟩, xf⟩ := (k0.below hb k0.lt).nine; clear hb) | (go_at_call 76; refine (hm _).mono ?_; rintro e w' ⟨rfl, rfl⟩) | (go_at_call 77; refine (hr _).mono ?_; rintro e w' ⟨rfl, rfl⟩))
  all_goals go_ret
  all_goals refine ⟨congrArg (fun x => Ending.returned (.bool x)) ?_, ?_⟩
  all_goals clear he h0 hm hr b0 k0 t0 t1 hT hg
  all_goals first
    | (repeat (refine Below.setCell ?_ (by simp) _)
       assumption)
    | (clear x0 x1 x2 x3 x4 x5 x6 x7 x8 xf b1
       rw [Bool.eq_iff_iff]
       simp_all [fits, noSet, noText, isZ]
       try omega)
    | (clear b1
       rw [Bool.eq_iff_iff]
       simp_all [fits, noSet, noText, isZ]
       try omega)

set_option maxRecDepth 100000 in
set_option maxHeartbeats 4000000 in
theorem fits_5 (set : BitVec 256) (text : ByteArray) (lo hi : Int) (kv : Value) (m : Int) (w : World) (hT : TabK w) (hg : 0 < w.heap.size) (ht : text.size < 9223372036854775807) :
    Calls Tryd.prog 21 #[nodeV ⟨5, set, text, lo, hi⟩ kv, .int .i64 m] w fun e w' => e = .returned (.bool (fits ⟨5, set, text, lo, hi⟩ m)) ∧ Below w.heap.size w w' := by
  have b0 := (Below.refl w.heap.size w).alloc (Nat.le_refl _) (.cells (nodeC ⟨5, set, text, lo, hi⟩ kv) 38)
  have k0 := Cl.new w 38 (nodeC ⟨5, set, text, lo, hi⟩ kv)
  obtain ⟨t0, t1⟩ := tab_at (hT.below b0 hg) 5 (by omega)
  simp [kidsTab] at t0 t1
  have he := set_eql_none set
  have h0 := set_eql_none 0#256
  rw [setN_zero, setV_none] at h0
  have hl := list_size text
  have hm := fun w => may_any text ht w
  have hr := fun w => repeats_any lo hi w
  go_enter Tryd.func21, Tryd.ntmps21
  go_wp2_with (first | (go_at_call 75; refine (within_any _ _ _ _).mono ?_; rintro e w' ⟨rfl, hb⟩; have b1 := b0.trans (hb.mono (Nat.le_of_lt k0.lt)); obtain ⟨⟨x0, x1, x2, x3, x4, x5, x6, x7, x8⟩, xf⟩ := (k0.below hb k0.lt).nine; clear hb) | (go_at_call 76; refine (hm _).mono ?_; rintro e w' ⟨rfl, rfl⟩) | (go_at_call 77; refine (hr _).mono ?_; rintro e w' ⟨rfl, rfl⟩))
  all_goals go_ret
  all_goals refine ⟨congrArg (fun x => Ending.returned (.bool x)) ?_, ?_⟩
  all_goals clear he h0 hm hr b0 k0 t0 t1 hT hg
  all_goals first
    | (repeat (refine Below.setCell ?_ (by simp) _)
       assumption)
    | (clear x0 x1 x2 x3 x4 x5 x6 x7 x8 xf b1
       rw [Bool.eq_iff_iff]
       simp_all [fits, noSet, noText, isZ]
       try omega)
    | (clear b1
       rw [Bool.eq_iff_iff]
       simp_all [fits, noSet, noText, isZ]
       try omega)

set_option maxRecDepth 100000 in
set_option maxHeartbeats 4000000 in
theorem fits_6 (set : BitVec 256) (text : ByteArray) (lo hi : Int) (kv : Value) (m : Int) (w : World) (hT : TabK w) (hg : 0 < w.heap.size) (ht : text.size < 9223372036854775807) :
    Calls Tryd.prog 21 #[nodeV ⟨6, set, text, lo, hi⟩ kv, .int .i64 m] w fun e w' => e = .returned (.bool (fits ⟨6, set, text, lo, hi⟩ m)) ∧ Below w.heap.size w w' := by
  have b0 := (Below.refl w.heap.size w).alloc (Nat.le_refl _) (.cells (nodeC ⟨6, set, text, lo, hi⟩ kv) 38)
  have k0 := Cl.new w 38 (nodeC ⟨6, set, text, lo, hi⟩ kv)
  obtain ⟨t0, t1⟩ := tab_at (hT.below b0 hg) 6 (by omega)
  simp [kidsTab] at t0 t1
  have he := set_eql_none set
  have h0 := set_eql_none 0#256
  rw [setN_zero, setV_none] at h0
  have hl := list_size text
  have hm := fun w => may_any text ht w
  have hr := fun w => repeats_any lo hi w
  go_enter Tryd.func21, Tryd.ntmps21
  go_wp2_with (first | (go_at_call 75; refine (within_any _ _ _ _).mono ?_; rintro e w' ⟨rfl, hb⟩; have b1 := b0.trans (hb.mono (Nat.le_of_lt k0.lt)); obtain ⟨⟨x0, x1, x2, x3, x4, x5, x6, x7, x8⟩, xf⟩ := (k0.below hb k0.lt).nine; clear hb) | (go_at_call 76; refine (hm _).mono ?_; rintro e w' ⟨rfl, rfl⟩) | (go_at_call 77; refine (hr _).mono ?_; rintro e w' ⟨rfl, rfl⟩))
  all_goals go_ret
  all_goals refine ⟨congrArg (fun x => Ending.returned (.bool x)) ?_, ?_⟩
  all_goals clear he h0 hm hr b0 k0 t0 t1 hT hg
  all_goals first
    | (repeat (refine Below.setCell ?_ (by simp) _)
       assumption)
    | (clear x0 x1 x2 x3 x4 x5 x6 x7 x8 xf b1
       rw [Bool.eq_iff_iff]
       simp_all [fits, noSet, noText]
       try omega)
    | (clear b1
       rw [Bool.eq_iff_iff]
       simp_all [fits, noSet, noText, isZ]
       try omega)

set_option maxRecDepth 100000 in
set_option maxHeartbeats 4000000 in
theorem fits_7 (set : BitVec 256) (text : ByteArray) (lo hi : Int) (kv : Value) (m : Int) (w : World) (hT : TabK w) (hg : 0 < w.heap.size) (ht : text.size < 9223372036854775807) :
    Calls Tryd.prog 21 #[nodeV ⟨7, set, text, lo, hi⟩ kv, .int .i64 m] w fun e w' => e = .returned (.bool (fits ⟨7, set, text, lo, hi⟩ m)) ∧ Below w.heap.size w w' := by
  have b0 := (Below.refl w.heap.size w).alloc (Nat.le_refl _) (.cells (nodeC ⟨7, set, text, lo, hi⟩ kv) 38)
  have k0 := Cl.new w 38 (nodeC ⟨7, set, text, lo, hi⟩ kv)
  obtain ⟨t0, t1⟩ := tab_at (hT.below b0 hg) 7 (by omega)
  simp [kidsTab] at t0 t1
  have he := set_eql_none set
  have h0 := set_eql_none 0#256
  rw [setN_zero, setV_none] at h0
  have hl := list_size text
  have hm := fun w => may_any text ht w
  have hr := fun w => repeats_any lo hi w
  go_enter Tryd.func21, Tryd.ntmps21
  go_wp2_with (first | (go_at_call 75; refine (within_any _ _ _ _).mono ?_; rintro e w' ⟨rfl, hb⟩; have b1 := b0.trans (hb.mono (Nat.le_of_lt k0.lt)); obtain ⟨⟨x0, x1, x2, x3, x4, x5, x6, x7, x8⟩, xf⟩ := (k0.below hb k0.lt).nine; clear hb) | (go_at_call 76; refine (hm _).mono ?_; rintro e w' ⟨rfl, rfl⟩) | (go_at_call 77; refine (hr _).mono ?_; rintro e w' ⟨rfl, rfl⟩))
  all_goals go_ret
  all_goals refine ⟨congrArg (fun x => Ending.returned (.bool x)) ?_, ?_⟩
  all_goals clear he h0 hm hr b0 k0 t0 t1 hT hg
  all_goals first
    | (repeat (refine Below.setCell ?_ (by simp) _)
       assumption)
    | (clear x0 x1 x2 x3 x4 x5 x6 x7 x8 xf b1
       rw [Bool.eq_iff_iff]
       simp_all [fits, noSet, noText, isZ]
       try omega)
    | (clear b1
       rw [Bool.eq_iff_iff]
       simp_all [fits, noSet, noText, isZ]
       try omega)

set_option maxRecDepth 100000 in
set_option maxHeartbeats 4000000 in
theorem fits_8 (set : BitVec 256) (text : ByteArray) (lo hi : Int) (kv : Value) (m : Int) (w : World) (hT : TabK w) (hg : 0 < w.heap.size) (ht : text.size < 9223372036854775807) :
    Calls Tryd.prog 21 #[nodeV ⟨8, set, text, lo, hi⟩ kv, .int .i64 m] w fun e w' => e = .returned (.bool (fits ⟨8, set, text, lo, hi⟩ m)) ∧ Below w.heap.size w w' := by
  have b0 := (Below.refl w.heap.size w).alloc (Nat.le_refl _) (.cells (nodeC ⟨8, set, text, lo, hi⟩ kv) 38)
  have k0 := Cl.new w 38 (nodeC ⟨8, set, text, lo, hi⟩ kv)
  obtain ⟨t0, t1⟩ := tab_at (hT.below b0 hg) 8 (by omega)
  simp [kidsTab] at t0 t1
  have he := set_eql_none set
  have h0 := set_eql_none 0#256
  rw [setN_zero, setV_none] at h0
  have hl := list_size text
  have hm := fun w => may_any text ht w
  have hr := fun w => repeats_any lo hi w
  go_enter Tryd.func21, Tryd.ntmps21
  go_wp2_with (first | (go_at_call 75; refine (within_any _ _ _ _).mono ?_; rintro e w' ⟨rfl, hb⟩; have b1 := b0.trans (hb.mono (Nat.le_of_lt k0.lt)); obtain ⟨⟨x0, x1, x2, x3, x4, x5, x6, x7, x8⟩, xf⟩ := (k0.below hb k0.lt).nine; clear hb) | (go_at_call 76; refine (hm _).mono ?_; rintro e w' ⟨rfl, rfl⟩) | (go_at_call 77; refine (hr _).mono ?_; rintro e w' ⟨rfl, rfl⟩))
  all_goals go_ret
  all_goals refine ⟨congrArg (fun x => Ending.returned (.bool x)) ?_, ?_⟩
  all_goals clear he h0 hm hr b0 k0 t0 t1 hT hg
  all_goals first
    | (repeat (refine Below.setCell ?_ (by simp) _)
       assumption)
    | (clear x0 x1 x2 x3 x4 x5 x6 x7 x8 xf b1
       rw [Bool.eq_iff_iff]
       simp_all [fits, noSet, noText, isZ]
       try omega)
    | (clear b1
       rw [Bool.eq_iff_iff]
       simp_all [fits, noSet, noText, isZ]
       try omega)

set_option maxRecDepth 100000 in
set_option maxHeartbeats 4000000 in
theorem fits_9 (set : BitVec 256) (text : ByteArray) (lo hi : Int) (kv : Value) (m : Int) (w : World) (hT : TabK w) (hg : 0 < w.heap.size) (ht : text.size < 9223372036854775807) :
    Calls Tryd.prog 21 #[nodeV ⟨9, set, text, lo, hi⟩ kv, .int .i64 m] w fun e w' => e = .returned (.bool (fits ⟨9, set, text, lo, hi⟩ m)) ∧ Below w.heap.size w w' := by
  have b0 := (Below.refl w.heap.size w).alloc (Nat.le_refl _) (.cells (nodeC ⟨9, set, text, lo, hi⟩ kv) 38)
  have k0 := Cl.new w 38 (nodeC ⟨9, set, text, lo, hi⟩ kv)
  obtain ⟨t0, t1⟩ := tab_at (hT.below b0 hg) 9 (by omega)
  simp [kidsTab] at t0 t1
  have he := set_eql_none set
  have h0 := set_eql_none 0#256
  rw [setN_zero, setV_none] at h0
  have hl := list_size text
  have hm := fun w => may_any text ht w
  have hr := fun w => repeats_any lo hi w
  go_enter Tryd.func21, Tryd.ntmps21
  go_wp2_with (first | (go_at_call 75; refine (within_any _ _ _ _).mono ?_; rintro e w' ⟨rfl, hb⟩; have b1 := b0.trans (hb.mono (Nat.le_of_lt k0.lt)); obtain ⟨⟨x0, x1, x2, x3, x4, x5, x6, x7, x8⟩, xf⟩ := (k0.below hb k0.lt).nine; clear hb) | (go_at_call 76; refine (hm _).mono ?_; rintro e w' ⟨rfl, rfl⟩) | (go_at_call 77; refine (hr _).mono ?_; rintro e w' ⟨rfl, rfl⟩))
  all_goals go_ret
  all_goals refine ⟨congrArg (fun x => Ending.returned (.bool x)) ?_, ?_⟩
  all_goals clear he h0 hm hr b0 k0 t0 t1 hT hg
  all_goals first
    | (repeat (refine Below.setCell ?_ (by simp) _)
       assumption)
    | (clear x0 x1 x2 x3 x4 x5 x6 x7 x8 xf b1
       rw [Bool.eq_iff_iff]
       simp_all [fits, noSet, isZ]
       try omega)
    | (clear b1
       rw [Bool.eq_iff_iff]
       simp_all [fits, noSet, noText, isZ]
       try omega)

set_option maxRecDepth 100000 in
set_option maxHeartbeats 4000000 in
theorem fits_k (k : Nat) (hk : 10 ≤ k) (hk8 : k < 256) (set : BitVec 256) (text : ByteArray) (lo hi : Int) (kv : Value) (m : Int) (w : World) (_hT : TabK w) (_hg : 0 < w.heap.size) (_ht : text.size < 9223372036854775807) :
    Calls Tryd.prog 21 #[nodeV ⟨k, set, text, lo, hi⟩ kv, .int .i64 m] w fun e w' => e = .returned (.bool (fits ⟨k, set, text, lo, hi⟩ m)) ∧ Below w.heap.size w w' := by
  have b0 := (Below.refl w.heap.size w).alloc (Nat.le_refl _) (.cells (nodeC ⟨k, set, text, lo, hi⟩ kv) 38)
  have k0 := Cl.new w 38 (nodeC ⟨k, set, text, lo, hi⟩ kv)
  have hk' : (10 : Int) ≤ (k : Int) := by omega
  have hw : IntKind.i64.wrap (k : Int) = k := IntWalk.i64_in _ (by omega)
  have hf : fits ⟨k, set, text, lo, hi⟩ m = false := by
    unfold fits
    match k, hk with
    | n + 10, _ => rfl
  rw [hf]
  clear hf
  go_enter Tryd.func21, Tryd.ntmps21
  go_wp2
  go_ret
  exact ⟨rfl, b0⟩

/-- **Fits.** -/
theorem fits_any (h : Hd) (hk : h.kind < 256) (ht : h.text.size < 9223372036854775807) (kv : Value) (m : Int) (w : World) (hT : TabK w) (hg : 0 < w.heap.size) :
    Calls Tryd.prog 21 #[nodeV h kv, .int .i64 m] w fun e w' => e = .returned (.bool (fits h m)) ∧ Below w.heap.size w w' := by
  obtain ⟨k, set, text, lo, hi⟩ := h
  match k, hk with
  | 0, _ => exact fits_0 set text lo hi kv m w hT hg ht
  | 1, _ => exact fits_1 set text lo hi kv m w hT hg ht
  | 2, _ => exact fits_2 set text lo hi kv m w hT hg ht
  | 3, _ => exact fits_3 set text lo hi kv m w hT hg ht
  | 4, _ => exact fits_4 set text lo hi kv m w hT hg ht
  | 5, _ => exact fits_5 set text lo hi kv m w hT hg ht
  | 6, _ => exact fits_6 set text lo hi kv m w hT hg ht
  | 7, _ => exact fits_7 set text lo hi kv m w hT hg ht
  | 8, _ => exact fits_8 set text lo hi kv m w hT hg ht
  | 9, _ => exact fits_9 set text lo hi kv m w hT hg ht
  | n + 10, hk => exact fits_k (n + 10) (by omega) hk set text lo hi kv m w hT hg ht
end Go.Proofs.YtpkjfdgjmcphmaaDoor

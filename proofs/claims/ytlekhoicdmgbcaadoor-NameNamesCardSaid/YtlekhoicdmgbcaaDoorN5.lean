/- Package name: Free. -/
import Derived.Maps.OwnIn
import Derived.RangeFuncWrites
import Derived.RangeFuncBox
import Derived.Test.YtlekhoicdmgbcaaDoorN4
namespace Go.Proofs.YtlekhoicdmgbcaaDoor
open Go.RowKit Go.Shelf Nm

attribute [local go_sem] Oper.semAt_some

/-- v is a slice of these texts. -/
def Strs (w : World) (v : Value) (us : List ByteArray) : Prop :=
  (v = .slice none 0 0 ∧ us = []) ∨ (∃ (a : Addr) (c : Nat), v = .slice (some a) 0 c ∧ us = []) ∨ ∃ (b off c : Nat), v = .slice (some ⟨b, off, none⟩) us.length c ∧ b < w.heap.size ∧ ∀ j (h : j < us.length), w.cell? ⟨b, off + j, none⟩ = some (.string us[j])

theorem Strs.below {w w' : World} {v : Value} {us : List ByteArray} {n₀ : Nat} (h : Strs w v us) (hb : Below n₀ w w') (hn : w.heap.size ≤ n₀) : Strs w' v us := by
  rcases h with h | h | ⟨b, off, c, e, hlt, hc⟩
  · exact .inl h
  · exact .inr (.inl h)
  · exact .inr (.inr ⟨b, off, c, e, Nat.lt_of_lt_of_le hlt hb.size, fun j hj => (hb.cell (p := ⟨b, off + j, none⟩) (Nat.lt_of_lt_of_le hlt hn)).trans (hc j hj)⟩)

theorem cl_own {β : Type} (g : Nat) (t : TypeId) (cs : Array Value) : Own (fun (_ : β) W => Cl W g t cs) := fun _ A _ row hs hg hr =>
  (hg.block g (Cl.lt hs) (fun e1 => by
    obtain ⟨o, ho, hc⟩ := hr g e1.symm
    rw [show A.heap[g]? = _ from hs] at ho
    cases ho
    cases hc)).trans hs

theorem ownsMap_below {P : Program} {k : TypeId} {R : Value → Option (DataW Unit × List MemPlace)} {w w' : World} {b n n₀ : Nat} {D : DataW Unit} (h : w.ownsMap P k R b n D) (hb : Below n₀ w w') (hlt : b < n₀) : w'.ownsMap P k R b n D := by
  obtain ⟨es, clock, hh, r⟩ := h
  exact ⟨es, clock, (hb.block b hlt).trans hh, r⟩

def keyL (s : ByteArray) : Lit := .string s.data.toList
/-- The texts that are held. -/
def heldD (us : List ByteArray) : DataW Unit := Maps.setOf (.agg []) (us.map keyL)

theorem heldD_snoc (us : List ByteArray) (s : ByteArray) : heldD (us ++ [s]) = (heldD us).put (keyL s) (.agg []) := by
  unfold heldD
  rw [List.map_append]
  exact Maps.setOf_snoc _ _ _
theorem held_has (us : List ByteArray) (s : ByteArray) : (Maps.has (heldD us) (keyL s) = true ↔ s ∈ us) := by
  unfold heldD
  rw [Maps.has_setOf _ _ _ (by intro x hx; obtain ⟨u, _, rfl⟩ := List.mem_map.1 hx; trivial), List.any_eq_true]
  constructor
  · rintro ⟨x, hx, hs⟩
    obtain ⟨u, hu, rfl⟩ := List.mem_map.1 hx
    have e : u = s := by
      by_cases e : keyL u = keyL s
      · unfold keyL at e
        injection e with e
        apply ByteArray.ext
        exact Array.toList_inj.1 e
      · rw [Maps.sameKey_ne e] at hs
        cases hs
    rw [← e]
    exact hu
  · intro hs
    exact ⟨keyL s, List.mem_map.2 ⟨s, hs, rfl⟩, WideAt.sameKey_self trivial⟩

theorem strs_len {w : World} {v : Value} {us : List ByteArray} (h : Strs w v us) (ty : TypeId) (W : World) : (Builtin.len_ #[36] ty #[v]).run Tryd.prog W = .ok (.int .i64 us.length) W := by
  rcases h with ⟨rfl, rfl⟩ | ⟨a, c, rfl, rfl⟩ | ⟨b, off, c, rfl, _, _⟩
  · simp [Builtin.len_, run_underlying Tryd.underlying36, goInt, Result.andThen]
  · simp [Builtin.len_, run_underlying Tryd.underlying36, goInt, Result.andThen]
  · simp [Builtin.len_, run_underlying Tryd.underlying36, goInt, Result.andThen]
theorem strs_at {w : World} {v : Value} {us : List ByteArray} (h : Strs w v us) : ∃ ad : Nat → Addr, ∀ j (hj : j < us.length), (∀ W, (Instr.indexAt 36 v (.int .i64 j)).run Tryd.prog W = .ok (.pointer (some (ad j))) W) ∧
    (ad j).block < w.heap.size ∧ w.cell? (ad j) = some (.string us[j]) := by
  rcases h with ⟨rfl, rfl⟩ | ⟨a, c, rfl, rfl⟩ | ⟨b, off, c, rfl, hlt, hc⟩
  · exact ⟨fun _ => ⟨0, 0, none⟩, fun j hj => by simp at hj⟩
  · exact ⟨fun _ => ⟨0, 0, none⟩, fun j hj => by simp at hj⟩
  · refine ⟨fun j => ⟨b, off + j, none⟩, fun j hj => ⟨fun W => ?_, hlt, hc j hj⟩⟩
    have h0 : (0 : Int) ≤ (j : Int) := by omega
    have h1 : (j : Int) < (us.length : Int) := by omega
    go_simp

theorem keepsO_below {W W' : World} (hb : Below W.heap.size W W') : KeepsOthers W W' :=
  ⟨hb.size, fun k _ hk _ => (hb.block k (Array.getElem?_eq_some_iff.1 hk).1).trans hk⟩
theorem cl_putObj {W : World} {g D : Nat} {t : TypeId} {cs : Array Value} (h : Cl W g t cs) (hD : g ≠ D) (o : Obj) : Cl (W.putObj D o) g t cs :=
  (World.putObj_heap_other hD).trans h

set_option maxRecDepth 100000 in
set_option maxHeartbeats 400000 in
theorem free_end {w W : World} {D : Nat} {r : ByteArray} {T : Array Value} {R : Ending → World → Prop} (h4 : T[4]? = some (.pointer (some ⟨w.heap.size, 0, none⟩))) (hD : w.heap.size + 1 ≤ D) (hK : W.heap[D]? = some (.deferred (some [])))
    (k1 : Cl W w.heap.size 9 #[.string r]) (hB : Below w.heap.size w W) (hR : ∀ W', Below w.heap.size w W' → R (.returned (.string r)) W') :
    bodyPostM Fence.wide 4 Tryd.prog Tryd.f18 R Exit.ret { tmps := T, defers := [{ target := Target.collected D, args := #[] }] } W := by
  refine ⟨by simp, .inl ⟨_, _, rfl, run_takeDeferred hK, ?_⟩⟩
  have j1 : (W.putObj D (.deferred none)).cell? ⟨w.heap.size, 0, none⟩ = some (.string r) := (cl_putObj k1 (by omega) _).cell 0
  refine ⟨.string r, ?_, hR _ (hB.trans (belowK_b (w := w) (Nat.le_refl _) W D _ _ (by omega) hK rfl rfl))⟩
  simp [results, Tryd.results18, go_sem, j1, h4]

set_option maxRecDepth 100000 in
set_option maxHeartbeats 2000000 in
theorem free_in (stem : ByteArray) (hs : stem.size ≤ 281474976710656) (us : List ByteArray) (hu : ∀ u ∈ us, u.size ≤ maxLen) (hl : us.length < maxLen) (v : Value) (w : World) (hv : Strs w v us) (hT : Tens w) (hg0 : 1 < w.heap.size) :
    CallsIn Fence.wide 4 Tryd.prog 18 #[.string stem, v] w fun e w' => ∃ r, e = .returned (.string r) ∧ FreeAns stem us r ∧ Below w.heap.size w w' := by
  have h1 : 1 ≤ 4 := by omega
  have hmm := @run_makeMap Tryd.prog
  have hlen := strs_len hv
  obtain ⟨ad, had⟩ := strs_at hv
  have HAD := Lib.hid had
  clear had
  have hl63 : us.length < 9223372036854775807 := by unfold maxLen at hl; omega
  refine callsIn_of_wp_marks Tryd.func18 rfl trivial ?_ rfl
  simp only [Tryd.ntmps18, List.size_toArray, List.length_cons, List.length_nil, Nat.reduceAdd, Nat.reduceSub, Array.replicate_succ, Array.replicate_zero, List.push_toArray, List.append_toArray, List.nil_append, List.cons_append]
  gi_wp2
  obtain ⟨W0, hW0⟩ : ∃ W0, (((w.alloc (.cells #[.string ⟨#[]⟩] 9)).alloc (.map #[] 0)).alloc (.cells #[.map (some (w.heap.size + 1))] 42)) = W0 := ⟨_, rfl⟩
  have c0 : Cl W0 w.heap.size 9 #[.string ⟨#[]⟩] := by rw [← hW0]; exact ((Cl.new' rfl _ _).alloc _).alloc _
  have c1 : W0.ownsMap Tryd.prog 9 unitElem (w.heap.size + 1) 0 (heldD (us.take 0)) := by rw [← hW0]; have h := (World.ownsMap_made (H := Unit) (w.alloc (.cells #[.string ⟨#[]⟩] 9)) Tryd.prog 9 unitElem).alloc (.cells #[.map (some (w.heap.size + 1))] 42); simp at h; exact h
  have c2 : Cl W0 (w.heap.size + 1 + 1) 42 #[.map (some (w.heap.size + 1))] := by rw [← hW0]; exact Cl.new' (by simp) _ _
  have hB0 : Below w.heap.size w W0 := by rw [← hW0]; exact ((((Below.refl _ w).alloc (Nat.le_refl _) _).alloc (by simp) _).alloc (by simp; omega) _)
  rw [hW0]
  clear hW0
  gi_loopw [7, 14] (fun _ i wr => ∃ n : Nat, i = .int .i64 n ∧ n ≤ us.length ∧ Cl wr w.heap.size 9 #[.string ⟨#[]⟩] ∧ wr.ownsMap Tryd.prog 9 unitElem (w.heap.size + 1) n (heldD (us.take n)) ∧ Cl wr (w.heap.size + 1 + 1) 42 #[.map (some (w.heap.size + 1))] ∧ Below w.heap.size w wr)
    (fun _ i _ => us.length - (intOf i).toNat)
  case atStart => exact ⟨0, rfl, by omega, c0, c1, c2, hB0⟩
  case round =>
    obtain ⟨n, rfl, hn, k0, k1, k2, hB⟩ := hrel
    clear c0 c1 c2 hB0
    by_cases hlt : n < us.length
    · obtain ⟨hix, hbl, hcl⟩ := HAD.out n hlt
      have hcl2 : wr.cell? (ad n) = some (.string us[n]) := (hB.cell hbl).trans hcl
      have hm0 := k2.cell 0
      have hn1 : wrap64 ((n : Int) + 1) = (n : Int) + 1 := by unfold wrap64; omega
      have hkey := WideMaps.keyOf_string_mk (P := Tryd.prog) Tryd.underlying9 (hu _ (List.getElem_mem hlt))
      have HKEY := Lib.hid hkey
      have hti : (n : Int) < us.length := by omega
      clear hkey hcl hbl
      gi_wp2_with (gi_at_mapUpdate; refine wpListIn_mapUpdate_own _ rfl _ _ _ 42 rfl 9 43 (Maps.string_keyed Tryd.underlying9) Tryd.underlying42 unitElem (w.heap.size + 1) n (heldD (us.take n)) rfl k1 (by omega) _ _ (keyL us[n]) rfl rfl HKEY.out (.agg []) [] unitElem_mk ?_; intro w1 hown1 hgrow1)
      have hlt0 := k0.lt
      have hlt2 := k2.lt
      refine ⟨⟨n + 1, by go_num, hlt, (hgrow1.block w.heap.size hlt0 (by simp)).trans k0, ?_, (hgrow1.block (w.heap.size + 1 + 1) hlt2 (by simp)).trans k2, hB.grown hgrow1 hB.size (fun j e => by cases e; omega)⟩, ?_⟩
      · rw [List.take_add_one, List.getElem?_eq_getElem hlt]
        show w1.ownsMap _ _ _ _ _ (heldD (us.take n ++ [us[n]]))
        rw [heldD_snoc]
        exact hown1
      · simp only [intOf]
        omega
    · obtain rfl : n = us.length := by omega
      have hti : ¬ (us.length : Int) < us.length := by omega
      rw [List.take_length] at k1
      have hm0 := k2.cell 0
      gi_wp2_with (refine ⟨trivial, ?_⟩; gi_at_call 31; refine (callsIn_wide.2 (tries_any stem _)).mono ?_; rintro e w' ⟨rfl, rfl⟩)
      obtain ⟨W0, hW0⟩ : ∃ W0, wr.alloc (.cells #[.string stem] 9) = W0 := ⟨_, rfl⟩
      have d0 : Cl W0 w.heap.size 9 #[.string ⟨#[]⟩] := by rw [← hW0]; exact k0.alloc _
      have d1 : W0.ownsMap Tryd.prog 9 unitElem (w.heap.size + 1) us.length (heldD us) := by rw [← hW0]; exact k1.alloc _
      have d2 : Cl W0 (w.heap.size + 1 + 1) 42 #[.map (some (w.heap.size + 1))] := by rw [← hW0]; exact k2.alloc _
      have d3 : Cl W0 wr.heap.size 9 #[.string stem] := by rw [← hW0]; exact Cl.new' rfl _ _
      have hB0 : Below w.heap.size w W0 := by rw [← hW0]; exact hB.alloc hB.size _
      have hz0 : W0.heap.size = wr.heap.size + 1 := by rw [← hW0]; simp
      have hT0 := Tens.below hT hB0 hg0
      have hlt2 := k2.lt
      rw [hW0]
      clear hW0 k0 k1 k2 hB hti hm0
      refine wpIn_rangeFunc_ownG rfl h1 (gf := 36) (lb := #[.pointer (some ⟨wr.heap.size, 0, none⟩)]) rfl trivial (enters_of Tryd.func36 (by kernel_rfl) rfl)
        (tries1_stops wr.heap.size w.heap.size stem _ hs hg0 (by omega) hB0.size d3 hT0) belowK_t (belowK_b (Nat.le_refl _)) (Below.refl _ _) (fun _ => rfl)
        (fun pre W => (∀ y ∈ pre, y.1 ∈ us) ∧ Below W0.heap.size W0 W)
        (fun c pre W => ∃ (q : List Nam) (x : Nam), pre = q ++ [x] ∧ c = .ret ∧ (∀ y ∈ q, y.1 ∈ us) ∧ x.1 ∉ us ∧ Cl W w.heap.size 9 #[.string x.1] ∧ Below w.heap.size w W)
        (OwnFrom.and (ownFrom_pure _ _) (ownFrom_below (Nat.le_refl _) (Nat.le_refl _)))
        ?ix
        ⟨fun y hy => by simp at hy, Below.refl _ _⟩
        (fun x => { tmps := #[.string stem, v, undef, undef, .pointer (some ⟨w.heap.size, 0, none⟩), .pointer (some ⟨w.heap.size + 1 + 1, 0, none⟩), undef, u7, .string x.1, undef, undef, .map (some (w.heap.size + 1)), v, .int .i64 us.length, .int .i64 us.length, .bool false, u16, u17, u18, u19, u20, u21, .string stem,
          .func (.func 36) #[] #[.pointer (some ⟨wr.heap.size, 0, none⟩)], .string x.1, undef, undef, undef, undef, undef, undef, undef, undef, undef, undef], defers := [] }) ?assign ?body ?done ?stop
      case ix =>
        rintro c pre A B row ⟨q, x, e1, e2, hq, hx, hc, hb⟩ hg hr
        exact ⟨q, x, e1, e2, hq, hx, cl_own (β := Unit) _ _ _ () A B row hc hg (fun r e => (hr r e).2), ownFrom_below (β := Unit) (Nat.le_refl _) hB0.size () A B row hb hg hr⟩
      case assign =>
        intro l x W K hK
        gi_wp2
        exact hK
      case body =>
        rintro l pre x W ⟨hp, hbW⟩ hlt
        have k0 := d0.below hbW d0.lt
        have k1 : W.ownsMap Tryd.prog 9 unitElem (w.heap.size + 1) us.length (heldD us) := ownsMap_below d1 hbW d1.lt
        have k2 := d2.below hbW d2.lt
        have hB := hB0.trans (hbW.mono hB0.size)
        have m0 := k2.cell 0
        have hkey := WideMaps.keyOf_string_mk (P := Tryd.prog) Tryd.underlying9 (s := x.1) (by have := x.2; unfold maxLen; omega)
        have HKEY := Lib.hid hkey
        have hcl := fun w => clone_any x.1 w (by have := x.2; omega)
        have hhas := held_has us x.1
        clear hkey
        by_cases hx : x.1 ∈ us
        · have hh := hhas.2 hx
          have HX := Lib.hid hx
          clear hhas hx
          gi_wp2_with (gi_at_lookup; refine wpListIn_lookup_own_unit _ rfl _ _ 42 rfl 9 43 (Maps.string_keyed Tryd.underlying9) Tryd.underlying42 (Tryd.zeroValue43 _) (w.heap.size + 1) us.length (heldD us) rfl k1 _ (keyL x.1) rfl HKEY.out ?_; rw [hh])
          refine ⟨((KeepsOthers.alloc _ _)).from _, (Below.refl _ W).alloc hbW.size _, fun y hy => ?_, hbW.alloc hbW.size _⟩
          rcases List.mem_append.1 hy with h | h
          · exact hp y h
          · rw [List.mem_singleton.1 h]
            exact HX.out
        · have hh : Maps.has (heldD us) (keyL x.1) = false := by
            rw [← Bool.not_eq_true]
            exact fun h => hx (hhas.1 h)
          have HX := Lib.hid hx
          clear hhas hx
          gi_wp2_with (first
            | (gi_at_lookup; refine wpListIn_lookup_own_unit _ rfl _ _ 42 rfl 9 43 (Maps.string_keyed Tryd.underlying9) Tryd.underlying42 (Tryd.zeroValue43 _) (w.heap.size + 1) us.length (heldD us) rfl k1 _ (keyL x.1) rfl HKEY.out ?_; rw [hh])
            | (refine ⟨trivial, ?_⟩; gi_at_call 27; refine (CallsIn.inRound l (callsIn_wide.2 (hcl _))).mono ?_; rintro e w' ⟨rfl, hb⟩; have k4 := Cl.below (k0.alloc _) hb (k0.alloc _).lt; have m4 := k4.cell 0; have f4 := k4.free 0))
          exact ⟨(((KeepsOthers.alloc _ _).trans (keepsO_below hb)).trans (KeepsOthers.setCell _ _ _)).from _, pre, x, rfl, rfl, hp, HX.out, k4.put 0 _, ((hB.alloc hB.size _).trans (hb.mono (hB.alloc hB.size _).size)).setCell (p := ⟨w.heap.size, 0, none⟩) (Nat.le_refl _) _⟩
      case done =>
        rintro D ys W hD ⟨ht, hno⟩ ⟨hp, hbW⟩ hK
        have k0 := d0.below hbW d0.lt
        have hB := hB0.trans (hbW.mono hB0.size)
        have m0 := k0.cell 0
        have g0 := k0.free 0
        gi_wp2
        exact free_end (D := D) rfl (by omega) ((KeepsOthers.setCell _ _ _).same D _ hK rfl) (k0.put 0 _) (hB.setCell (p := ⟨w.heap.size, 0, none⟩) (Nat.le_refl _) _) (fun W' h => ⟨_, rfl, FreeAns.of_done ht (by intro y hy; obtain ⟨z, hz, rfl⟩ := List.mem_map.1 hy; exact hp z hz) (by rw [List.length_map]; exact hno), h⟩)
      case stop =>
        rintro D c pre W hD hpre ⟨q, x, rfl, rfl, hq, hx, k0, hB⟩ hK
        have m0 := k0.cell 0
        gi_wp2
        refine free_end (D := D) rfl (by omega) hK k0 hB (fun W' h => ⟨_, rfl, ?_, h⟩)
        refine FreeAns.of_stop (q := q.map (·.1)) (by simpa using hpre) ?_ hx
        intro y hy
        obtain ⟨z, hz, rfl⟩ := List.mem_map.1 hy
        exact hq z hz

/-- **Free(stem, used): the first name of the row that is not used, or none.** -/
theorem free_any (stem : ByteArray) (hs : stem.size ≤ 281474976710656) (us : List ByteArray) (hu : ∀ u ∈ us, u.size ≤ maxLen) (hl : us.length < maxLen) (v : Value) (w : World) (hv : Strs w v us) (hT : Tens w) (hg0 : 1 < w.heap.size) :
    Calls Tryd.prog 18 #[.string stem, v] w fun e w' => ∃ r, e = .returned (.string r) ∧ FreeAns stem us r ∧ Below w.heap.size w w' :=
  callsIn_wide.1 (free_in stem hs us hu hl v w hv hT hg0)
end Go.Proofs.YtlekhoicdmgbcaaDoor

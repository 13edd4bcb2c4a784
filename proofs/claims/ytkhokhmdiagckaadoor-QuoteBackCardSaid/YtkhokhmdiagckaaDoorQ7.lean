/- Package quote: the two spellings; a literal. -/
import Derived.Test.YtkhokhmdiagckaaDoorQ6b
import Derived.Test.YtkhokhmdiagckaaDoorSbs
import Derived.Test.YtkhokhmdiagckaaDoorQm2
namespace Go.Proofs.YtkhokhmdiagckaaDoor
open Go.RowKit Go.Maps Bset Qm

theorem spell_lit (w : World) : Calls Tryd.prog 30 #[.string ⟨#[34]⟩, .bool false, .int .u8 34] w fun e w' => ∃ bb ba, e = .returned (spV lit bb ba) ∧ Spell w' lit bb ba ∧ Below w.heap.size w w' ∧ w.heap.size ≤ bb ∧ w.heap.size ≤ ba :=
  spell_any lit (.inl rfl) w
theorem spell_cls (w : World) : Calls Tryd.prog 30 #[.string ⟨#[93, 45, 94]⟩, .bool true, .int .u8 93] w fun e w' => ∃ bb ba, e = .returned (spV cls bb ba) ∧ Spell w' cls bb ba ∧ Below w.heap.size w w' ∧ w.heap.size ≤ bb ∧ w.heap.size ≤ ba :=
  spell_any cls (.inr rfl) w

theorem put8 (w : World) (g : Nat) (t : TypeId) (u0 u1 u2 u3 u4 u5 u6 u7 v0 v1 v2 v3 v4 v5 v6 v7 : Value) (q : Cl w g t #[u0, u1, u2, u3, u4, u5, u6, u7]) :
    Cl ((((((((w.setCell ⟨g, 0, none⟩ v0).setCell ⟨g, 1, none⟩ v1).setCell ⟨g, 2, none⟩ v2).setCell ⟨g, 3, none⟩ v3).setCell ⟨g, 4, none⟩ v4).setCell ⟨g, 5, none⟩ v5).setCell ⟨g, 6, none⟩ v6).setCell ⟨g, 7, none⟩ v7) g t #[v0, v1, v2, v3, v4, v5, v6, v7] := by
  have h := (((((((q.put 0 v0).put 1 v1).put 2 v2).put 3 v3).put 4 v4).put 5 v5).put 6 v6).put 7 v7
  simp only [List.setIfInBounds_toArray, List.set_cons_succ, List.set_cons_zero] at h
  exact h

/-- A spelling is stored into a block that the call has laid. -/
theorem spell_stored {w w1 : World} {p : Sp} {bb ba : Nat} (hb1 : Below (w.heap.size + 1) (w.alloc (.cells spZ 44)) w1) (hS : Spell w1 p bb ba) (hlb : w.heap.size + 1 ≤ bb) (hla : w.heap.size + 1 ≤ ba) :
    ∀ Wf, ((((((((w1.setCell ⟨w.heap.size, 0, none⟩ (.int .u64 (word (plain p) 0 : Nat))).setCell ⟨w.heap.size, 1, none⟩ (.int .u64 (word (plain p) 1 : Nat))).setCell ⟨w.heap.size, 2, none⟩ (.int .u64 (word (plain p) 2 : Nat))).setCell ⟨w.heap.size, 3, none⟩ (.int .u64 (word (plain p) 3 : Nat))).setCell ⟨w.heap.size, 4, none⟩ (.map (some bb))).setCell ⟨w.heap.size, 5, none⟩ (.map (some ba))).setCell ⟨w.heap.size, 6, none⟩ (.bool p.rng)).setCell ⟨w.heap.size, 7, none⟩ (.int .u8 (p.last : Nat))) = Wf →
      Cl Wf w.heap.size 44 (spC p bb ba) ∧ Spell Wf p bb ba ∧ Below w.heap.size w Wf := by
  intro Wf hWf
  have q : Cl w1 w.heap.size 44 spZ := (Cl.new w _ _).below hb1 (by omega)
  have g := grown8 w1 w.heap.size (.int .u64 (word (plain p) 0 : Nat)) (.int .u64 (word (plain p) 1 : Nat)) (.int .u64 (word (plain p) 2 : Nat)) (.int .u64 (word (plain p) 3 : Nat)) (.map (some bb)) (.map (some ba)) (.bool p.rng) (.int .u8 (p.last : Nat))
  have q8 := put8 w1 w.heap.size _ _ _ _ _ _ _ _ _ (.int .u64 (word (plain p) 0 : Nat)) (.int .u64 (word (plain p) 1 : Nat)) (.int .u64 (word (plain p) 2 : Nat)) (.int .u64 (word (plain p) 3 : Nat)) (.map (some bb)) (.map (some ba)) (.bool p.rng) (.int .u8 (p.last : Nat)) q
  rw [hWf] at g q8
  have hs : w.heap.size + 1 ≤ w1.heap.size := by have := hb1.size; simp at this; exact this
  exact ⟨q8, ⟨hS.isp, hS.beh.kept g (fun e => by have := Option.some.inj e; omega), hS.ahd.kept g (fun e => by have := Option.some.inj e; omega)⟩,
    (((Below.refl _ w).alloc (Nat.le_refl _) _).trans (hb1.mono (by omega))).grown g (by omega) (fun k e => by cases e; exact Nat.le_refl _)⟩

set_option maxRecDepth 100000 in
set_option maxHeartbeats 2000000 in
theorem literals_any (w : World) : Calls Tryd.prog 16 #[] w fun e w' => ∃ bb ba, e = .returned (spV lit bb ba) ∧ Spell w' lit bb ba ∧ Below w.heap.size w w' := by
  go_enter Tryd.func16, Tryd.ntmps16
  go_wp2_with (go_at_call 30; refine (spell_lit _).mono ?_; rintro e w1 ⟨bb, ba, rfl, hS, hb1, hlb, hla⟩; have qZ := (Cl.new w 44 spZ).below hb1 (by simp); have d0 := qZ.cell 0; have d1 := qZ.cell 1; have d2 := qZ.cell 2; have d3 := qZ.cell 3; have d4 := qZ.cell 4; have d5 := qZ.cell 5; have d6 := qZ.cell 6; have d7 := qZ.cell 7; have f0 := qZ.free 0; have f1 := qZ.free 1; have f2 := qZ.free 2; have f3 := qZ.free 3; have f4 := qZ.free 4; have f5 := qZ.free 5; have f6 := qZ.free 6; have f7 := qZ.free 7)
  obtain ⟨Wf, hWf⟩ : ∃ Wf, ((((((((w1.setCell ⟨w.heap.size, 0, none⟩ (.int .u64 (word (plain lit) 0 : Nat))).setCell ⟨w.heap.size, 1, none⟩ (.int .u64 (word (plain lit) 1 : Nat))).setCell ⟨w.heap.size, 2, none⟩ (.int .u64 (word (plain lit) 2 : Nat))).setCell ⟨w.heap.size, 3, none⟩ (.int .u64 (word (plain lit) 3 : Nat))).setCell ⟨w.heap.size, 4, none⟩ (.map (some bb))).setCell ⟨w.heap.size, 5, none⟩ (.map (some ba))).setCell ⟨w.heap.size, 6, none⟩ (.bool lit.rng)).setCell ⟨w.heap.size, 7, none⟩ (.int .u8 (lit.last : Nat))) = Wf := ⟨_, rfl⟩
  obtain ⟨q, s1, b1⟩ := spell_stored (by simpa using hb1) hS (by simpa using hlb) (by simpa using hla) Wf hWf
  rw [hWf]
  have k0 := q.cell 0
  have k1 := q.cell 1
  have k2 := q.cell 2
  have k3 := q.cell 3
  have k4 := q.cell 4
  have k5 := q.cell 5
  have k6 := q.cell 6
  have k7 := q.cell 7
  clear hWf
  exact bodyPost_ret (v := spV lit bb ba) (by simp [results, Tryd.results16, go_sem, k0, k1, k2, k3, k4, k5, k6, k7]) rfl ⟨bb, ba, rfl, s1, b1⟩

set_option maxRecDepth 100000 in
set_option maxHeartbeats 2000000 in
theorem classes_all (w : World) : Calls Tryd.prog 25 #[] w fun e w' => ∃ bb ba, e = .returned (spV cls bb ba) ∧ Spell w' cls bb ba ∧ Below w.heap.size w w' ∧ w.heap.size ≤ bb ∧ w.heap.size ≤ ba := by
  go_enter Tryd.func25, Tryd.ntmps25
  go_wp2_with (go_at_call 30; refine (spell_cls _).mono ?_; rintro e w1 ⟨bb, ba, rfl, hS, hb1, hlb, hla⟩; have qZ := (Cl.new w 44 spZ).below hb1 (by simp); have d0 := qZ.cell 0; have d1 := qZ.cell 1; have d2 := qZ.cell 2; have d3 := qZ.cell 3; have d4 := qZ.cell 4; have d5 := qZ.cell 5; have d6 := qZ.cell 6; have d7 := qZ.cell 7; have f0 := qZ.free 0; have f1 := qZ.free 1; have f2 := qZ.free 2; have f3 := qZ.free 3; have f4 := qZ.free 4; have f5 := qZ.free 5; have f6 := qZ.free 6; have f7 := qZ.free 7)
  obtain ⟨Wf, hWf⟩ : ∃ Wf, ((((((((w1.setCell ⟨w.heap.size, 0, none⟩ (.int .u64 (word (plain cls) 0 : Nat))).setCell ⟨w.heap.size, 1, none⟩ (.int .u64 (word (plain cls) 1 : Nat))).setCell ⟨w.heap.size, 2, none⟩ (.int .u64 (word (plain cls) 2 : Nat))).setCell ⟨w.heap.size, 3, none⟩ (.int .u64 (word (plain cls) 3 : Nat))).setCell ⟨w.heap.size, 4, none⟩ (.map (some bb))).setCell ⟨w.heap.size, 5, none⟩ (.map (some ba))).setCell ⟨w.heap.size, 6, none⟩ (.bool cls.rng)).setCell ⟨w.heap.size, 7, none⟩ (.int .u8 (cls.last : Nat))) = Wf := ⟨_, rfl⟩
  obtain ⟨q, s1, b1⟩ := spell_stored (by simpa using hb1) hS (by simpa using hlb) (by simpa using hla) Wf hWf
  rw [hWf]
  have k0 := q.cell 0
  have k1 := q.cell 1
  have k2 := q.cell 2
  have k3 := q.cell 3
  have k4 := q.cell 4
  have k5 := q.cell 5
  have k6 := q.cell 6
  have k7 := q.cell 7
  clear hWf
  exact bodyPost_ret (v := spV cls bb ba) (by simp [results, Tryd.results25, go_sem, k0, k1, k2, k3, k4, k5, k6, k7]) rfl ⟨bb, ba, rfl, s1, b1, by simp at hlb; omega, by simp at hla; omega⟩
theorem classes_any (w : World) : Calls Tryd.prog 25 #[] w fun e w' => ∃ bb ba, e = .returned (spV cls bb ba) ∧ Spell w' cls bb ba ∧ Below w.heap.size w w' :=
  (classes_all w).mono fun _ _ ⟨bb, ba, h1, h2, h3, _⟩ => ⟨bb, ba, h1, h2, h3⟩
end Go.Proofs.YtkhokhmdiagckaaDoor

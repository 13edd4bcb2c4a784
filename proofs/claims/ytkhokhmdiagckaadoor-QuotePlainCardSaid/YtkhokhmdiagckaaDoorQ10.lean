/- Package quote: what a loop over the parts of a literal keeps. -/
import Derived.Test.YtkhokhmdiagckaaDoorQ4
import Derived.Test.YtkhokhmdiagckaaDoorQ5
import Derived.Test.YtkhokhmdiagckaaDoorQ8
namespace Go.Proofs.YtkhokhmdiagckaaDoor
open Go.RowKit Go.Maps Go.Shelf Bset Qm

/-- A write to a builder leaves the iterator's blocks alone. -/
theorem Stands.of_others {e T T' : TypeId} {b : Nat} {K : Nat → Prop} {W W' : World} (hk : Lib.OthersKept e (some b) W W') (hs : W.heap.size ≤ W'.heap.size) (hb : ∃ cs fz, W.heap[b]? = some (.cells cs T' fz)) (h1 : T' ≠ T) (h2 : T ≠ e)
    (hK : ∀ k, K k → k ≠ b ∧ ∃ o, W.heap[k]? = some o ∧ ∀ c fz, o ≠ .cells c e fz) : Stands T K W W' :=
  ⟨hs, fun k cs fz h => hk k _ h (fun e1 => by
      obtain ⟨cs', fz', hb⟩ := hb
      cases e1
      rw [hb] at h
      cases h
      exact h1 rfl) (fun c f e1 => by cases e1; exact h2 rfl),
    fun k hk' => by
      obtain ⟨hn, o, ho, hc⟩ := hK k hk'
      rw [ho]
      exact hk k o ho (fun e1 => hn (Option.some.inj e1)) hc⟩
theorem Stands.of_set {T T' : TypeId} {K : Nat → Prop} {W : World} {g : Nat} {cs : Array Value} (hg : Cl W g T' cs) (h1 : T' ≠ T) (hK : ∀ k, K k → k ≠ g ∧ k < W.heap.size) (j : Nat) (u : Value) : Stands T K W (W.setCell ⟨g, j, none⟩ u) :=
  Stands.of_grown (setCell_grown W g j u) (fun r e => by
    cases e
    exact ⟨fun h => (hK _ h).1 rfl, fun cs' fz h => by
      rw [show W.heap[g]? = _ from hg] at h
      cases h
      exact h1 rfl⟩) (fun k hk => (hK k hk).2)

theorem Held.others {e : TypeId} {b : Nat} {W W' : World} {p : Sp} {bb ba B : Nat} {s : ByteArray} {k : Nat} (h : Held W p bb ba B s k) (hk : Lib.OthersKept e (some b) W W') (hn : ∀ j, keptB B bb ba j → j ≠ b) (h1 : 44 ≠ e) (h2 : 9 ≠ e) (h3 : 3 ≠ e) : Held W' p bb ba B s k :=
  ⟨⟨h.sp.isp, h.sp.beh.others hk (hn _ (.inr (.inr (.inr (.inl rfl))))), h.sp.ahd.others hk (hn _ (.inr (.inr (.inr (.inr rfl)))))⟩,
    cl_others hk h.b0 (hn _ (.inl rfl)) h1, cl_others hk h.b1 (hn _ (.inr (.inl rfl))) h2, cl_others hk h.b2 (hn _ (.inr (.inr (.inl rfl)))) h3⟩
/-- The iterator's blocks are no bytes. -/
theorem MapIs.obj {W : World} {b : Nat} {f : Nat → Option Nat} (h : MapIs W b f) : ∃ es clock, W.heap[b]? = some (.map es clock) := by
  obtain ⟨n, D, ⟨es, clock, hh, _⟩, _⟩ := h
  exact ⟨es, clock, hh⟩
theorem Held.objs {W : World} {p : Sp} {bb ba B : Nat} {s : ByteArray} {k : Nat} (h : Held W p bb ba B s k) {e : TypeId} (h1 : 44 ≠ e) (h2 : 9 ≠ e) (h3 : 3 ≠ e) :
    ∀ j, keptB B bb ba j → ∃ o, W.heap[j]? = some o ∧ ∀ c fz, o ≠ .cells c e fz := by
  rintro j (rfl | rfl | rfl | rfl | rfl)
  · exact ⟨_, h.b0, fun c fz e1 => by cases e1; exact h1 rfl⟩
  · exact ⟨_, h.b1, fun c fz e1 => by cases e1; exact h2 rfl⟩
  · exact ⟨_, h.b2, fun c fz e1 => by cases e1; exact h3 rfl⟩
  · obtain ⟨es, clock, hh⟩ := h.sp.beh.obj
    exact ⟨_, hh, fun c fz e1 => by cases e1⟩
  · obtain ⟨es, clock, hh⟩ := h.sp.ahd.obj
    exact ⟨_, hh, fun c fz e1 => by cases e1⟩

/-- What Unliteral's loop keeps: the spelling at B, the builder behind it, how many parts, the place; the iterator's own three. -/
structure UnL (w : World) (bb ba B : Nat) (s : ByteArray) (l : List UInt8) (m e : Nat) (W : World) : Prop where
  held : Held W lit bb ba (B + 4) s 1
  box : Cl W B 44 (spC lit bb ba)
  bld : Lib.IsBuilderF 49 5 w.heap.size (B + 1) (Lib.byteCells l) W
  many : Cl W (B + 2) 3 #[.int .i64 (m : Nat)]
  place : Cl W (B + 3) 3 #[.int .i64 (e : Nat)]
  low : Below w.heap.size w W
  hb : bb < B
  ha : ba < B
  hB : w.heap.size ≤ B

section
variable {w W W' : World} {bb ba B : Nat} {s : ByteArray} {l l' : List UInt8} {m e m' e' : Nat}
theorem UnL.names (h : UnL w bb ba B s l m e W) : ∀ j, keptB (B + 4) bb ba j → (j < B ∨ B + 4 ≤ j) ∧ j < B + 7 := by
  have h1 := h.hb
  have h2 := h.ha
  rintro j (rfl | rfl | rfl | rfl | rfl) <;> omega
theorem UnL.below (h : UnL w bb ba B s l m e W) (hb : Below W.heap.size W W') : UnL w bb ba B s l m e W' :=
  ⟨h.held.below hb, h.box.below hb h.box.lt, builder_below h.bld hb, h.many.below hb h.many.lt, h.place.below hb h.place.lt, h.low.trans (hb.mono h.low.size), h.hb, h.ha, h.hB⟩
theorem UnL.abide (h : UnL w bb ba B s l m e W) {row : Option Nat} (hg : W.grownBy W' row) (hr : ∀ r, row = some r → B + 7 ≤ r ∧ ∃ o : Obj, W.heap[r]? = some o ∧ (o.isCells = false ∨ ∃ cs fz, o = .cells cs 63 fz)) : UnL w bb ba B s l m e W' := by
  have hs : ∀ j, j < B + 7 → j < W.heap.size → W'.heap[j]? = W.heap[j]? := fun j hj hl => hg.block j hl (fun e1 => by have := (hr j e1.symm).1; omega)
  have hn := h.names
  have hkl := h.held.kept_lt
  have st : ∀ j, keptB (B + 4) bb ba j → W'.heap[j]? = W.heap[j]? := fun j hj => hs j (hn j hj).2 (hkl j hj)
  exact ⟨⟨⟨h.held.sp.isp, h.held.sp.beh.same (st _ (.inr (.inr (.inr (.inl rfl))))), h.held.sp.ahd.same (st _ (.inr (.inr (.inr (.inr rfl)))))⟩, h.held.b0.same (st _ (.inl rfl)), h.held.b1.same (st _ (.inr (.inl rfl))), h.held.b2.same (st _ (.inr (.inr (.inl rfl))))⟩,
    h.box.same (hs _ (by omega) h.box.lt), builder_keptT h.bld (by decide) (by decide) hg (fun r e1 => (hr r e1).2), h.many.same (hs _ (by omega) h.many.lt), h.place.same (hs _ (by omega) h.place.lt),
    h.low.grown hg h.low.size (fun k e1 => by have := (hr k e1).1; have := h.hB; omega), h.hb, h.ha, h.hB⟩
theorem UnL.byte (h : UnL w bb ba B s l m e W) (c : Nat) (hc : c < 256) (hl : l.length < 100000000) :
    Calls Tryd.prog 17 #[.pointer (some ⟨B + 1, 0, none⟩), .int .u8 (c : Nat)] W fun e0 W' => e0 = .returned .nilIface ∧ UnL w bb ba B s (l ++ [UInt8.ofNat c]) m e W' ∧ KeepsOthers W W' ∧ Stands 63 (keptB (B + 4) bb ba) W W' := by
  have hn : ∀ j, keptB (B + 4) bb ba j → j ≠ B + 1 := fun j hj => by have := (h.names j hj).1; omega
  have h1 := h.hb
  have h2 := h.ha
  obtain ⟨cs, hcs⟩ := builder_block h.bld
  refine (builder_WriteByte _ _ _ c _ h.bld (by rw [byteCells_length]; omega) h.low.size).mono ?_
  rintro e0 W' ⟨rfl, hw, hb, hk⟩
  have hw2 : Lib.BuilderAtF 49 5 w.heap.size (B + 1) (.pointer (some ⟨B + 1, 0, none⟩)) (Lib.byteCells (l ++ [UInt8.ofNat c])) W' := by
    have e1 : Lib.byteCells [UInt8.ofNat c] = [Value.int .u8 (c : Nat)] := by simp [Lib.byteCells, u8 hc]
    rw [← byteCells_append, e1]
    exact hw
  exact ⟨rfl, ⟨h.held.others hk hn (by decide) (by decide) (by decide), cl_others hk h.box (by omega) (by decide), .inr hw2, cl_others hk h.many (by omega) (by decide), cl_others hk h.place (by omega) (by decide), h.low.trans hb, h.hb, h.ha, h.hB⟩,
    keeps_of_others hk hb hcs, Stands.of_others hk hb.size ⟨cs, _, hcs⟩ (by decide) (by decide) (fun k hk' => ⟨hn k hk', h.held.objs (by decide) (by decide) (by decide) k hk'⟩)⟩
theorem UnL.count (h : UnL w bb ba B s l m e W) (x : Int) (hx : x = (m' : Nat)) : UnL w bb ba B s l m' e (W.setCell ⟨B + 2, 0, none⟩ (.int .i64 x)) ∧ Stands 63 (keptB (B + 4) bb ba) W (W.setCell ⟨B + 2, 0, none⟩ (.int .i64 x)) := by
  subst hx
  have hn := h.names
  have h1 := h.hb
  have h2 := h.ha
  have hg := setCell_grown W (B + 2) 0 (.int .i64 (m' : Nat))
  refine ⟨⟨h.held.grown hg (fun j hj e1 => by have := (hn j hj).1; omega), h.box.grown hg (fun e1 => by have := Option.some.inj e1; omega), builder_keptB h.bld hg h.many (by decide) (by decide), h.many.put 0 _, h.place.grown hg (fun e1 => by have := Option.some.inj e1; omega),
    h.low.grown hg h.low.size (fun k e1 => by cases e1; have := h.hB; omega), h.hb, h.ha, h.hB⟩, Stands.of_set h.many (by decide) (fun k hk => ⟨fun e1 => by have := (hn k hk).1; omega, h.held.kept_lt k hk⟩) 0 _⟩
theorem UnL.moved (h : UnL w bb ba B s l m e W) (x : Int) (hx : x = (e' : Nat)) : UnL w bb ba B s l m e' (W.setCell ⟨B + 3, 0, none⟩ (.int .i64 x)) ∧ Stands 63 (keptB (B + 4) bb ba) W (W.setCell ⟨B + 3, 0, none⟩ (.int .i64 x)) := by
  subst hx
  have hn := h.names
  have h1 := h.hb
  have h2 := h.ha
  have hg := setCell_grown W (B + 3) 0 (.int .i64 (e' : Nat))
  refine ⟨⟨h.held.grown hg (fun j hj e1 => by have := (hn j hj).1; omega), h.box.grown hg (fun e1 => by have := Option.some.inj e1; omega), builder_keptB h.bld hg h.place (by decide) (by decide), h.many.grown hg (fun e1 => by have := Option.some.inj e1; omega), h.place.put 0 _,
    h.low.grown hg h.low.size (fun k e1 => by cases e1; have := h.hB; omega), h.hb, h.ha, h.hB⟩, Stands.of_set h.place (by decide) (fun k hk => ⟨fun e1 => by have := (hn k hk).1; omega, h.held.kept_lt k hk⟩) 0 _⟩
theorem UnL.drew (h : UnL w bb ba B s l m e W) : UnL w bb ba B s l m e W.drew := ⟨⟨h.held.sp.drew, h.held.b0, h.held.b1, h.held.b2⟩, h.box, h.bld, h.many, h.place, h.low.drew, h.hb, h.ha, h.hB⟩
theorem Stands.drew {T : TypeId} {K : Nat → Prop} (W : World) : Stands T K W W.drew := ⟨Nat.le_refl _, fun _ _ _ h => h, fun _ _ => rfl⟩
/-- Both stores of a round. -/
theorem UnL.round (h : UnL w bb ba B s l m e W) (x y : Int) (hx : x = (m' : Nat)) (hy : y = (e' : Nat)) :
    KeepsOthers W ((W.setCell ⟨B + 1 + 1, 0, none⟩ (.int .i64 x)).setCell ⟨B + 1 + 1 + 1, 0, none⟩ (.int .i64 y)).drew ∧ Stands 63 (keptB (B + 4) bb ba) W ((W.setCell ⟨B + 1 + 1, 0, none⟩ (.int .i64 x)).setCell ⟨B + 1 + 1 + 1, 0, none⟩ (.int .i64 y)).drew ∧
      UnL w bb ba B s l m' e' ((W.setCell ⟨B + 1 + 1, 0, none⟩ (.int .i64 x)).setCell ⟨B + 1 + 1 + 1, 0, none⟩ (.int .i64 y)).drew := by
  obtain ⟨u1, s1⟩ := h.count x hx
  obtain ⟨u2, s2⟩ := u1.moved y hy
  exact ⟨(KeepsOthers.setCell _ _ _).trans ((KeepsOthers.setCell _ _ _).trans (KeepsOthers.drew _)), s1.trans (s2.trans (Stands.drew _)), u2.drew⟩
end
end Go.Proofs.YtkhokhmdiagckaaDoor

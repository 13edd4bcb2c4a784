/- Package quote: what a loop over the parts of a literal keeps. -/
import Derived.Test.YtjeogbdeagkomaaDoorVQr
import Derived.Test.YtjeogbdeagkomaaDoorVQ8
import Derived.Test.YtjeogbdeagkomaaDoorVRunsM
namespace Go.Proofs.YtjeogbdeagkomaaDoor
open Go.RowKit Go.Maps Go.Shelf Bset Qm

/-- A write to a builder leaves the iterator's blocks alone. -/
theorem Stands.of_others {e T T' : TypeId} {b : Nat} {K : Nat → Prop} {W W' : World} (hk : Lib.OthersKept e (some b) W W') (hs : W.heap.size ≤ W'.heap.size) (hb : ∃ cs fz, W.heap[b]? = some (.cells cs T' fz)) (h1 : T' ≠ T) (h2 : T ≠ e)
    (hK : ∀ k, K k → k ≠ b ∧ ∃ o, W.heap[k]? = some o ∧ ∀ c fz, o ≠ .cells c e fz) : Stands T K W W' :=
  ⟨hs, fun k cs fz h => hk k _ h (fun e1 => by
      obtain ⟨cs', fz', hb⟩ := hb
      cases e1
      rw [hb] at h
      cases h
      exact h1 rfl) (fun c f e1 => by cases e1; exact h2 rfl),
    fun k hk' => by
      obtain ⟨hn, o, ho, hc⟩ := hK k hk'
      rw [ho]
      exact hk k o ho (fun e1 => hn (Option.some.inj e1)) hc⟩
theorem Stands.of_set {T T' : TypeId} {K : Nat → Prop} {W : World} {g : Nat} {cs : Array Value} (hg : Cl W g T' cs) (h1 : T' ≠ T) (hK : ∀ k, K k → k ≠ g ∧ k < W.heap.size) (j : Nat) (u : Value) : Stands T K W (W.setCell ⟨g, j, none⟩ u) :=
  Stands.of_grown (setCell_grown W g j u) (fun r e => by
    cases e
    exact ⟨fun h => (hK _ h).1 rfl, fun cs' fz h => by
      rw [show W.heap[g]? = _ from hg] at h
      cases h
      exact h1 rfl⟩) (fun k hk => (hK k hk).2)

theorem Held.others {e : TypeId} {b : Nat} {W W' : World} {p : Sp} {bb ba B : Nat} {s : ByteArray} {k : Nat} (h : Held W p bb ba B s k) (hk : Lib.OthersKept e (some b) W W') (hn : ∀ j, keptB B bb ba j → j ≠ b) (h1 : 126 ≠ e) (h2 : 9 ≠ e) (h3 : 3 ≠ e) : Held W' p bb ba B s k :=
  ⟨⟨h.sp.isp, h.sp.beh.others hk (hn _ (.inr (.inr (.inr (.inl rfl))))), h.sp.ahd.others hk (hn _ (.inr (.inr (.inr (.inr rfl)))))⟩,
    cl_others hk h.b0 (hn _ (.inl rfl)) h1, cl_others hk h.b1 (hn _ (.inr (.inl rfl))) h2, cl_others hk h.b2 (hn _ (.inr (.inr (.inl rfl)))) h3⟩
/-- The iterator's blocks are no bytes. -/
theorem MapIs.obj {W : World} {b : Nat} {f : Nat → Option Nat} (h : MapIs W b f) : ∃ es clock, W.heap[b]? = some (.map es clock) := by
  obtain ⟨n, D, ⟨es, clock, hh, _⟩, _⟩ := h
  exact ⟨es, clock, hh⟩
theorem Held.objs {W : World} {p : Sp} {bb ba B : Nat} {s : ByteArray} {k : Nat} (h : Held W p bb ba B s k) {e : TypeId} (h1 : 126 ≠ e) (h2 : 9 ≠ e) (h3 : 3 ≠ e) :
    ∀ j, keptB B bb ba j → ∃ o, W.heap[j]? = some o ∧ ∀ c fz, o ≠ .cells c e fz := by
  rintro j (rfl | rfl | rfl | rfl | rfl)
  · exact ⟨_, h.b0, fun c fz e1 => by cases e1; exact h1 rfl⟩
  · exact ⟨_, h.b1, fun c fz e1 => by cases e1; exact h2 rfl⟩
  · exact ⟨_, h.b2, fun c fz e1 => by cases e1; exact h3 rfl⟩
  · obtain ⟨es, clock, hh⟩ := h.sp.beh.obj
    exact ⟨_, hh, fun c fz e1 => by cases e1⟩
  · obtain ⟨es, clock, hh⟩ := h.sp.ahd.obj
    exact ⟨_, hh, fun c fz e1 => by cases e1⟩

/-- What Unliteral's loop keeps: the spelling at B, the builder behind it, how many parts, the place; the iterator's own three. -/
structure UnL (w : World) (bb ba B : Nat) (s : ByteArray) (l : List UInt8) (m e : Nat) (W : World) : Prop where
  held : Held W lit bb ba (B + 4) s 1
  box : Cl W B 126 (spC lit bb ba)
  bld : Lib.IsBuilderF 109 5 w.heap.size (B + 1) (Lib.byteCells l) W
  many : Cl W (B + 2) 3 #[.int .i64 (m : Nat)]
  place : Cl W (B + 3) 3 #[.int .i64 (e : Nat)]
  low : Below w.heap.size w W
  hb : bb < B
  ha : ba < B
  hB : w.heap.size ≤ B

section
variable {w W W' : World} {bb ba B : Nat} {s : ByteArray} {l l' : List UInt8} {m e m' e' : Nat}
theorem UnL.names (h : UnL w bb ba B s l m e W) : ∀ j, keptB (B + 4) bb ba j → (j < B ∨ B + 4 ≤ j) ∧ j < B + 7 := by
  have h1 := h.hb
  have h2 := h.ha
  rintro j (rfl | rfl | rfl | rfl | rfl) <;> omega
theorem UnL.below (h : UnL w bb ba B s l m e W) (hb : Below W.heap.size W W') : UnL w bb ba B s l m e W' :=
  ⟨h.held.below hb, h.box.below hb h.box.lt, builder_below h.bld hb, h.many.below hb h.many.lt, h.place.below hb h.place.lt, h.low.trans (hb.mono h.low.size), h.hb, h.ha, h.hB⟩
theorem UnL.abide (h : UnL w bb ba B s l m e W) {row : Option Nat} (hg : W.grownBy W' row) (hr : ∀ r, row = some r → B + 7 ≤ r ∧ ∃ o : Obj, W.heap[r]? = some o ∧ (o.isCells = false ∨ ∃ cs fz, o = .cells cs 197 fz)) : UnL w bb ba B s l m e W' := by
  have hs : ∀ j, j < B + 7 → j < W.heap.size → W'.heap[j]? = W.heap[j]? := fun j hj hl => hg.block j hl (fun e1 => by have := (hr j e1.symm).1; omega)
  have hn := h.names
  have hkl := h.held.kept_lt
  have st : ∀ j, keptB (B + 4) bb ba j → W'.heap[j]? = W.heap[j]? := fun j hj => hs j (hn j hj).2 (hkl j hj)
  exact ⟨⟨⟨h.held.sp.isp, h.held.sp.beh.same (st _ (.inr (.inr (.inr (.inl rfl))))), h.held.sp.ahd.same (st _ (.inr (.inr (.inr (.inr rfl)))))⟩, h.held.b0.same (st _ (.inl rfl)), h.held.b1.same (st _ (.inr (.inl rfl))), h.held.b2.same (st _ (.inr (.inr (.inl rfl))))⟩,
    h.box.same (hs _ (by omega) h.box.lt), builder_keptT h.bld (by decide) (by decide) hg (fun r e1 => (hr r e1).2), h.many.same (hs _ (by omega) h.many.lt), h.place.same (hs _ (by omega) h.place.lt),
    h.low.grown hg h.low.size (fun k e1 => by have := (hr k e1).1; have := h.hB; omega), h.hb, h.ha, h.hB⟩
theorem UnL.byte (h : UnL w bb ba B s l m e W) (c : Nat) (hc : c < 256) (hl : l.length < 100000000) :
    Calls Tryd.prog 101 #[.pointer (some ⟨B + 1, 0, none⟩), .int .u8 (c : Nat)] W fun e0 W' => e0 = .returned .nilIface ∧ UnL w bb ba B s (l ++ [UInt8.ofNat c]) m e W' ∧ KeepsOthers W W' ∧ Stands 197 (keptB (B + 4) bb ba) W W' := by
  have hn : ∀ j, keptB (B + 4) bb ba j → j ≠ B + 1 := fun j hj => by have := (h.names j hj).1; omega
  have h1 := h.hb
  have h2 := h.ha
  obtain ⟨cs, hcs⟩ := builder_block h.bld
  refine (builder_WriteByte _ _ _ c _ h.bld (by rw [byteCells_length]; omega) h.low.size).mono ?_
  rintro e0 W' ⟨rfl, hw, hb, hk⟩
  have hw2 : Lib.BuilderAtF 109 5 w.heap.size (B + 1) (.pointer (some ⟨B + 1, 0, none⟩)) (Lib.byteCells (l ++ [UInt8.ofNat c])) W' := by
    have e1 : Lib.byteCells [UInt8.ofNat c] = [Value.int .u8 (c : Nat)] := by simp [Lib.byteCells, u8 hc]
    rw [← byteCells_append, e1]
    exact hw
  exact ⟨rfl, ⟨h.held.others hk hn (by decide) (by decide) (by decide), cl_others hk h.box (by omega) (by decide), .inr hw2, cl_others hk h.many (by omega) (by decide), cl_others hk h.place (by omega) (by decide), h.low.trans hb, h.hb, h.ha, h.hB⟩,
    keeps_of_others hk hb hcs, Stands.of_others hk hb.size ⟨cs, _, hcs⟩ (by decide) (by decide) (fun k hk' => ⟨hn k hk', h.held.objs (by decide) (by decide) (by decide) k hk'⟩)⟩
theorem UnL.count (h : UnL w bb ba B s l m e W) (x : Int) (hx : x = (m' : Nat)) : UnL w bb ba B s l m' e (W.setCell ⟨B + 2, 0, none⟩ (.int .i64 x)) ∧ Stands 197 (keptB (B + 4) bb ba) W (W.setCell ⟨B + 2, 0, none⟩ (.int .i64 x)) := by
  subst hx
  have hn := h.names
  have h1 := h.hb
  have h2 := h.ha
  have hg := setCell_grown W (B + 2) 0 (.int .i64 (m' : Nat))
  refine ⟨⟨h.held.grown hg (fun j hj e1 => by have := (hn j hj).1; omega), h.box.grown hg (fun e1 => by have := Option.some.inj e1; omega), builder_keptB h.bld hg h.many (by decide) (by decide), h.many.put 0 _, h.place.grown hg (fun e1 => by have := Option.some.inj e1; omega),
    h.low.grown hg h.low.size (fun k e1 => by cases e1; have := h.hB; omega), h.hb, h.ha, h.hB⟩, Stands.of_set h.many (by decide) (fun k hk => ⟨fun e1 => by have := (hn k hk).1; omega, h.held.kept_lt k hk⟩) 0 _⟩
theorem UnL.moved (h : UnL w bb ba B s l m e W) (x : Int) (hx : x = (e' : Nat)) : UnL w bb ba B s l m e' (W.setCell ⟨B + 3, 0, none⟩ (.int .i64 x)) ∧ Stands 197 (keptB (B + 4) bb ba) W (W.setCell ⟨B + 3, 0, none⟩ (.int .i64 x)) := by
  subst hx
  have hn := h.names
  have h1 := h.hb
  have h2 := h.ha
  have hg := setCell_grown W (B + 3) 0 (.int .i64 (e' : Nat))
  refine ⟨⟨h.held.grown hg (fun j hj e1 => by have := (hn j hj).1; omega), h.box.grown hg (fun e1 => by have := Option.some.inj e1; omega), builder_keptB h.bld hg h.place (by decide) (by decide), h.many.grown hg (fun e1 => by have := Option.some.inj e1; omega), h.place.put 0 _,
    h.low.grown hg h.low.size (fun k e1 => by cases e1; have := h.hB; omega), h.hb, h.ha, h.hB⟩, Stands.of_set h.place (by decide) (fun k hk => ⟨fun e1 => by have := (hn k hk).1; omega, h.held.kept_lt k hk⟩) 0 _⟩
theorem UnL.drew (h : UnL w bb ba B s l m e W) : UnL w bb ba B s l m e W.drew := ⟨⟨h.held.sp.drew, h.held.b0, h.held.b1, h.held.b2⟩, h.box, h.bld, h.many, h.place, h.low.drew, h.hb, h.ha, h.hB⟩
theorem Stands.drew {T : TypeId} {K : Nat → Prop} (W : World) : Stands T K W W.drew := ⟨Nat.le_refl _, fun _ _ _ h => h, fun _ _ => rfl⟩
/-- Both stores of a round. -/
theorem UnL.round (h : UnL w bb ba B s l m e W) (x y : Int) (hx : x = (m' : Nat)) (hy : y = (e' : Nat)) :
    KeepsOthers W ((W.setCell ⟨B + 1 + 1, 0, none⟩ (.int .i64 x)).setCell ⟨B + 1 + 1 + 1, 0, none⟩ (.int .i64 y)).drew ∧ Stands 197 (keptB (B + 4) bb ba) W ((W.setCell ⟨B + 1 + 1, 0, none⟩ (.int .i64 x)).setCell ⟨B + 1 + 1 + 1, 0, none⟩ (.int .i64 y)).drew ∧
      UnL w bb ba B s l m' e' ((W.setCell ⟨B + 1 + 1, 0, none⟩ (.int .i64 x)).setCell ⟨B + 1 + 1 + 1, 0, none⟩ (.int .i64 y)).drew := by
  obtain ⟨u1, s1⟩ := h.count x hx
  obtain ⟨u2, s2⟩ := u1.moved y hy
  exact ⟨(KeepsOthers.setCell _ _ _).trans ((KeepsOthers.setCell _ _ _).trans (KeepsOthers.drew _)), s1.trans (s2.trans (Stands.drew _)), u2.drew⟩
end
end Go.Proofs.YtjeogbdeagkomaaDoor

/- Package quote: Unliteral. -/
namespace Go.Proofs.YtjeogbdeagkomaaDoor
open Go.RowKit Go.Maps Go.Shelf Bset Qm

attribute [local go_sem] Oper.semAt_some

/-- The bytes that are kept. -/
def kept (pre : List Prt) : List UInt8 := (pre.take 255).map fun x => UInt8.ofNat x.1
theorem kept_len (pre : List Prt) : (kept pre).length ≤ 255 := by
  unfold kept
  rw [List.length_map, List.length_take]
  omega
theorem kept_more (pre : List Prt) (x : Prt) (h : pre.length < 255) : kept (pre ++ [x]) = kept pre ++ [UInt8.ofNat x.1] := by
  unfold kept
  rw [List.take_of_length_le (by rw [List.length_append]; simp; omega), List.take_of_length_le (by omega)]
  simp
theorem kept_full (pre : List Prt) (x : Prt) (h : ¬ pre.length < 255) : kept (pre ++ [x]) = kept pre := by
  unfold kept
  rw [List.take_append_of_le_length (by omega)]
theorem lastEnd_snoc (pre : List Prt) (x : Prt) (k : Nat) : lastEnd (pre ++ [x]) k = x.2.2 := by
  unfold lastEnd
  rw [List.foldl_append]
  rfl

theorem prefix_head (s p : List UInt8) (c : UInt8) (hp : p = [c]) : Lib.hasPrefix s p = true ↔ s.head? = some c := by
  subst hp
  unfold Lib.hasPrefix
  cases s with
  | nil => simp
  | cons x s =>
    simp [List.isPrefixOf]
    exact eq_comm

theorem unlit_of {t : List UInt8} (h : t.head? = some 34) :
    ((ended lit t (1 + (all lit (t.drop 1)).2)).2 ≠ 0 → unlit t = ([], ended lit t (1 + (all lit (t.drop 1)).2))) ∧
    ((ended lit t (1 + (all lit (t.drop 1)).2)).2 = 0 → (all lit (t.drop 1)).1.length > 255 → unlit t = ([], 0, 40)) ∧
    ((ended lit t (1 + (all lit (t.drop 1)).2)).2 = 0 → ¬ (all lit (t.drop 1)).1.length > 255 → unlit t = ((all lit (t.drop 1)).1.map (fun x => UInt8.ofNat x.1), (ended lit t (1 + (all lit (t.drop 1)).2)).1, 0)) := by
  unfold unlit
  rw [if_pos h]
  refine ⟨fun h1 => if_pos h1, fun h1 h2 => ?_, fun h1 h2 => ?_⟩
  · rw [if_neg (fun h => h h1), if_pos h2]
  · rw [if_neg (fun h => h h1), if_neg h2]

/-- What a result of three is. -/
abbrev litV (r : List UInt8 × Nat × Nat) : Value := .tuple #[.string ⟨r.1.toArray⟩, .int .i64 (r.2.1 : Nat), .int .i64 (r.2.2 : Nat)]

/-- The parts that are told of a text. -/
theorem part_in {p : Sp} (hp : Is p) {l : List UInt8} {k : Nat} {pre : List Prt} {x : Prt} (h : (pre ++ [x]) <+: parts p l k) : x.1 ≤ x.2.1 ∧ x.2.1 < 256 ∧ pre.length < l.length := by
  obtain ⟨t, ht⟩ := h
  obtain ⟨e1, _⟩ := parts_all p l k
  obtain ⟨o1, o2, o3, _⟩ := all_ok p hp _ l (Nat.le_refl _)
  rw [← e1, ← ht] at o1 o3
  have := o1 (x.1, x.2.1) (by simp)
  simp only [List.length_map, List.length_append, List.length_singleton] at o3
  exact ⟨this.1, this.2, by omega⟩

theorem unl_start {w w1 : World} {bb ba : Nat} (s : ByteArray) (hS : Spell w1 lit bb ba) (hb : Below w.heap.size w w1) :
    UnL w bb ba w1.heap.size s [] 0 1 (((((((w1.alloc (.cells (spC lit bb ba) 126)).alloc (.cells #[.pointer none, .slice none 0 0] 109)).alloc (.cells #[.int .i64 0] 3)).alloc (.cells #[.int .i64 1] 3)).alloc (.cells (spC lit bb ba) 126)).alloc (.cells #[.string s] 9)).alloc (.cells #[.int .i64 1] 3)) where
  held := ⟨((((((hS.alloc _).alloc _).alloc _).alloc _).alloc _).alloc _).alloc _, ((Cl.new' (by simp) _ _).alloc _).alloc _, (Cl.new' (by simp) _ _).alloc _, Cl.new' (by simp) _ _⟩
  box := (((((((Cl.new w1 _ _).alloc _).alloc _).alloc _).alloc _).alloc _).alloc _)
  bld := .inl ⟨by have := hb.size; omega, _, ((((((Cl.new' (by simp) _ _).alloc _).alloc _).alloc _).alloc _).alloc _), World.ownsRowF_nil _ _ _ _, by simp [Value.ownBlock]⟩
  many := (((((Cl.new' (by simp) _ _).alloc _).alloc _).alloc _).alloc _)
  place := ((((Cl.new' (by simp) _ _).alloc _).alloc _).alloc _)
  low := ((((((hb.alloc hb.size _).alloc (by have := hb.size; simp; omega) _).alloc (by have := hb.size; simp; omega) _).alloc (by have := hb.size; simp; omega) _).alloc (by have := hb.size; simp; omega) _).alloc (by have := hb.size; simp; omega) _).alloc (by have := hb.size; simp; omega) _
  hb := hS.beh.lt
  ha := hS.ahd.lt
  hB := hb.size

set_option maxRecDepth 100000 in
set_option maxHeartbeats 400000 in
theorem lit_end {w W : World} {D : Nat} {T : Array Value} {a b c : Value} {R : Ending → World → Prop} (h2 : T[2]? = some a) (h3 : T[3]? = some b) (h4 : T[4]? = some c) (hD : w.heap.size ≤ D) (hK : W.heap[D]? = some (.deferred (some []))) (hB : Below w.heap.size w W)
    (hR : ∀ W', Below w.heap.size w W' → R (.returned (.tuple #[a, b, c])) W') :
    bodyPostM Fence.wide 4 Tryd.prog Tryd.f168 R Exit.ret { tmps := T, defers := [{ target := Target.collected D, args := #[] }] } W := by
  refine ⟨by simp, .inl ⟨_, _, rfl, run_takeDeferred hK, ?_⟩⟩
  refine ⟨.tuple #[a, b, c], ?_, hR _ (hB.trans (belowK_b (w := w) (Nat.le_refl _) W D _ _ hD hK rfl rfl))⟩
  simp [results, Tryd.results168, go_sem, h2, h3, h4]

/-- The frame of a round. -/
abbrev frL (s : ByteArray) (bb ba B g : Nat) (x : Prt) : Act := { tmps := #[.string s, undef, .string ⟨#[]⟩, .int .i64 0, .int .i64 0, .pointer (some ⟨B, 0, none⟩), .pointer (some ⟨B + 1, 0, none⟩), .pointer (some ⟨B + 1 + 1, 0, none⟩), .pointer (some ⟨B + 1 + 1 + 1, 0, none⟩), .pointer (some ⟨g, 0, none⟩), .string s, .bool true, .bool false, undef, undef, spV lit bb ba, spV lit bb ba, .string s, .int .i64 1, .func (.func 191) #[] #[.pointer (some ⟨B + 1 + 1 + 1 + 1, 0, none⟩), .pointer (some ⟨B + 1 + 1 + 1 + 1 + 1, 0, none⟩), .pointer (some ⟨B + 1 + 1 + 1 + 1 + 1 + 1, 0, none⟩)], partV x.1 x.2.1 x.2.2, undef, undef, undef, undef, undef, undef, undef, undef, undef, undef, undef, undef, undef, undef, undef, undef, undef, undef, undef, undef, undef, undef, undef, undef], defers := [] }

set_option maxRecDepth 100000 in
set_option maxHeartbeats 4000000 in
theorem unliteral_in (s : ByteArray) (hs0 : s.size ≤ 1048576) (w : World) :
    CallsIn Fence.wide 4 Tryd.prog 168 #[.string s] w fun e w' => e = .returned (litV (unlit s.data.toList)) ∧ Below w.heap.size w w' := by
  have h1 : 1 ≤ 4 := by omega
  have hs : s.size ≤ maxLen := by unfold maxLen; omega
  have hl : s.data.toList.length = s.size := by simp
  have hhp := fun w => (sh_strings_HasPrefix s ⟨#[34]⟩ w).mono fun _ _ h => (⟨h.1, h.2.symm⟩ : _ ∧ w = _)
  by_cases hyes : s.data.toList.head? = some 34
  · have hpre : Lib.hasPrefix s.data.toList (⟨#[34]⟩ : ByteArray).data.toList = true := (prefix_head _ _ 34 rfl).2 hyes
    rw [hpre] at hhp
    have HY := Lib.hid hyes
    clear hpre hyes
    refine callsIn_of_wp_marks Tryd.func168 rfl trivial ?_ rfl
    simp only [Tryd.ntmps168, List.size_toArray, List.length_cons, List.length_nil, Nat.reduceAdd, Nat.reduceSub, Array.replicate_succ, Array.replicate_zero, List.push_toArray, List.append_toArray, List.nil_append, List.cons_append]
    gi_wp2_with (first
      | (refine ⟨trivial, ?_⟩; gi_at_call 172; refine (callsIn_wide.2 (hhp _)).mono ?_; rintro e w' ⟨rfl, rfl⟩)
      | (refine ⟨trivial, ?_⟩; gi_at_call 119; refine (callsIn_wide.2 (literals_any _)).mono ?_; rintro e w1 ⟨bb, ba, rfl, hS, hb1⟩)
      | (refine ⟨trivial, ?_⟩; gi_at_call 182; refine (callsIn_wide.2 (parts_any lit bb ba s 1 _)).mono ?_; rintro e w' ⟨rfl, rfl⟩))
    have hU := unl_start s hS hb1
    obtain ⟨B, hB⟩ : ∃ B, B = w1.heap.size := ⟨_, rfl⟩
    obtain ⟨W0, hW0⟩ : ∃ W0, (((((((w1.alloc (.cells (spC lit bb ba) 126)).alloc (.cells #[.pointer none, .slice none 0 0] 109)).alloc (.cells #[.int .i64 0] 3)).alloc (.cells #[.int .i64 1] 3)).alloc (.cells (spC lit bb ba) 126)).alloc (.cells #[.string s] 9)).alloc (.cells #[.int .i64 1] 3)) = W0 := ⟨_, rfl⟩
    have hz : W0.heap.size = B + 7 := by rw [← hW0, hB]; simp
    rw [hW0, ← hB] at hU
    rw [hW0, ← hB]
    clear hW0 hB hS hb1 w1
    have hk1 : 1 ≤ s.size := by
      rcases Nat.eq_zero_or_pos s.size with h0 | h0
      · have h2 := HY.out
        rw [show s.data.toList = [] from List.eq_nil_of_length_eq_zero (by rw [hl]; exact h0)] at h2
        cases h2
      · exact h0
    refine wpIn_told rfl h1 (gf := 191) (lb := #[.pointer (some ⟨B + 1 + 1 + 1 + 1, 0, none⟩), .pointer (some ⟨B + 1 + 1 + 1 + 1 + 1, 0, none⟩), .pointer (some ⟨B + 1 + 1 + 1 + 1 + 1 + 1, 0, none⟩)]) rfl trivial (enters_of Tryd.func191 (by kernel_rfl) rfl)
      (parts1_told lit bb ba (B + 4) s hs 1 hk1 W0 hU.held) (fun _ => rfl) hU.held.kept_lt
      (fun pre W => UnL w bb ba B s (kept pre) pre.length (lastEnd pre 1) W) ?abide hU
      (fun x a' W => ∃ g, a' = frL s bb ba B g x ∧ Cl W g 197 #[.int .u8 (x.1 : Nat), .int .u8 (x.2.1 : Nat), .int .i64 (x.2.2 : Nat)]) ?ax ?assign ?body ?done
    case abide =>
      intro pre A B' row h hg hr
      exact h.abide hg (fun r e => by obtain ⟨q1, q2⟩ := hr r e; exact ⟨by omega, q2⟩)
    case ax =>
      rintro x a' W l o o' ⟨g, rfl, hc⟩ hlw hlo ho
      exact ⟨g, rfl, cl_putObj hc (fun e => by subst e; rw [show W.heap[g]? = _ from hc] at hlo; cases hlo; cases ho) _⟩
    case assign =>
      intro l pre x W Kc hi hsp hK
      gi_wp2
      exact hK _ _ ((KeepsOthers.alloc W _).from _) (Stands.of_grown (World.grownBy_alloc W _ none) (fun r e => by cases e) hi.held.kept_lt) (hi.abide (World.grownBy_alloc W _ none) (fun r e => by cases e)) ⟨_, rfl, Cl.new W _ _⟩
    case body =>
      rintro l pre x a' W hi ⟨g, rfl, hc⟩ hsp
      obtain ⟨x1, x2, x3⟩ := part_in (.inl rfl) hsp
      rw [List.length_drop, hl] at x3
      have hx8 : x.1 < 256 := by omega
      have hroom : (pre.length : Int) ≤ 1048576 := by omega
      have hkl := kept_len pre
      have m0 : W.cell? ⟨B + 1 + 1, 0, none⟩ = some (.int .i64 (pre.length : Nat)) := hi.many.cell 0
      have g0 := hc.cell 0
      have g2 := hc.cell 2
      have hpl := lastEnd_snoc pre x 1
      have HPL := Lib.hid hpl
      clear hsp x1 x2 x3 hpl
      generalize hm : pre.length = m at m0 hroom
      have hwm : IntKind.i64.wrap ((m : Int) + 1) = ((m + 1 : Nat) : Int) := by rw [IntWalk.i64_in _ (by omega)]; omega
      have HW := Lib.hid hwm
      clear hwm
      by_cases h255 : m < 255
      · have hk : kept (pre ++ [x]) = kept pre ++ [UInt8.ofNat x.1] := kept_more pre x (by omega)
        have HK := Lib.hid hk
        have HM := Lib.hid hm
        clear hk hm
        gi_wp2_with (refine ⟨trivial, ?_⟩; gi_at_call 101; refine (CallsIn.inRound l (callsIn_wide.2 (hi.byte x.1 hx8 (by omega)))).mono ?_; rintro e w2 ⟨rfl, h2, ko2, st2⟩; rw [HM.out] at h2; have hc2 : Cl w2 g 197 #[.int .u8 (x.1 : Nat), .int .u8 (x.2.1 : Nat), .int .i64 (x.2.2 : Nat)] := st2.typed g _ _ hc; have n0 : w2.cell? ⟨B + 1 + 1, 0, none⟩ = some (.int .i64 (m : Nat)) := h2.many.cell 0; have n1 : w2.cell? ⟨B + 1 + 1 + 1, 0, none⟩ = some (.int .i64 (lastEnd pre 1 : Nat)) := h2.place.cell 0; have q2 := hc2.cell 2; have f0 : w2.frozen? ⟨B + 1 + 1, 0, none⟩ = false := h2.many.free 0; have f1 : w2.frozen? ⟨B + 1 + 1 + 1, 0, none⟩ = false := h2.place.free 0)
        gi_region_with (fail)
        all_goals
          gi_wp2
          rw [toldPost, HK.out, HPL.out, List.length_append, HM.out]
          have r := h2.round (m' := m + 1) (e' := x.2.2) _ _ HW.out rfl
          exact ⟨(ko2.trans r.1).from _, st2.trans r.2.1, r.2.2⟩
      · have hk : kept (pre ++ [x]) = kept pre := kept_full pre x (by omega)
        have HK := Lib.hid hk
        have n1 : W.cell? ⟨B + 1 + 1 + 1, 0, none⟩ = some (.int .i64 (lastEnd pre 1 : Nat)) := hi.place.cell 0
        have f0 : W.frozen? ⟨B + 1 + 1, 0, none⟩ = false := hi.many.free 0
        have f1 : W.frozen? ⟨B + 1 + 1 + 1, 0, none⟩ = false := hi.place.free 0
        have HM := Lib.hid hm
        rw [hm] at hi
        clear hk hm
        gi_wp2
        gi_region_with (fail)
        all_goals
          gi_wp2
          rw [toldPost, HK.out, HPL.out, List.length_append, HM.out]
          have r := hi.round (m' := m + 1) (e' := x.2.2) _ _ HW.out rfl
          exact ⟨r.1.from _, r.2.1, r.2.2⟩
    case done =>
      rintro D ys W hD rfl hi hK
      obtain ⟨e1, e2⟩ := parts_all lit (s.data.toList.drop 1) 1
      obtain ⟨o1, o2, o3, -⟩ := all_ok lit (.inl rfl) _ (s.data.toList.drop 1) (Nat.le_refl _)
      have hn : (parts lit (s.data.toList.drop 1) 1).length = (all lit (s.data.toList.drop 1)).1.length := by rw [← e1, List.length_map]
      have hkp : (all lit (s.data.toList.drop 1)).1.length ≤ 255 → kept (parts lit (s.data.toList.drop 1) 1) = (all lit (s.data.toList.drop 1)).1.map fun x => UInt8.ofNat x.1 := by
        intro h
        unfold kept
        rw [List.take_of_length_le (by omega), ← e1, List.map_map]
        rfl
      have hul := unlit_of HY.out
      rw [e2, hn] at hi
      rw [List.length_drop, hl] at o2
      clear e1 e2 o1 hn
      generalize kept (parts lit (s.data.toList.drop 1) 1) = kb at hi hkp
      generalize all lit (s.data.toList.drop 1) = A at hi hkp hul o2 o3
      have hk : 1 + A.2 ≤ s.size := by omega
      have hen := fun W hW => ended_any lit bb ba s hs (1 + A.2) hk W hW
      obtain ⟨n0, e0, hE⟩ : ∃ n0 e0, ended lit s.data.toList (1 + A.2) = (n0, e0) := ⟨_, _, rfl⟩
      rw [hE] at hen hul
      have hKW : D < W.heap.size := (Array.getElem?_eq_some_iff.1 hK).1
      have c0 := hi.box.cell 0
      have c1 := hi.box.cell 1
      have c2 := hi.box.cell 2
      have c3 := hi.box.cell 3
      have c4 := hi.box.cell 4
      have c5 := hi.box.cell 5
      have c6 := hi.box.cell 6
      have c7 := hi.box.cell 7
      have p0 : W.cell? ⟨B + 1 + 1 + 1, 0, none⟩ = some (.int .i64 ((1 + A.2 : Nat) : Int)) := hi.place.cell 0
      have HUL := Lib.hid hul
      have HKP := Lib.hid hkp
      have hDw : w.heap.size ≤ D := by have := hi.hB; omega
      have hDB : D ≠ B + 1 := by omega
      have hml : A.1.length ≤ 1048576 := by omega
      clear hE hul hkp o2 o3 hk hz hs hl HY hU
      obtain ⟨q, hq⟩ : ∃ q, q = 1 + A.2 := ⟨_, rfl⟩
      rw [← hq] at p0 hen
      clear hq
      by_cases he0 : e0 = 0
      · subst he0
        have hne : (((0 : Nat) : Int) != 0) = false := rfl
        obtain ⟨-, u2, u3⟩ := HUL.out
        by_cases hmore : A.1.length > 255
        · have hu := u2 rfl hmore
          have HUU := Lib.hid hu
          have t1 : decide ((255 : Int) < (A.1.length : Int)) = true := by simp; omega
          clear u2 u3 hu
          gi_wp2_with (refine ⟨trivial, ?_⟩; gi_at_call 183; refine (callsIn_wide.2 (hen _ hi.held.sp)).mono ?_; rintro e w2 ⟨rfl, hb2⟩; have i2 := hi.below hb2; have p1 : w2.cell? ⟨B + 1 + 1, 0, none⟩ = some (.int .i64 (A.1.length : Nat)) := i2.many.cell 0)
          have hK2 := (hb2.block D hKW).trans hK
          refine lit_end rfl rfl rfl hDw hK2 (hi.low.trans (hb2.mono hi.low.size)) (fun W' hW' => ⟨?_, hW'⟩)
          rw [HUU.out]
          rfl
        · have hu := u3 rfl hmore
          rw [← HKP.out (by omega)] at hu
          have HUU := Lib.hid hu
          have t1 : decide ((255 : Int) < (A.1.length : Int)) = false := by simp; omega
          clear u2 u3 hu
          gi_wp2_with (first
            | (refine ⟨trivial, ?_⟩; gi_at_call 183; refine (callsIn_wide.2 (hen _ hi.held.sp)).mono ?_; rintro e w2 ⟨rfl, hb2⟩; have i2 := hi.below hb2; have p1 : w2.cell? ⟨B + 1 + 1, 0, none⟩ = some (.int .i64 (A.1.length : Nat)) := i2.many.cell 0)
            | (refine ⟨trivial, ?_⟩; gi_at_call 103; refine (callsIn_wide.2 (builder_String _ _ _ _ i2.bld i2.low.size)).mono ?_; rintro e w3 ⟨rfl, h3, b3, k3⟩))
          have hK2 := (hb2.block D hKW).trans hK
          have hK3 := obj_others k3 hK2 hDB rfl
          refine lit_end rfl rfl rfl hDw hK3 (i2.low.trans b3) (fun W' hW' => ⟨?_, hW'⟩)
          rw [HUU.out]
          rfl
      · have hne : ((e0 : Int) != 0) = true := by simp; omega
        gi_wp2_with (refine ⟨trivial, ?_⟩; gi_at_call 183; refine (callsIn_wide.2 (hen _ hi.held.sp)).mono ?_; rintro e w2 ⟨rfl, hb2⟩)
        have hK2 := (hb2.block D hKW).trans hK
        refine lit_end rfl rfl rfl hDw hK2 (hi.low.trans (hb2.mono hi.low.size)) (fun W' hW' => ⟨?_, hW'⟩)
        rw [HUL.out.1 he0]
        rfl
  · have hno : Lib.hasPrefix s.data.toList (⟨#[34]⟩ : ByteArray).data.toList = false := by
      rw [← Bool.not_eq_true]
      exact fun h => hyes ((prefix_head _ _ 34 rfl).1 h)
    rw [hno] at hhp
    have hu : unlit s.data.toList = ([], 0, fau s.size 0) := by unfold unlit; rw [if_neg hyes, hl]
    have hfa := fun w => fault_any s hs 0 w
    have HU := Lib.hid hu
    clear hno hyes hu
    refine callsIn_of_wp Tryd.func168 rfl trivial ?_ rfl
    simp only [Tryd.ntmps168, List.size_toArray, List.length_cons, List.length_nil, Nat.reduceAdd, Nat.reduceSub, Array.replicate_succ, Array.replicate_zero, List.push_toArray, List.append_toArray, List.nil_append, List.cons_append]
    gi_wp2_with (first
      | (refine ⟨trivial, ?_⟩; gi_at_call 172; refine (callsIn_wide.2 (hhp _)).mono ?_; rintro e w' ⟨rfl, rfl⟩)
      | (refine ⟨trivial, ?_⟩; gi_at_call 181; refine (callsIn_wide.2 (hfa _)).mono ?_; rintro e w' ⟨rfl, rfl⟩))
    go_ret3
    exact ⟨ret_tup (by rw [HU.out]; rfl), Below.refl _ _⟩

/-- **Unliteral(t).** -/
theorem unliteral_any (s : ByteArray) (hs : s.size ≤ 1048576) (w : World) :
    Calls Tryd.prog 168 #[.string s] w fun e w' => e = .returned (litV (unlit s.data.toList)) ∧ Below w.heap.size w w' :=
  callsIn_wide.1 (unliteral_in s hs w)
end Go.Proofs.YtjeogbdeagkomaaDoor

/- Package quote: what a loop over the parts of a class keeps. -/
namespace Go.Proofs.YtjeogbdeagkomaaDoor
open Go.RowKit Go.Maps Go.Shelf Bset Qm

/-- What Unclass's loop keeps: the set at R; the spelling at B, the place behind it; the iterator's own three. -/
structure UnC (w : World) (bb ba B : Nat) (s : ByteArray) (a : Nat) (S : Nat → Bool) (e : Nat) (W : World) : Prop where
  held : Held W cls bb ba (B + 2) s a
  box : Cl W B 126 (spC cls bb ba)
  res : Cl W w.heap.size 35 (setC S)
  place : Cl W (B + 1) 3 #[.int .i64 (e : Nat)]
  low : Below w.heap.size w W
  hb : bb < B
  ha : ba < B
  nb : w.heap.size < bb
  na : w.heap.size < ba

section
variable {w W W' : World} {bb ba B : Nat} {s : ByteArray} {a : Nat} {S S' : Nat → Bool} {e e' : Nat}
theorem UnC.names (h : UnC w bb ba B s a S e W) : ∀ j, keptB (B + 2) bb ba j → (j < B ∨ B + 2 ≤ j) ∧ j < B + 5 ∧ j ≠ w.heap.size := by
  have h1 := h.hb
  have h2 := h.ha
  have h3 := h.nb
  have h4 := h.na
  rintro j (rfl | rfl | rfl | rfl | rfl) <;> omega
theorem UnC.below (h : UnC w bb ba B s a S e W) (hb : Below W.heap.size W W') : UnC w bb ba B s a S e W' :=
  ⟨h.held.below hb, h.box.below hb h.box.lt, h.res.below hb h.res.lt, h.place.below hb h.place.lt, h.low.trans (hb.mono h.low.size), h.hb, h.ha, h.nb, h.na⟩
theorem UnC.drew (h : UnC w bb ba B s a S e W) : UnC w bb ba B s a S e W.drew := ⟨⟨h.held.sp.drew, h.held.b0, h.held.b1, h.held.b2⟩, h.box, h.res, h.place, h.low.drew, h.hb, h.ha, h.nb, h.na⟩
theorem UnC.abide (h : UnC w bb ba B s a S e W) {row : Option Nat} (hg : W.grownBy W' row) (hr : ∀ r, row = some r → B + 5 ≤ r) : UnC w bb ba B s a S e W' := by
  have h1 := h.hb
  have h3 := h.nb
  have hs : ∀ j, j < B + 5 → j < W.heap.size → W'.heap[j]? = W.heap[j]? := fun j hj hl => hg.block j hl (fun e1 => by have := hr j e1.symm; omega)
  have hn := h.names
  have hkl := h.held.kept_lt
  have st : ∀ j, keptB (B + 2) bb ba j → W'.heap[j]? = W.heap[j]? := fun j hj => hs j (hn j hj).2.1 (hkl j hj)
  exact ⟨⟨⟨h.held.sp.isp, h.held.sp.beh.same (st _ (.inr (.inr (.inr (.inl rfl))))), h.held.sp.ahd.same (st _ (.inr (.inr (.inr (.inr rfl)))))⟩, h.held.b0.same (st _ (.inl rfl)), h.held.b1.same (st _ (.inr (.inl rfl))), h.held.b2.same (st _ (.inr (.inr (.inl rfl))))⟩,
    h.box.same (hs _ (by omega) h.box.lt), h.res.same (hs _ (by omega) h.res.lt), h.place.same (hs _ (by omega) h.place.lt),
    h.low.grown hg h.low.size (fun k e1 => by have := hr k e1; omega), h.hb, h.ha, h.nb, h.na⟩
theorem Stands.below {T : TypeId} {K : Nat → Prop} (hK : ∀ k, K k → k < W.heap.size) (hb : Below W.heap.size W W') : Stands T K W W' :=
  Stands.of_grown (grown_of_below hb) (fun r e1 => by cases e1) hK

theorem put4 (W : World) (g : Nat) (t : TypeId) (u0 u1 u2 u3 v0 v1 v2 v3 : Value) (q : Cl W g t #[u0, u1, u2, u3]) :
    Cl ((((W.setCell ⟨g, 0, none⟩ v0).setCell ⟨g, 1, none⟩ v1).setCell ⟨g, 2, none⟩ v2).setCell ⟨g, 3, none⟩ v3) g t #[v0, v1, v2, v3] := by
  have h := (((q.put 0 v0).put 1 v1).put 2 v2).put 3 v3
  simp only [List.setIfInBounds_toArray, List.set_cons_succ, List.set_cons_zero] at h
  exact h
theorem grown4 (W : World) (P : Nat) (v0 v1 v2 v3 : Value) : W.grownBy ((((W.setCell ⟨P, 0, none⟩ v0).setCell ⟨P, 1, none⟩ v1).setCell ⟨P, 2, none⟩ v2).setCell ⟨P, 3, none⟩ v3) (some P) :=
  (((grown_set W P 0 v0).andThen (grown_set _ P 1 v1) (fun _ e => .inr e)).andThen (grown_set _ P 2 v2) (fun _ e => .inr e)).andThen (grown_set _ P 3 v3) (fun _ e => .inr e)

/-- The set is stored. -/
theorem UnC.store (h : UnC w bb ba B s a S e W) (S' : Nat → Bool) :
    ∀ Wf, ((((W.setCell ⟨w.heap.size, 0, none⟩ (.int .u64 (word S' 0 : Nat))).setCell ⟨w.heap.size, 1, none⟩ (.int .u64 (word S' 1 : Nat))).setCell ⟨w.heap.size, 2, none⟩ (.int .u64 (word S' 2 : Nat))).setCell ⟨w.heap.size, 3, none⟩ (.int .u64 (word S' 3 : Nat))) = Wf →
      KeepsOthers W Wf ∧ Stands 197 (keptB (B + 2) bb ba) W Wf ∧ UnC w bb ba B s a S' e Wf := by
  intro Wf hWf
  have hn := h.names
  have h1 := h.hb
  have h3 := h.nb
  have g := grown4 W w.heap.size (.int .u64 (word S' 0 : Nat)) (.int .u64 (word S' 1 : Nat)) (.int .u64 (word S' 2 : Nat)) (.int .u64 (word S' 3 : Nat))
  have q := put4 W w.heap.size 35 _ _ _ _ (.int .u64 (word S' 0 : Nat)) (.int .u64 (word S' 1 : Nat)) (.int .u64 (word S' 2 : Nat)) (.int .u64 (word S' 3 : Nat)) h.res
  have ko : KeepsOthers W Wf := by
    rw [← hWf]
    exact (KeepsOthers.setCell _ _ _).trans ((KeepsOthers.setCell _ _ _).trans ((KeepsOthers.setCell _ _ _).trans (KeepsOthers.setCell _ _ _)))
  rw [hWf] at g q
  refine ⟨ko, Stands.of_grown g (fun r e1 => by
    cases e1
    exact ⟨fun hk => (hn _ hk).2.2 rfl, fun cs fz e1 => by
      rw [show W.heap[w.heap.size]? = _ from h.res] at e1
      cases e1⟩) h.held.kept_lt, h.held.grown g (fun j hj => (hn j hj).2.2), h.box.grown g (fun e1 => by have := Option.some.inj e1; omega), q, h.place.grown g (fun e1 => by have := Option.some.inj e1; omega),
    h.low.grown g h.low.size (fun k e1 => by cases e1; exact Nat.le_refl _), h.hb, h.ha, h.nb, h.na⟩
theorem UnC.zero (h : UnC w bb ba B s a S e W) :
    ∀ Wf, ((((W.setCell ⟨w.heap.size, 0, none⟩ (.int .u64 0)).setCell ⟨w.heap.size, 1, none⟩ (.int .u64 0)).setCell ⟨w.heap.size, 2, none⟩ (.int .u64 0)).setCell ⟨w.heap.size, 3, none⟩ (.int .u64 0)) = Wf →
      KeepsOthers W Wf ∧ Stands 197 (keptB (B + 2) bb ba) W Wf ∧ UnC w bb ba B s a (fun _ => false) e Wf := by
  have h2 := h.store (fun _ => false)
  simp only [word_none] at h2
  exact h2
theorem UnC.moved (h : UnC w bb ba B s a S e W) (x : Int) (hx : x = (e' : Nat)) : KeepsOthers W (W.setCell ⟨B + 1, 0, none⟩ (.int .i64 x)) ∧ Stands 197 (keptB (B + 2) bb ba) W (W.setCell ⟨B + 1, 0, none⟩ (.int .i64 x)) ∧ UnC w bb ba B s a S e' (W.setCell ⟨B + 1, 0, none⟩ (.int .i64 x)) := by
  subst hx
  have hn := h.names
  have h1 := h.hb
  have h3 := h.nb
  have hg := setCell_grown W (B + 1) 0 (.int .i64 (e' : Nat))
  exact ⟨KeepsOthers.setCell _ _ _, Stands.of_set h.place (by decide) (fun k hk => ⟨fun e1 => by have := (hn k hk).1; omega, h.held.kept_lt k hk⟩) 0 _,
    h.held.grown hg (fun j hj e1 => by have := (hn j hj).1; omega), h.box.grown hg (fun e1 => by have := Option.some.inj e1; omega), h.res.grown hg (fun e1 => by have := Option.some.inj e1; omega), h.place.put 0 _,
    h.low.grown hg h.low.size (fun k e1 => by cases e1; omega), h.hb, h.ha, h.nb, h.na⟩
end

theorem unc_start {w w1 : World} {bb ba : Nat} (s : ByteArray) (a : Nat) (x : Int) (hx : x = a) (hS : Spell w1 cls bb ba) (hr : Cl w1 w.heap.size 35 #[.int .u64 0, .int .u64 0, .int .u64 0, .int .u64 0]) (hb : Below w.heap.size w w1) (h1 : w.heap.size < bb) (h2 : w.heap.size < ba) :
    UnC w bb ba w1.heap.size s a (fun _ => false) a (((((w1.alloc (.cells (spC cls bb ba) 126)).alloc (.cells #[.int .i64 x] 3)).alloc (.cells (spC cls bb ba) 126)).alloc (.cells #[.string s] 9)).alloc (.cells #[.int .i64 x] 3)) := by
  subst hx
  rw [← setC_none] at hr
  exact
  { held := ⟨((((hS.alloc _).alloc _).alloc _).alloc _).alloc _, ((Cl.new' (by simp) _ _).alloc _).alloc _, (Cl.new' (by simp) _ _).alloc _, Cl.new' (by simp) _ _⟩
    box := ((((Cl.new w1 _ _).alloc _).alloc _).alloc _).alloc _
    res := ((((hr.alloc _).alloc _).alloc _).alloc _).alloc _
    place := (((Cl.new' (by simp) _ _).alloc _).alloc _).alloc _
    low := ((((hb.alloc hb.size _).alloc (by have := hb.size; simp; omega) _).alloc (by have := hb.size; simp; omega) _).alloc (by have := hb.size; simp; omega) _).alloc (by have := hb.size; simp; omega) _
    hb := hS.beh.lt
    ha := hS.ahd.lt
    nb := h1
    na := h2 }
end Go.Proofs.YtjeogbdeagkomaaDoor

/- Package set's List: a set's bytes, rising, as a text. -/
import Derived.RangeFuncBox
import Derived.Maps.AppendAt
import Derived.Test.YtgekfdmamingjaaDoorEach
import Derived.Test.YtgekfdmamingjaaDoorSb
namespace Go.Proofs.YtgekfdmamingjaaDoor
open Go.RowKit Go.Shelf Bset

attribute [local go_sem] Oper.semAt_some

/-- A byte as such. -/
def toB (x : By) : UInt8 := UInt8.ofNat x.1
theorem toB_toNat (x : By) : (toB x).toNat = x.1 := by
  unfold toB
  rw [UInt8.toNat_ofNat']
  exact Nat.mod_eq_of_lt x.2

/-- A set's bytes. -/
def bytesOf (S : Nat → Bool) : List UInt8 := (mem S).map UInt8.ofNat

theorem bytesOf_of {S : Nat → Bool} {ys : List By} (h : ys.map (·.1) = mem S) : ys.map toB = bytesOf S := by
  unfold bytesOf
  rw [← h, List.map_map]
  rfl

/-- A builder stays one while blocks are laid, or turned, that are no cells. -/
theorem builder_kept {T e : TypeId} {B b : Nat} {bs : List Value} {W W' : World} {row : Option Nat} (h : Lib.IsBuilderF T e B b bs W) (hg : W.grownBy W' row)
    (hr : ∀ r, row = some r → ∃ o : Obj, W.heap[r]? = some o ∧ o.isCells = false) : Lib.IsBuilderF T e B b bs W' := by
  have at_ : ∀ p, Lib.BuilderAtF T e B b p bs W → Lib.BuilderAtF T e B b p bs W' := by
    rintro p ⟨hB, v, hb, hown, hne⟩
    refine ⟨hB, v, (hg.block b (Array.getElem?_eq_some_iff.1 hb).1 (fun e1 => ?_)).trans hb, hown.kept hg ?_, hne⟩
    · obtain ⟨o, ho, hc⟩ := hr b e1.symm
      rw [hb] at ho
      cases ho
      cases hc
    · rcases hown.2 with ⟨rfl, _⟩ | ⟨g, cap, cur, fz, rfl, _, hgg, _⟩
      · exact .inl rfl
      · refine .inr (fun e1 => ?_)
        obtain ⟨o, ho, hc⟩ := hr g (by simpa [Value.ownBlock] using e1.symm)
        rw [hgg] at ho
        cases ho
        cases hc
  exact h.elim (fun x => .inl (at_ _ x)) (fun x => .inr (at_ _ x))

theorem builder_own {β : Type} (T e : TypeId) (B b : Nat) (f : β → List Value) : Own (fun s W => Lib.IsBuilderF T e B b (f s) W) := fun _ _ _ _ hs hg hr => builder_kept hs hg hr

theorem keeps_of_others {e : TypeId} {B b : Nat} {W W' : World} (h : Lib.OthersKept e (some b) W W') (hb : Below B W W') {cs : Array Value} {t : TypeId} {fz : Nat × Nat} (hc : W.heap[b]? = some (.cells cs t fz)) : KeepsOthers W W' :=
  ⟨hb.size, fun k o hk ho => h k o hk (fun e1 => by
      have : k = b := by simpa using e1
      subst this
      rw [hc] at hk
      cases hk
      cases ho) (fun c fz e1 => by subst e1; cases ho)⟩

set_option maxRecDepth 100000 in
set_option maxHeartbeats 2000000 in
theorem list_in (S : Nat → Bool) (w : World) (hT : TabIn w) (hg0 : 0 < w.heap.size) :
    CallsIn Fence.wide 4 Tryd.prog 18 #[setV S] w fun e w' => e = .returned (.string ⟨(bytesOf S).toArray⟩) ∧ Below w.heap.size w w' := by
  have h1 : 1 ≤ 4 := by omega
  refine callsIn_of_wp_marks Tryd.func18 rfl trivial ?_ rfl
  simp only [Tryd.ntmps18, List.size_toArray, List.length_cons, List.length_nil, Nat.reduceAdd, Nat.reduceSub, Array.replicate_succ, Array.replicate_zero, List.push_toArray, List.append_toArray, List.nil_append, List.cons_append]
  gi_wp2_with (refine ⟨trivial, ?_⟩; gi_at_call 41; refine (callsIn_wide.2 (each_any S _)).mono ?_; rintro e w' ⟨rfl, rfl⟩)
  have hC : Cl (((w.alloc (.cells (setC S) 26)).alloc (.cells #[.pointer none, .slice none 0 0] 56)).alloc (.cells (setC S) 26)) (w.heap.size + 1 + 1) 26 (setC S) := Cl.new' (by simp) _ _
  have hb0 : Cl (((w.alloc (.cells (setC S) 26)).alloc (.cells #[.pointer none, .slice none 0 0] 56)).alloc (.cells (setC S) 26)) (w.heap.size + 1) 56 #[.pointer none, .slice none 0 0] := (Cl.new' (by simp) _ _).alloc _
  have hB0 : Below w.heap.size w (((w.alloc (.cells (setC S) 26)).alloc (.cells #[.pointer none, .slice none 0 0] 56)).alloc (.cells (setC S) 26)) := (((Below.refl _ w).alloc (Nat.le_refl _) _).alloc (by simp) _).alloc (by simp; omega) _
  refine wpIn_rangeFunc_ownG rfl h1 (gf := 49) (lb := #[.pointer (some ⟨w.heap.size + 1 + 1, 0, none⟩)]) rfl trivial (enters_of Tryd.func49 (by kernel_rfl) rfl)
    (each_stops (w.heap.size + 1 + 1) w.heap.size S _ hg0 (by simp; omega) hC (hT.below hB0 hg0)) belowK_t (belowK_b (by simp; omega)) (Below.refl _ _) (fun _ => rfl)
    (fun pre W => Lib.IsBuilderF 56 5 w.heap.size (w.heap.size + 1) (Lib.byteCells (pre.map toB)) W ∧ Below w.heap.size w W)
    (fun _ _ _ => False)
    (OwnFrom.and (Own.from (builder_own _ _ _ _ (fun pre : List By => Lib.byteCells (pre.map toB))) _) (ownFrom_below (Nat.le_refl _) (by simp; omega)))
    (fun _ _ _ _ _ hs _ _ => hs)
    ⟨.inl ⟨by omega, _, hb0, World.ownsRowF_nil _ _ _ _, by simp [Value.ownBlock]⟩, hB0⟩
    (fun x => { tmps := #[setV S, .pointer (some ⟨w.heap.size, 0, none⟩), .string ⟨#[]⟩, .pointer (some ⟨w.heap.size + 1, 0, none⟩), .int .u8 x.1, setV S, .func (.func 49) #[] #[.pointer (some ⟨w.heap.size + 1 + 1, 0, none⟩)], .int .u8 x.1, undef, undef, undef], defers := [] }) ?assign ?body ?done ?stop
  case assign =>
    intro l x W K hK
    gi_wp2
    exact hK
  case body =>
    rintro l pre x W ⟨hb, hB⟩ hlt
    have hlen : (Lib.byteCells (pre.map toB)).length + 1 ≤ 140737488355328 := by simp [Lib.byteCells]; omega
    have hcell : ∃ cs, W.heap[w.heap.size + 1]? = some (.cells cs 56 (0, 0)) := by
      rcases hb with ⟨_, v, h, _⟩ | ⟨_, v, h, _⟩ <;> exact ⟨_, h⟩
    have hx : Lib.byteCells (pre.map toB) ++ [.int .u8 x.1] = Lib.byteCells ((pre ++ [x]).map toB) := by simp [Lib.byteCells, toB_toNat]
    have HX := Lib.hid hx
    have HC := Lib.hid hcell
    clear hx hcell
    gi_wp2_with (refine ⟨trivial, ?_⟩; gi_at_call 43; refine (CallsIn.inRound l (callsIn_wide.2 (builder_WriteByte _ _ _ _ _ hb hlen hB.size))).mono ?_; rintro e w' ⟨rfl, h2, b2, k2⟩)
    obtain ⟨cs, hcs⟩ := HC.out
    rw [HX.out] at h2
    exact ⟨(keeps_of_others k2 b2 hcs).from _, b2, .inr h2, hB.trans b2⟩
  case done =>
    rintro D ys W hD hys ⟨hb, hB⟩ hK
    have hl := bytesOf_of hys
    rw [hl] at hb
    have hcell : ∃ cs, W.heap[w.heap.size + 1]? = some (.cells cs 56 (0, 0)) := by
      rcases hb with ⟨_, v, h, _⟩ | ⟨_, v, h, _⟩ <;> exact ⟨_, h⟩
    have HC := Lib.hid hcell
    clear hcell
    gi_wp2_with (refine ⟨trivial, ?_⟩; gi_at_call 44; refine (callsIn_wide.2 (builder_String _ _ _ _ hb hB.size)).mono ?_; rintro e w' ⟨rfl, h2, b2, k2⟩)
    obtain ⟨cs, hcs⟩ := HC.out
    have hK2 := (keeps_of_others k2 b2 hcs).same D _ hK rfl
    refine ⟨by simp, .inl ⟨_, _, rfl, run_takeDeferred hK2, ?_⟩⟩
    exact ⟨_, results_tmp rfl _ _ _, rfl, (hB.trans b2).trans (belowK_b (w := w) (Nat.le_refl _) w' D _ _ (by simp at hD; omega) hK2 rfl rfl)⟩
  case stop =>
    rintro D c pre W _ _ h _
    exact h.elim

/-- **List(s): s's bytes, rising.** -/
theorem list_any (S : Nat → Bool) (w : World) (hT : TabIn w) (hg0 : 0 < w.heap.size) :
    Calls Tryd.prog 18 #[setV S] w fun e w' => e = .returned (.string ⟨(bytesOf S).toArray⟩) ∧ Below w.heap.size w w' :=
  callsIn_wide.1 (list_in S w hT hg0)
end Go.Proofs.YtgekfdmamingjaaDoor

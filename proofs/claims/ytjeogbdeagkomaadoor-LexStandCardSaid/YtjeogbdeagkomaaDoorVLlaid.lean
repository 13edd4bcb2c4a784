/- What each row of bonsailaw06 lists: the texts of the signs; the number that strings.Cut's search reads; the start that fits. -/
import Derived.Test.YtjeogbdeagkomaaDoorRows
import Derived.Test.YtjeogbdeagkomaaDoorVL17
import Derived.ProofKit
import Derived.LaidMore
import Derived.OpenShut
import Derived.HandedShaped
import Derived.Shelf.Vars
import Derived.Stop.Joined
import Derived.Laws.IdiomArrays
import Derived.Lib.SmallJoins
namespace Go.Proofs.YtjeogbdeagkomaaDoor
open Go.ChangeShapes Go.WideShapes Go.ChangeAt Go.WideMaps Go.WideElems Go.RowKit Bset Lm

theorem own : ownKnob Tryd.prog.godebug = none := by kernel_rfl
theorem laidOut : laidOutB Tryd.prog = true := by kernel_rfl
theorem gSig : Tryd.prog.globalNamed "bonsai/lex.signs" = some 1 := by kernel_rfl
theorem tSig : (Tryd.prog.globals[1]?).map (·.type) = some 106 := by kernel_rfl
theorem cStr : Tryd.prog.cellsOf 9 = 1 := by kernel_rfl

abbrev laidL : List (String × DataW Unit) := [("bonsai/lex.signs", Rows.laid_bonsai_lex_signs)]

theorem sig_data : ∀ j, j < 14 → (match (Rows.laid_bonsai_lex_signs : DataW Unit) with | .agg l => l[j]? | _ => none) = some (.lit (.string (sgn j))) := by
  intro j hj
  have h : ∀ j : Fin 14, (match (Rows.laid_bonsai_lex_signs : DataW Unit) with | .agg l => l[j.1]? | _ => none) = some (.lit (.string (sgn j.1))) := by
    intro j
    match j with
    | ⟨j, hj⟩ =>
      iterate 14 (rcases j with _ | j; · rfl)
      omega
  exact h ⟨j, hj⟩

/-- What the row's condition gives the walks: the texts of the signs. -/
theorem of_laid {W : World} (h : laidMetH Tryd.prog laidL W) : SignsIn W := by
  rw [MakeChecks.laidMetH_plain _ _ _ (by kernel_rfl)] at h
  obtain ⟨ps, ⟨g0, t0, cs0, f0, p0, q0, hg0, ht0, hv0, hd0, _⟩, _⟩ := h
  obtain rfl := Option.some.inj (gSig.symm.trans hg0)
  obtain rfl := Option.some.inj (tSig.symm.trans ht0)
  obtain ⟨xs, m1, rfl, hx1, hlen, hn, hel⟩ := DataW.trod_array Tryd.underlying106 hd0
  intro j hj
  have h0 := hel j hj
  rw [cStr, Nat.mul_one] at h0
  have hxj : j < xs.length := by omega
  rw [List.getElem?_eq_getElem hxj] at h0
  obtain ⟨k, e1, e2, _⟩ := DataW.trod_string Tryd.underlying9 h0
  have hd := sig_data j hj
  simp only [Prod.mk.injEq] at hx1
  rw [hx1.1] at hd
  have hk : (xs.map (·.1))[j]? = some (.lit (.string k.data.toList)) := by
    rw [List.getElem?_map, List.getElem?_eq_getElem hxj]
    simp [e2]
  simp only at hd
  rw [hk] at hd
  have hk2 : k.data.toList = sgn j := by simpa using hd
  have hk3 : k = ⟨(sgn j).toArray⟩ := by
    rw [← hk2]
  have hcell := World.var?_cell hg0 hv0 j
  rw [hcell]
  have hdrop : cs0.toList[j]? = some (.string k) := by
    have := congrArg (fun l => l[0]?) e1
    simpa using this
  rw [hk3] at hdrop
  simpa using hdrop

theorem len_data (s : ByteArray) : s.data.toList.length = s.size := rfl

/-- What the world's shape gives: the number lies there. -/
theorem of_shape {W : World} (h : W.ShapedOpen Tryd.prog) : MaxL W :=
  cell_of_shapedOpen_int (g := 3) (t := 3) (zero := #[.int .i64 0]) (k := .i64) h (of_decide_eq_true (by kernel_rfl)) (by kernel_rfl) rfl (by kernel_rfl) (by kernel_rfl) Tryd.underlying3

/-- The wrap that keeps both: what is laid, and the world's shape. -/
theorem returns_laid_shaped {H : Type} {enc : TypeId × Value → H} {a : Assume} {C : Checked} {os : Os} {f : FuncId} {fn : Func} {s : ChangeSpec} {conds : List PathCond} {apart fresh handsOn again : Bool} {X : World → Array Value → Prop}
    (hX : ∀ (w w' : World) (args : Array Value), w.heap = w'.heap → X w args → X w' args)
    (ow : ownKnob C.prog.godebug = none) (started : os.Started) (noInit : C.prog.inits.idxOf? f = none) (hfn : C.prog.funcs[f]? = some fn)
    (witness : ∃ (w : World) (tape : Tape) (i : Input), w.os = os ∧ (w.forCall tape i).Shaped C.prog ∧ i.vars = [] ∧ Input.okWide C.prog (w.forCall tape i) .any w.heap.size f i ∧
      ((s.pre enc C.prog fn conds apart (w.forCall tape i).memory i.args ∧ X (w.forCall tape i).memory i.args) ∧ sizedMet enc C.prog fn (OpenSpec.ofChange s) apart (w.forCall tape i).memory i.args) ∧ a.holds C.prog (lone (Frame.enter C.prog f i.args .normal) [] (w.forCall tape i)))
    (contract : ∀ (W : World) (base : Nat) (args : Array Value) (ds gs : List (DataW H)) (before : List MemPlace),
      (∀ (j : Nat) t v, fn.params[j]? = some t → args[j]? = some v → Value.okWide C.prog W .any base t v) →
      DataW.Whole enc C.prog fn.params.toList s.vars apart W args.toList ds gs before →
      (DataW.weightsEach C.prog (fn.params.toList ++ s.plain.varTypes C.prog) (ds ++ gs)).all (· ≤ reachBytes) = true → X W args → W.ShapedOpen C.prog →
      Calls C.prog f args W fun e W' => ∃ v, e = .returned v ∧ s.post enc C.prog fn apart fresh handsOn again W args v W') :
    ReturnsInHanded a C os f .any (fun w args => (s.pre enc C.prog fn conds apart w args ∧ X w args) ∧ sizedMet enc C.prog fn (OpenSpec.ofChange s) apart w args) (s.post enc C.prog fn apart fresh handsOn again) := by
  refine returnsInHanded_of_calls ow started noInit witness ?_
  intro w tape i _ hsh _ hok hpre _
  obtain ⟨_, _, _, fn', hfn', _, _, _, _, hval⟩ := hok
  obtain rfl : fn' = fn := Option.some.inj (hfn'.symm.trans hfn)
  obtain ⟨⟨⟨ds, gs, before, hw, _⟩, hx⟩, hz⟩ := hpre
  refine (contract (w.forCall tape i) w.heap.size i.args ds gs before hval (DataW.Whole.of_heap (w' := w.forCall tape i) (by rfl) hw) (hz.weights hw) (hX _ _ _ (by rfl) hx) hsh).mono fun e W' ⟨v, he, hp⟩ => ?_
  subst he
  exact ChangeSpec.post_blind hp

/-- The door's own heap meets the condition. -/
theorem door_met (os : Os) (args : Array Value) : laidMetH Tryd.prog laidL ((World.doorLaid Tryd.prog 44 os).forCall (fun _ _ => 0) ⟨#[], args, []⟩).memory :=
  laidMetH_of_parts3 (fuel := 8) (laidMet_of_run' 8 (by kernel_rfl) (by kernel_rfl)) (by kernel_rfl) (by kernel_rfl)
end Go.Proofs.YtjeogbdeagkomaaDoor

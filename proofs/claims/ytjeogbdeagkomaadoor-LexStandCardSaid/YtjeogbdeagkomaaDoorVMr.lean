/- A region whose operations come in whatever order, and make memory, or write what the region has made: each is looked at once. -/
import Derived.Deep.RegionHeld3
import Derived.Below
namespace Go.Proofs.YtjeogbdeagkomaaDoor
open Go Go.RowKit

/-- The blocks below B, and those from lo on, ahead of hi, are as they were. -/
structure Like (B lo hi : Nat) (w w' : World) : Prop where
  size : w.heap.size ≤ w'.heap.size
  old : ∀ k, k < B → w'.heap[k]? = w.heap[k]?
  own : ∀ k, lo ≤ k → k < hi → w'.heap[k]? = w.heap[k]?
/-- Only the blocks from lo on, ahead of hi, are written. -/
structure MWrites (lo hi : Nat) (w w' : World) : Prop where
  os : w'.os = w.os
  tape : w'.tape = w.tape
  output : w'.output = w.output
  size : w'.heap.size = w.heap.size
  block : ∀ k, ¬ (lo ≤ k ∧ k < hi) → w'.heap[k]? = w.heap[k]?

/-- An operation: whose values it looks at (by number), whose facts it leans on, whose block it writes, if one's; and what it tells: of the values so far, the blocks that it has made, its own value, and the world. -/
structure Mop where
  vals : List Nat
  needs : List Nat
  into : Option Nat
  tells : (Nat → Value) → Nat → Nat → Value → World → Prop
/-- An operation that yields a value made of the values so far. -/
def Mop.val (vs ns : List Nat) (e : (Nat → Value) → Value) : Mop := ⟨vs, ns, none, fun x _ _ u _ => u = e x⟩
/-- Nothing is told. -/
def Mop.any (vs ns : List Nat) : Mop := ⟨vs, ns, none, fun _ _ _ _ _ => True⟩
/-- What is told hangs on the values that are looked at alone, and stays where nobody writes what was made. -/
structure Mop.Good (B : Nat) (m : Mop) : Prop where
  loc : ∀ x y : Nat → Value, (∀ j ∈ m.vals, x j = y j) → ∀ lo hi u w, m.tells x lo hi u w → m.tells y lo hi u w
  stay : ∀ x lo hi u w w', m.tells x lo hi u w → Like B lo hi w w' → m.tells x lo hi u w'
theorem Mop.Good.val {B : Nat} {vs ns : List Nat} {e : (Nat → Value) → Value} (h : ∀ x y : Nat → Value, (∀ j ∈ vs, x j = y j) → e x = e y) : (Mop.val vs ns e).Good B :=
  ⟨fun x y hxy _ _ _ _ hu => hu.trans (h x y hxy), fun _ _ _ _ _ _ h _ => h⟩
theorem Mop.Good.any {B : Nat} {vs ns : List Nat} : (Mop.any vs ns).Good B := ⟨fun _ _ _ _ _ _ _ _ => trivial, fun _ _ _ _ _ _ _ _ => trivial⟩

/-- What operation j tells. -/
def MF (ms : List Mop) (x : Nat → Value) (lo hi : Nat → Nat) (w : World) (j : Nat) : Prop :=
  match ms[j]? with
  | some m => m.tells x (lo j) (hi j) (x j) w
  | none => True
/-- What these operations tell. -/
def MFs (ms : List Mop) (x : Nat → Value) (lo hi : Nat → Nat) (w : World) : List Nat → Prop
  | [] => True
  | j :: js => MF ms x lo hi w j ∧ MFs ms x lo hi w js
theorem MFs.iff {ms : List Mop} {x : Nat → Value} {lo hi : Nat → Nat} {w : World} : ∀ {js : List Nat}, MFs ms x lo hi w js ↔ ∀ j ∈ js, MF ms x lo hi w j
  | [] => ⟨fun _ => (fun _ h => (by cases h)), fun _ => trivial⟩
  | j :: js => by
    show MF ms x lo hi w j ∧ MFs ms x lo hi w js ↔ _
    rw [MFs.iff, List.forall_mem_cons]

def mdst (ops : Array Oper) (j : Nat) : Option Tmp := (ops[j]?).bind (·.dst)
/-- The state with these operations' values. -/
def putAll (ops : Array Oper) (x : Nat → Value) (a : Act) : List Nat → Act
  | [] => a
  | j :: js => (putAll ops x a js).put (mdst ops j) (x j)

section
variable {P : Program} {ops : Array Oper} {Q : Exit → Act → World → Prop}

/-- What is to be shown behind an operation. -/
def Mop.done (m : Mop) (x : Nat → Value) (lo hi : Nat → Nat) (w : World) (u : Value) (w' : World) : Prop :=
  match m.into with
  | none => Below w.heap.size w w' ∧ m.tells x w.heap.size w'.heap.size u w'
  | some j => MWrites (lo j) (hi j) w w' ∧ m.tells x (lo j) (hi j) u w'

theorem Mop.done_make {m : Mop} (hi0 : m.into = none) {x : Nat → Value} {lo hi : Nat → Nat} {w w' : World} {u : Value} (hb : Below w.heap.size w w') (ht : m.tells x w.heap.size w'.heap.size u w') : m.done x lo hi w u w' := by
  unfold Mop.done
  rw [hi0]
  exact ⟨hb, ht⟩
theorem Mop.done_write {m : Mop} {j : Nat} (hi0 : m.into = some j) {x : Nat → Value} {lo hi : Nat → Nat} {w w' : World} {u : Value} (hb : MWrites (lo j) (hi j) w w') (ht : m.tells x (lo j) (hi j) u w') : m.done x lo hi w u w' := by
  unfold Mop.done
  rw [hi0]
  exact ⟨hb, ht⟩

/-- One operation, from the state with what it looks at. -/
def MStep (P : Program) (ops : Array Oper) (a0 : Act) (w0 : World) (ms : List Mop) (i : Nat) (m : Mop) : Prop :=
  ∃ o, ops[i]? = some o ∧ ∀ x lo hi w, Below w0.heap.size w0 w → MFs ms x lo hi w m.needs → ∀ K : Act → World → Prop,
    Shut (∀ u w', m.done x lo hi w u w' → K ((putAll ops x a0 m.vals).put o.dst u) w') →
    if Region.wanted o (yielded ops (putAll ops x a0 m.vals).tmps) = true then Oper.wp P o (putAll ops x a0 m.vals) w K (fun _ _ _ => False) else K ((putAll ops x a0 m.vals).put o.dst undef) w
theorem MStep.mk {a0 : Act} {w0 : World} {ms : List Mop} {i : Nat} {m : Mop} {o : Oper} (ho : ops[i]? = some o)
    (h : ∀ x lo hi w, Below w0.heap.size w0 w → MFs ms x lo hi w m.needs → ∀ K : Act → World → Prop,
      Shut (∀ u w', m.done x lo hi w u w' → K ((putAll ops x a0 m.vals).put o.dst u) w') →
      if Region.wanted o (yielded ops (putAll ops x a0 m.vals).tmps) = true then Oper.wp P o (putAll ops x a0 m.vals) w K (fun _ _ _ => False) else K ((putAll ops x a0 m.vals).put o.dst undef) w) :
    MStep P ops a0 w0 ms i m := ⟨o, ho, h⟩
def MSteps (P : Program) (ops : Array Oper) (a0 : Act) (w0 : World) (ms : List Mop) : Nat → List Mop → Prop
  | _, [] => True
  | i, m :: l => MStep P ops a0 w0 ms i m ∧ MSteps P ops a0 w0 ms (i + 1) l
theorem MSteps.at {a0 : Act} {w0 : World} {ms : List Mop} : ∀ {l : List Mop} {i : Nat}, MSteps P ops a0 w0 ms i l → ∀ {k : Nat} {m : Mop}, l[k]? = some m → MStep P ops a0 w0 ms (i + k) m
  | [], _, _, _, _, hk => by simp at hk
  | m :: l, i, h, 0, m', hk => by
    obtain rfl : m = m' := by simpa using hk
    exact h.1
  | m :: l, i, h, k + 1, m', hk => by
    have := MSteps.at h.2 (k := k) (by simpa using hk)
    rw [show i + 1 + k = i + (k + 1) by omega] at this
    exact this
def MGoods (B : Nat) : List Mop → Prop
  | [] => True
  | m :: l => m.Good B ∧ MGoods B l
theorem MGoods.at {B : Nat} : ∀ {l : List Mop}, MGoods B l → ∀ {k : Nat} {m : Mop}, l[k]? = some m → m.Good B
  | [], _, _, _, hk => by simp at hk
  | m :: l, h, 0, m', hk => by
    obtain rfl : m = m' := by simpa using hk
    exact h.1
  | m :: l, h, k + 1, m', hk => MGoods.at h.2 (k := k) (by simpa using hk)

/-- The plan of a region: of each operation whose values it looks at, whose facts it leans on, whose block it writes. -/
abbrev Plan := List (List Nat × List Nat × Option Nat)
def Plan.vals (p : Plan) (i : Nat) : List Nat := ((p[i]?).map (·.1)).getD []
def Plan.needs (p : Plan) (i : Nat) : List Nat := ((p[i]?).map (·.2.1)).getD []
def Plan.into (p : Plan) (i : Nat) : Option Nat := (p[i]?).bind (·.2.2)
def planOf (ms : List Mop) : Plan := ms.map fun m => (m.vals, m.needs, m.into)
/-- The side conditions, as one Bool: nothing waits for what comes later; what is looked at has come; no two write one temporary, nor one block; nobody leans on what was written over. -/
def monoB (ops : Array Oper) (p : Plan) (keep : List Nat) : Bool :=
  Region.noSelect ops && p.length == ops.size && keep == (List.range ops.size).filter (fun i => (List.range ops.size).all fun s => p.into s != some i) &&
  (List.range ops.size).all fun i => match ops[i]? with
    | none => false
    | some o =>
      (o.after.all fun e => !Region.binds .any e || decide (e.on < i)) &&
      (p.vals i).Nodup &&
      ((p.vals i).all fun j => o.after.any fun e => Region.binds .any e && (e.on == j || (p.vals e.on).contains j)) &&
      ((List.range ops.size).all fun k => match mdst ops k with
        | none => true
        | some d => (k == i || mdst ops i != some d) && (!(o.looksAt ops).contains d || (p.vals i).contains k)) &&
      ((p.needs i).all fun k => (p.vals i).contains k && (List.range ops.size).all fun s => p.into s != some k || s == i || (p.vals s).contains i) &&
      (match p.into i with
        | none => true
        | some j => (p.vals i).contains j && (p.into j).isNone && (List.range ops.size).all fun s => s == i || p.into s != some j)
structure MonoOk (ops : Array Oper) (p : Plan) (i : Nat) (o : Oper) : Prop where
  back : ∀ e ∈ o.after, Region.binds .any e = true → e.on < i
  nodup : (p.vals i).Nodup
  vals : ∀ j ∈ p.vals i, ∃ e ∈ o.after, Region.binds .any e = true ∧ (e.on = j ∨ j ∈ p.vals e.on)
  dst : ∀ k d, mdst ops k = some d → k ≠ i → mdst ops i ≠ some d
  looks : ∀ k d, mdst ops k = some d → d ∈ o.looksAt ops → k ∈ p.vals i
  needs : ∀ k ∈ p.needs i, k ∈ p.vals i ∧ ∀ s, s < ops.size → p.into s = some k → s ≠ i → i ∈ p.vals s
  into : ∀ j, p.into i = some j → j ∈ p.vals i ∧ p.into j = none ∧ ∀ s, s < ops.size → s ≠ i → p.into s ≠ some j
theorem mdst_lt {k : Nat} {d : Tmp} (h : mdst ops k = some d) : k < ops.size := by
  rcases Nat.lt_or_ge k ops.size with h1 | h1
  · exact h1
  · simp [mdst, Array.getElem?_eq_none h1] at h
theorem monoB_spec {p : Plan} {keep : List Nat} (h : monoB ops p keep = true) :
    Region.noSelect ops = true ∧ p.length = ops.size ∧ (∀ j, j ∈ keep ↔ j < ops.size ∧ ∀ s, s < ops.size → p.into s ≠ some j) ∧ ∀ i o, ops[i]? = some o → MonoOk ops p i o := by
  unfold monoB at h
  simp only [Bool.and_eq_true, beq_iff_eq] at h
  obtain ⟨⟨⟨h1, h2⟩, h3⟩, h4⟩ := h
  refine ⟨h1, h2, fun j => ?_, fun i o ho => ?_⟩
  · rw [h3, List.mem_filter, List.mem_range]
    simp
  have hi : i < ops.size := by
    rcases Nat.lt_or_ge i ops.size with h1 | h1
    · exact h1
    · simp [Array.getElem?_eq_none h1] at ho
  have h5 := List.all_eq_true.1 h4 i (List.mem_range.2 hi)
  simp only [ho, Bool.and_eq_true] at h5
  obtain ⟨⟨⟨⟨⟨c1, c2⟩, c3⟩, c4⟩, c5⟩, c6⟩ := h5
  refine ⟨?_, by simpa using c2, ?_, ?_, ?_, ?_, ?_⟩
  · intro e he hb
    have := Array.all_eq_true_iff_forall_mem.1 c1 e he
    simpa [hb] using this
  · intro j hj
    have t2 := List.all_eq_true.1 c3 j hj
    obtain ⟨e, he, t3⟩ := Array.any_eq_true'.1 t2
    simp only [Bool.and_eq_true, Bool.or_eq_true, beq_iff_eq] at t3
    exact ⟨e, he, t3.1, t3.2.imp id (fun h => by simpa using h)⟩
  · intro k d hk hki
    have := List.all_eq_true.1 c4 k (List.mem_range.2 (mdst_lt hk))
    simp only [hk, Bool.and_eq_true] at this
    intro hd
    have := this.1
    simp [hki, hd] at this
  · intro k d hk hd
    have := List.all_eq_true.1 c4 k (List.mem_range.2 (mdst_lt hk))
    simp only [hk, Bool.and_eq_true] at this
    have := this.2
    simpa [hd] using this
  · intro k hk
    have := List.all_eq_true.1 c5 k hk
    simp only [Bool.and_eq_true] at this
    refine ⟨by simpa using this.1, fun s hs hi2 hsi => ?_⟩
    have := List.all_eq_true.1 this.2 s (List.mem_range.2 hs)
    simpa [hi2, hsi] using this
  · intro j hj
    rw [hj] at c6
    simp only [Bool.and_eq_true] at c6
    refine ⟨by simpa using c6.1.1, by simpa using c6.1.2, fun s hs hsi h => ?_⟩
    have := List.all_eq_true.1 c6.2 s (List.mem_range.2 hs)
    simp [hsi, h] at this
theorem putAll_defers (x : Nat → Value) (a : Act) : ∀ js, (putAll ops x a js).defers = a.defers
  | [] => rfl
  | j :: js => by
    show ((putAll ops x a js).put (mdst ops j) (x j)).defers = _
    unfold Act.put
    split <;> exact putAll_defers x a js
theorem putAll_size (x : Nat → Value) (a : Act) : ∀ js, (putAll ops x a js).tmps.size = a.tmps.size
  | [] => rfl
  | j :: js => by
    show ((putAll ops x a js).put (mdst ops j) (x j)).tmps.size = _
    unfold Act.put
    split
    · rw [Array.size_setIfInBounds]; exact putAll_size x a js
    · exact putAll_size x a js
theorem putAll_congr {x y : Nat → Value} {a : Act} : ∀ {js : List Nat}, (∀ j ∈ js, x j = y j) → putAll ops x a js = putAll ops y a js
  | [], _ => rfl
  | j :: js, h => by
    show (putAll ops x a js).put _ _ = (putAll ops y a js).put _ _
    rw [putAll_congr fun k hk => h k (.tail _ hk), h j (.head _)]
theorem putAll_append (x : Nat → Value) (a : Act) (js : List Nat) : ∀ ks, putAll ops x a (ks ++ js) = putAll ops x (putAll ops x a js) ks
  | [] => rfl
  | k :: ks => by
    show (putAll ops x a (ks ++ js)).put _ _ = (putAll ops x (putAll ops x a js) ks).put _ _
    rw [putAll_append x a js ks]
theorem putAll_perm (hd : ∀ j k, j ≠ k → ∀ d, mdst ops j = some d → mdst ops k ≠ some d) {x : Nat → Value} {a : Act} {js ks : List Nat} (h : js.Perm ks) : putAll ops x a js = putAll ops x a ks := by
  induction h with
  | nil => rfl
  | cons j _ ih => exact congrArg (fun s => Act.put s (mdst ops j) (x j)) ih
  | swap j k l =>
    show ((putAll ops x a l).put (mdst ops j) (x j)).put (mdst ops k) (x k) = ((putAll ops x a l).put (mdst ops k) (x k)).put (mdst ops j) (x j)
    by_cases hjk : j = k
    · subst hjk; rfl
    · exact Act.put_comm _ _ _ fun d hd1 => hd j k hjk d hd1
  | trans _ _ ih1 ih2 => exact ih1.trans ih2
theorem perm_of_same : ∀ {l l' : List Nat}, l.Nodup → l'.Nodup → (∀ j, j ∈ l ↔ j ∈ l') → l.Perm l'
  | [], l', _, _, h => by
    cases l' with
    | nil => exact .nil
    | cons j _ => exact absurd ((h j).2 (.head _)) (by simp)
  | j :: l, l', h1, h2, h => by
    have hj : j ∈ l' := (h j).1 (.head _)
    refine List.Perm.trans (List.Perm.cons j (perm_of_same (l' := l'.erase j) (List.nodup_cons.1 h1).2 (h2.erase j) fun k => ?_)) (List.perm_cons_erase hj).symm
    rw [h2.mem_erase_iff, ← h k, List.mem_cons]
    have := (List.nodup_cons.1 h1).1
    constructor
    · intro hk
      exact ⟨fun e => this (e ▸ hk), .inr hk⟩
    · rintro ⟨h3, h4⟩
      exact h4.resolve_left h3
theorem exec_putAll {o : Oper} (hs : ∀ cs b, o.op ≠ .select cs b) {x : Nat → Value} {a : Act} : ∀ {js : List Nat}, (∀ j ∈ js, ∀ d, mdst ops j = some d → d ∉ o.looksAt ops) →
    execOp (putAll ops x a js).eval o = execOp a.eval o ∧ Region.wanted o (yielded ops (putAll ops x a js).tmps) = Region.wanted o (yielded ops a.tmps)
  | [], _ => ⟨rfl, rfl⟩
  | j :: js, h => by
    have ih := exec_putAll hs (x := x) (a := a) (js := js) fun k hk => h k (.tail _ hk)
    show execOp ((putAll ops x a js).put (mdst ops j) (x j)).eval o = _ ∧ Region.wanted o (yielded ops ((putAll ops x a js).put (mdst ops j) (x j)).tmps) = _
    rw [execOp_put o hs _ _ _ (h j (.head _)), wanted_put o _ _ _ (h j (.head _))]
    exact ih

/-- From the state with what is leaned on to the whole state. -/
theorem mstep_wpOp {i : Nat} {o : Oper} (ho : ops[i]? = some o) {aD a : Act} {w : World} {post : Value → World → Prop} (he : execOp a.eval o = execOp aD.eval o)
    (hw : Region.wanted o (yielded ops a.tmps) = Region.wanted o (yielded ops aD.tmps)) (hz : a.tmps.size = aD.tmps.size)
    (h : if Region.wanted o (yielded ops aD.tmps) = true then Oper.wp P o aD w (fun a' w' => ∃ u, a' = aD.put o.dst u ∧ post u w') (fun _ _ _ => False) else ∃ u, aD.put o.dst undef = aD.put o.dst u ∧ post u w)
    {K : Act → World → Prop} (hK : ∀ u w', post u w' → K (a.put o.dst u) w') : wpOp P ops Q i K a w := by
  have same : ∀ u u', aD.put o.dst u = aD.put o.dst u' → a.put o.dst u = a.put o.dst u' := by
    intro u u' e
    unfold Act.put at *
    split
    · rename_i d hd
      simp only [hd, Act.mk.injEq, and_true] at e
      rcases Nat.lt_or_ge d aD.tmps.size with h1 | h1
      · have := congrArg (fun l : Array Value => l[d]?) e
        simp [h1] at this
        rw [this]
      · have h2 : a.tmps.size ≤ d := by omega
        have q : ∀ v : Value, a.tmps.setIfInBounds d v = a.tmps := fun v => Array.setIfInBounds_eq_of_size_le h2
        rw [q, q]
    · rfl
  have k2 : ∀ u w', (∃ u', aD.put o.dst u = aD.put o.dst u' ∧ post u' w') → K (a.put o.dst u) w' := by
    rintro u w' ⟨u', e, hp⟩
    rw [same u u' e]
    exact hK u' w' hp
  unfold wpOp
  simp only [ho]
  rw [hw]
  split
  · rename_i hwd
    rw [if_pos hwd] at h
    refine .inl ?_
    unfold Oper.wp at *
    rw [he]
    generalize (execOp aD.eval o).run P w = r at *
    cases r with
    | ok n w' =>
      cases n <;> simp only [Oper.upon] at h ⊢
      case value u => exact k2 u w' h
      case skip => exact k2 undef w' h
      case defer d =>
        obtain ⟨u, e, _⟩ := h
        have hp : ∀ (b : Act) (t : Option Tmp) (v : Value), (b.put t v).defers = b.defers := fun b t v => by unfold Act.put; split <;> rfl
        have := congrArg Act.defers e
        rw [hp, hp] at this
        have := congrArg List.length this
        simp at this
      case enter f args =>
        refine Calls.mono h fun e w'' he2 => ?_
        cases e with
        | returned u => exact k2 u w'' he2
        | panicked c => exact he2.elim
        | outgrown => obtain ⟨_, _, h⟩ := he2; exact h.elim
      case row row args => exact Rows.mono h fun u w'' he2 => k2 u w'' he2
    | halt x w' =>
      cases x <;> simp only [Oper.upon] at h
  · rename_i hwd
    rw [if_neg hwd] at h
    exact k2 undef w h

structure MInv (ops : Array Oper) (a0 : Act) (w0 : World) (ms : List Mop) (listed : Array Bool) (js : List Nat) (x : Nat → Value) (lo hi : Nat → Nat) (a : Act) (w : World) : Prop where
  size : listed.size = ops.size
  nodup : js.Nodup
  mem : ∀ j, j ∈ js ↔ j < ops.size ∧ listed.getD j true = true
  down : ∀ j ∈ js, ∀ k ∈ (planOf ms).vals j, k ∈ js
  act : a = putAll ops x a0 js
  below : Below w0.heap.size w0 w
  room : ∀ j ∈ js, w0.heap.size ≤ lo j ∧ hi j ≤ w.heap.size
  apart : ∀ j ∈ js, ∀ k ∈ js, j ≠ k → (planOf ms).into j = none → (planOf ms).into k = none → hi j ≤ lo k ∨ hi k ≤ lo j
  same : ∀ i ∈ js, ∀ j, (planOf ms).into i = some j → lo i = lo j ∧ hi i = hi j
  facts : ∀ j ∈ js, (∀ s ∈ js, (planOf ms).into s ≠ some j) → MF ms x lo hi w j

theorem MF.of_same {B : Nat} {ms : List Mop} (hg : MGoods B ms) {j : Nat} {x y : Nat → Value} {lo hi lo' hi' : Nat → Nat} {w w' : World} (hxy : ∀ k ∈ (planOf ms).vals j, x k = y k) (hj : x j = y j) (hlo : lo j = lo' j) (hhi : hi j = hi' j) (hb : Like B (lo j) (hi j) w w') (h : MF ms x lo hi w j) : MF ms y lo' hi' w' j := by
  unfold MF at *
  cases hm : ms[j]? with
  | none => trivial
  | some m =>
    rw [hm] at h
    have hn : (planOf ms).vals j = m.vals := by simp [Plan.vals, planOf, hm]
    rw [hn] at hxy
    show m.tells y (lo' j) (hi' j) (y j) w'
    rw [← hj, ← hlo, ← hhi]
    exact (hg.at hm).stay _ _ _ _ _ _ ((hg.at hm).loc x y hxy _ _ _ _ h) hb

theorem listed_getD_set {l : Array Bool} {i j : Nat} (hj : j < l.size) : (l.setIfInBounds i true).getD j true = if i = j then true else l.getD j true := by
  by_cases h : i = j
  · subst h; simp [Array.getD, hj]
  · rw [if_neg h, getD_set_ne true h]

/-- **A region that draws its order, in which each operation makes memory, or writes what the region made: each is looked at once**, in a world of which only what it leans on is known. 'keep': those whose facts stand at the end (whose blocks are not written over). -/
theorem wp_region_mono {id : Nat} {a0 : Act} {w : World} (ms : List Mop) (p : Plan) (keep all : List Nat) (hall : List.range ops.size = all) (hm : P.follows .mixedOrders = true)
    (hp : planOf ms = p) (hok : monoB ops p keep = true)
    (hsteps : MSteps P ops a0 w ms 0 ms) (hgood : MGoods w.heap.size ms)
    (hfin : ∀ x lo hi w', Below w.heap.size w w' → MFs ms x lo hi w' keep → Q .normal (putAll ops x a0 all) w') :
    (Code.region id ops true).wp P Q a0 w := by
  subst hp
  subst hall
  replace hgood : MGoods w.drew.heap.size ms := hgood
  have hdr : ∀ {w1 : World}, Below w.drew.heap.size w.drew w1 → Below w.heap.size w w1 := fun h => ((Below.refl w.heap.size w).drew).trans h
  obtain ⟨hsel, hlen, keepm, hops⟩ := monoB_spec hok
  have hdst : ∀ j k, j ≠ k → ∀ d, mdst ops j = some d → mdst ops k ≠ some d := by
    intro j k hjk d hj hk
    obtain ⟨o, ho⟩ : ∃ o, ops[k]? = some o := by
      have := mdst_lt hk
      exact ⟨ops[k], by simp [this]⟩
    exact (hops k o ho).dst j d hj hjk hk
  have hget : ∀ i, i < ops.size → ∃ o, ops[i]? = some o := fun i hi => ⟨ops[i], by simp [hi]⟩
  have main : ∀ (fuel : Nat) (listed : Array Bool) (js : List Nat) (x : Nat → Value) (lo hi : Nat → Nat) (a : Act) (w1 : World),
      MInv ops a0 w.drew ms listed js x lo hi a w1 → fuel + js.length = ops.size → wpAny P .any ops Q fuel listed a w1 := by
    intro fuel
    -- all have come
    have allIn : ∀ (listed : Array Bool) (js : List Nat) (x : Nat → Value) (lo hi : Nat → Nat) (a : Act) (w1 : World),
        MInv ops a0 w.drew ms listed js x lo hi a w1 → (∀ j, j < ops.size → j ∈ js) → Q .normal a w1 := by
      intro listed js x lo hi a w1 hI hall
      have hp : js.Perm (List.range ops.size) := perm_of_same hI.nodup List.nodup_range fun j => ⟨fun hj => List.mem_range.2 ((hI.mem j).1 hj).1, fun hj => hall j (List.mem_range.1 hj)⟩
      rw [hI.act, putAll_perm hdst hp]
      refine hfin x lo hi w1 (hdr hI.below) (MFs.iff.2 fun j hj => ?_)
      obtain ⟨h1, h2⟩ := (keepm j).1 hj
      exact hI.facts j (hall j h1) fun s hs => h2 s ((hI.mem s).1 hs).1
    have noneReady : ∀ (listed : Array Bool) (js : List Nat) (x : Nat → Value) (lo hi : Nat → Nat) (a : Act) (w1 : World),
        MInv ops a0 w.drew ms listed js x lo hi a w1 → Region.ready .any ops listed = [] → ∀ j, j < ops.size → j ∈ js := by
      intro listed js x lo hi a w1 hI h0
      have least : ∀ n j, j < n → j < ops.size → j ∉ js → ∃ i, i < ops.size ∧ i ∉ js ∧ ∀ k, k < i → k ∈ js := by
        intro n
        induction n with
        | zero => intro j h; omega
        | succ n ih2 =>
          intro j hjn hjo hjs
          by_cases h : ∀ k, k < j → k ∈ js
          · exact ⟨j, hjo, hjs, h⟩
          · obtain ⟨k, hk⟩ := Classical.not_forall.1 h
            obtain ⟨hk1, hk2⟩ := Classical.not_imp.1 hk
            exact ih2 k (by omega) (by omega) hk2
      intro j hj
      refine Classical.byContradiction fun hjs => ?_
      obtain ⟨i, hio, hijs, hbelow⟩ := least (j + 1) j (by omega) hj hjs
      obtain ⟨o, ho⟩ := hget i hio
      have : i ∈ Region.ready .any ops listed := by
        refine mem_ready.2 ⟨?_, o, ho, fun e he hb => ?_⟩
        · cases hx : listed.getD i true with
          | false => rfl
          | true => exact absurd ((hI.mem i).2 ⟨hio, hx⟩) hijs
        · have hlt := (hops i o ho).back e he hb
          have := ((hI.mem e.on).1 (hbelow e.on hlt)).2
          have hl2 : e.on < listed.size := by rw [hI.size]; omega
          simpa [Array.getD, hl2] using this
      rw [h0] at this
      cases this
    induction fuel with
    | zero =>
      intro listed js x lo hi a w1 hI hf
      have hall : ∀ j, j < ops.size → j ∈ js := by
        have hsub : ∀ j ∈ js, j ∈ List.range ops.size := fun j hj => List.mem_range.2 ((hI.mem j).1 hj).1
        have : ∀ {l l' : List Nat}, l.Nodup → (∀ j ∈ l, j ∈ l') → l'.length ≤ l.length → ∀ j ∈ l', j ∈ l := by
          intro l
          induction l with
          | nil => intro l' _ _ h j hj; cases l' with
            | nil => cases hj
            | cons => simp at h
          | cons k l ih =>
            intro l' hn hs hle j hj
            by_cases hjk : j = k
            · exact hjk ▸ .head _
            · refine .tail _ (ih (l' := l'.erase k) (List.nodup_cons.1 hn).2 (fun m hm => ?_) ?_ j ((List.mem_erase_of_ne hjk).2 hj))
              · exact (List.mem_erase_of_ne (fun (e : m = k) => (List.nodup_cons.1 hn).1 (by rw [← e]; exact hm))).2 (hs m (.tail _ hm))
              · rw [List.length_erase_of_mem (hs k (.head _))]
                simp only [List.length_cons] at hle
                omega
        exact fun j hj => this hI.nodup hsub (by rw [List.length_range]; omega) j (List.mem_range.2 hj)
      refine ⟨?_, allIn listed js x lo hi a w1 hI hall⟩
      cases hr : Region.ready .any ops listed with
      | nil => rfl
      | cons i l =>
        have hi2 : i ∈ Region.ready .any ops listed := by rw [hr]; exact .head _
        obtain ⟨h0, o, ho, _⟩ := mem_ready.1 hi2
        have hio : i < ops.size := by
          rcases Nat.lt_or_ge i ops.size with h1 | h1
          · exact h1
          · simp [Array.getElem?_eq_none h1] at ho
        rw [((hI.mem i).1 (hall i hio)).2] at h0
        cases h0
    | succ fuel ih =>
      intro listed js x lo hi a w1 hI hf
      refine ⟨fun h0 => allIn listed js x lo hi a w1 hI (noneReady listed js x lo hi a w1 hI h0), fun i hi1 => ?_⟩
      obtain ⟨h0, o, ho, hre⟩ := mem_ready.1 hi1
      have hio : i < ops.size := by
        rcases Nat.lt_or_ge i ops.size with h1 | h1
        · exact h1
        · simp [Array.getElem?_eq_none h1] at ho
      have hop := hops i o ho
      have hn : ∀ k ∈ (planOf ms).vals i, k ∈ js := by
        intro k hk
        obtain ⟨e, he, hb, h⟩ := hop.vals k hk
        have h1 := hre e he hb
        have h2 : e.on ∈ js := by
          have hlt := hop.back e he hb
          refine (hI.mem e.on).2 ⟨by omega, ?_⟩
          have : e.on < listed.size := by rw [hI.size]; omega
          simpa [Array.getD, this] using h1
        rcases h with rfl | h
        · exact h2
        · exact hI.down _ h2 k h
      have hijs : i ∉ js := fun hj => by
        rw [((hI.mem i).1 hj).2] at h0; cases h0
      obtain ⟨m, hm2⟩ : ∃ m, ms[i]? = some m := by
        have : i < ms.length := by rw [planOf, List.length_map] at hlen; omega
        exact ⟨ms[i], by simp [this]⟩
      have hnm : (planOf ms).vals i = m.vals := by simp [Plan.vals, planOf, hm2]
      have hnn : (planOf ms).needs i = m.needs := by simp [Plan.needs, planOf, hm2]
      have hni : (planOf ms).into i = m.into := by simp [Plan.into, planOf, hm2]
      obtain ⟨o', ho', hst⟩ := MSteps.at hsteps hm2
      rw [Nat.zero_add, ho] at ho'
      obtain rfl : o = o' := by simpa using ho'
      clear ho'
      have hneeds : MFs ms x lo hi w1 m.needs := MFs.iff.2 fun k hk => by
        obtain ⟨h1, h2⟩ := hop.needs k (hnn ▸ hk)
        refine hI.facts k (hn k h1) fun s hs e => ?_
        have hsi : s ≠ i := fun e2 => hijs (e2 ▸ hs)
        exact hijs (hI.down s hs i (h2 s ((hI.mem s).1 hs).1 e hsi))
      rw [hnm] at hn
      have hnd : m.vals.Nodup := hnm ▸ hop.nodup
      -- the state, parted
      have hperm : js.Perm (js.filter (fun j => !m.vals.contains j) ++ m.vals) := by
        refine perm_of_same hI.nodup ?_ fun j => ?_
        · refine List.nodup_append.2 ⟨hI.nodup.sublist List.filter_sublist, hnd, fun p hp q hq e => ?_⟩
          subst e
          have := (List.mem_filter.1 hp).2
          simp [hq] at this
        · rw [List.mem_append, List.mem_filter]
          constructor
          · intro hj
            by_cases h : j ∈ m.vals
            · exact .inr h
            · exact .inl ⟨hj, by simpa using h⟩
          · rintro (h | h)
            · exact h.1
            · exact hn j h
      have ha : a = putAll ops x (putAll ops x a0 m.vals) (js.filter fun j => !m.vals.contains j) := by
        rw [hI.act, putAll_perm hdst hperm, putAll_append]
      have hex := exec_putAll (ops := ops) (Region.noSelect_spec hsel i o · · ho) (x := x) (a := putAll ops x a0 m.vals) (js := js.filter fun j => !m.vals.contains j) (by
        intro j hj d hd hdl
        have := hop.looks j d hd hdl
        rw [hnm] at this
        have h2 := (List.mem_filter.1 hj).2
        simp [this] at h2)
      rw [← ha] at hex
      refine mstep_wpOp (post := fun u w' => m.done x lo hi w1 u w') ho hex.1 hex.2 (by rw [hI.act, putAll_size, putAll_size])
        (hst x lo hi w1 (hdr hI.below) hneeds _ (fun u w' hu => ⟨u, rfl, hu⟩)) fun u w' hu => ?_
      have hxy : ∀ j, j ≠ i → x j = (fun j => if j = i then u else x j) j := fun j hj => by simp [hj]
      have hji : ∀ j ∈ js, j ≠ i := fun j hj e => hijs (e ▸ hj)
      have hmem : ∀ j, j ∈ i :: js ↔ j < ops.size ∧ (listed.setIfInBounds i true).getD j true = true := fun j => by
        rw [List.mem_cons, hI.mem j]
        by_cases hj : j < ops.size
        · rw [listed_getD_set (by rw [hI.size]; exact hj)]
          by_cases hji : j = i
          · subst hji; simp [hj]
          · rw [if_neg (Ne.symm hji)]; simp [hji]
        · constructor
          · rintro (rfl | h)
            · exact absurd hio hj
            · exact absurd h.1 hj
          · intro h; exact absurd h.1 hj
      have hdown : ∀ j ∈ i :: js, ∀ k ∈ (planOf ms).vals j, k ∈ i :: js := List.forall_mem_cons.2 ⟨fun k hk => .tail _ (hn k (hnm ▸ hk)), fun j hj k hk => .tail _ (hI.down j hj k hk)⟩
      have hact : a.put o.dst u = putAll ops (fun j => if j = i then u else x j) a0 (i :: js) := by
        have h1 : mdst ops i = o.dst := by simp [mdst, ho]
        show a.put o.dst u = (putAll ops _ a0 js).put (mdst ops i) (if i = i then u else x i)
        rw [if_pos rfl, h1, hI.act]
        congr 1
        exact putAll_congr fun j hj => hxy j (hji j hj)
      have hsize : (listed.setIfInBounds i true).size = ops.size := by rw [Array.size_setIfInBounds, hI.size]
      have hnod : (i :: js).Nodup := List.nodup_cons.2 ⟨hijs, hI.nodup⟩
      have hfuel : fuel + (i :: js).length = ops.size := by simp only [List.length_cons]; omega
      have xk : ∀ j ∈ js, ∀ k ∈ (planOf ms).vals j, x k = (fun j => if j = i then u else x j) k := fun j hj k hk => hxy k (hji k (hI.down j hj k hk))
      have hB := hI.below.size
      cases hin : m.into with
      | none =>
        obtain ⟨hb, ht⟩ : Below w1.heap.size w1 w' ∧ m.tells x w1.heap.size w'.heap.size u w' := by
          have := hu; unfold Mop.done at this; rw [hin] at this; exact this
        rw [hin] at hni
        have lk : ∀ j, j ∈ js → (if j = i then w1.heap.size else lo j) = lo j := fun j hj => if_neg (hji j hj)
        have hk : ∀ j, j ∈ js → (if j = i then w'.heap.size else hi j) = hi j := fun j hj => if_neg (hji j hj)
        refine ih _ (i :: js) (fun j => if j = i then u else x j) (fun j => if j = i then w1.heap.size else lo j) (fun j => if j = i then w'.heap.size else hi j) _ w' ⟨hsize, hnod, hmem, hdown, hact, hI.below.trans (hb.mono hB), ?_, ?_, ?_, ?_⟩ hfuel
        · refine List.forall_mem_cons.2 ⟨?_, fun j hj => ?_⟩
          · rw [if_pos rfl, if_pos rfl]; exact ⟨hB, Nat.le_refl _⟩
          · rw [lk j hj, hk j hj]
            exact ⟨(hI.room j hj).1, Nat.le_trans (hI.room j hj).2 hb.size⟩
        · intro j hj k hk2 hjk h1 h2
          try dsimp only
          rcases List.mem_cons.1 hj with e | hj
          · rcases List.mem_cons.1 hk2 with e2 | hk2
            · exact absurd (e.trans e2.symm) hjk
            · rw [lk k hk2, hk k hk2, if_pos e, if_pos e]
              exact .inr (hI.room k hk2).2
          · rcases List.mem_cons.1 hk2 with e2 | hk2
            · rw [lk j hj, hk j hj, if_pos e2, if_pos e2]
              exact .inl (hI.room j hj).2
            · rw [lk k hk2, hk k hk2, lk j hj, hk j hj]
              exact hI.apart j hj k hk2 hjk h1 h2
        · refine List.forall_mem_cons.2 ⟨fun j e => (by rw [hni] at e; cases e), fun s hs j e => ?_⟩
          have hjv : j ∈ js := by
            obtain ⟨os, hos⟩ := hget s ((hI.mem s).1 hs).1
            exact hI.down s hs j ((hops s os hos).into j e).1
          try dsimp only
          rw [lk s hs, hk s hs, lk j hjv, hk j hjv]
          exact hI.same s hs j e
        · refine List.forall_mem_cons.2 ⟨fun _ => ?_, fun j hj hns => ?_⟩
          · unfold MF
            rw [hm2]
            show m.tells _ (if i = i then w1.heap.size else lo i) (if i = i then w'.heap.size else hi i) (if i = i then u else x i) w'
            rw [if_pos rfl, if_pos rfl, if_pos rfl]
            exact (hgood.at hm2).loc x _ (fun j hj => hxy j (hji j (hn j hj))) _ _ _ _ ht
          · refine MF.of_same hgood (xk j hj) (hxy j (hji j hj)) (lk j hj).symm (hk j hj).symm ⟨hb.size, fun k hk => hb.block k (Nat.lt_of_lt_of_le hk hB), fun k _ h2 => hb.block k (Nat.lt_of_lt_of_le h2 (hI.room j hj).2)⟩ (hI.facts j hj fun s hs => hns s (.tail _ hs))
      | some b =>
        obtain ⟨hw, ht⟩ : MWrites (lo b) (hi b) w1 w' ∧ m.tells x (lo b) (hi b) u w' := by
          have := hu; unfold Mop.done at this; rw [hin] at this; exact this
        rw [hin] at hni
        obtain ⟨hb1, hb2, hb3⟩ := hop.into b hni
        have hbj : b ∈ js := hn b (hnm ▸ hb1)
        have hBb := (hI.room b hbj).1
        have lk : ∀ j, j ∈ js → (if j = i then lo b else lo j) = lo j := fun j hj => if_neg (hji j hj)
        have hk : ∀ j, j ∈ js → (if j = i then hi b else hi j) = hi j := fun j hj => if_neg (hji j hj)
        have hBelow : Below w.drew.heap.size w1 w' := ⟨hw.os, hw.tape, hw.output, Nat.le_of_eq hw.size.symm, fun k hk => hw.block k (by omega)⟩
        refine ih _ (i :: js) (fun j => if j = i then u else x j) (fun j => if j = i then lo b else lo j) (fun j => if j = i then hi b else hi j) _ w' ⟨hsize, hnod, hmem, hdown, hact, hI.below.trans hBelow, ?_, ?_, ?_, ?_⟩ hfuel
        · refine List.forall_mem_cons.2 ⟨?_, fun j hj => ?_⟩
          · rw [if_pos rfl, if_pos rfl, hw.size]; exact hI.room b hbj
          · rw [lk j hj, hk j hj, hw.size]; exact hI.room j hj
        · intro j hj k hk2 hjk h1 h2
          try dsimp only
          rcases List.mem_cons.1 hj with e | hj
          · rw [e, hni] at h1; cases h1
          · rcases List.mem_cons.1 hk2 with e2 | hk2
            · rw [e2, hni] at h2; cases h2
            · rw [lk k hk2, hk k hk2, lk j hj, hk j hj]
              exact hI.apart j hj k hk2 hjk h1 h2
        · refine List.forall_mem_cons.2 ⟨fun j e => ?_, fun s hs j e => ?_⟩
          · rw [hni] at e
            obtain rfl : b = j := by simpa using e
            try dsimp only
            rw [if_pos rfl, if_pos rfl, lk b hbj, hk b hbj]
            exact ⟨rfl, rfl⟩
          · have hjv : j ∈ js := by
              obtain ⟨os, hos⟩ := hget s ((hI.mem s).1 hs).1
              exact hI.down s hs j ((hops s os hos).into j e).1
            try dsimp only
            rw [lk s hs, hk s hs, lk j hjv, hk j hjv]
            exact hI.same s hs j e
        · refine List.forall_mem_cons.2 ⟨fun _ => ?_, fun j hj hns => ?_⟩
          · unfold MF
            rw [hm2]
            show m.tells _ (if i = i then lo b else lo i) (if i = i then hi b else hi i) (if i = i then u else x i) w'
            rw [if_pos rfl, if_pos rfl, if_pos rfl]
            exact (hgood.at hm2).loc x _ (fun j hj => hxy j (hji j (hn j hj))) _ _ _ _ ht
          · have hjb : j ≠ b := fun e => hns i (.head _) (by rw [hni, e])
            have hap : hi b ≤ lo j ∨ hi j ≤ lo b := by
              cases hij : (planOf ms).into j with
              | none => exact hI.apart b hbj j hj (Ne.symm hjb) hb2 hij
              | some c =>
                obtain ⟨oj, hoj⟩ := hget j ((hI.mem j).1 hj).1
                obtain ⟨hc1, hc2, _⟩ := (hops j oj hoj).into c hij
                have hcj : c ∈ js := hI.down j hj c hc1
                have hcb : c ≠ b := fun e => hb3 j ((hI.mem j).1 hj).1 (hji j hj) (by rw [hij, e])
                obtain ⟨e1, e2⟩ := hI.same j hj c hij
                rw [e1, e2]
                exact hI.apart b hbj c hcj (Ne.symm hcb) hb2 hc2
            refine MF.of_same hgood (xk j hj) (hxy j (hji j hj)) (lk j hj).symm (hk j hj).symm ⟨Nat.le_of_eq hw.size.symm, fun k hk => hw.block k (by omega), fun k h1 h2 => hw.block k (by omega)⟩ (hI.facts j hj fun s hs => hns s (.tail _ hs))
  refine wp_region_any hm (main ops.size _ [] (fun _ => undef) (fun _ => 0) (fun _ => 0) a0 _ ⟨by simp, .nil, fun j => ?_, by simp, rfl, Below.refl _ _, by simp, by simp, by simp, by simp⟩ (by simp))
  constructor
  · intro h; cases h
  · rintro ⟨hj, h⟩
    simp [Array.getD, hj] at h
end
end Go.Proofs.YtjeogbdeagkomaaDoor

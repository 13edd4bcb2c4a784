/- What was written is read as it was; what is written is seen, and its ends stand alone. Of no program. -/
import Derived.Test.YtkhokhmdiagckaaDoorQm
namespace Go.Proofs.YtkhokhmdiagckaaDoor.Qm
open Bset

/-! ### There and back: literals -/

def sigs (s : List UInt8) : List UInt8 := s.flatMap fun c => sign lit c.toNat

theorem all_lit : ∀ (s r : List UInt8), all lit (sigs s ++ 34 :: r) = (s.map (fun c => (c.toNat, c.toNat)), (sigs s).length)
  | [], r => by
    show all lit (34 :: r) = _
    rw [all_end _ _ (by rw [pt_quote])]
    rfl
  | c :: s, r => by
    have hc := c.toNat_lt
    have e : sigs (c :: s) ++ 34 :: r = sign lit c.toNat ++ (sigs s ++ 34 :: r) := by simp [sigs]
    have h := pt_lit c.toNat hc (sigs s ++ 34 :: r)
    rw [e, all_go lit (.inl rfl) _ (by rw [h]), h]
    simp only [List.drop_left]
    rw [all_lit s r]
    simp [sigs]

theorem litT_eq (s : List UInt8) : litT s = 34 :: (sigs s ++ [34]) := rfl
theorem litT_len (s : List UInt8) : (litT s).length = (sigs s).length + 2 := by simp [litT_eq]
theorem sigs_len : ∀ (s : List UInt8), s.length ≤ (sigs s).length ∧ (sigs s).length ≤ 4 * s.length
  | [] => by simp [sigs]
  | c :: s => by
    have := sigs_len s
    have := sign_len lit (.inl rfl) c.toNat c.toNat_lt
    have e : (sigs (c :: s)).length = (sign lit c.toNat).length + (sigs s).length := by simp [sigs]
    rw [e, List.length_cons]
    omega

theorem ofNat_toNat (c : UInt8) : UInt8.ofNat c.toNat = c := by simp

theorem unlit_back (s r : List UInt8) (hs : s.length ≤ 255) : unlit (litT s ++ r) = (s, (litT s).length, 0) := by
  have e : litT s ++ r = 34 :: (sigs s ++ 34 :: r) := by simp [litT_eq]
  have h1 : all lit ((litT s ++ r).drop 1) = (s.map (fun c => (c.toNat, c.toNat)), (sigs s).length) := by
    rw [e]
    exact all_lit s r
  have h2 : ended lit (litT s ++ r) (1 + (sigs s).length) = ((sigs s).length + 2, 0) := by
    unfold ended
    have e2 : (litT s ++ r).drop (1 + (sigs s).length) = 34 :: r := by
      rw [e, ← List.drop_drop]
      simp
    rw [e2, if_pos (show (34 :: r).head? = some (UInt8.ofNat lit.last) from rfl)]
    congr 1
    omega
  unfold unlit
  rw [h1]
  simp only
  rw [h2, if_pos (by rw [e]; rfl), if_neg (by simp), if_neg (by simp; omega), litT_len, List.map_map]
  congr 1
  have : ((fun x : Nat × Nat => UInt8.ofNat x.1) ∘ fun c : UInt8 => (c.toNat, c.toNat)) = id := by
    funext c
    simp
  rw [this, List.map_id]

/-! ### There and back: classes -/

def runsT (rs : List (Nat × Nat)) : List UInt8 := rs.flatMap runT

theorem runT_one (a : Nat) : runT (a, a) = sign cls a := by
  simp [runT]
theorem runT_pair (a : Nat) : runT (a, a + 1) = sign cls a ++ sign cls (a + 1) := by
  simp [runT]
theorem runT_more (a b : Nat) (h : a + 1 < b) : runT (a, b) = sign cls a ++ (45 :: sign cls b) := by
  have : b ≠ a := by omega
  simp [runT, h, this]

theorem head_signs (b : Nat) (hb : b < 256) (x : List UInt8) : (sign cls b ++ x).head? ≠ some 45 ∧ (sign cls b ++ x).head? ≠ some 94 := by
  obtain ⟨h1, h2, _, h4⟩ := sign_head b hb
  cases hs : sign cls b with
  | nil => exact absurd hs h4
  | cons c l =>
    rw [hs] at h1 h2
    exact ⟨h1, h2⟩
theorem head_runs (rs : List (Nat × Nat)) (h : ∀ x ∈ rs, x.1 ≤ x.2 ∧ x.2 < 256) (r : List UInt8) : (runsT rs ++ 93 :: r).head? ≠ some 45 ∧ (runsT rs ++ 93 :: r).head? ≠ some 94 := by
  cases rs with
  | nil => simp [runsT]
  | cons x rs =>
    have := h x List.mem_cons_self
    have e : runsT (x :: rs) ++ 93 :: r = sign cls x.1 ++ ((if x.1 + 1 < x.2 then [45] else []) ++ (if x.2 = x.1 then [] else sign cls x.2) ++ runsT rs ++ 93 :: r) := by
      simp [runsT, runT]
    rw [e]
    exact head_signs _ (by omega) _

theorem covers_cons (x : Nat × Nat) (rs : List (Nat × Nat)) (m : Nat) : covers (x :: rs) m = ((decide (x.1 ≤ m) && decide (m ≤ x.2)) || covers rs m) := by
  simp [covers]

theorem all_runs : ∀ (rs : List (Nat × Nat)) (r : List UInt8), (∀ x ∈ rs, x.1 ≤ x.2 ∧ x.2 < 256) →
    (all cls (runsT rs ++ 93 :: r)).2 = (runsT rs).length ∧ ∀ m, covers (all cls (runsT rs ++ 93 :: r)).1 m = covers rs m
  | [], r, _ => by
    have e : runsT [] ++ 93 :: r = 93 :: r := rfl
    rw [e, all_end _ _ (by rw [pt_close])]
    exact ⟨rfl, fun _ => rfl⟩
  | (a, b) :: rs, r, h => by
    have hx := h (a, b) List.mem_cons_self
    have hrs : ∀ x ∈ rs, x.1 ≤ x.2 ∧ x.2 < 256 := fun x hx => h x (List.mem_cons_of_mem _ hx)
    simp only at hx
    have hh := head_runs rs hrs r
    obtain ⟨i1, i2⟩ := all_runs rs r hrs
    rcases Nat.lt_or_ge (a + 1) b with hab | hab
    · have e : runsT ((a, b) :: rs) ++ 93 :: r = sign cls a ++ (45 :: (sign cls b ++ (runsT rs ++ 93 :: r))) := by
        show (runT (a, b) ++ runsT rs) ++ 93 :: r = _
        rw [runT_more a b hab]
        simp
      have hp := pt_two a b (by omega) (by omega) hx.1 (runsT rs ++ 93 :: r)
      have e2 : List.drop ((sign cls a).length + 1 + (sign cls b).length) (sign cls a ++ (45 :: (sign cls b ++ (runsT rs ++ 93 :: r)))) = runsT rs ++ 93 :: r := by
        rw [← List.drop_drop, ← List.drop_drop, List.drop_left]
        simp
      rw [e, all_go cls (.inr rfl) _ (by rw [hp]), hp]
      simp only
      rw [e2]
      refine ⟨?_, fun m => ?_⟩
      · rw [i1]
        show _ = (runT (a, b) ++ runsT rs).length
        rw [runT_more a b hab]
        simp
        omega
      · rw [covers_cons, covers_cons, i2]
    · rcases Nat.lt_or_ge a b with h2 | h2
      · obtain rfl : b = a + 1 := by omega
        have e : runsT ((a, a + 1) :: rs) ++ 93 :: r = sign cls a ++ (sign cls (a + 1) ++ (runsT rs ++ 93 :: r)) := by
          show (runT (a, a + 1) ++ runsT rs) ++ 93 :: r = _
          rw [runT_pair a]
          simp
        have hp := pt_one a (by omega) (sign cls (a + 1) ++ (runsT rs ++ 93 :: r)) (head_signs _ (by omega) _).1
        have hq := pt_one (a + 1) (by omega) (runsT rs ++ 93 :: r) hh.1
        rw [e, all_go cls (.inr rfl) _ (by rw [hp]), hp]
        simp only [List.drop_left]
        rw [all_go cls (.inr rfl) _ (by rw [hq]), hq]
        simp only [List.drop_left]
        refine ⟨?_, fun m => ?_⟩
        · rw [i1]
          show _ = (runT (a, a + 1) ++ runsT rs).length
          rw [runT_pair a]
          simp
        · rw [covers_cons, covers_cons, covers_cons, i2, ← Bool.or_assoc]
          congr 1
          rw [Bool.eq_iff_iff]
          simp
          omega
      · obtain rfl : b = a := by omega
        have e : runsT ((b, b) :: rs) ++ 93 :: r = sign cls b ++ (runsT rs ++ 93 :: r) := by
          show (runT (b, b) ++ runsT rs) ++ 93 :: r = _
          rw [runT_one b]
          simp
        have hp := pt_one b (by omega) (runsT rs ++ 93 :: r) hh.1
        rw [e, all_go cls (.inr rfl) _ (by rw [hp]), hp]
        simp only [List.drop_left]
        refine ⟨?_, fun m => ?_⟩
        · rw [i1]
          show _ = (runT (b, b) ++ runsT rs).length
          rw [runT_one b]
          simp
        · rw [covers_cons, covers_cons, i2]

theorem clsT_eq (S : Nat → Bool) (h : isAll S = false) : clsT S = 91 :: (runsT (runsOf S) ++ [93]) := by
  unfold clsT
  rw [h]
  rfl

theorem uncls_back (S : Nat → Bool) (h : isAll S = false) (r : List UInt8) : (∀ m, m < 256 → (uncls (clsT S ++ r)).1 m = S m) ∧ (uncls (clsT S ++ r)).2 = ((clsT S).length, 0) := by
  have hg : ∀ x ∈ runsOf S, x.1 ≤ x.2 ∧ x.2 < 256 := fun x hx => (runs_good S).mem hx
  have e : clsT S ++ r = 91 :: (runsT (runsOf S) ++ 93 :: r) := by rw [clsT_eq S h]; simp
  have hh := (head_runs (runsOf S) hg r).2
  have hf : from_ (clsT S ++ r) = 1 := by
    unfold from_
    rw [e, if_neg]
    intro h2
    apply hh
    rw [List.head?_eq_getElem?]
    exact h2
  obtain ⟨a1, a2⟩ := all_runs (runsOf S) r hg
  have hd : (clsT S ++ r).drop 1 = runsT (runsOf S) ++ 93 :: r := by rw [e]; rfl
  have hE : ended cls (clsT S ++ r) (1 + (runsT (runsOf S)).length) = ((runsT (runsOf S)).length + 2, 0) := by
    unfold ended
    have e2 : (clsT S ++ r).drop (1 + (runsT (runsOf S)).length) = 93 :: r := by
      rw [e, ← List.drop_drop]
      simp
    rw [e2, if_pos (show (93 :: r).head? = some (UInt8.ofNat cls.last) from rfl)]
    congr 1
    omega
  have hl : (clsT S).length = (runsT (runsOf S)).length + 2 := by rw [clsT_eq S h]; simp
  unfold uncls
  rw [hf, hd, a1, hE, if_pos (by rw [e]; rfl), if_neg (by simp), hl]
  refine ⟨fun m hm => ?_, rfl⟩
  simp only
  rw [if_neg (by decide), a2 m, runs_covers S m hm]

/-! ### What is seen -/

/-- A byte stands nowhere but behind a backslash. -/
def Held (q : UInt8) (l : List UInt8) : Prop := ∀ i, l[i]? = some q → ∃ j, i = j + 1 ∧ l[j]? = some 92

theorem Held.nil (q : UInt8) : Held q [] := fun i h => by simp at h
theorem Held.append {q : UInt8} {l r : List UInt8} (h1 : Held q l) (h2 : Held q r) : Held q (l ++ r) := by
  intro i h
  rcases Nat.lt_or_ge i l.length with hi | hi
  · rw [List.getElem?_append_left hi] at h
    obtain ⟨j, rfl, hj⟩ := h1 i h
    exact ⟨j, rfl, by rw [List.getElem?_append_left (by omega)]; exact hj⟩
  · rw [List.getElem?_append_right hi] at h
    obtain ⟨j, hj, hq⟩ := h2 _ h
    refine ⟨l.length + j, by omega, ?_⟩
    rw [List.getElem?_append_right (by omega), show l.length + j - l.length = j by omega]
    exact hq
theorem Held.flat {α : Type} {q : UInt8} (f : α → List UInt8) : ∀ (l : List α), (∀ x ∈ l, Held q (f x)) → Held q (l.flatMap f)
  | [], _ => Held.nil q
  | x :: l, h => by
    rw [List.flatMap_cons]
    exact (h x List.mem_cons_self).append (Held.flat f l fun y hy => h y (List.mem_cons_of_mem _ hy))

def heldB (q : UInt8) (l : List UInt8) : Bool := (List.range l.length).all fun i => l[i]? != some q || (decide (1 ≤ i) && (l[i - 1]? == some 92))
theorem held_of {q : UInt8} {l : List UInt8} (h : heldB q l = true) : Held q l := by
  intro i hi
  have hlt : i < l.length := (List.getElem?_eq_some_iff.1 hi).1
  unfold heldB at h
  rw [List.all_eq_true] at h
  have := h i (List.mem_range.2 hlt)
  rw [hi] at this
  simp at this
  exact ⟨i - 1, by omega, this.2⟩

theorem held_lit : ∀ b, b < 256 → heldB 34 (sign lit b) = true := by decide +kernel
theorem held_cls : ∀ b, b < 256 → heldB 93 (sign cls b) = true := by decide +kernel
theorem held_sigs (s : List UInt8) : Held 34 (sigs s) := Held.flat _ s fun c _ => held_of (held_lit c.toNat c.toNat_lt)
theorem held_runs (rs : List (Nat × Nat)) (h : ∀ x ∈ rs, x.1 ≤ x.2 ∧ x.2 < 256) : Held 93 (runsT rs) := by
  refine Held.flat _ rs fun x hx => ?_
  have hb := h x hx
  unfold runT
  refine Held.append (Held.append (held_of (held_cls x.1 (by omega))) ?_) ?_
  · split
    · exact held_of (by decide)
    · exact Held.nil _
  · split
    · exact Held.nil _
    · exact held_of (held_cls x.2 (by omega))

def Seen (l : List UInt8) : Prop := ∀ c ∈ l, 32 ≤ c.toNat ∧ c.toNat ≤ 126
theorem seen_sign (p : Sp) (hp : Is p) (b : Nat) (hb : b < 256) : Seen (sign p b) := by
  have := sign_seen p hp b hb
  rw [List.all_eq_true] at this
  intro c hc
  have := this c hc
  simpa using this
theorem seen_lit (s : List UInt8) : Seen (litT s) := by
  intro c hc
  rw [litT_eq] at hc
  rcases List.mem_cons.1 hc with rfl | hc
  · decide
  · rcases List.mem_append.1 hc with hc | hc
    · obtain ⟨x, _, hx⟩ := List.mem_flatMap.1 hc
      exact seen_sign lit (.inl rfl) _ x.toNat_lt c hx
    · rw [List.mem_singleton.1 hc]
      decide
theorem seen_cls (S : Nat → Bool) : Seen (clsT S) := by
  cases hA : isAll S with
  | true =>
    unfold clsT
    rw [hA]
    intro c hc
    rw [List.mem_singleton.1 hc]
    decide
  | false =>
    rw [clsT_eq S hA]
    intro c hc
    rcases List.mem_cons.1 hc with rfl | hc
    · decide
    · rcases List.mem_append.1 hc with hc | hc
      · obtain ⟨x, hx, hc⟩ := List.mem_flatMap.1 hc
        have hb := (runs_good S).mem hx
        unfold runT at hc
        rcases List.mem_append.1 hc with hc | hc
        · rcases List.mem_append.1 hc with hc | hc
          · exact seen_sign cls (.inr rfl) _ (by omega) c hc
          · split at hc
            · rw [List.mem_singleton.1 hc]
              decide
            · cases hc
        · split at hc
          · cases hc
          · exact seen_sign cls (.inr rfl) _ (by omega) c hc
      · rw [List.mem_singleton.1 hc]
        decide

theorem ends_alone {q a z : UInt8} {m : List UInt8} (h : Held q m) (i : Nat) (h0 : 0 < i) (h1 : i < m.length + 1) (hq : (a :: (m ++ [z]))[i]? = some q) : (a :: (m ++ [z]))[i - 1]? = some 92 := by
  obtain ⟨k, rfl⟩ : ∃ k, i = k + 1 := ⟨i - 1, by omega⟩
  rw [List.getElem?_cons_succ, List.getElem?_append_left (by omega)] at hq
  obtain ⟨j, rfl, hj⟩ := h k hq
  rw [show j + 1 + 1 - 1 = j + 1 by omega, List.getElem?_cons_succ, List.getElem?_append_left (by omega)]
  exact hj
end Go.Proofs.YtkhokhmdiagckaaDoor.Qm

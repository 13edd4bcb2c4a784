/- A set's runs, made byte by byte. Of no program. -/
import Derived.Test.YtkhokhmdiagckaaDoorBset
namespace Go.Proofs.YtkhokhmdiagckaaDoor.Bset

/-- One byte more: the last run goes on, or a new one begins. -/
def addRun (rs : List (Nat × Nat)) (b : Nat) : List (Nat × Nat) :=
  match rs.getLast? with
  | some (a, c) => if (c + 1) % 256 = b then rs.dropLast ++ [(a, b)] else rs ++ [(b, b)]
  | none => [(b, b)]

/-- The runs of bytes that come one by one. -/
def runsL (l : List Nat) : List (Nat × Nat) := l.foldl addRun []

def runsOf (S : Nat → Bool) : List (Nat × Nat) := runsL (mem S)

theorem runsL_snoc (l : List Nat) (b : Nat) : runsL (l ++ [b]) = addRun (runsL l) b := by
  unfold runsL
  rw [List.foldl_append]
  rfl

theorem addRun_none (b : Nat) : addRun [] b = [(b, b)] := rfl

theorem addRun_on (rs : List (Nat × Nat)) (a c b : Nat) (h : (c + 1) % 256 = b) : addRun (rs ++ [(a, c)]) b = rs ++ [(a, b)] := by
  unfold addRun
  simp [h]

theorem addRun_new (rs : List (Nat × Nat)) (a c b : Nat) (h : (c + 1) % 256 ≠ b) : addRun (rs ++ [(a, c)]) b = rs ++ [(a, c)] ++ [(b, b)] := by
  unfold addRun
  simp [h]

theorem addRun_len (rs : List (Nat × Nat)) (b : Nat) : (addRun rs b).length ≤ rs.length + 1 := by
  rcases rs.eq_nil_or_concat with rfl | ⟨r, ⟨a, c⟩, rfl⟩
  · simp [addRun]
  · rw [List.concat_eq_append]
    by_cases h : (c + 1) % 256 = b
    · rw [addRun_on _ _ _ _ h]
      simp
    · rw [addRun_new _ _ _ _ h]
      simp

theorem fold_len : ∀ (l : List Nat) (acc : List (Nat × Nat)), (l.foldl addRun acc).length ≤ acc.length + l.length
  | [], _ => by simp
  | b :: l, acc => by
    have h1 := fold_len l (addRun acc b)
    have h2 := addRun_len acc b
    simp only [List.foldl_cons, List.length_cons]
    omega

theorem runsL_len (l : List Nat) : (runsL l).length ≤ l.length := by
  have := fold_len l []
  unfold runsL
  simpa using this


/-- What runs cover; how many bytes they have. -/
def covers (rs : List (Nat × Nat)) : Nat → Bool := fun m => rs.any fun p => decide (p.1 ≤ m) && decide (m ≤ p.2)
def sumR (rs : List (Nat × Nat)) : Int := (rs.map fun p => (p.2 : Int) - (p.1 : Int) + 1).sum

theorem covers_nil : covers [] = fun _ => false := rfl
theorem covers_snoc (rs : List (Nat × Nat)) (a c : Nat) : covers (rs ++ [(a, c)]) = fun m => covers rs m || (decide (a ≤ m) && decide (m ≤ c)) := by
  funext m
  unfold covers
  rw [List.any_append]
  simp
theorem sumR_snoc (rs : List (Nat × Nat)) (a c : Nat) : sumR (rs ++ [(a, c)]) = sumR rs + (c : Int) - (a : Int) + 1 := by
  unfold sumR
  rw [List.map_append, List.sum_append]
  simp
  omega

/-- Each run rises, ends below 256, and begins two behind the one ahead, or later. -/
def Good (rs : List (Nat × Nat)) : Prop := ∀ pre a c post, rs = pre ++ (a, c) :: post → a ≤ c ∧ c < 256 ∧ ∀ pre' a' c', pre = pre' ++ [(a', c')] → c' + 2 ≤ a

theorem Good.nil : Good [] := fun pre a c post h => by simp at h

theorem Good.snoc {rs : List (Nat × Nat)} {a c : Nat} (h : Good rs) (h1 : a ≤ c) (h2 : c < 256) (h3 : ∀ pre' a' c', rs = pre' ++ [(a', c')] → c' + 2 ≤ a) : Good (rs ++ [(a, c)]) := by
  intro pre x y post hp
  rcases post.eq_nil_or_concat with rfl | ⟨p2, z, rfl⟩
  · obtain ⟨e1, e2⟩ := List.append_inj' hp rfl
    subst e1
    cases e2
    exact ⟨h1, h2, h3⟩
  · rw [List.concat_eq_append, ← List.cons_append, ← List.append_assoc] at hp
    obtain ⟨e1, _⟩ := List.append_inj' hp rfl
    exact h pre x y p2 e1

theorem Good.init {rs : List (Nat × Nat)} {a c : Nat} (h : Good (rs ++ [(a, c)])) : Good rs := fun pre x y post hp => h pre x y (post ++ [(a, c)]) (by rw [hp]; simp)

theorem Good.last {rs : List (Nat × Nat)} {a c : Nat} (h : Good (rs ++ [(a, c)])) : a ≤ c ∧ c < 256 ∧ ∀ pre' a' c', rs = pre' ++ [(a', c')] → c' + 2 ≤ a := h rs a c [] rfl

theorem runs_inv (S : Nat → Bool) : ∀ q, q ≤ 256 → Good (runsL (upTo S q)) ∧ (∀ m, covers (runsL (upTo S q)) m = (S m && decide (m < q))) ∧ sumR (runsL (upTo S q)) = ((upTo S q).length : Nat) ∧
    ∀ rs a c, runsL (upTo S q) = rs ++ [(a, c)] → c < q
  | 0, _ => ⟨Good.nil, by intro m; simp [upTo, runsL, covers], by simp [upTo, runsL, sumR], by intro rs a c h; simp [upTo, runsL] at h⟩
  | q + 1, hq => by
    obtain ⟨i1, i2, i3, i4⟩ := runs_inv S q (by omega)
    rw [upTo_succ]
    cases hS : S q with
    | false =>
      rw [if_neg (by simp), List.append_nil]
      refine ⟨i1, fun m => ?_, i3, fun rs a c h => by have := i4 rs a c h; omega⟩
      rw [i2 m]
      by_cases hm : m = q
      · subst hm
        simp [hS]
      · have : (m < q + 1) ↔ m < q := by omega
        simp [this]
    | true =>
      rw [if_pos rfl, runsL_snoc, List.length_append]
      rcases (runsL (upTo S q)).eq_nil_or_concat with hr | ⟨rs, ⟨a, c⟩, hr⟩
      · rw [hr] at i1 i2 i3 ⊢
        rw [addRun_none]
        refine ⟨Good.snoc Good.nil (Nat.le_refl _) (by omega) (fun p _ _ h => by simp at h), fun m => ?_, ?_, ?_⟩
        · have h0 := i2 m
          simp only [covers, List.any_nil] at h0
          simp only [covers, List.any_cons, List.any_nil, Bool.or_false]
          by_cases hm : m = q
          · subst hm
            simp [hS]
          · have e : (decide (q ≤ m) && decide (m ≤ q)) = false := by simp; omega
            have e2 : (m < q + 1) ↔ m < q := by omega
            rw [e]
            simp only [e2]
            exact h0
        · simp [sumR] at i3 ⊢
          omega
        · intro rs a c h
          have := List.append_inj' (s₁ := []) h rfl
          obtain ⟨_, e⟩ := this
          cases e
          omega
      · rw [List.concat_eq_append] at hr
        have hc := i4 rs a c hr
        rw [hr] at i1 i2 i3
        rw [hr]
        by_cases hx : (c + 1) % 256 = q
        · have hcq : c + 1 = q := by omega
          rw [addRun_on _ _ _ _ hx]
          obtain ⟨g1, g2, g3⟩ := i1.last
          refine ⟨Good.snoc i1.init (by omega) (by omega) g3, fun m => ?_, ?_, ?_⟩
          · have h0 := i2 m
            rw [covers_snoc] at h0 ⊢
            simp only at h0 ⊢
            by_cases hm : m = q
            · subst hm
              have e : a ≤ m := by omega
              simp [hS, e]
            · have e1 : (m ≤ q) ↔ m ≤ c := by omega
              have e2 : (m < q + 1) ↔ m < q := by omega
              simp only [e1, e2]
              exact h0
          · rw [sumR_snoc] at i3 ⊢
            simp
            omega
          · intro rs' a' c' h
            obtain ⟨_, e⟩ := List.append_inj' h rfl
            cases e
            omega
        · rw [addRun_new _ _ _ _ hx]
          refine ⟨Good.snoc i1 (Nat.le_refl _) (by omega) ?_, fun m => ?_, ?_, ?_⟩
          · intro p a' c' h
            obtain ⟨_, e⟩ := List.append_inj' h rfl
            cases e
            omega
          · have h0 := i2 m
            rw [covers_snoc]
            simp only
            rw [h0]
            by_cases hm : m = q
            · subst hm
              simp [hS]
            · have e : (decide (q ≤ m) && decide (m ≤ q)) = false := by simp; omega
              have e2 : (m < q + 1) ↔ m < q := by omega
              rw [e]
              simp only [e2, Bool.or_false]
          · rw [sumR_snoc, i3]
            simp
          · intro rs' a' c' h
            obtain ⟨_, e⟩ := List.append_inj' h rfl
            cases e
            omega

theorem runs_good (S : Nat → Bool) : Good (runsOf S) := (runs_inv S 256 (Nat.le_refl _)).1
theorem runs_covers (S : Nat → Bool) : ∀ m, m < 256 → covers (runsOf S) m = S m := fun m hm => by
  have := (runs_inv S 256 (Nat.le_refl _)).2.1 m
  unfold runsOf mem
  rw [this]
  simp [hm]
theorem runs_sum (S : Nat → Bool) : sumR (runsOf S) = ((mem S).length : Nat) := (runs_inv S 256 (Nat.le_refl _)).2.2.1
theorem runs_len (S : Nat → Bool) : (runsOf S).length ≤ 256 := Nat.le_trans (runsL_len _) (upTo_len S 256)

theorem sumR_bound : ∀ (rs : List (Nat × Nat)), (∀ p ∈ rs, p.1 ≤ p.2 ∧ p.2 < 256) → 0 ≤ sumR rs ∧ sumR rs ≤ 256 * (rs.length : Int)
  | [], _ => by simp [sumR]
  | p :: rs, h => by
    obtain ⟨h1, h2⟩ := sumR_bound rs (fun q hq => h q (List.mem_cons_of_mem _ hq))
    have h3 := h p List.mem_cons_self
    have e : sumR (p :: rs) = (p.2 : Int) - (p.1 : Int) + 1 + sumR rs := by simp [sumR]
    have e2 : ((p :: rs).length : Int) = (rs.length : Int) + 1 := by simp
    rw [e, e2]
    omega

theorem Good.mem {rs : List (Nat × Nat)} (h : Good rs) {p : Nat × Nat} (hp : p ∈ rs) : p.1 ≤ p.2 ∧ p.2 < 256 := by
  obtain ⟨s, t, e⟩ := List.append_of_mem hp
  obtain ⟨h1, h2, _⟩ := h s p.1 p.2 t e
  exact ⟨h1, h2⟩

theorem sumR_head {rs pre post : List (Nat × Nat)} (h : Good rs) (e : rs = pre ++ post) (hl : rs.length ≤ 256) : 0 ≤ sumR pre ∧ sumR pre ≤ 65536 := by
  obtain ⟨h1, h2⟩ := sumR_bound pre (fun p hp => h.mem (by rw [e]; exact List.mem_append_left _ hp))
  have : pre.length ≤ rs.length := by rw [e]; simp
  omega
end Go.Proofs.YtkhokhmdiagckaaDoor.Bset

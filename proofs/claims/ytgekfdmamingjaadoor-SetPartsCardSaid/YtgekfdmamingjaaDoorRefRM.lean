/- A set's runs, one after the other by where they begin. Of no program. -/
import Derived.Test.YtgekfdmamingjaaDoorRunsM
namespace Go.Proofs.YtgekfdmamingjaaDoor.Bset

theorem good_after {rs : List (Nat × Nat)} (hg : Good rs) : ∀ (post pre : List (Nat × Nat)) (a c : Nat), rs = pre ++ (a, c) :: post → ∀ p ∈ post, c + 2 ≤ p.1
  | [], _, _, _, _, p, hp => by simp at hp
  | (a2, c2) :: post, pre, a, c, he, p, hp => by
    have he2 : rs = (pre ++ [(a, c)]) ++ (a2, c2) :: post := by rw [he]; simp
    obtain ⟨h1, _, h3⟩ := hg _ _ _ _ he2
    have h4 := h3 pre a c rfl
    rcases List.mem_cons.1 hp with rfl | hp2
    · exact h4
    · have := good_after hg post _ a2 c2 he2 p hp2
      omega

theorem good_before {rs pre post : List (Nat × Nat)} {a c : Nat} (hg : Good rs) (he : rs = pre ++ (a, c) :: post) : ∀ p ∈ pre, p.2 + 2 ≤ a := by
  intro p hp
  obtain ⟨s, t, rfl⟩ := List.append_of_mem hp
  obtain ⟨x, y⟩ := p
  exact good_after hg (t ++ (a, c) :: post) s x y (by rw [he]; simp) (a, c) (by simp)

theorem covers_mem {rs : List (Nat × Nat)} {m : Nat} (h : covers rs m = true) : ∃ p ∈ rs, p.1 ≤ m ∧ m ≤ p.2 := by
  unfold covers at h
  obtain ⟨p, hp, h2⟩ := List.any_eq_true.1 h
  exact ⟨p, hp, by simpa using h2⟩
theorem mem_covers {rs : List (Nat × Nat)} {m : Nat} {p : Nat × Nat} (hp : p ∈ rs) (h1 : p.1 ≤ m) (h2 : m ≤ p.2) : covers rs m = true := by
  unfold covers
  exact List.any_eq_true.2 ⟨p, hp, by simp [h1, h2]⟩

/-- The runs that begin below n, and the others. -/
structure RunInv (S : Nat → Bool) (n : Nat) (pre post : List (Nat × Nat)) : Prop where
  eq : runsOf S = pre ++ post
  lo : ∀ p ∈ pre, p.1 < n
  hi : ∀ p ∈ post, n ≤ p.1

theorem RunInv.begin (S : Nat → Bool) : RunInv S 0 [] (runsOf S) := ⟨rfl, fun p hp => by simp at hp, fun _ _ => Nat.zero_le _⟩

theorem RunInv.start {S : Nat → Bool} {n : Nat} {pre post : List (Nat × Nat)} (h : RunInv S n pre post) (hn : n < 256) (hS : S n = true) (h0 : n = 0 ∨ S (n - 1) = false) :
    ∃ c post', post = (n, c) :: post' ∧ n ≤ c ∧ c < 256 ∧ (∀ m, n ≤ m → m ≤ c → S m = true) ∧ (c = 255 ∨ S (c + 1) = false) ∧ RunInv S (n + 1) (pre ++ [(n, c)]) post' := by
  have hg := runs_good S
  have hc := runs_covers S
  obtain ⟨p, hp, hp1, hp2⟩ := covers_mem ((hc n hn).trans hS)
  rw [h.eq] at hp
  have hpost : p ∈ post := by
    rcases List.mem_append.1 hp with h1 | h1
    · exfalso
      have hlt := h.lo p h1
      have hin : covers (runsOf S) (n - 1) = true := mem_covers (by rw [h.eq]; exact List.mem_append_left _ h1) (by omega) (by omega)
      rw [hc (n - 1) (by omega)] at hin
      rcases h0 with h0 | h0
      · omega
      · rw [h0] at hin
        cases hin
    · exact h1
  cases post with
  | nil => simp at hpost
  | cons q post' =>
    obtain ⟨a, c⟩ := q
    have hq := h.hi (a, c) (by simp)
    have hqa : a = n := by
      rcases List.mem_cons.1 hpost with h1 | h1
      · rw [h1] at hp1
        simp only at hp1 hq
        omega
      · have h2 := good_after hg post' pre a c h.eq p h1
        obtain ⟨h3, _, _⟩ := hg pre a c post' h.eq
        simp only at hq
        omega
    subst hqa
    obtain ⟨g1, g2, _⟩ := hg pre a c post' h.eq
    have hmem : (a, c) ∈ runsOf S := by rw [h.eq]; simp
    refine ⟨c, post', rfl, g1, g2, fun m h1 h2 => ?_, ?_, ?_⟩
    · rw [← hc m (by omega)]
      exact mem_covers hmem h1 h2
    · by_cases h255 : c = 255
      · exact .inl h255
      · right
        cases hs : S (c + 1) with
        | false => rfl
        | true =>
          exfalso
          obtain ⟨p', hp', q1, q2⟩ := covers_mem ((hc (c + 1) (by omega)).trans hs)
          rw [h.eq] at hp'
          rcases List.mem_append.1 hp' with h1 | h1
          · have := good_before hg h.eq p' h1
            omega
          · rcases List.mem_cons.1 h1 with rfl | h2
            · simp only at q2
              omega
            · have := good_after hg post' pre a c h.eq p' h2
              omega
    · refine ⟨by rw [h.eq]; simp, fun p hp => ?_, fun p hp => ?_⟩
      · rcases List.mem_append.1 hp with h1 | h1
        · have := h.lo p h1
          omega
        · rw [List.mem_singleton.1 h1]
          exact Nat.lt_succ_self _
      · have := good_after hg post' pre a c h.eq p hp
        omega

theorem RunInv.skip {S : Nat → Bool} {n : Nat} {pre post : List (Nat × Nat)} (h : RunInv S n pre post) (hn : n < 256) (h0 : S n = false ∨ (0 < n ∧ S (n - 1) = true)) : RunInv S (n + 1) pre post := by
  have hg := runs_good S
  have hc := runs_covers S
  refine ⟨h.eq, fun p hp => by have := h.lo p hp; omega, fun p hp => ?_⟩
  have h1 := h.hi p hp
  rcases Nat.lt_or_eq_of_le h1 with h2 | h2
  · exact h2
  · exfalso
    obtain ⟨s, t, rfl⟩ := List.append_of_mem hp
    obtain ⟨a, c⟩ := p
    have he : runsOf S = (pre ++ s) ++ (a, c) :: t := by rw [h.eq]; simp
    obtain ⟨g1, g2, _⟩ := hg _ a c t he
    simp only at h2
    subst h2
    have hmem : (n, c) ∈ runsOf S := by rw [he]; simp
    have hSn : S n = true := by rw [← hc n hn]; exact mem_covers hmem (Nat.le_refl _) g1
    rcases h0 with h0 | ⟨hp0, h0⟩
    · rw [h0] at hSn
      cases hSn
    · obtain ⟨p', hp', q1, q2⟩ := covers_mem ((hc (n - 1) (by omega)).trans h0)
      rw [he] at hp'
      rcases List.mem_append.1 hp' with h1 | h1
      · have := good_before hg he p' h1
        omega
      · rcases List.mem_cons.1 h1 with rfl | h2
        · simp only at q1
          omega
        · have := good_after hg t _ n c he p' h2
          omega

theorem RunInv.stop {S : Nat → Bool} {pre post : List (Nat × Nat)} (h : RunInv S 256 pre post) : pre = runsOf S := by
  cases post with
  | nil => rw [h.eq, List.append_nil]
  | cons q post =>
    exfalso
    obtain ⟨a, c⟩ := q
    obtain ⟨g1, g2, _⟩ := runs_good S pre a c post h.eq
    have := h.hi (a, c) (by simp)
    simp only at this
    omega
theorem RunInv.len {S : Nat → Bool} {n : Nat} {pre post : List (Nat × Nat)} (h : RunInv S n pre post) : pre.length ≤ 256 := by
  have := runs_len S
  rw [h.eq, List.length_append] at this
  omega
theorem RunInv.len_lt {S : Nat → Bool} {n c : Nat} {pre post : List (Nat × Nat)} (h : RunInv S n pre ((n, c) :: post)) : pre.length + 1 ≤ 256 := by
  have := runs_len S
  rw [h.eq, List.length_append, List.length_cons] at this
  omega
end Go.Proofs.YtgekfdmamingjaaDoor.Bset

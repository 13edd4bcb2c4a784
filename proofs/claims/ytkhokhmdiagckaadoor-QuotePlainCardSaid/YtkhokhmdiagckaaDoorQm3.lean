/- What is read is not shorter than what is written of it; a ^ more, or less. Of no program. -/
import Derived.Test.YtkhokhmdiagckaaDoorQm2
namespace Go.Proofs.YtkhokhmdiagckaaDoor.Qm
open Bset

/-! ### What a set's text costs, byte by byte -/

def sg (n : Nat) : Nat := (sign cls n).length
theorem sg_pos {n : Nat} (h : n < 256) : 1 ≤ sg n := (sign_len cls (.inr rfl) n h).1

/-- What a byte adds: a run's first, and its last one, their signs; the second one of three or more the dash. -/
def fc (S : Nat → Bool) (q n : Nat) : Nat :=
  if S n = true then
    if n = 0 ∨ S (n - 1) = false then sg n
    else if ¬ (S (n + 1) = true ∧ n + 1 < q) then sg n
    else if n = 1 ∨ S (n - 2) = false then 1 else 0
  else 0

def sumTo (f : Nat → Nat) : Nat → Nat
  | 0 => 0
  | m + 1 => sumTo f m + f m

theorem sumTo_congr {f g : Nat → Nat} : ∀ {m : Nat}, (∀ n, n < m → f n = g n) → sumTo f m = sumTo g m
  | 0, _ => rfl
  | m + 1, h => by rw [sumTo, sumTo, sumTo_congr (fun n hn => h n (by omega)), h m (by omega)]
theorem sumTo_le {f g : Nat → Nat} : ∀ {m : Nat}, (∀ n, n < m → f n ≤ g n) → sumTo f m ≤ sumTo g m
  | 0, _ => Nat.le_refl _
  | m + 1, h => by
    have := sumTo_le (m := m) (fun n hn => h n (by omega))
    have := h m (by omega)
    rw [sumTo, sumTo]
    omega
theorem sumTo_add (f g : Nat → Nat) : ∀ (m : Nat), sumTo (fun n => f n + g n) m = sumTo f m + sumTo g m
  | 0 => rfl
  | m + 1 => by
    rw [sumTo, sumTo, sumTo, sumTo_add f g m]
    omega
theorem sumTo_one (a v : Nat) : ∀ (m : Nat), sumTo (fun n => if n = a then v else 0) m ≤ v ∧ (m ≤ a → sumTo (fun n => if n = a then v else 0) m = 0)
  | 0 => ⟨Nat.zero_le _, fun _ => rfl⟩
  | m + 1 => by
    obtain ⟨h1, h2⟩ := sumTo_one a v m
    rw [sumTo]
    by_cases h : m = a
    · have := h2 (by omega)
      rw [this, if_pos h]
      exact ⟨by omega, fun h3 => by omega⟩
    · rw [if_neg h]
      exact ⟨by omega, fun h3 => by rw [h2 (by omega)]⟩

theorem last_inv (S : Nat → Bool) : ∀ q, q ≤ 256 → (runsL (upTo S q) = [] → ∀ m, m < q → S m = false) ∧
    ∀ rs a c, runsL (upTo S q) = rs ++ [(a, c)] → a ≤ c ∧ c < q ∧ (∀ m, a ≤ m → m ≤ c → S m = true) ∧ (a = 0 ∨ S (a - 1) = false) ∧ (∀ m, c < m → m < q → S m = false)
  | 0, _ => ⟨fun _ m h => by omega, fun rs a c h => by simp [upTo, runsL] at h⟩
  | q + 1, hq => by
    obtain ⟨i1, i2⟩ := last_inv S q (by omega)
    rw [upTo_succ]
    cases hS : S q with
    | false =>
      rw [if_neg (by simp), List.append_nil]
      refine ⟨fun h m hm => ?_, fun rs a c h => ?_⟩
      · by_cases e : m = q
        · rw [e]; exact hS
        · exact i1 h m (by omega)
      · obtain ⟨h1, h2, h3, h4, h5⟩ := i2 rs a c h
        refine ⟨h1, by omega, h3, h4, fun m hm hm2 => ?_⟩
        by_cases e : m = q
        · rw [e]; exact hS
        · exact h5 m hm (by omega)
    | true =>
      rw [if_pos rfl, runsL_snoc]
      rcases (runsL (upTo S q)).eq_nil_or_concat with hr | ⟨rs, ⟨a, c⟩, hr⟩
      · have h0 := i1 hr
        rw [hr, addRun_none]
        refine ⟨fun h => by simp at h, fun rs a c h => ?_⟩
        obtain ⟨_, e⟩ := List.append_inj' (s₁ := []) h rfl
        cases e
        refine ⟨Nat.le_refl _, by omega, fun m h1 h2 => by rw [show m = q by omega]; exact hS, ?_, fun m h1 h2 => by omega⟩
        by_cases e : q = 0
        · exact .inl e
        · exact .inr (h0 _ (by omega))
      · rw [List.concat_eq_append] at hr
        obtain ⟨h1, h2, h3, h4, h5⟩ := i2 rs a c hr
        rw [hr]
        by_cases hx : (c + 1) % 256 = q
        · have hcq : c + 1 = q := by omega
          rw [addRun_on _ _ _ _ hx]
          refine ⟨fun h => by simp at h, fun rs' a' c' h => ?_⟩
          obtain ⟨_, e⟩ := List.append_inj' h rfl
          cases e
          refine ⟨by omega, by omega, fun m m1 m2 => ?_, h4, fun m m1 m2 => by omega⟩
          by_cases e : m = q
          · rw [e]; exact hS
          · exact h3 m m1 (by omega)
        · rw [addRun_new _ _ _ _ hx]
          refine ⟨fun h => by simp at h, fun rs' a' c' h => ?_⟩
          obtain ⟨_, e⟩ := List.append_inj' h rfl
          cases e
          exact ⟨Nat.le_refl _, by omega, fun m m1 m2 => by rw [show m = q by omega]; exact hS, .inr (h5 _ (by omega) (by omega)), fun m m1 m2 => by omega⟩

theorem runsT_snoc (rs : List (Nat × Nat)) (x : Nat × Nat) : (runsT (rs ++ [x])).length = (runsT rs).length + (runT x).length := by
  simp [runsT]
theorem runT_len (a b : Nat) : (runT (a, b)).length = sg a + (if a + 1 < b then 1 else 0) + (if b = a then 0 else sg b) := by
  unfold runT sg
  simp only [List.length_append]
  split <;> split <;> rfl

/-- A set's text is as long as its bytes cost. -/
theorem cost_eq (S : Nat → Bool) : ∀ q, q ≤ 256 → (runsT (runsL (upTo S q))).length = sumTo (fc S q) q
  | 0, _ => rfl
  | q + 1, hq => by
    have ih := cost_eq S q (by omega)
    obtain ⟨i1, i2⟩ := last_inv S q (by omega)
    rw [upTo_succ, sumTo]
    cases hS : S q with
    | false =>
      rw [if_neg (by simp), List.append_nil, ih]
      have e1 : fc S (q + 1) q = 0 := by unfold fc; rw [if_neg (by rw [hS]; simp)]
      rw [e1]
      refine sumTo_congr fun n hn => ?_
      have e2 : (S (n + 1) = true ∧ n + 1 < q) ↔ (S (n + 1) = true ∧ n + 1 < q + 1) := by
        constructor
        · rintro ⟨h1, h2⟩; exact ⟨h1, by omega⟩
        · rintro ⟨h1, h2⟩
          refine ⟨h1, ?_⟩
          by_cases e : n + 1 = q
          · rw [e, hS] at h1; cases h1
          · omega
      unfold fc
      simp only [e2]
    | true =>
      rw [if_pos rfl, runsL_snoc]
      have last : fc S (q + 1) q = sg q := by
        unfold fc
        rw [if_pos hS]
        split
        · rfl
        · rw [if_pos (by omega)]
      rw [last]
      by_cases hp : q = 0 ∨ S (q - 1) = false
      · have e0 : sumTo (fc S (q + 1)) q = sumTo (fc S q) q := by
          refine sumTo_congr fun n hn => ?_
          by_cases e : n + 1 = q
          · have : S n = false := by
              rcases hp with hp | hp
              · omega
              · rw [show n = q - 1 by omega]; exact hp
            unfold fc
            rw [if_neg (by rw [this]; simp), if_neg (by rw [this]; simp)]
          · have e2 : (n + 1 < q) ↔ (n + 1 < q + 1) := by omega
            unfold fc
            simp only [e2]
        rw [e0, ← ih]
        rcases (runsL (upTo S q)).eq_nil_or_concat with hr | ⟨rs, ⟨a, c⟩, hr⟩
        · rw [hr, addRun_none]
          show (runsT ([] ++ [(q, q)])).length = _
          rw [runsT_snoc, runT_len]
          simp
        · rw [List.concat_eq_append] at hr
          obtain ⟨h1, h2, h3, _, _⟩ := i2 rs a c hr
          have hx : (c + 1) % 256 ≠ q := by
            intro hx
            have e : c = q - 1 := by omega
            have := h3 c h1 (Nat.le_refl _)
            rcases hp with hp | hp
            · omega
            · rw [e, hp] at this; cases this
          rw [hr, addRun_new _ _ _ _ hx, runsT_snoc, runT_len]
          simp
      · obtain ⟨r, rfl⟩ : ∃ r, q = r + 1 := ⟨q - 1, by omega⟩
        have hr1 : S r = true := by
          cases h : S r with
          | true => rfl
          | false => exact absurd (.inr (by simpa using h)) hp
        rcases (runsL (upTo S (r + 1))).eq_nil_or_concat with hr | ⟨rs, ⟨a, c⟩, hr⟩
        · rw [i1 hr r (by omega)] at hr1
          cases hr1
        · rw [List.concat_eq_append] at hr
          obtain ⟨h1, h2, h3, h4, h5⟩ := i2 rs a c hr
          obtain rfl : c = r := by
            by_cases e : c = r
            · exact e
            · rw [h5 r (by omega) (by omega)] at hr1
              cases hr1
          rw [hr, addRun_on _ _ _ _ (by omega), runsT_snoc, runT_len]
          rw [hr, runsT_snoc, runT_len, sumTo] at ih
          rw [sumTo]
          have e0 : sumTo (fc S (c + 1 + 1)) c = sumTo (fc S (c + 1)) c := by
            refine sumTo_congr fun n hn => ?_
            have e2 : (n + 1 < c + 1) ↔ (n + 1 < c + 1 + 1) := by omega
            unfold fc
            simp only [e2]
          have e1 : fc S (c + 1) c = sg c := by
            unfold fc
            rw [if_pos hr1]
            split
            · rfl
            · rw [if_pos (by omega)]
          rw [e1] at ih
          rw [e0]
          have hn1 : ¬ (c + 1 = a) := by omega
          rw [if_neg hn1]
          rcases Nat.lt_trichotomy (a + 1) c with hac | hac | hac
          · have : fc S (c + 1 + 1) c = 0 := by
              unfold fc
              have s1 := h3 (c - 1) (by omega) (by omega)
              have s2 := h3 (c - 2) (by omega) (by omega)
              rw [if_pos hr1, if_neg (by rw [s1]; simp; omega), if_neg (by rw [hS]; simp), if_neg (by rw [s2]; simp; omega)]
            rw [this]
            rw [if_pos (by omega), if_neg (by omega)] at ih
            rw [if_pos (by omega)]
            omega
          · have : fc S (c + 1 + 1) c = 1 := by
              unfold fc
              have s1 := h3 (c - 1) (by omega) (by omega)
              have s2 : c = 1 ∨ S (c - 2) = false := by
                rcases h4 with h4 | h4
                · exact .inl (by omega)
                · exact .inr (by rw [show c - 2 = a - 1 by omega]; exact h4)
              rw [if_pos hr1, if_neg (by rw [s1]; simp; omega), if_neg (by rw [hS]; simp), if_pos s2]
            rw [this]
            rw [if_neg (by omega), if_neg (by omega)] at ih
            rw [if_pos (by omega)]
            omega
          · obtain rfl : c = a := by omega
            have : fc S (c + 1 + 1) c = sg c := by
              unfold fc
              rw [if_pos hr1, if_pos h4]
            rw [this]
            rw [if_neg (by omega), if_pos rfl] at ih
            rw [if_neg (by omega)]
            omega

/-! ### Parts cost no less than what they come to -/

def iv (x : Nat × Nat) : Nat → Bool := fun m => decide (x.1 ≤ m) && decide (m ≤ x.2)

theorem fc_mono {S I : Nat → Bool} (h : ∀ m, I m = true → S m = true) (q n : Nat) (hn : n < 256) (hI : I n = true) : fc S q n ≤ fc I q n := by
  have hf : ∀ m, S m = false → I m = false := fun m hm => by
    cases e : I m with
    | false => rfl
    | true => rw [h m e] at hm; cases hm
  have hp := sg_pos hn
  unfold fc
  rw [if_pos (h n hI), if_pos hI]
  by_cases h1 : n = 0 ∨ S (n - 1) = false
  · rw [if_pos h1, if_pos (h1.imp id (hf _))]
    exact Nat.le_refl _
  · rw [if_neg h1]
    by_cases h2 : S (n + 1) = true ∧ n + 1 < q
    · rw [if_neg (fun h => h h2)]
      by_cases h3 : n = 1 ∨ S (n - 2) = false
      · rw [if_pos h3]
        split
        · exact hp
        · split
          · exact hp
          · rw [if_pos (h3.imp id (hf _))]
            exact Nat.le_refl _
      · rw [if_neg h3]
        exact Nat.zero_le _
    · rw [if_pos h2]
      split
      · exact Nat.le_refl _
      · rw [if_pos (fun h4 => h2 ⟨h _ h4.1, h4.2⟩)]
        exact Nat.le_refl _

theorem iv_cost (a b : Nat) (_hab : a ≤ b) (hb : b < 256) : sumTo (fc (iv (a, b)) 256) 256 ≤ (runT (a, b)).length := by
  have h1 : sumTo (fc (iv (a, b)) 256) 256 ≤ sumTo (fun n => (if n = a then sg a else 0) + ((if n = a + 1 then (if a + 1 < b then 1 else 0) else 0) + (if n = b then (if b = a then 0 else sg b) else 0))) 256 := by
    refine sumTo_le fun n hn => ?_
    have yes : ∀ m, iv (a, b) m = true ↔ (a ≤ m ∧ m ≤ b) := fun m => by simp [iv]
    have no : ∀ m, iv (a, b) m = false ↔ ¬ (a ≤ m ∧ m ≤ b) := fun m => by rw [← yes m]; simp
    unfold fc
    simp only [yes, no]
    by_cases e1 : n = a
    · have h1 := congrArg sg e1
      repeat' split
      all_goals omega
    · by_cases e2 : n = b
      · have h1 := congrArg sg e2
        repeat' split
        all_goals omega
      · repeat' split
        all_goals omega
  rw [sumTo_add, sumTo_add] at h1
  have k1 := (sumTo_one a (sg a) 256).1
  have k2 := (sumTo_one (a + 1) (if a + 1 < b then 1 else 0) 256).1
  have k3 := (sumTo_one b (if b = a then 0 else sg b) 256).1
  rw [runT_len]
  omega

theorem le_total {α : Type} (f : α → Nat) : ∀ (l : List α) (x : α), x ∈ l → f x ≤ (l.map f).sum
  | [], _, h => by cases h
  | y :: l, x, h => by
    rw [List.map_cons, List.sum_cons]
    rcases List.mem_cons.1 h with rfl | h
    · omega
    · have := le_total f l x h
      omega

theorem parts_cost : ∀ (ps : List (Nat × Nat)), (∀ x ∈ ps, x.1 ≤ x.2 ∧ x.2 < 256) → sumTo (fun n => (ps.map fun x => fc (iv x) 256 n).sum) 256 ≤ (runsT ps).length
  | [], _ => by
    have : sumTo (fun n => (([] : List (Nat × Nat)).map fun x => fc (iv x) 256 n).sum) 256 ≤ sumTo (fun _ => 0) 256 := sumTo_le fun n _ => Nat.le_refl _
    have h0 : ∀ m, sumTo (fun _ => 0) m = 0 := by
      intro m
      induction m with
      | zero => rfl
      | succ m ih => rw [sumTo, ih]
    rw [h0] at this
    omega
  | x :: ps, h => by
    have ih := parts_cost ps fun y hy => h y (List.mem_cons_of_mem _ hy)
    have hx := iv_cost x.1 x.2 (h x List.mem_cons_self).1 (h x List.mem_cons_self).2
    have e : sumTo (fun n => ((x :: ps).map fun x => fc (iv x) 256 n).sum) 256 = sumTo (fc (iv x) 256) 256 + sumTo (fun n => (ps.map fun x => fc (iv x) 256 n).sum) 256 := by
      rw [← sumTo_add]
      refine sumTo_congr fun n _ => ?_
      rw [List.map_cons, List.sum_cons]
    have e2 : (runsT (x :: ps)).length = (runT x).length + (runsT ps).length := by simp [runsT]
    have hx' : sumTo (fc (iv x) 256) 256 ≤ (runT x).length := hx
    rw [e, e2]
    omega

/-- The runs of what parts come to are no longer than the parts. -/
theorem runs_short (ps : List (Nat × Nat)) (h : ∀ x ∈ ps, x.1 ≤ x.2 ∧ x.2 < 256) : (runsT (runsOf (covers ps))).length ≤ (runsT ps).length := by
  have h1 : (runsT (runsOf (covers ps))).length = sumTo (fc (covers ps) 256) 256 := cost_eq (covers ps) 256 (Nat.le_refl _)
  rw [h1]
  refine Nat.le_trans (sumTo_le fun n hn => ?_) (parts_cost ps h)
  cases hc : covers ps n with
  | false =>
    unfold fc
    rw [if_neg (by rw [hc]; simp)]
    exact Nat.zero_le _
  | true =>
    unfold covers at hc
    obtain ⟨x, hx, hn2⟩ := List.any_eq_true.1 hc
    refine Nat.le_trans (fc_mono (I := iv x) (fun m hm => ?_) 256 n hn hn2) (le_total (fun x => fc (iv x) 256 n) ps x hx)
    exact List.any_eq_true.2 ⟨x, hx, hm⟩

/-! ### What is read -/

theorem pt_short_lit (l : List UInt8) (h : (pt lit l).2.2.2 = true) : (sign lit (pt lit l).1).length ≤ (pt lit l).2.2.1 := by
  have h1 := rd_le lit (.inl rfl) l
  unfold pt at h ⊢
  rw [if_neg (by simp [lit])] at h ⊢
  exact (h1.2 h).2.2
theorem pt_short_cls (l : List UInt8) (h : (pt cls l).2.2.2 = true) : (runT ((pt cls l).1, (pt cls l).2.1)).length ≤ (pt cls l).2.2.1 := by
  have h1 := rd_le cls (.inr rfl) l
  have h2 := rd_le cls (.inr rfl) (l.drop ((rd cls l).2.1 + 1))
  rw [runT_len]
  unfold pt at h ⊢
  split
  · rename_i hc
    rw [if_pos hc] at h
    split
    · rename_i hd
      rw [if_pos hd] at h
      cases h
    · rename_i hd
      rw [if_neg hd] at h
      simp only at h ⊢
      have k1 := (h1.2 hc.1).2.2
      have k2 := (h2.2 h).2.2
      unfold sg
      split <;> split <;> omega
  · rename_i hc
    rw [if_neg hc] at h
    simp only at h ⊢
    have k1 := (h1.2 h).2.2
    unfold sg
    rw [if_neg (by omega), if_pos trivial]
    omega

def sigsN (ps : List (Nat × Nat)) : List UInt8 := ps.flatMap fun x => sign lit x.1
theorem all_short_lit : ∀ (n : Nat) (l : List UInt8), l.length ≤ n → (sigsN (all lit l).1).length ≤ (all lit l).2
  | n, l, hn => by
    by_cases h : (pt lit l).2.2.2 = true
    · have h1 := (pt_le lit (.inl rfl) l).2 h
      have h2 := (pt_le lit (.inl rfl) l).1
      have h3 := pt_short_lit l h
      match n with
      | 0 => omega
      | n + 1 =>
        have ih := all_short_lit n (l.drop (pt lit l).2.2.1) (by rw [List.length_drop]; omega)
        rw [all_go lit (.inl rfl) l h]
        simp only [sigsN, List.flatMap_cons, List.length_append] at ih ⊢
        omega
    · rw [all_end lit l (by simpa using h)]
      exact Nat.le_refl _
theorem all_short_cls : ∀ (n : Nat) (l : List UInt8), l.length ≤ n → (runsT (all cls l).1).length ≤ (all cls l).2
  | n, l, hn => by
    by_cases h : (pt cls l).2.2.2 = true
    · have h1 := (pt_le cls (.inr rfl) l).2 h
      have h2 := (pt_le cls (.inr rfl) l).1
      have h3 := pt_short_cls l h
      match n with
      | 0 => omega
      | n + 1 =>
        have ih := all_short_cls n (l.drop (pt cls l).2.2.1) (by rw [List.length_drop]; omega)
        rw [all_go cls (.inr rfl) l h]
        simp only [runsT, List.flatMap_cons, List.length_append] at ih ⊢
        omega
    · rw [all_end cls l (by simpa using h)]
      exact Nat.le_refl _

theorem ended_ok (p : Sp) (t : List UInt8) (k : Nat) (h : (ended p t k).2 = 0) : (t.drop k).head? = some (UInt8.ofNat p.last) ∧ ended p t k = (k + 1, 0) := by
  unfold ended at h ⊢
  split
  · rename_i h1
    exact ⟨h1, rfl⟩
  · rename_i h1
    rw [if_neg h1] at h
    unfold fau at h
    simp only at h
    split at h <;> cases h
theorem ended_bad (p : Sp) (hp : Is p) (t : List UInt8) (k : Nat) (hk : k ≤ t.length) (h : (ended p t k).2 ≠ 0) : (ended p t k).1 ≤ t.length := by
  unfold ended at h ⊢
  split
  · rename_i h1
    rw [if_pos h1] at h
    exact absurd rfl h
  · have := (pt_le p hp (t.drop k)).1
    rw [List.length_drop] at this
    simp only
    omega

theorem unlit_short (t : List UInt8) (h : (unlit t).2.2 = 0) : (litT (unlit t).1).length ≤ (unlit t).2.1 ∧ (unlit t).1.length ≤ 255 := by
  have hs := all_short_lit _ (t.drop 1) (Nat.le_refl _)
  obtain ⟨h1, -, -, -⟩ := all_ok lit (.inl rfl) _ (t.drop 1) (Nat.le_refl _)
  unfold unlit at h ⊢
  split
  · rename_i ht
    rw [if_pos ht] at h
    split
    · rename_i he
      rw [if_pos he] at h
      exact absurd h he
    · rename_i he
      rw [if_neg he] at h
      split
      · rename_i hl
        rw [if_pos hl] at h
        cases h
      · rename_i hl
        have e := (ended_ok lit t _ (Decidable.not_not.1 he)).2
        rw [e, litT_len]
        simp only [List.length_map]
        refine ⟨?_, by omega⟩
        have e2 : sigs ((all lit (t.drop 1)).1.map fun x => UInt8.ofNat x.1) = sigsN (all lit (t.drop 1)).1 := by
          unfold sigs sigsN
          rw [List.flatMap_map]
          have : ∀ ps : List (Nat × Nat), (∀ x ∈ ps, x.1 ≤ x.2 ∧ x.2 < 256) → (ps.flatMap fun x => sign lit (UInt8.ofNat x.1).toNat) = ps.flatMap fun x => sign lit x.1 := by
            intro ps
            induction ps with
            | nil => intro _; rfl
            | cons x ps ih =>
              intro hb
              have := hb x List.mem_cons_self
              rw [List.flatMap_cons, List.flatMap_cons, u8 (by omega), ih fun y hy => hb y (List.mem_cons_of_mem _ hy)]
          exact this _ h1
        rw [e2]
        omega
  · rename_i ht
    rw [if_neg ht] at h
    unfold fau at h
    simp only at h
    split at h <;> cases h

theorem from_le (t : List UInt8) (h : t.head? = some 91) : from_ t ≤ t.length := by
  unfold from_
  split
  · rename_i h1
    have := (List.getElem?_eq_some_iff.1 h1).1
    omega
  · cases t with
    | nil => cases h
    | cons => simp

theorem uncls_bad (t : List UInt8) (h : (uncls t).2.2 ≠ 0) : (uncls t).1 = (fun _ => false) ∧ (uncls t).2.1 ≤ t.length := by
  have ha := (all_ok cls (.inr rfl) _ (t.drop (from_ t)) (Nat.le_refl _)).2.1
  rw [List.length_drop] at ha
  unfold uncls at h ⊢
  split
  · rename_i ht
    have := from_le t ht
    rw [if_pos ht] at h
    split
    · rename_i he
      exact ⟨rfl, ended_bad cls (.inr rfl) t _ (by omega) he⟩
    · rename_i he
      rw [if_neg he] at h
      exact absurd rfl h
  · exact ⟨rfl, Nat.zero_le _⟩

/-- Where a class is read. -/
structure Read (t : List UInt8) : Prop where
  head : t.head? = some 91
  stop : (ended cls t (from_ t + (all cls (t.drop (from_ t))).2)) = (from_ t + (all cls (t.drop (from_ t))).2 + 1, 0)
  close : (t.drop (from_ t + (all cls (t.drop (from_ t))).2)).head? = some 93
  len : (uncls t).2 = (from_ t + (all cls (t.drop (from_ t))).2 + 1, 0)
  set : (uncls t).1 = fun n => if from_ t = 2 then !covers (all cls (t.drop (from_ t))).1 n else covers (all cls (t.drop (from_ t))).1 n

theorem read_of {t : List UInt8} (h0 : t.head? = some 91) (he : (ended cls t (from_ t + (all cls (t.drop (from_ t))).2)).2 = 0) : Read t := by
  obtain ⟨h1, h2⟩ := ended_ok cls t _ he
  have e : uncls t = (fun n => if from_ t = 2 then !covers (all cls (t.drop (from_ t))).1 n else covers (all cls (t.drop (from_ t))).1 n, from_ t + (all cls (t.drop (from_ t))).2 + 1, 0) := by
    unfold uncls
    rw [if_pos h0, if_neg (fun h => h he), h2]
  exact ⟨h0, h2, h1, by rw [e], by rw [e]⟩
theorem uncls_ok {t : List UInt8} (h : (uncls t).2.2 = 0) : Read t := by
  by_cases h0 : t.head? = some 91
  · refine read_of h0 ?_
    unfold uncls at h
    rw [if_pos h0] at h
    split at h
    · exact h
    · rename_i he
      exact Decidable.not_not.1 he
  · unfold uncls at h
    rw [if_neg h0] at h
    unfold fau at h
    simp only at h
    split at h <;> cases h

theorem Read.bound {t : List UInt8} (h : Read t) : 2 ≤ (uncls t).2.1 ∧ (uncls t).2.1 ≤ t.length ∧ t[(uncls t).2.1 - 1]? = some 93 := by
  have hc := h.close
  rw [h.len]
  simp only
  have hf : 1 ≤ from_ t := by unfold from_; split <;> omega
  rw [List.head?_eq_getElem?, List.getElem?_drop, Nat.add_zero] at hc
  have := (List.getElem?_eq_some_iff.1 hc).1
  exact ⟨by omega, by omega, by rw [Nat.add_sub_cancel]; exact hc⟩

theorem Read.short {t : List UInt8} (h : Read t) (h1 : t[1]? ≠ some 94) : (clsT (uncls t).1).length ≤ (uncls t).2.1 := by
  have hf : from_ t = 1 := by unfold from_; rw [if_neg h1]
  have hb := h.bound
  have hs := all_short_cls _ (t.drop 1) (Nat.le_refl _)
  obtain ⟨ho, -, -, -⟩ := all_ok cls (.inr rfl) _ (t.drop 1) (Nat.le_refl _)
  have hset : (uncls t).1 = covers (all cls (t.drop 1)).1 := by
    rw [h.set, hf]
    rfl
  have hr := runs_short _ ho
  have hl := h.len
  rw [hf] at hl
  rw [hset]
  cases hA : isAll (covers (all cls (t.drop 1)).1) with
  | true =>
    unfold clsT
    rw [hA]
    have : (if true = true then ([46] : List UInt8) else 91 :: ((runsOf (covers (all cls (t.drop 1)).1)).flatMap runT) ++ [93]).length = 1 := rfl
    omega
  | false =>
    rw [clsT_eq _ hA]
    rw [hl]
    simp only [List.length_cons, List.length_append, List.length_nil]
    omega

/-- The text with a ^ less, or more. -/
def other (t : List UInt8) : List UInt8 := if t[1]? = some 94 then 91 :: t.drop 2 else 91 :: 94 :: t.drop 1

theorem pt_hat (r : List UInt8) : pt cls (94 :: r) = (0, 0, 0, false) := by
  simp [pt, rd, plain, cls]

theorem Read.other {t : List UInt8} (h : Read t) : Read (other t) ∧ (uncls (Qm.other t)).1 = (fun n => !(uncls t).1 n) ∧ (uncls (Qm.other t)).2.1 + t.length = (uncls t).2.1 + (Qm.other t).length := by
  have hb := h.bound
  by_cases h1 : t[1]? = some 94
  · have hf : from_ t = 2 := by unfold from_; rw [if_pos h1]
    have eo : Qm.other t = 91 :: t.drop 2 := by unfold Qm.other; rw [if_pos h1]
    have hc := h.close
    rw [hf] at hc
    have hf2 : from_ (91 :: t.drop 2) = 1 := by
      unfold from_
      rw [if_neg]
      intro h2
      rw [List.getElem?_cons_succ] at h2
      cases hd : t.drop 2 with
      | nil => rw [hd] at h2; cases h2
      | cons x r =>
        rw [hd] at h2
        have hx : x = 94 := by simpa using h2
        subst hx
        have ha : all cls (t.drop 2) = ([], 0) := by
          rw [hd]
          exact all_end _ _ (by rw [pt_hat])
        rw [ha, Nat.add_zero, hd] at hc
        simp at hc
    have hd2 : (91 :: t.drop 2).drop (from_ (91 :: t.drop 2)) = t.drop 2 := by rw [hf2]; rfl
    have hR : Read (91 :: t.drop 2) := by
      refine read_of rfl ?_
      rw [hd2, hf2]
      unfold ended
      have e3 : (91 :: t.drop 2).drop (1 + (all cls (t.drop 2)).2) = t.drop (2 + (all cls (t.drop 2)).2) := by
        rw [← List.drop_drop, ← List.drop_drop]
        rfl
      rw [e3, if_pos (by rw [hc]; rfl)]
    rw [eo]
    refine ⟨hR, ?_, ?_⟩
    · rw [hR.set, h.set, hd2, hf2, hf]
      funext n
      simp
    · rw [hR.len, h.len, hd2, hf2, hf]
      have := (List.getElem?_eq_some_iff.1 h1).1
      simp only [List.length_cons, List.length_drop]
      omega
  · have hf : from_ t = 1 := by unfold from_; rw [if_neg h1]
    have eo : Qm.other t = 91 :: 94 :: t.drop 1 := by unfold Qm.other; rw [if_neg h1]
    have hc := h.close
    rw [hf] at hc
    have hf2 : from_ (91 :: 94 :: t.drop 1) = 2 := by unfold from_; rw [if_pos (show (91 :: 94 :: List.drop 1 t)[1]? = some 94 from rfl)]
    have hd2 : (91 :: 94 :: t.drop 1).drop (from_ (91 :: 94 :: t.drop 1)) = t.drop 1 := by rw [hf2]; rfl
    have hR : Read (91 :: 94 :: t.drop 1) := by
      refine read_of rfl ?_
      rw [hd2, hf2]
      unfold ended
      have e3 : (91 :: 94 :: t.drop 1).drop (2 + (all cls (t.drop 1)).2) = t.drop (1 + (all cls (t.drop 1)).2) := by
        rw [← List.drop_drop, ← List.drop_drop]
        rfl
      rw [e3, if_pos (by rw [hc]; rfl)]
    rw [eo]
    refine ⟨hR, ?_, ?_⟩
    · rw [hR.set, h.set, hd2, hf2, hf]
      funext n
      simp
    · rw [hR.len, h.len, hd2, hf2, hf]
      simp only [List.length_cons, List.length_drop]
      omega
end Go.Proofs.YtkhokhmdiagckaaDoor.Qm

/- Trees in arenas: when one is right, what stands in it, its clean form. Of no program. -/
import Derived.Test.YtpkjfdgjmcphmaaDoorTm1
import Derived.Test.YtpkjfdgjmcphmaaDoorNm
namespace Go.Proofs.YtpkjfdgjmcphmaaDoor.Tm

/-- What a node has beside its kids. -/
structure Hd where
  kind : Nat
  set : BitVec 256
  text : ByteArray
  lo : Int
  hi : Int

structure Nd where
  hd : Hd
  kids : List Int

/-- A tree in an arena. -/
structure Ar where
  nodes : List Nd
  root : Int

def noHd : Hd := ⟨0, 0, ⟨#[]⟩, 0, 0⟩
def noNd : Nd := ⟨noHd, []⟩
def noAr : Ar := ⟨[], 0⟩

def isZ (h : Hd) : Bool := decide (h.lo = 0) && decide (h.hi = 0)
def noSet (h : Hd) : Bool := decide (h.set = 0#256)
def noText (h : Hd) : Bool := decide (h.text.size = 0)
def reps (a b : Int) : Bool := decide (0 ≤ a) && decide (a ≤ 99) && (decide (b = -1) || decide (a ≤ b) && decide (b ≤ 99))

/-- P4.1: does a node fit, that has so many kids? -/
def fits (h : Hd) (m : Int) : Bool :=
  match h.kind with
  | 0 => noSet h && noText h && isZ h && decide (m = 0)
  | 1 => noText h && isZ h && decide (m = 0)
  | 2 => noSet h && isZ h && decide (m = 0) && (decide (1 ≤ h.text.size) && decide (h.text.size ≤ 255))
  | 3 => noSet h && isZ h && decide (m = 0) && Nm.mayB h.text
  | 4 => noSet h && noText h && isZ h && decide (2 ≤ m)
  | 5 => noSet h && noText h && isZ h && decide (2 ≤ m)
  | 6 => noSet h && noText h && decide (m = 1) && reps h.lo h.hi
  | 7 => noSet h && noText h && isZ h && decide (m = 1)
  | 8 => noSet h && noText h && isZ h && decide (m = 1)
  | 9 => noSet h && isZ h && decide (m = 1) && Nm.mayB h.text
  | _ => false

/-- An arena that is right. -/
structure RightA (A : List Nd) : Prop where
  pos : A ≠ []
  fit : ∀ (i : Nat) n, A[i]? = some n → fits n.hd n.kids.length = true
  low : ∀ (i : Nat) n, A[i]? = some n → ∀ k ∈ n.kids, 0 ≤ k ∧ k < i
  once : (A.flatMap Nd.kids).Nodup
  each : ∀ j : Nat, j + 1 < A.length → (j : Int) ∈ A.flatMap Nd.kids

def RightT (T : Ar) : Prop := T.root = T.nodes.length - 1 ∧ RightA T.nodes
noncomputable def rightB (T : Ar) : Bool := @decide (RightT T) (Classical.propDecidable _)
theorem rightB_iff {T : Ar} : rightB T = true ↔ RightT T := by unfold rightB; simp
theorem rightB_no {T : Ar} : rightB T = false ↔ ¬ RightT T := by unfold rightB; simp

/- ## The tree of an arena -/
def kidsN (A : List Nd) (i : Nat) : List Nat := ((A[i]?.map Nd.kids).getD []).map Int.toNat
def hdAt (A : List Nd) (i : Nat) : Hd := (A[i]?.map Nd.hd).getD noHd
def tau (A : List Nd) (i : Nat) : RT Hd := map (hdAt A) (X (kidsN A) i)

theorem kidsN_some {A : List Nd} {i : Nat} {n : Nd} (h : A[i]? = some n) : kidsN A i = n.kids.map Int.toNat := by simp [kidsN, h]
theorem kidsN_none {A : List Nd} {i : Nat} (h : A.length ≤ i) : kidsN A i = [] := by simp [kidsN, h]
theorem hdAt_some {A : List Nd} {i : Nat} {n : Nd} (h : A[i]? = some n) : hdAt A i = n.hd := by simp [hdAt, h]

theorem kidsN_flat (A : List Nd) : (List.range A.length).flatMap (kidsN A) = (A.flatMap Nd.kids).map Int.toNat := by
  have h : A = (List.range A.length).map fun i => A.getD i noNd := by
    apply List.ext_getElem
    · simp
    · intro i h1 h2
      simp at h2
      simp [h2]
  have h2 : ∀ (B : List Nd), (∀ i, i < A.length → kidsN B i = (A.getD i noNd).kids.map Int.toNat) →
      (List.range A.length).flatMap (kidsN B) = (((List.range A.length).map fun i => A.getD i noNd).flatMap Nd.kids).map Int.toNat := by
    intro B hB
    rw [List.flatMap_map, List.map_flatMap]
    have : ∀ l : List Nat, (∀ i ∈ l, i < A.length) → l.flatMap (kidsN B) = l.flatMap fun i => (A.getD i noNd).kids.map Int.toNat := by
      intro l hl
      induction l with
      | nil => rfl
      | cons a l ih =>
        rw [List.flatMap_cons, List.flatMap_cons, hB a (hl a (by simp)), ih (fun i hi => hl i (by simp [hi]))]
    exact this _ (fun i hi => List.mem_range.1 hi)
  rw [h2 A, ← h]
  intro i hi
  rw [kidsN_some (n := A[i]) (by simp [hi])]
  simp [hi]

theorem nodup_toNat {l : List Int} (h : l.Nodup) (h0 : ∀ k ∈ l, 0 ≤ k) : (l.map Int.toNat).Nodup := by
  induction l with
  | nil => simp
  | cons a l ih =>
    rw [List.nodup_cons] at h
    rw [List.map_cons, List.nodup_cons]
    refine ⟨fun hm => ?_, ih h.2 (fun k hk => h0 k (by simp [hk]))⟩
    obtain ⟨b, hb, e⟩ := List.mem_map.1 hm
    have h1 := h0 a (by simp)
    have h2 := h0 b (by simp [hb])
    have : b = a := by omega
    exact h.1 (this ▸ hb)

theorem RightA.low' {A : List Nd} (h : RightA A) : ∀ k ∈ A.flatMap Nd.kids, 0 ≤ k := by
  intro k hk
  obtain ⟨n, hn, hk⟩ := List.mem_flatMap.1 hk
  obtain ⟨i, hi, rfl⟩ := List.mem_iff_getElem.1 hn
  exact (h.low i _ (by simp [hi]) k hk).1

theorem dec_of {A : List Nd} (h : ∀ (i : Nat) n, A[i]? = some n → ∀ k ∈ n.kids, 0 ≤ k ∧ k < i) : Dec (kidsN A) := by
  intro i k hk
  cases hA : A[i]? with
  | none =>
    rw [kidsN_none (by simpa using hA)] at hk
    simp at hk
  | some n =>
    rw [kidsN_some hA] at hk
    obtain ⟨a, ha, e⟩ := List.mem_map.1 hk
    have := h i n hA a ha
    omega

theorem RightA.k {A : List Nd} (h : RightA A) : RightK (kidsN A) A.length where
  pos := by
    have := h.pos
    cases A with
    | nil => exact absurd rfl this
    | cons a l => simp
  dec := dec_of h.low
  once := by
    rw [kidsN_flat]
    exact nodup_toNat h.once h.low'
  each := fun j hj => by
    rw [kidsN_flat]
    exact List.mem_map.2 ⟨_, h.each j hj, by simp⟩

theorem tau_eq {A : List Nd} (hK : Dec (kidsN A)) (i : Nat) : tau A i = .mk (hdAt A i) ((kidsN A i).map (tau A)) := by
  unfold tau
  rw [X_eq hK, map, maps_eq, List.map_map]
  rfl
theorem tau_size (A : List Nd) (i : Nat) : size (tau A i) = M (kidsN A) i := size_map _ _
theorem taus_size (A : List Nd) (l : List Nat) : sizes (l.map (tau A)) = Ms (kidsN A) l := by
  induction l with
  | nil => rfl
  | cons a l ih => rw [List.map_cons, sizes, ih, tau_size, Ms_cons]

/- ## The clean form -/
def roots (b : Nat) : List (RT Hd) → List Int
  | [] => []
  | t :: ts => ((b + size t - 1 : Nat) : Int) :: roots (b + size t) ts

mutual
def flatAt (b : Nat) : RT Hd → List Nd
  | .mk h ks => flatsAt b ks ++ [⟨h, roots b ks⟩]
def flatsAt (b : Nat) : List (RT Hd) → List Nd
  | [] => []
  | t :: ts => flatAt b t ++ flatsAt (b + size t) ts
end

/-- The clean arena of a tree. -/
def flat (t : RT Hd) : List Nd := flatAt 0 t

theorem roots_len (b : Nat) (ts : List (RT Hd)) : (roots b ts).length = ts.length := by
  induction ts generalizing b with
  | nil => rfl
  | cons t ts ih => simp [roots, ih]
theorem roots_bound (b : Nat) (ts : List (RT Hd)) : ∀ k ∈ roots b ts, (b : Int) ≤ k ∧ k < (b : Int) + sizes ts := by
  induction ts generalizing b with
  | nil => simp [roots]
  | cons t ts ih =>
    intro k hk
    have := size_pos t
    rw [roots, List.mem_cons] at hk
    rw [sizes]
    rcases hk with rfl | hk
    · omega
    · have := ih _ k hk
      omega
theorem roots_append (b : Nat) (l m : List (RT Hd)) : roots b (l ++ m) = roots b l ++ roots (b + sizes l) m := by
  induction l generalizing b with
  | nil => simp [roots, sizes]
  | cons t l ih => simp [roots, sizes, ih, Nat.add_assoc]
theorem flatsAt_append (b : Nat) (l m : List (RT Hd)) : flatsAt b (l ++ m) = flatsAt b l ++ flatsAt (b + sizes l) m := by
  induction l generalizing b with
  | nil => simp [flatsAt, sizes]
  | cons t l ih => simp [flatsAt, sizes, ih, Nat.add_assoc]

mutual
theorem flat_len : ∀ (t : RT Hd) (b : Nat), (flatAt b t).length = size t
  | .mk h ks, b => by simp [flatAt, size, flats_len ks b]
theorem flats_len : ∀ (ts : List (RT Hd)) (b : Nat), (flatsAt b ts).length = sizes ts
  | [], _ => rfl
  | t :: ts, b => by simp [flatsAt, sizes, flat_len t b, flats_len ts]
end

/-- Kids' numbers moved. -/
def mv (c : Int) (n : Nd) : Nd := ⟨n.hd, n.kids.map (· + c)⟩

theorem roots_mv (c : Int) (ts : List (RT Hd)) : ∀ (b b' : Nat), (b' : Int) = b + c → (roots b ts).map (· + c) = roots b' ts := by
  induction ts with
  | nil => intros; rfl
  | cons t ts ih =>
    intro b b' h
    have := size_pos t
    rw [roots, roots, List.map_cons, ih (b + size t) (b' + size t) (by omega)]
    congr 1
    omega

mutual
theorem flat_mv (c : Int) : ∀ (t : RT Hd) (b b' : Nat), (b' : Int) = b + c → (flatAt b t).map (mv c) = flatAt b' t
  | .mk h ks, b, b', e => by
    rw [flatAt, flatAt, List.map_append, flats_mv c ks b b' e, List.map_singleton, mv, roots_mv c ks b b' e]
theorem flats_mv (c : Int) : ∀ (ts : List (RT Hd)) (b b' : Nat), (b' : Int) = b + c → (flatsAt b ts).map (mv c) = flatsAt b' ts
  | [], _, _, _ => rfl
  | t :: ts, b, b', e => by
    rw [flatsAt, flatsAt, List.map_append, flat_mv c t b b' e, flats_mv c ts (b + size t) (b' + size t) (by omega)]
end

/-- **Where the nodes' places are in a row, what stands at these places is the clean form.** -/
theorem post_flat {A : List Nd} (hK : Dec (kidsN A)) (p : Nat → Nat) : ∀ (i b : Nat), (post (X (kidsN A) i)).map p = List.range' b (M (kidsN A) i) →
    (post (X (kidsN A) i)).map (fun j => (⟨hdAt A j, (kidsN A j).map fun k => (p k : Int)⟩ : Nd)) = flatAt b (tau A i) := by
  intro i
  induction i using Nat.strongRecOn with
  | ind i ih =>
    have last : ∀ k b, (post (X (kidsN A) k)).map p = List.range' b (M (kidsN A) k) → p k = b + M (kidsN A) k - 1 := by
      intro k b h
      have h1 := M_pos (kidsN A) k
      obtain ⟨l, hl⟩ := post_last (X (kidsN A) k)
      rw [hl, List.map_append, top_X hK, List.map_singleton] at h
      obtain ⟨m, hm⟩ : ∃ m, M (kidsN A) k = m + 1 := ⟨M (kidsN A) k - 1, by omega⟩
      rw [hm, ← range'_cat b m 1] at h
      have := (List.append_inj' h (by simp)).2
      simp at this
      omega
    have kids : ∀ (l : List Nat) (b : Nat), (∀ k ∈ l, k < i) → (l.flatMap fun k => post (X (kidsN A) k)).map p = List.range' b (Ms (kidsN A) l) →
        (l.flatMap fun k => post (X (kidsN A) k)).map (fun j => (⟨hdAt A j, (kidsN A j).map fun k => (p k : Int)⟩ : Nd)) = flatsAt b (l.map (tau A)) ∧ l.map (fun k => (p k : Int)) = roots b (l.map (tau A)) := by
      intro l
      induction l with
      | nil => intros; exact ⟨rfl, rfl⟩
      | cons k l ihl =>
        intro b hl h
        rw [List.flatMap_cons, List.map_append, Ms_cons, ← range'_cat] at h
        obtain ⟨h1, h2⟩ := List.append_inj h (by simp [post_len, M])
        obtain ⟨h3, h4⟩ := ihl _ (fun x hx => hl x (by simp [hx])) h2
        have h5 := ih k (hl k (by simp)) b h1
        have h6 := last k b h1
        rw [List.flatMap_cons, List.map_append, List.map_cons, List.map_cons, flatsAt, roots, h5, tau_size, h3, h4, h6]
        exact ⟨rfl, rfl⟩
    intro b h
    have hM := M_eq hK i
    rw [post_X hK, List.map_append, hM, ← range'_cat] at h
    obtain ⟨h1, _⟩ := List.append_inj' h (by simp)
    obtain ⟨h3, h4⟩ := kids _ b (fun k hk => hK i k hk) h1
    rw [post_X hK, tau_eq hK, flatAt, List.map_append, h3, List.map_singleton, h4]

/- ## What a clean arena is -/
mutual
def fitT : RT Hd → Bool
  | .mk h ks => fits h ks.length && fitTs ks
def fitTs : List (RT Hd) → Bool
  | [] => true
  | t :: ts => fitT t && fitTs ts
end
theorem fitTs_iff {ts : List (RT Hd)} : fitTs ts = true ↔ ∀ t ∈ ts, fitT t = true := by
  induction ts with
  | nil => simp [fitTs]
  | cons t ts ih => simp [fitTs, ih]

theorem fit_tau {A : List Nd} (h : RightA A) (i : Nat) (hi : i < A.length) : fitT (tau A i) = true := by
  induction i using Nat.strongRecOn with
  | ind i ih =>
    have hA : A[i]? = some A[i] := by simp [hi]
    rw [tau_eq (dec_of h.low), fitT, hdAt_some hA, List.length_map, kidsN_some hA, List.length_map, h.fit i _ hA, Bool.true_and, fitTs_iff]
    intro t ht
    obtain ⟨k, hk, rfl⟩ := List.mem_map.1 ht
    have := dec_of h.low i k (by rw [kidsN_some hA]; exact hk)
    exact ih k this (by omega)

mutual
theorem flat_fit : ∀ (t : RT Hd) (b : Nat), fitT t = true → ∀ n ∈ flatAt b t, fits n.hd n.kids.length = true
  | .mk h ks, b, hf, n, hn => by
    rw [fitT, Bool.and_eq_true] at hf
    rw [flatAt, List.mem_append, List.mem_singleton] at hn
    rcases hn with hn | rfl
    · exact flats_fit ks b hf.2 n hn
    · simpa [roots_len] using hf.1
theorem flats_fit : ∀ (ts : List (RT Hd)) (b : Nat), fitTs ts = true → ∀ n ∈ flatsAt b ts, fits n.hd n.kids.length = true
  | [], _, _, n, hn => by simp [flatsAt] at hn
  | t :: ts, b, hf, n, hn => by
    rw [fitTs, Bool.and_eq_true] at hf
    rw [flatsAt, List.mem_append] at hn
    rcases hn with hn | hn
    · exact flat_fit t b hf.1 n hn
    · exact flats_fit ts _ hf.2 n hn
end

mutual
theorem flat_low : ∀ (t : RT Hd) (b a : Nat) (n : Nd), (flatAt b t)[a]? = some n → ∀ k ∈ n.kids, (b : Int) ≤ k ∧ k < b + a
  | .mk h ks, b, a, n, hn, k, hk => by
    rw [flatAt] at hn
    by_cases ha : a < (flatsAt b ks).length
    · rw [List.getElem?_append_left ha] at hn
      exact flats_low ks b a n hn k hk
    · rw [List.getElem?_append_right (by omega)] at hn
      rw [flats_len] at hn ha
      have h0 : a - sizes ks = 0 := by
        have := (List.getElem?_eq_some_iff.1 hn).1
        simp at this
        omega
      rw [h0] at hn
      have e : n = ⟨h, roots b ks⟩ := by simpa using hn.symm
      subst e
      have := roots_bound b ks k hk
      omega
theorem flats_low : ∀ (ts : List (RT Hd)) (b a : Nat) (n : Nd), (flatsAt b ts)[a]? = some n → ∀ k ∈ n.kids, (b : Int) ≤ k ∧ k < b + a
  | [], _, _, n, hn, _, _ => by simp [flatsAt] at hn
  | t :: ts, b, a, n, hn, k, hk => by
    rw [flatsAt] at hn
    by_cases ha : a < (flatAt b t).length
    · rw [List.getElem?_append_left ha] at hn
      exact flat_low t b a n hn k hk
    · rw [List.getElem?_append_right (by omega)] at hn
      rw [flat_len] at hn ha
      have := flats_low ts _ _ n hn k hk
      omega
end

def rangeI (b n : Nat) : List Int := (List.range' b n).map Int.ofNat
theorem rangeI_cat (b m n : Nat) : rangeI b m ++ rangeI (b + m) n = rangeI b (m + n) := by unfold rangeI; rw [← List.map_append, range'_cat]
theorem rangeI_one (b : Nat) : rangeI b 1 = [(b : Int)] := rfl

theorem rangeI_nodup (b n : Nat) : (rangeI b n).Nodup := by
  unfold rangeI
  exact List.pairwise_map.2 (List.Pairwise.imp (fun h e => h (Int.ofNat.inj e)) List.nodup_range')

mutual
theorem flat_perm : ∀ (t : RT Hd) (b : Nat), ((flatAt b t).flatMap Nd.kids ++ [((b + size t - 1 : Nat) : Int)]).Perm (rangeI b (size t))
  | .mk h ks, b => by
    rw [flatAt, List.flatMap_append, size, ← rangeI_cat, rangeI_one]
    simp only [List.flatMap_cons, List.flatMap_nil, List.append_nil]
    exact (flats_perm ks b).append_right _
theorem flats_perm : ∀ (ts : List (RT Hd)) (b : Nat), ((flatsAt b ts).flatMap Nd.kids ++ roots b ts).Perm (rangeI b (sizes ts))
  | [], _ => by simp [flatsAt, roots, sizes, rangeI]
  | t :: ts, b => by
    rw [flatsAt, List.flatMap_append, roots, sizes, ← rangeI_cat]
    refine .trans ?_ ((flat_perm t b).append (flats_perm ts (b + size t)))
    rw [List.append_assoc, List.append_assoc]
    refine .append_left _ ?_
    exact List.perm_middle
end

theorem flat_right (t : RT Hd) (h : fitT t = true) : RightA (flat t) where
  pos := by
    have h1 := flat_len t 0
    have h2 := size_pos t
    intro e
    unfold flat at e
    rw [e] at h1
    simp at h1
    omega
  fit := fun i n hn => flat_fit t 0 h n (List.mem_of_getElem? hn)
  low := fun i n hn k hk => by
    have := flat_low t 0 i n hn k hk
    omega
  once := by
    have h1 := (flat_perm t 0).symm.nodup (rangeI_nodup 0 (size t))
    exact (List.nodup_append.1 h1).1
  each := fun j hj => by
    have hl : (flat t).length = size t := flat_len t 0
    have h1 : (j : Int) ∈ rangeI 0 (size t) := by
      unfold rangeI
      exact List.mem_map.2 ⟨j, by simp; omega, rfl⟩
    have h2 := (flat_perm t 0).symm.subset h1
    rw [List.mem_append, List.mem_singleton] at h2
    rcases h2 with h2 | h2
    · exact h2
    · omega

mutual
theorem tau_flat (A : List Nd) (hK : Dec (kidsN A)) : ∀ (t : RT Hd) (b : Nat), (∀ a, a < size t → A[b + a]? = (flatAt b t)[a]?) → tau A (b + size t - 1) = t
  | .mk h ks, b, hA => by
    have h1 := tau_flats A hK ks b (fun a ha => by
      rw [hA a (by rw [size]; omega), flatAt, List.getElem?_append_left (by rw [flats_len]; exact ha)])
    have h2 : A[b + sizes ks]? = some ⟨h, roots b ks⟩ := by
      rw [hA (sizes ks) (by rw [size]; omega), flatAt, List.getElem?_append_right (by rw [flats_len]; exact Nat.le_refl _), flats_len]
      simp
    rw [size, show b + (sizes ks + 1) - 1 = b + sizes ks by omega, tau_eq hK, hdAt_some h2, kidsN_some h2, List.map_map]
    exact congrArg (RT.mk h) h1
theorem tau_flats (A : List Nd) (hK : Dec (kidsN A)) : ∀ (ts : List (RT Hd)) (b : Nat), (∀ a, a < sizes ts → A[b + a]? = (flatsAt b ts)[a]?) → (roots b ts).map (fun r => tau A r.toNat) = ts
  | [], _, _ => rfl
  | t :: ts, b, hA => by
    have h1 := tau_flat A hK t b (fun a ha => by
      rw [hA a (by rw [sizes]; omega), flatsAt, List.getElem?_append_left (by rw [flat_len]; exact ha)])
    have h2 := tau_flats A hK ts (b + size t) (fun a ha => by
      rw [Nat.add_assoc, hA (size t + a) (by rw [sizes]; omega), flatsAt, List.getElem?_append_right (by rw [flat_len]; omega), flat_len]
      congr 1
      omega)
    rw [roots, List.map_cons, h2, Int.toNat_natCast, h1]
end

theorem flat_dec (t : RT Hd) : Dec (kidsN (flat t)) := dec_of fun i n hn k hk => by
  have := flat_low t 0 i n hn k hk
  omega
theorem tau_of_flat (t : RT Hd) : tau (flat t) (size t - 1) = t := by
  have := tau_flat (flat t) (flat_dec t) t 0 (fun a _ => by rw [Nat.zero_add]; rfl)
  rwa [Nat.zero_add] at this
theorem flat_length (t : RT Hd) : (flat t).length = size t := flat_len t 0
theorem flat_inj {a b : RT Hd} (h : flat a = flat b) : a = b := by
  have h1 := flat_length a
  have h2 := flat_length b
  rw [h] at h1
  have h3 := tau_of_flat a
  rw [h, show size a = size b by omega, tau_of_flat] at h3
  exact h3.symm

/-- The tree of an arena, and the clean arena of it. -/
def tree (T : Ar) : RT Hd := tau T.nodes T.root.toNat
def arOf (t : RT Hd) : Ar := ⟨flat t, (size t : Int) - 1⟩
theorem arOf_right {t : RT Hd} (h : fitT t = true) : RightT (arOf t) := ⟨by simp [arOf, flat_length], flat_right t h⟩
theorem tree_arOf (t : RT Hd) : tree (arOf t) = t := by
  unfold tree arOf
  have := size_pos t
  rw [show ((size t : Int) - 1).toNat = size t - 1 by omega]
  exact tau_of_flat t
theorem RightT.at {T : Ar} (h : RightT T) : T.root.toNat = T.nodes.length - 1 ∧ T.root = ((T.nodes.length - 1 : Nat) : Int) := by
  have h1 := h.1
  have h2 := h.2.k.pos
  omega
theorem RightT.fit {T : Ar} (h : RightT T) : fitT (tree T) = true := by
  have h1 := h.at
  have h2 := h.2.k.pos
  unfold tree
  rw [h1.1]
  exact fit_tau h.2 _ (by omega)
theorem RightT.size {T : Ar} (h : RightT T) : Tm.size (tree T) = T.nodes.length := by
  unfold tree
  rw [h.at.1, tau_size, h.2.k.size]
end Go.Proofs.YtpkjfdgjmcphmaaDoor.Tm

/- Plain facts on trees: a tree of numbers out of who is whose kid; its rows. Of no program. -/
import Derived.Test.YtpkjfdgjmcphmaaDoorVNm
import Derived.Lib.TrailingZeros
import Derived.Test.YtpkjfdgjmcphmaaDoorProg
import Derived.WalkKit
import Derived.WalkSpells
import Derived.WalkLawsBesides
import Derived.IntWalk
import Derived.Handy
import Derived.Laws.BitsAllLaws
import Derived.Deep.QuietTactic
import Derived.BigQuiet
import Derived.Lib.Hide
import Derived.Laws.Rows
import Derived.OneCell
namespace Go.Proofs.YtpkjfdgjmcphmaaDoor.Tm

/-- A tree with something at each node. -/
inductive RT (α : Type) where
  | mk (a : α) (ks : List (RT α))

variable {α β : Type}

mutual
def size : RT α → Nat
  | .mk _ ks => sizes ks + 1
def sizes : List (RT α) → Nat
  | [] => 0
  | t :: ts => size t + sizes ts
end

mutual
def map (f : α → β) : RT α → RT β
  | .mk a ks => .mk (f a) (maps f ks)
def maps (f : α → β) : List (RT α) → List (RT β)
  | [] => []
  | t :: ts => map f t :: maps f ts
end

mutual
/-- What stands in it, a kid ahead of its node. -/
def post : RT α → List α
  | .mk a ks => posts ks ++ [a]
def posts : List (RT α) → List α
  | [] => []
  | t :: ts => post t ++ posts ts
end

mutual
/-- .. a node ahead of its kids. -/
def pre : RT α → List α
  | .mk a ks => a :: pres ks
def pres : List (RT α) → List α
  | [] => []
  | t :: ts => pre t ++ pres ts
end

mutual
/-- .. the last kid first. -/
def back : RT α → List α
  | .mk a ks => a :: backs ks
def backs : List (RT α) → List α
  | [] => []
  | t :: ts => backs ts ++ back t
end

mutual
def deep : RT α → Nat
  | .mk _ ks => deeps ks + 1
def deeps : List (RT α) → Nat
  | [] => 0
  | t :: ts => max (deep t) (deeps ts)
end

def top : RT α → α
  | .mk a _ => a
def kidsR : RT α → List (RT α)
  | .mk _ ks => ks

theorem size_pos (t : RT α) : 0 < size t := by
  cases t
  simp [size]
theorem maps_eq (f : α → β) (ts : List (RT α)) : maps f ts = ts.map (map f) := by
  induction ts with
  | nil => rfl
  | cons t ts ih => simp [maps, ih]
theorem posts_eq (ts : List (RT α)) : posts ts = ts.flatMap post := by
  induction ts with
  | nil => rfl
  | cons t ts ih => simp [posts, ih]
theorem pres_eq (ts : List (RT α)) : pres ts = ts.flatMap pre := by
  induction ts with
  | nil => rfl
  | cons t ts ih => simp [pres, ih]
theorem backs_eq (ts : List (RT α)) : backs ts = ts.reverse.flatMap back := by
  induction ts with
  | nil => rfl
  | cons t ts ih => simp [backs, ih]
theorem sizes_append (a b : List (RT α)) : sizes (a ++ b) = sizes a + sizes b := by
  induction a with
  | nil => simp [sizes]
  | cons t ts ih => simp [sizes, ih, Nat.add_assoc]
theorem sizes_eq (ts : List (RT α)) : sizes ts = (ts.map size).sum := by
  induction ts with
  | nil => rfl
  | cons t ts ih => simp [sizes, ih]
theorem sizes_len (ts : List (RT α)) : ts.length ≤ sizes ts := by
  induction ts with
  | nil => simp [sizes]
  | cons t ts ih => have := size_pos t; simp [sizes]; omega

mutual
theorem post_len : ∀ t : RT α, (post t).length = size t
  | .mk a ks => by simp [post, size, posts_len ks]
theorem posts_len : ∀ ts : List (RT α), (posts ts).length = sizes ts
  | [] => rfl
  | t :: ts => by simp [posts, sizes, post_len t, posts_len ts]
end
mutual
theorem pre_len : ∀ t : RT α, (pre t).length = size t
  | .mk a ks => by simp [pre, size, pres_len ks]
theorem pres_len : ∀ ts : List (RT α), (pres ts).length = sizes ts
  | [] => rfl
  | t :: ts => by simp [pres, sizes, pre_len t, pres_len ts]
end
mutual
theorem back_rev : ∀ t : RT α, (back t).reverse = post t
  | .mk a ks => by simp [back, post, backs_rev ks]
theorem backs_rev : ∀ ts : List (RT α), (backs ts).reverse = posts ts
  | [] => rfl
  | t :: ts => by simp [backs, posts, back_rev t, backs_rev ts]
end
mutual
theorem pre_post : ∀ t : RT α, (pre t).Perm (post t)
  | .mk a ks => by
    rw [pre, post]
    exact ((pres_posts ks).cons a).trans (List.perm_append_singleton a (posts ks)).symm
theorem pres_posts : ∀ ts : List (RT α), (pres ts).Perm (posts ts)
  | [] => .refl _
  | t :: ts => (pre_post t).append (pres_posts ts)
end
mutual
theorem size_map (f : α → β) : ∀ t : RT α, size (map f t) = size t
  | .mk a ks => by simp [map, size, sizes_maps f ks]
theorem sizes_maps (f : α → β) : ∀ ts : List (RT α), sizes (maps f ts) = sizes ts
  | [] => rfl
  | t :: ts => by simp [maps, sizes, size_map f t, sizes_maps f ts]
end
mutual
theorem deep_map (f : α → β) : ∀ t : RT α, deep (map f t) = deep t
  | .mk a ks => by simp [map, deep, deeps_maps f ks]
theorem deeps_maps (f : α → β) : ∀ ts : List (RT α), deeps (maps f ts) = deeps ts
  | [] => rfl
  | t :: ts => by simp [maps, deeps, deep_map f t, deeps_maps f ts]
end
mutual
theorem deep_size : ∀ t : RT α, deep t ≤ size t
  | .mk a ks => by simp [deep, size, deeps_sizes ks]
theorem deeps_sizes : ∀ ts : List (RT α), deeps ts ≤ sizes ts
  | [] => by simp [deeps]
  | t :: ts => by have := deep_size t; have := deeps_sizes ts; simp [deeps, sizes]; omega
end
theorem post_last (t : RT α) : ∃ l, post t = l ++ [top t] := by
  cases t
  exact ⟨_, rfl⟩
theorem top_post (t : RT α) : top t ∈ post t := by
  obtain ⟨l, h⟩ := post_last t
  rw [h]
  simp

/- ## The tree of numbers -/

/-- Who stands in i, by the kids of each (K), so many levels. -/
def ix (K : Nat → List Nat) : Nat → Nat → RT Nat
  | 0, i => .mk i []
  | f + 1, i => .mk i ((K i).map (ix K f))

def X (K : Nat → List Nat) (i : Nat) : RT Nat := ix K i i

/-- Kids have lesser numbers. -/
def Dec (K : Nat → List Nat) : Prop := ∀ i, ∀ k ∈ K i, k < i

theorem ix_more {K : Nat → List Nat} (hK : Dec K) : ∀ f i, i ≤ f → ix K f i = X K i := by
  have key : ∀ i, ∀ f g, i ≤ f → i ≤ g → ix K f i = ix K g i := by
    intro i
    induction i using Nat.strongRecOn with
    | ind i ih =>
      intro f g hf hg
      have h0 : ∀ f, i ≤ f → f = 0 → K i = [] := by
        intro f hf h0
        subst h0
        have hi : i = 0 := by omega
        subst hi
        cases hk : K 0 with
        | nil => rfl
        | cons a l => exact absurd (hK 0 a (by simp [hk])) (by omega)
      cases f with
      | zero =>
        cases g with
        | zero => rfl
        | succ g => simp [ix, h0 0 hf rfl]
      | succ f =>
        cases g with
        | zero => simp [ix, h0 0 hg rfl]
        | succ g =>
          unfold ix
          congr 1
          refine List.map_congr_left fun k hk => ?_
          have := hK i k hk
          exact ih k this f g (by omega) (by omega)
  intro f i h
  exact key i f i h (Nat.le_refl _)

theorem X_eq {K : Nat → List Nat} (hK : Dec K) (i : Nat) : X K i = .mk i ((K i).map (X K)) := by
  cases i with
  | zero =>
    have : K 0 = [] := by
      cases hk : K 0 with
      | nil => rfl
      | cons a l => exact absurd (hK 0 a (by simp [hk])) (by omega)
    unfold X
    simp [ix, this]
  | succ i =>
    show ix K (i + 1) (i + 1) = _
    unfold ix
    congr 1
    refine List.map_congr_left fun k hk => ?_
    have := hK (i + 1) k hk
    exact ix_more hK i k (by omega)

def M (K : Nat → List Nat) (i : Nat) : Nat := size (X K i)
def Ms (K : Nat → List Nat) (l : List Nat) : Nat := sizes (l.map (X K))
theorem Ms_nil (K : Nat → List Nat) : Ms K [] = 0 := rfl
theorem Ms_cons (K : Nat → List Nat) (a : Nat) (l : List Nat) : Ms K (a :: l) = M K a + Ms K l := rfl
theorem Ms_append (K : Nat → List Nat) (a b : List Nat) : Ms K (a ++ b) = Ms K a + Ms K b := by simp [Ms, sizes_append]
theorem M_eq {K : Nat → List Nat} (hK : Dec K) (i : Nat) : M K i = Ms K (K i) + 1 := by
  unfold M Ms
  rw [X_eq hK, size]
theorem M_pos (K : Nat → List Nat) (i : Nat) : 0 < M K i := size_pos _
theorem post_X {K : Nat → List Nat} (hK : Dec K) (i : Nat) : post (X K i) = (K i).flatMap (fun k => post (X K k)) ++ [i] := by
  rw [X_eq hK, post, posts_eq, List.flatMap_map]
theorem pre_X {K : Nat → List Nat} (hK : Dec K) (i : Nat) : pre (X K i) = i :: (K i).flatMap (fun k => pre (X K k)) := by
  rw [X_eq hK, pre, pres_eq, List.flatMap_map]
theorem back_X {K : Nat → List Nat} (hK : Dec K) (i : Nat) : back (X K i) = i :: (K i).reverse.flatMap (fun k => back (X K k)) := by
  rw [X_eq hK, back, backs_eq, ← List.map_reverse, List.flatMap_map]
theorem top_X {K : Nat → List Nat} (hK : Dec K) (i : Nat) : top (X K i) = i := by
  rw [X_eq hK, top]

theorem mem_post_le {K : Nat → List Nat} (hK : Dec K) (i : Nat) : ∀ x ∈ post (X K i), x ≤ i := by
  induction i using Nat.strongRecOn with
  | ind i ih =>
    intro x hx
    rw [post_X hK, List.mem_append, List.mem_flatMap] at hx
    rcases hx with ⟨k, hk, hx⟩ | hx
    · have h1 := hK i k hk
      have := ih k h1 x hx
      omega
    · have : x = i := by simpa using hx
      omega
theorem self_post {K : Nat → List Nat} (hK : Dec K) (i : Nat) : i ∈ post (X K i) := by
  rw [post_X hK]
  simp
theorem kid_post {K : Nat → List Nat} (hK : Dec K) (i : Nat) : ∀ x ∈ post (X K i), ∀ k ∈ K x, k ∈ post (X K i) := by
  induction i using Nat.strongRecOn with
  | ind i ih =>
    intro x hx k hk
    rw [post_X hK, List.mem_append, List.mem_flatMap] at hx
    rcases hx with ⟨j, hj, hx⟩ | hx
    · rw [post_X hK, List.mem_append, List.mem_flatMap]
      exact .inl ⟨j, hj, ih j (hK i j hj) x hx k hk⟩
    · have e : x = i := by simpa using hx
      subst e
      rw [post_X hK, List.mem_append, List.mem_flatMap]
      exact .inl ⟨k, hk, self_post hK k⟩

/-- **Who is nobody's kid so far, and all that stand within these: all so far, each once.** -/
theorem free_perm {K : Nat → List Nat} (hK : Dec K) {n : Nat} (hN : ((List.range n).flatMap K).Nodup) :
    ∀ i, i ≤ n → (((List.range i).filter fun x => decide (x ∉ (List.range i).flatMap K)).flatMap fun k => post (X K k)).Perm (List.range i) := by
  intro i
  induction i with
  | zero => intro _; simp
  | succ i ih =>
    intro hi
    have hN' : ((List.range (i + 1)).flatMap K).Nodup := by
      have : ((List.range (i + 1)).flatMap K).Sublist ((List.range n).flatMap K) := by
        obtain ⟨d, rfl⟩ : ∃ d, n = i + 1 + d := ⟨n - (i + 1), by omega⟩
        have e : List.range (i + 1 + d) = List.range (i + 1) ++ (List.range d).map (i + 1 + ·) := List.range_add
        rw [e, List.flatMap_append]
        exact List.sublist_append_left _ _
      exact this.nodup hN
    rw [List.range_succ, List.flatMap_append] at hN'
    simp only [List.flatMap_cons, List.flatMap_nil, List.append_nil] at hN'
    obtain ⟨n1, n2, n3⟩ := List.nodup_append.1 hN'
    have h0 := ih (by omega)
    have hnot : i ∉ (List.range i).flatMap K ++ K i := by
      intro h
      rw [List.mem_append, List.mem_flatMap] at h
      rcases h with ⟨j, hj, h⟩ | h
      · have := hK j i h
        have := List.mem_range.1 hj
        omega
      · exact absurd (hK i i h) (by omega)
    rw [List.range_succ, List.flatMap_append]
    simp only [List.flatMap_cons, List.flatMap_nil, List.append_nil]
    rw [List.filter_append, List.filter_cons_of_pos (by simpa using hnot), List.filter_nil, List.flatMap_append]
    simp only [List.flatMap_cons, List.flatMap_nil, List.append_nil]
    rw [post_X hK]
    generalize hU : (List.range i).filter (fun x => decide (x ∉ (List.range i).flatMap K)) = U at h0
    have hUn : U.Nodup := by rw [← hU]; exact List.nodup_range.filter _
    have hV : (List.range i).filter (fun x => decide (x ∉ (List.range i).flatMap K ++ K i)) = U.filter (fun x => decide (x ∉ K i)) := by
      rw [← hU, List.filter_filter]
      refine List.filter_congr fun x _ => ?_
      simp only [List.mem_append, not_or]
      by_cases h1 : x ∈ (List.range i).flatMap K <;> by_cases h2 : x ∈ K i <;> simp [h1, h2]
    rw [hV]
    have hk : (U.filter (fun x => !decide (x ∉ K i))).Perm (K i) := by
      refine (List.perm_ext_iff_of_nodup (hUn.filter _) n2).2 fun x => ?_
      rw [List.mem_filter, ← hU, List.mem_filter]
      constructor
      · rintro ⟨_, h⟩
        simpa using h
      · intro h
        refine ⟨⟨List.mem_range.2 (hK i x h), ?_⟩, by simpa using h⟩
        simp only [decide_eq_true_eq]
        exact fun h' => n3 x h' x h rfl
    have hUU : (U.filter (fun x => decide (x ∉ K i)) ++ K i).Perm U :=
      ((hk.symm).append_left _).trans (List.filter_append_perm (fun x => decide (x ∉ K i)) U)
    have := (hUU.flatMap_right fun k => post (X K k)).trans h0
    rw [List.flatMap_append] at this
    rw [← List.append_assoc]
    exact this.append_right _

/-- An arena's kids, as one asks of a right one. -/
structure RightK (K : Nat → List Nat) (n : Nat) : Prop where
  pos : 0 < n
  dec : Dec K
  once : ((List.range n).flatMap K).Nodup
  each : ∀ j, j + 1 < n → j ∈ (List.range n).flatMap K

theorem RightK.perm {K : Nat → List Nat} {n : Nat} (h : RightK K n) : (post (X K (n - 1))).Perm (List.range n) := by
  have h0 := free_perm h.dec h.once n (Nat.le_refl _)
  have hp := h.pos
  have e : (List.range n).filter (fun x => decide (x ∉ (List.range n).flatMap K)) = [n - 1] := by
    obtain ⟨m, rfl⟩ : ∃ m, n = m + 1 := ⟨n - 1, by omega⟩
    have h1 : (List.range m).filter (fun x => decide (x ∉ (List.range (m + 1)).flatMap K)) = [] := by
      rw [List.filter_eq_nil_iff]
      intro x hx
      have := h.each x (by have := List.mem_range.1 hx; omega)
      simpa using this
    have h2 : m ∉ (List.range (m + 1)).flatMap K := by
      intro hm
      obtain ⟨j, hj, hm⟩ := List.mem_flatMap.1 hm
      have := h.dec j m hm
      have := List.mem_range.1 hj
      omega
    have e3 : List.range (m + 1) = List.range m ++ [m] := List.range_succ
    generalize hQ : (List.range (m + 1)).flatMap K = Q at h1 h2
    rw [e3, List.filter_append, h1, List.filter_cons_of_pos (by simpa using h2)]
    simp
  rw [e] at h0
  simpa using h0
theorem RightK.nodup {K : Nat → List Nat} {n : Nat} (h : RightK K n) : (post (X K (n - 1))).Nodup := h.perm.symm.nodup List.nodup_range
theorem RightK.all {K : Nat → List Nat} {n : Nat} (h : RightK K n) (i : Nat) (hi : i < n) : i ∈ post (X K (n - 1)) := h.perm.symm.subset (List.mem_range.2 hi)
theorem RightK.size {K : Nat → List Nat} {n : Nat} (h : RightK K n) : M K (n - 1) = n := by
  have := h.perm.length_eq
  rw [post_len, List.length_range] at this
  exact this

theorem post_infix {K : Nat → List Nat} (hK : Dec K) (i : Nat) : ∀ x ∈ post (X K i), post (X K x) <:+: post (X K i) := by
  induction i using Nat.strongRecOn with
  | ind i ih =>
    intro x hx
    have hx' := hx
    rw [post_X hK, List.mem_append, List.mem_flatMap] at hx
    rcases hx with ⟨k, hk, hx⟩ | hx
    · have h1 := ih k (hK i k hk) x hx
      refine h1.trans ?_
      rw [post_X hK i]
      obtain ⟨a, b, hab⟩ := List.append_of_mem hk
      rw [hab, List.flatMap_append, List.flatMap_cons]
      exact ⟨a.flatMap fun k => post (X K k), (b.flatMap fun k => post (X K k)) ++ [i], by simp⟩
    · have e : x = i := by simpa using hx
      subst e
      exact List.infix_refl _
theorem RightK.nodup_at {K : Nat → List Nat} {n : Nat} (h : RightK K n) (i : Nat) (hi : i < n) : (post (X K i)).Nodup :=
  (post_infix h.dec _ i (h.all i hi)).sublist.nodup h.nodup
theorem RightK.M_le {K : Nat → List Nat} {n : Nat} (h : RightK K n) (i : Nat) (hi : i < n) : M K i ≤ n := by
  have h1 := (post_infix h.dec _ i (h.all i hi)).sublist.length_le
  rw [post_len, post_len] at h1
  have := h.size
  unfold M at this ⊢
  omega
theorem RightK.lt {K : Nat → List Nat} {n : Nat} (h : RightK K n) (i : Nat) (hi : i < n) : ∀ x ∈ post (X K i), x < n := fun x hx =>
  Nat.lt_of_le_of_lt (mem_post_le h.dec i x hx) hi
/-- No node is the kid of two. -/
theorem RightK.one {K : Nat → List Nat} {n : Nat} (h : RightK K n) {i j k : Nat} (hi : i < n) (hj : j < n) (hik : k ∈ K i) (hjk : k ∈ K j) : i = j := by
  have h1 := (List.pairwise_flatMap.1 h.once).2
  have h2 : ∀ a b : Nat, a < b → b < n → k ∈ K a → k ∈ K b → False := by
    intro a b hab hb ka kb
    have h3 := List.pairwise_iff_getElem.1 h1 a b (by simp; omega) (by simpa using hb) hab
    simp only [List.getElem_range] at h3
    exact h3 k ka k kb rfl
  rcases Nat.lt_trichotomy i j with h4 | h4 | h4
  · exact (h2 i j h4 hj hik hjk).elim
  · exact h4
  · exact (h2 j i h4 hi hjk hik).elim
theorem RightK.own {K : Nat → List Nat} {n : Nat} (h : RightK K n) {i : Nat} (hi : i < n) : (K i).Nodup :=
  (List.pairwise_flatMap.1 h.once).1 i (List.mem_range.2 hi)

/- ## Places -/

/-- Where so many begin, one behind the other. -/
def starts (K : Nat → List Nat) : Nat → List Nat → List Nat
  | _, [] => []
  | b, k :: ks => b :: starts K (b + M K k) ks
theorem starts_append (K : Nat → List Nat) (b : Nat) (l m : List Nat) : starts K b (l ++ m) = starts K b l ++ starts K (b + Ms K l) m := by
  induction l generalizing b with
  | nil => simp [starts, Ms_nil]
  | cons a l ih => simp [starts, ih, Ms_cons, Nat.add_assoc]

/-- Each node's kids begin behind one another (own: 1, where the node is ahead of them). -/
def Spread (K : Nat → List Nat) (n own : Nat) (F : Nat → Nat) : Prop := ∀ i, i < n → (K i).map F = starts K (F i + own) (K i)

theorem range'_cat (b m n : Nat) : List.range' b m ++ List.range' (b + m) n = List.range' b (m + n) := by
  have := @List.range'_append b m n 1
  rwa [Nat.one_mul] at this

theorem starts_flat (K : Nat → List Nat) {F : Nat → Nat} {f : Nat → List Nat} : ∀ (l : List Nat) (b : Nat), l.map F = starts K b l → (∀ k ∈ l, f k = List.range' (F k) (M K k)) →
    l.flatMap f = List.range' b (Ms K l)
  | [], b, _, _ => by simp [Ms_nil]
  | k :: ks, b, hm, hf => by
    rw [List.map_cons, starts] at hm
    obtain ⟨h1, h2⟩ := List.cons.inj hm
    rw [List.flatMap_cons, hf k (by simp), h1, starts_flat K ks (b + M K k) h2 (fun x hx => hf x (by simp [hx])), Ms_cons, range'_cat]

/-- Behind its kids: the nodes' places are in a row. -/
theorem post_places {K : Nat → List Nat} (hK : Dec K) {n : Nat} {F : Nat → Nat} (hF : Spread K n 0 F) (i : Nat) (hi : i < n) :
    (post (X K i)).map (fun x => F x + M K x - 1) = List.range' (F i) (M K i) := by
  induction i using Nat.strongRecOn with
  | ind i ih =>
    rw [post_X hK, List.map_append, List.map_flatMap]
    rw [starts_flat K (K i) (F i + 0) (hF i hi) (fun k hk => ih k (hK i k hk) (by have := hK i k hk; omega))]
    have h1 := M_eq hK i
    rw [List.map_singleton, h1, Nat.add_zero, ← range'_cat]
    simp

/-- Ahead of its kids. -/
theorem pre_places {K : Nat → List Nat} (hK : Dec K) {n : Nat} {F : Nat → Nat} (hF : Spread K n 1 F) (i : Nat) (hi : i < n) :
    (pre (X K i)).map F = List.range' (F i) (M K i) := by
  induction i using Nat.strongRecOn with
  | ind i ih =>
    rw [pre_X hK, List.map_cons, List.map_flatMap]
    rw [starts_flat K (K i) (F i + 1) (hF i hi) (fun k hk => ih k (hK i k hk) (by have := hK i k hk; omega))]
    have h1 := M_eq hK i
    rw [h1, Nat.add_comm (Ms K (K i)) 1, ← range'_cat]
    simp
end Go.Proofs.YtpkjfdgjmcphmaaDoor.Tm

/- Trees in arenas: when one is right, what stands in it, its clean form. Of no program. -/
namespace Go.Proofs.YtpkjfdgjmcphmaaDoor.Tm

/-- What a node has beside its kids. -/
structure Hd where
  kind : Nat
  set : BitVec 256
  text : ByteArray
  lo : Int
  hi : Int

structure Nd where
  hd : Hd
  kids : List Int

/-- A tree in an arena. -/
structure Ar where
  nodes : List Nd
  root : Int

def noHd : Hd := ⟨0, 0, ⟨#[]⟩, 0, 0⟩
def noNd : Nd := ⟨noHd, []⟩
def noAr : Ar := ⟨[], 0⟩

def isZ (h : Hd) : Bool := decide (h.lo = 0) && decide (h.hi = 0)
def noSet (h : Hd) : Bool := decide (h.set = 0#256)
def noText (h : Hd) : Bool := decide (h.text.size = 0)
def reps (a b : Int) : Bool := decide (0 ≤ a) && decide (a ≤ 99) && (decide (b = -1) || decide (a ≤ b) && decide (b ≤ 99))

/-- P4.1: does a node fit, that has so many kids? -/
def fits (h : Hd) (m : Int) : Bool :=
  match h.kind with
  | 0 => noSet h && noText h && isZ h && decide (m = 0)
  | 1 => noText h && isZ h && decide (m = 0)
  | 2 => noSet h && isZ h && decide (m = 0) && (decide (1 ≤ h.text.size) && decide (h.text.size ≤ 255))
  | 3 => noSet h && isZ h && decide (m = 0) && Nm.mayB h.text
  | 4 => noSet h && noText h && isZ h && decide (2 ≤ m)
  | 5 => noSet h && noText h && isZ h && decide (2 ≤ m)
  | 6 => noSet h && noText h && decide (m = 1) && reps h.lo h.hi
  | 7 => noSet h && noText h && isZ h && decide (m = 1)
  | 8 => noSet h && noText h && isZ h && decide (m = 1)
  | 9 => noSet h && isZ h && decide (m = 1) && Nm.mayB h.text
  | _ => false

/-- An arena that is right. -/
structure RightA (A : List Nd) : Prop where
  pos : A ≠ []
  fit : ∀ (i : Nat) n, A[i]? = some n → fits n.hd n.kids.length = true
  low : ∀ (i : Nat) n, A[i]? = some n → ∀ k ∈ n.kids, 0 ≤ k ∧ k < i
  once : (A.flatMap Nd.kids).Nodup
  each : ∀ j : Nat, j + 1 < A.length → (j : Int) ∈ A.flatMap Nd.kids

def RightT (T : Ar) : Prop := T.root = T.nodes.length - 1 ∧ RightA T.nodes
noncomputable def rightB (T : Ar) : Bool := @decide (RightT T) (Classical.propDecidable _)
theorem rightB_iff {T : Ar} : rightB T = true ↔ RightT T := by unfold rightB; simp
theorem rightB_no {T : Ar} : rightB T = false ↔ ¬ RightT T := by unfold rightB; simp

/- ## The tree of an arena -/
def kidsN (A : List Nd) (i : Nat) : List Nat := ((A[i]?.map Nd.kids).getD []).map Int.toNat
def hdAt (A : List Nd) (i : Nat) : Hd := (A[i]?.map Nd.hd).getD noHd
def tau (A : List Nd) (i : Nat) : RT Hd := map (hdAt A) (X (kidsN A) i)

theorem kidsN_some {A : List Nd} {i : Nat} {n : Nd} (h : A[i]? = some n) : kidsN A i = n.kids.map Int.toNat := by simp [kidsN, h]
theorem kidsN_none {A : List Nd} {i : Nat} (h : A.length ≤ i) : kidsN A i = [] := by simp [kidsN, h]
theorem hdAt_some {A : List Nd} {i : Nat} {n : Nd} (h : A[i]? = some n) : hdAt A i = n.hd := by simp [hdAt, h]

theorem kidsN_flat (A : List Nd) : (List.range A.length).flatMap (kidsN A) = (A.flatMap Nd.kids).map Int.toNat := by
  have h : A = (List.range A.length).map fun i => A.getD i noNd := by
    apply List.ext_getElem
    · simp
    · intro i h1 h2
      simp at h2
      simp [h2]
  have h2 : ∀ (B : List Nd), (∀ i, i < A.length → kidsN B i = (A.getD i noNd).kids.map Int.toNat) →
      (List.range A.length).flatMap (kidsN B) = (((List.range A.length).map fun i => A.getD i noNd).flatMap Nd.kids).map Int.toNat := by
    intro B hB
    rw [List.flatMap_map, List.map_flatMap]
    have : ∀ l : List Nat, (∀ i ∈ l, i < A.length) → l.flatMap (kidsN B) = l.flatMap fun i => (A.getD i noNd).kids.map Int.toNat := by
      intro l hl
      induction l with
      | nil => rfl
      | cons a l ih =>
        rw [List.flatMap_cons, List.flatMap_cons, hB a (hl a (by simp)), ih (fun i hi => hl i (by simp [hi]))]
    exact this _ (fun i hi => List.mem_range.1 hi)
  rw [h2 A, ← h]
  intro i hi
  rw [kidsN_some (n := A[i]) (by simp [hi])]
  simp [hi]

theorem nodup_toNat {l : List Int} (h : l.Nodup) (h0 : ∀ k ∈ l, 0 ≤ k) : (l.map Int.toNat).Nodup := by
  induction l with
  | nil => simp
  | cons a l ih =>
    rw [List.nodup_cons] at h
    rw [List.map_cons, List.nodup_cons]
    refine ⟨fun hm => ?_, ih h.2 (fun k hk => h0 k (by simp [hk]))⟩
    obtain ⟨b, hb, e⟩ := List.mem_map.1 hm
    have h1 := h0 a (by simp)
    have h2 := h0 b (by simp [hb])
    have : b = a := by omega
    exact h.1 (this ▸ hb)

theorem RightA.low' {A : List Nd} (h : RightA A) : ∀ k ∈ A.flatMap Nd.kids, 0 ≤ k := by
  intro k hk
  obtain ⟨n, hn, hk⟩ := List.mem_flatMap.1 hk
  obtain ⟨i, hi, rfl⟩ := List.mem_iff_getElem.1 hn
  exact (h.low i _ (by simp [hi]) k hk).1

theorem dec_of {A : List Nd} (h : ∀ (i : Nat) n, A[i]? = some n → ∀ k ∈ n.kids, 0 ≤ k ∧ k < i) : Dec (kidsN A) := by
  intro i k hk
  cases hA : A[i]? with
  | none =>
    rw [kidsN_none (by simpa using hA)] at hk
    simp at hk
  | some n =>
    rw [kidsN_some hA] at hk
    obtain ⟨a, ha, e⟩ := List.mem_map.1 hk
    have := h i n hA a ha
    omega

theorem RightA.k {A : List Nd} (h : RightA A) : RightK (kidsN A) A.length where
  pos := by
    have := h.pos
    cases A with
    | nil => exact absurd rfl this
    | cons a l => simp
  dec := dec_of h.low
  once := by
    rw [kidsN_flat]
    exact nodup_toNat h.once h.low'
  each := fun j hj => by
    rw [kidsN_flat]
    exact List.mem_map.2 ⟨_, h.each j hj, by simp⟩

theorem tau_eq {A : List Nd} (hK : Dec (kidsN A)) (i : Nat) : tau A i = .mk (hdAt A i) ((kidsN A i).map (tau A)) := by
  unfold tau
  rw [X_eq hK, map, maps_eq, List.map_map]
  rfl
theorem tau_size (A : List Nd) (i : Nat) : size (tau A i) = M (kidsN A) i := size_map _ _
theorem taus_size (A : List Nd) (l : List Nat) : sizes (l.map (tau A)) = Ms (kidsN A) l := by
  induction l with
  | nil => rfl
  | cons a l ih => rw [List.map_cons, sizes, ih, tau_size, Ms_cons]

/- ## The clean form -/
def roots (b : Nat) : List (RT Hd) → List Int
  | [] => []
  | t :: ts => ((b + size t - 1 : Nat) : Int) :: roots (b + size t) ts

mutual
def flatAt (b : Nat) : RT Hd → List Nd
  | .mk h ks => flatsAt b ks ++ [⟨h, roots b ks⟩]
def flatsAt (b : Nat) : List (RT Hd) → List Nd
  | [] => []
  | t :: ts => flatAt b t ++ flatsAt (b + size t) ts
end

/-- The clean arena of a tree. -/
def flat (t : RT Hd) : List Nd := flatAt 0 t

theorem roots_len (b : Nat) (ts : List (RT Hd)) : (roots b ts).length = ts.length := by
  induction ts generalizing b with
  | nil => rfl
  | cons t ts ih => simp [roots, ih]
theorem roots_bound (b : Nat) (ts : List (RT Hd)) : ∀ k ∈ roots b ts, (b : Int) ≤ k ∧ k < (b : Int) + sizes ts := by
  induction ts generalizing b with
  | nil => simp [roots]
  | cons t ts ih =>
    intro k hk
    have := size_pos t
    rw [roots, List.mem_cons] at hk
    rw [sizes]
    rcases hk with rfl | hk
    · omega
    · have := ih _ k hk
      omega
theorem roots_append (b : Nat) (l m : List (RT Hd)) : roots b (l ++ m) = roots b l ++ roots (b + sizes l) m := by
  induction l generalizing b with
  | nil => simp [roots, sizes]
  | cons t l ih => simp [roots, sizes, ih, Nat.add_assoc]
theorem flatsAt_append (b : Nat) (l m : List (RT Hd)) : flatsAt b (l ++ m) = flatsAt b l ++ flatsAt (b + sizes l) m := by
  induction l generalizing b with
  | nil => simp [flatsAt, sizes]
  | cons t l ih => simp [flatsAt, sizes, ih, Nat.add_assoc]

mutual
theorem flat_len : ∀ (t : RT Hd) (b : Nat), (flatAt b t).length = size t
  | .mk h ks, b => by simp [flatAt, size, flats_len ks b]
theorem flats_len : ∀ (ts : List (RT Hd)) (b : Nat), (flatsAt b ts).length = sizes ts
  | [], _ => rfl
  | t :: ts, b => by simp [flatsAt, sizes, flat_len t b, flats_len ts]
end

/-- Kids' numbers moved. -/
def mv (c : Int) (n : Nd) : Nd := ⟨n.hd, n.kids.map (· + c)⟩

theorem roots_mv (c : Int) (ts : List (RT Hd)) : ∀ (b b' : Nat), (b' : Int) = b + c → (roots b ts).map (· + c) = roots b' ts := by
  induction ts with
  | nil => intros; rfl
  | cons t ts ih =>
    intro b b' h
    have := size_pos t
    rw [roots, roots, List.map_cons, ih (b + size t) (b' + size t) (by omega)]
    congr 1
    omega

mutual
theorem flat_mv (c : Int) : ∀ (t : RT Hd) (b b' : Nat), (b' : Int) = b + c → (flatAt b t).map (mv c) = flatAt b' t
  | .mk h ks, b, b', e => by
    rw [flatAt, flatAt, List.map_append, flats_mv c ks b b' e, List.map_singleton, mv, roots_mv c ks b b' e]
theorem flats_mv (c : Int) : ∀ (ts : List (RT Hd)) (b b' : Nat), (b' : Int) = b + c → (flatsAt b ts).map (mv c) = flatsAt b' ts
  | [], _, _, _ => rfl
  | t :: ts, b, b', e => by
    rw [flatsAt, flatsAt, List.map_append, flat_mv c t b b' e, flats_mv c ts (b + size t) (b' + size t) (by omega)]
end

/-- **Where the nodes' places are in a row, what stands at these places is the clean form.** -/
theorem post_flat {A : List Nd} (hK : Dec (kidsN A)) (p : Nat → Nat) : ∀ (i b : Nat), (post (X (kidsN A) i)).map p = List.range' b (M (kidsN A) i) →
    (post (X (kidsN A) i)).map (fun j => (⟨hdAt A j, (kidsN A j).map fun k => (p k : Int)⟩ : Nd)) = flatAt b (tau A i) := by
  intro i
  induction i using Nat.strongRecOn with
  | ind i ih =>
    have last : ∀ k b, (post (X (kidsN A) k)).map p = List.range' b (M (kidsN A) k) → p k = b + M (kidsN A) k - 1 := by
      intro k b h
      have h1 := M_pos (kidsN A) k
      obtain ⟨l, hl⟩ := post_last (X (kidsN A) k)
      rw [hl, List.map_append, top_X hK, List.map_singleton] at h
      obtain ⟨m, hm⟩ : ∃ m, M (kidsN A) k = m + 1 := ⟨M (kidsN A) k - 1, by omega⟩
      rw [hm, ← range'_cat b m 1] at h
      have := (List.append_inj' h (by simp)).2
      simp at this
      omega
    have kids : ∀ (l : List Nat) (b : Nat), (∀ k ∈ l, k < i) → (l.flatMap fun k => post (X (kidsN A) k)).map p = List.range' b (Ms (kidsN A) l) →
        (l.flatMap fun k => post (X (kidsN A) k)).map (fun j => (⟨hdAt A j, (kidsN A j).map fun k => (p k : Int)⟩ : Nd)) = flatsAt b (l.map (tau A)) ∧ l.map (fun k => (p k : Int)) = roots b (l.map (tau A)) := by
      intro l
      induction l with
      | nil => intros; exact ⟨rfl, rfl⟩
      | cons k l ihl =>
        intro b hl h
        rw [List.flatMap_cons, List.map_append, Ms_cons, ← range'_cat] at h
        obtain ⟨h1, h2⟩ := List.append_inj h (by simp [post_len, M])
        obtain ⟨h3, h4⟩ := ihl _ (fun x hx => hl x (by simp [hx])) h2
        have h5 := ih k (hl k (by simp)) b h1
        have h6 := last k b h1
        rw [List.flatMap_cons, List.map_append, List.map_cons, List.map_cons, flatsAt, roots, h5, tau_size, h3, h4, h6]
        exact ⟨rfl, rfl⟩
    intro b h
    have hM := M_eq hK i
    rw [post_X hK, List.map_append, hM, ← range'_cat] at h
    obtain ⟨h1, _⟩ := List.append_inj' h (by simp)
    obtain ⟨h3, h4⟩ := kids _ b (fun k hk => hK i k hk) h1
    rw [post_X hK, tau_eq hK, flatAt, List.map_append, h3, List.map_singleton, h4]

/- ## What a clean arena is -/
mutual
def fitT : RT Hd → Bool
  | .mk h ks => fits h ks.length && fitTs ks
def fitTs : List (RT Hd) → Bool
  | [] => true
  | t :: ts => fitT t && fitTs ts
end
theorem fitTs_iff {ts : List (RT Hd)} : fitTs ts = true ↔ ∀ t ∈ ts, fitT t = true := by
  induction ts with
  | nil => simp [fitTs]
  | cons t ts ih => simp [fitTs, ih]

theorem fit_tau {A : List Nd} (h : RightA A) (i : Nat) (hi : i < A.length) : fitT (tau A i) = true := by
  induction i using Nat.strongRecOn with
  | ind i ih =>
    have hA : A[i]? = some A[i] := by simp [hi]
    rw [tau_eq (dec_of h.low), fitT, hdAt_some hA, List.length_map, kidsN_some hA, List.length_map, h.fit i _ hA, Bool.true_and, fitTs_iff]
    intro t ht
    obtain ⟨k, hk, rfl⟩ := List.mem_map.1 ht
    have := dec_of h.low i k (by rw [kidsN_some hA]; exact hk)
    exact ih k this (by omega)

mutual
theorem flat_fit : ∀ (t : RT Hd) (b : Nat), fitT t = true → ∀ n ∈ flatAt b t, fits n.hd n.kids.length = true
  | .mk h ks, b, hf, n, hn => by
    rw [fitT, Bool.and_eq_true] at hf
    rw [flatAt, List.mem_append, List.mem_singleton] at hn
    rcases hn with hn | rfl
    · exact flats_fit ks b hf.2 n hn
    · simpa [roots_len] using hf.1
theorem flats_fit : ∀ (ts : List (RT Hd)) (b : Nat), fitTs ts = true → ∀ n ∈ flatsAt b ts, fits n.hd n.kids.length = true
  | [], _, _, n, hn => by simp [flatsAt] at hn
  | t :: ts, b, hf, n, hn => by
    rw [fitTs, Bool.and_eq_true] at hf
    rw [flatsAt, List.mem_append] at hn
    rcases hn with hn | hn
    · exact flat_fit t b hf.1 n hn
    · exact flats_fit ts _ hf.2 n hn
end

mutual
theorem flat_low : ∀ (t : RT Hd) (b a : Nat) (n : Nd), (flatAt b t)[a]? = some n → ∀ k ∈ n.kids, (b : Int) ≤ k ∧ k < b + a
  | .mk h ks, b, a, n, hn, k, hk => by
    rw [flatAt] at hn
    by_cases ha : a < (flatsAt b ks).length
    · rw [List.getElem?_append_left ha] at hn
      exact flats_low ks b a n hn k hk
    · rw [List.getElem?_append_right (by omega)] at hn
      rw [flats_len] at hn ha
      have h0 : a - sizes ks = 0 := by
        have := (List.getElem?_eq_some_iff.1 hn).1
        simp at this
        omega
      rw [h0] at hn
      have e : n = ⟨h, roots b ks⟩ := by simpa using hn.symm
      subst e
      have := roots_bound b ks k hk
      omega
theorem flats_low : ∀ (ts : List (RT Hd)) (b a : Nat) (n : Nd), (flatsAt b ts)[a]? = some n → ∀ k ∈ n.kids, (b : Int) ≤ k ∧ k < b + a
  | [], _, _, n, hn, _, _ => by simp [flatsAt] at hn
  | t :: ts, b, a, n, hn, k, hk => by
    rw [flatsAt] at hn
    by_cases ha : a < (flatAt b t).length
    · rw [List.getElem?_append_left ha] at hn
      exact flat_low t b a n hn k hk
    · rw [List.getElem?_append_right (by omega)] at hn
      rw [flat_len] at hn ha
      have := flats_low ts _ _ n hn k hk
      omega
end

def rangeI (b n : Nat) : List Int := (List.range' b n).map Int.ofNat
theorem rangeI_cat (b m n : Nat) : rangeI b m ++ rangeI (b + m) n = rangeI b (m + n) := by unfold rangeI; rw [← List.map_append, range'_cat]
theorem rangeI_one (b : Nat) : rangeI b 1 = [(b : Int)] := rfl

theorem rangeI_nodup (b n : Nat) : (rangeI b n).Nodup := by
  unfold rangeI
  exact List.pairwise_map.2 (List.Pairwise.imp (fun h e => h (Int.ofNat.inj e)) List.nodup_range')

mutual
theorem flat_perm : ∀ (t : RT Hd) (b : Nat), ((flatAt b t).flatMap Nd.kids ++ [((b + size t - 1 : Nat) : Int)]).Perm (rangeI b (size t))
  | .mk h ks, b => by
    rw [flatAt, List.flatMap_append, size, ← rangeI_cat, rangeI_one]
    simp only [List.flatMap_cons, List.flatMap_nil, List.append_nil]
    exact (flats_perm ks b).append_right _
theorem flats_perm : ∀ (ts : List (RT Hd)) (b : Nat), ((flatsAt b ts).flatMap Nd.kids ++ roots b ts).Perm (rangeI b (sizes ts))
  | [], _ => by simp [flatsAt, roots, sizes, rangeI]
  | t :: ts, b => by
    rw [flatsAt, List.flatMap_append, roots, sizes, ← rangeI_cat]
    refine .trans ?_ ((flat_perm t b).append (flats_perm ts (b + size t)))
    rw [List.append_assoc, List.append_assoc]
    refine .append_left _ ?_
    exact List.perm_middle
end

theorem flat_right (t : RT Hd) (h : fitT t = true) : RightA (flat t) where
  pos := by
    have h1 := flat_len t 0
    have h2 := size_pos t
    intro e
    unfold flat at e
    rw [e] at h1
    simp at h1
    omega
  fit := fun i n hn => flat_fit t 0 h n (List.mem_of_getElem? hn)
  low := fun i n hn k hk => by
    have := flat_low t 0 i n hn k hk
    omega
  once := by
    have h1 := (flat_perm t 0).symm.nodup (rangeI_nodup 0 (size t))
    exact (List.nodup_append.1 h1).1
  each := fun j hj => by
    have hl : (flat t).length = size t := flat_len t 0
    have h1 : (j : Int) ∈ rangeI 0 (size t) := by
      unfold rangeI
      exact List.mem_map.2 ⟨j, by simp; omega, rfl⟩
    have h2 := (flat_perm t 0).symm.subset h1
    rw [List.mem_append, List.mem_singleton] at h2
    rcases h2 with h2 | h2
    · exact h2
    · omega

mutual
theorem tau_flat (A : List Nd) (hK : Dec (kidsN A)) : ∀ (t : RT Hd) (b : Nat), (∀ a, a < size t → A[b + a]? = (flatAt b t)[a]?) → tau A (b + size t - 1) = t
  | .mk h ks, b, hA => by
    have h1 := tau_flats A hK ks b (fun a ha => by
      rw [hA a (by rw [size]; omega), flatAt, List.getElem?_append_left (by rw [flats_len]; exact ha)])
    have h2 : A[b + sizes ks]? = some ⟨h, roots b ks⟩ := by
      rw [hA (sizes ks) (by rw [size]; omega), flatAt, List.getElem?_append_right (by rw [flats_len]; exact Nat.le_refl _), flats_len]
      simp
    rw [size, show b + (sizes ks + 1) - 1 = b + sizes ks by omega, tau_eq hK, hdAt_some h2, kidsN_some h2, List.map_map]
    exact congrArg (RT.mk h) h1
theorem tau_flats (A : List Nd) (hK : Dec (kidsN A)) : ∀ (ts : List (RT Hd)) (b : Nat), (∀ a, a < sizes ts → A[b + a]? = (flatsAt b ts)[a]?) → (roots b ts).map (fun r => tau A r.toNat) = ts
  | [], _, _ => rfl
  | t :: ts, b, hA => by
    have h1 := tau_flat A hK t b (fun a ha => by
      rw [hA a (by rw [sizes]; omega), flatsAt, List.getElem?_append_left (by rw [flat_len]; exact ha)])
    have h2 := tau_flats A hK ts (b + size t) (fun a ha => by
      rw [Nat.add_assoc, hA (size t + a) (by rw [sizes]; omega), flatsAt, List.getElem?_append_right (by rw [flat_len]; omega), flat_len]
      congr 1
      omega)
    rw [roots, List.map_cons, h2, Int.toNat_natCast, h1]
end

theorem flat_dec (t : RT Hd) : Dec (kidsN (flat t)) := dec_of fun i n hn k hk => by
  have := flat_low t 0 i n hn k hk
  omega
theorem tau_of_flat (t : RT Hd) : tau (flat t) (size t - 1) = t := by
  have := tau_flat (flat t) (flat_dec t) t 0 (fun a _ => by rw [Nat.zero_add]; rfl)
  rwa [Nat.zero_add] at this
theorem flat_length (t : RT Hd) : (flat t).length = size t := flat_len t 0
theorem flat_inj {a b : RT Hd} (h : flat a = flat b) : a = b := by
  have h1 := flat_length a
  have h2 := flat_length b
  rw [h] at h1
  have h3 := tau_of_flat a
  rw [h, show size a = size b by omega, tau_of_flat] at h3
  exact h3.symm

/-- The tree of an arena, and the clean arena of it. -/
def tree (T : Ar) : RT Hd := tau T.nodes T.root.toNat
def arOf (t : RT Hd) : Ar := ⟨flat t, (size t : Int) - 1⟩
theorem arOf_right {t : RT Hd} (h : fitT t = true) : RightT (arOf t) := ⟨by simp [arOf, flat_length], flat_right t h⟩
theorem tree_arOf (t : RT Hd) : tree (arOf t) = t := by
  unfold tree arOf
  have := size_pos t
  rw [show ((size t : Int) - 1).toNat = size t - 1 by omega]
  exact tau_of_flat t
theorem RightT.at {T : Ar} (h : RightT T) : T.root.toNat = T.nodes.length - 1 ∧ T.root = ((T.nodes.length - 1 : Nat) : Int) := by
  have h1 := h.1
  have h2 := h.2.k.pos
  omega
theorem RightT.fit {T : Ar} (h : RightT T) : fitT (tree T) = true := by
  have h1 := h.at
  have h2 := h.2.k.pos
  unfold tree
  rw [h1.1]
  exact fit_tau h.2 _ (by omega)
theorem RightT.size {T : Ar} (h : RightT T) : Tm.size (tree T) = T.nodes.length := by
  unfold tree
  rw [h.at.1, tau_size, h.2.k.size]
end Go.Proofs.YtpkjfdgjmcphmaaDoor.Tm

/- Plain facts on sets of bytes: a set as a function from numbers to Bool, its four words, its list. Of no program. -/
namespace Go.Proofs.YtpkjfdgjmcphmaaDoor.Bset
open Go

/-- The number that the low m bits of word k spell. -/
def wb (S : Nat → Bool) (k : Nat) : Nat → Nat
  | 0 => 0
  | m + 1 => wb S k m + if S (64 * k + m) then 2 ^ m else 0

/-- Word k of the set. -/
def word (S : Nat → Bool) (k : Nat) : Nat := wb S k 64

theorem wb_lt (S : Nat → Bool) (k m : Nat) : wb S k m < 2 ^ m := by
  induction m with
  | zero => simp [wb]
  | succ m ih =>
    have : 2 ^ (m + 1) = 2 ^ m + 2 ^ m := by rw [Nat.pow_succ]; omega
    unfold wb
    split <;> omega

theorem wb_testBit (S : Nat → Bool) (k m j : Nat) : (wb S k m).testBit j = (decide (j < m) && S (64 * k + j)) := by
  induction m with
  | zero => simp [wb]
  | succ m ih =>
    have hlt := wb_lt S k m
    unfold wb
    by_cases hs : S (64 * k + m) = true
    · rw [if_pos hs, Nat.add_comm]
      by_cases hj : j = m
      · subst hj
        rw [Nat.testBit_two_pow_add_eq, Nat.testBit_lt_two_pow hlt]
        simp [hs]
      · rcases Nat.lt_or_gt_of_ne hj with h | h
        · rw [Nat.testBit_two_pow_add_gt h, ih]
          have h1 : j < m + 1 := by omega
          simp [h, h1]
        · have hb : 2 ^ m + wb S k m < 2 ^ j := by
            have h2 : 2 ^ (m + 1) ≤ 2 ^ j := Nat.pow_le_pow_right (by decide) h
            rw [Nat.pow_succ] at h2
            omega
          rw [Nat.testBit_lt_two_pow hb]
          have h1 : ¬ j < m + 1 := by omega
          simp [h1]
    · rw [if_neg hs, Nat.add_zero, ih]
      by_cases hj : j = m
      · subst hj
        have hs' : S (64 * k + j) = false := by simpa using hs
        simp [hs']
      · have : (j < m + 1) ↔ j < m := by omega
        simp [this]

theorem word_lt (S : Nat → Bool) (k : Nat) : word S k < 18446744073709551616 := by
  have h := wb_lt S k 64
  have e : (2 : Nat) ^ 64 = 18446744073709551616 := by decide
  unfold word
  omega

theorem word_testBit (S : Nat → Bool) (k j : Nat) : (word S k).testBit j = (decide (j < 64) && S (64 * k + j)) := wb_testBit S k 64 j

/-- A number below 2^64 is the word of whatever set has its bits there. -/
theorem eq_word {n : Nat} {S : Nat → Bool} {k : Nat} (hn : n < 18446744073709551616) (h : ∀ j, j < 64 → n.testBit j = S (64 * k + j)) : n = word S k := by
  apply Nat.eq_of_testBit_eq
  intro j
  rw [word_testBit]
  by_cases hj : j < 64
  · simp [hj, h j hj]
  · have e : (2 : Nat) ^ 64 = 18446744073709551616 := by decide
    have h2 : 2 ^ 64 ≤ 2 ^ j := Nat.pow_le_pow_right (by decide) (by omega)
    rw [Nat.testBit_lt_two_pow (by omega)]
    simp [hj]

theorem word_congr {S T : Nat → Bool} (h : ∀ n, n < 256 → S n = T n) {k : Nat} (hk : k < 4) : word S k = word T k :=
  eq_word (word_lt S k) (fun j hj => by rw [word_testBit, h _ (by omega)]; simp [hj])

theorem word_ext {S T : Nat → Bool} (h0 : word S 0 = word T 0) (h1 : word S 1 = word T 1) (h2 : word S 2 = word T 2) (h3 : word S 3 = word T 3) :
    ∀ n, n < 256 → S n = T n := by
  intro n hn
  have hk : ∀ k, k < 4 → word S k = word T k := by
    intro k hk
    match k, hk with
    | 0, _ => exact h0
    | 1, _ => exact h1
    | 2, _ => exact h2
    | 3, _ => exact h3
  have h := hk (n / 64) (by omega)
  have a := word_testBit S (n / 64) (n % 64)
  rw [h, word_testBit] at a
  have e : 64 * (n / 64) + n % 64 = n := by omega
  have e2 : n % 64 < 64 := by omega
  simpa [e, e2] using a.symm

/-- The set that four words spell. -/
def ofW (a b c d : Nat) (n : Nat) : Bool :=
  if n / 64 = 0 then a.testBit (n % 64) else if n / 64 = 1 then b.testBit (n % 64) else if n / 64 = 2 then c.testBit (n % 64) else d.testBit (n % 64)

theorem ofW_words {a b c d : Nat} (ha : a < 18446744073709551616) (hb : b < 18446744073709551616) (hc : c < 18446744073709551616) (hd : d < 18446744073709551616) :
    a = word (ofW a b c d) 0 ∧ b = word (ofW a b c d) 1 ∧ c = word (ofW a b c d) 2 ∧ d = word (ofW a b c d) 3 := by
  have m : ∀ k j, j < 64 → (64 * k + j) / 64 = k ∧ (64 * k + j) % 64 = j := fun k j h => by omega
  refine ⟨eq_word ha ?_, eq_word hb ?_, eq_word hc ?_, eq_word hd ?_⟩ <;>
  · intro j hj
    obtain ⟨h1, h2⟩ := m _ j hj
    unfold ofW
    rw [h1, h2]
    simp

theorem ofWs {a b c d : Int} (ha : 0 ≤ a) (ha' : a ≤ 18446744073709551615) (hb : 0 ≤ b) (hb' : b ≤ 18446744073709551615) (hc : 0 ≤ c) (hc' : c ≤ 18446744073709551615) (hd : 0 ≤ d) (hd' : d ≤ 18446744073709551615) :
    ∃ S : Nat → Bool, a = (word S 0 : Int) ∧ b = (word S 1 : Int) ∧ c = (word S 2 : Int) ∧ d = (word S 3 : Int) := by
  obtain ⟨a, rfl⟩ := Int.eq_ofNat_of_zero_le ha
  obtain ⟨b, rfl⟩ := Int.eq_ofNat_of_zero_le hb
  obtain ⟨c, rfl⟩ := Int.eq_ofNat_of_zero_le hc
  obtain ⟨d, rfl⟩ := Int.eq_ofNat_of_zero_le hd
  obtain ⟨e1, e2, e3, e4⟩ := @ofW_words a b c d (by omega) (by omega) (by omega) (by omega)
  exact ⟨ofW a b c d, by rw [← e1], by rw [← e2], by rw [← e3], by rw [← e4]⟩

/-! ### Bit by bit -/

/-- The bit of a byte in its word. -/
def bt (b : Nat) : Nat := 2 ^ (b % 64)

theorem two64 : (2 : Nat) ^ 64 = 18446744073709551616 := by decide

theorem or_lt {a b : Nat} (ha : a < 18446744073709551616) (hb : b < 18446744073709551616) : a ||| b < 18446744073709551616 := by
  rw [← two64] at *
  exact Nat.or_lt_two_pow ha hb

theorem and_lt {a : Nat} (b : Nat) (ha : a < 18446744073709551616) : a &&& b < 18446744073709551616 :=
  Nat.lt_of_le_of_lt Nat.and_le_left ha

theorem word_or (S T : Nat → Bool) (k : Nat) : word S k ||| word T k = word (fun n => S n || T n) k :=
  eq_word (or_lt (word_lt _ _) (word_lt _ _)) (fun j hj => by rw [Nat.testBit_or, word_testBit, word_testBit]; simp [hj])

theorem word_and (S T : Nat → Bool) (k : Nat) : word S k &&& word T k = word (fun n => S n && T n) k :=
  eq_word (and_lt _ (word_lt _ _)) (fun j hj => by rw [Nat.testBit_and, word_testBit, word_testBit]; simp [hj])

theorem word_not (S : Nat → Bool) (k : Nat) : 18446744073709551615 - word S k = word (fun n => !S n) k := by
  have h := word_lt S k
  refine eq_word (by omega) (fun j hj => ?_)
  have e : 18446744073709551615 - word S k = 2 ^ 64 - (word S k + 1) := by rw [two64]; omega
  rw [e, Nat.testBit_two_pow_sub_succ (by rw [two64]; exact h), word_testBit]
  simp [hj]

theorem word_minus (S T : Nat → Bool) (k : Nat) : word S k &&& (18446744073709551615 - word T k) = word (fun n => S n && !T n) k := by
  rw [word_not, word_and]

theorem pow_lt64 {j : Nat} (hj : j < 64) : 2 ^ j < 18446744073709551616 := by
  rw [← two64]
  exact Nat.pow_lt_pow_right (by decide) hj

/-- One bit. -/
theorem word_single {k j : Nat} (hj : j < 64) : 2 ^ j = word (fun n => n == 64 * k + j) k := by
  refine eq_word (pow_lt64 hj) (fun i _ => ?_)
  rw [Nat.testBit_two_pow]
  by_cases h : j = i <;> simp [h]
  omega

theorem word_put (S : Nat → Bool) {b : Nat} : word S (b / 64) ||| 2 ^ (b % 64) = word (fun n => S n || n == b) (b / 64) := by
  rw [word_single (k := b / 64) (j := b % 64) (by omega), word_or]
  have e : 64 * (b / 64) + b % 64 = b := by omega
  rw [e]

theorem word_put_other (S : Nat → Bool) {b k : Nat} (h : k ≠ b / 64) : word S k = word (fun n => S n || n == b) k := by
  refine eq_word (word_lt _ _) (fun j hj => ?_)
  rw [word_testBit]
  have : (64 * k + j == b) = false := by simp; omega
  simp [hj, this]

theorem wb_add (S : Nat → Bool) {b : Nat} (h : S b = false) (k m : Nat) (hk : k = b / 64) :
    wb (fun n => S n || n == b) k m = wb S k m + if b % 64 < m then 2 ^ (b % 64) else 0 := by
  have e : 64 * k + b % 64 = b := by omega
  induction m with
  | zero => simp [wb]
  | succ m ih =>
    unfold wb
    rw [ih]
    by_cases hm : m = b % 64
    · subst hm
      rw [e]
      simp [h]
    · have h1 : (64 * k + m == b) = false := by simp; omega
      have h2 : (b % 64 < m + 1) ↔ b % 64 < m := by omega
      simp only [h1, Bool.or_false, h2]
      omega

/-- Where the bit is not set, adding sets it. -/
theorem word_add (S : Nat → Bool) {b : Nat} (h : S b = false) : word S (b / 64) + 2 ^ (b % 64) = word (fun n => S n || n == b) (b / 64) := by
  unfold word
  rw [wb_add S h _ _ rfl, if_pos (by omega)]

theorem word_has (S : Nat → Bool) (b : Nat) : (word S (b / 64) &&& 2 ^ (b % 64) ≠ 0) ↔ S b = true := by
  have hj : b % 64 < 64 := by omega
  have e : 64 * (b / 64) + b % 64 = b := by omega
  constructor
  · intro h
    by_cases hs : S b = true
    · exact hs
    · exfalso
      apply h
      apply Nat.eq_of_testBit_eq
      intro i
      rw [Nat.testBit_and, word_testBit, Nat.testBit_two_pow]
      by_cases hi : b % 64 = i
      · subst hi
        simp only [e, hj, decide_true, Bool.true_and, Bool.and_true, Nat.zero_testBit]
        simpa using hs
      · simp [hi]
  · intro hs h
    have := congrArg (fun x => Nat.testBit x (b % 64)) h
    simp [Nat.testBit_and, word_testBit, e, hs, hj] at this

theorem word_div (S : Nat → Bool) (b : Nat) : (word S (b / 64) / 2 ^ (b % 64) % 2 = 1) ↔ S b = true := by
  have hj : b % 64 < 64 := by omega
  have e : 64 * (b / 64) + b % 64 = b := by omega
  have h := word_testBit S (b / 64) (b % 64)
  rw [Nat.testBit_eq_decide_div_mod_eq, e] at h
  simp only [hj, decide_true, Bool.true_and] at h
  rw [← h]
  simp

theorem bt_lt (b : Nat) : bt b < 18446744073709551616 := pow_lt64 (by omega)

/-! ### The bytes of a set, rising -/

/-- Those below q. -/
def upTo (S : Nat → Bool) (q : Nat) : List Nat := (List.range q).filter S

/-- All of them. -/
def mem (S : Nat → Bool) : List Nat := upTo S 256

theorem upTo_zero (S : Nat → Bool) : upTo S 0 = [] := rfl

theorem upTo_succ (S : Nat → Bool) (q : Nat) : upTo S (q + 1) = upTo S q ++ if S q then [q] else [] := by
  unfold upTo
  rw [List.range_succ, List.filter_append]
  congr 1
  cases h : S q <;> simp [h]

theorem mem_upTo {S : Nat → Bool} {q n : Nat} : n ∈ upTo S q ↔ n < q ∧ S n = true := by
  simp [upTo]

theorem upTo_congr {S T : Nat → Bool} : ∀ {q : Nat}, (∀ n, n < q → S n = T n) → upTo S q = upTo T q
  | 0, _ => rfl
  | q + 1, h => by rw [upTo_succ, upTo_succ, upTo_congr (fun n hn => h n (by omega)), h q (by omega)]

theorem upTo_len (S : Nat → Bool) : ∀ (q : Nat), (upTo S q).length ≤ q
  | 0 => by simp [upTo]
  | q + 1 => by
    have := upTo_len S q
    rw [upTo_succ, List.length_append]
    split <;> simp <;> omega

theorem upTo_prefix (S : Nat → Bool) (q : Nat) : ∀ d, upTo S q <+: upTo S (q + d)
  | 0 => List.prefix_refl _
  | d + 1 => by
    rw [← Nat.add_assoc, upTo_succ]
    exact (upTo_prefix S q d).trans (List.prefix_append _ _)

theorem upTo_mem {S : Nat → Bool} {q : Nat} (h : q ≤ 256) : upTo S q <+: mem S := by
  have := upTo_prefix S q (256 - q)
  have e : q + (256 - q) = 256 := by omega
  rw [e] at this
  exact this

/-- Where there is none from q up to r, nothing comes. -/
theorem upTo_skip {S : Nat → Bool} {q : Nat} : ∀ (d : Nat), (∀ n, q ≤ n → n < q + d → S n = false) → upTo S (q + d) = upTo S q
  | 0, _ => rfl
  | d + 1, h => by
    rw [← Nat.add_assoc, upTo_succ, h (q + d) (by omega) (by omega), upTo_skip d (fun n h1 h2 => h n h1 (by omega))]
    simp

end Go.Proofs.YtpkjfdgjmcphmaaDoor.Bset

/- What a set is as a value, and as cells; small facts on words as integers. -/
namespace Go.Proofs.YtpkjfdgjmcphmaaDoor
open Go.RowKit Bset

/-- A set's cells. -/
abbrev setC (S : Nat → Bool) : Array Value := #[.int .u64 (word S 0 : Nat), .int .u64 (word S 1 : Nat), .int .u64 (word S 2 : Nat), .int .u64 (word S 3 : Nat)]

/-- A set as a value. -/
abbrev setV (S : Nat → Bool) : Value := .agg (setC S)

theorem wrap_nat {m : Nat} (h : m < 18446744073709551616) : IntKind.u64.wrap ((m : Nat) : Int) = ((m : Nat) : Int) :=
  IntWalk.u64_in _ (by omega)

theorem bt_wrap (b : Nat) : IntKind.u64.wrap (2 ^ (b % 64)) = ((bt b : Nat) : Int) := by
  have h := bt_lt b
  have e : ((2 : Int) ^ (b % 64)) = ((bt b : Nat) : Int) := by simp [bt]
  rw [e]
  exact wrap_nat h

theorem bt_i (b : Nat) : IntKind.u64.wrap (1 * 2 ^ (b % 64)) = ((bt b : Nat) : Int) := by
  rw [Int.one_mul]
  exact bt_wrap b

/-- A contract of a function that leaves the world alone, turned. -/
theorem qeq {P : Program} {f : FuncId} {args : Array Value} {w : World} {v : Value} (h : Calls P f args w fun e w' => e = .returned v ∧ w = w') :
    Calls P f args w fun e w' => e = .returned v ∧ w' = w := h.mono fun _ _ h => ⟨h.1, h.2.symm⟩

theorem ret_of {a b : Value} (h : a = b) : Ending.returned a = .returned b := by rw [h]
theorem ret_bool {a b : Bool} (h : a = b) : Ending.returned (.bool a) = .returned (.bool b) := by rw [h]
theorem ret_int {k : IntKind} {a b : Int} (h : a = b) : Ending.returned (.int k a) = .returned (.int k b) := by rw [h]

theorem cellW (w : World) (S : Nat → Bool) (k : Nat) (hk : k < 4) (t : TypeId) :
    (w.alloc (.cells #[.int .u64 (word S 0 : Nat), .int .u64 (word S 1 : Nat), .int .u64 (word S 2 : Nat), .int .u64 (word S 3 : Nat)] t)).cell? ⟨w.heap.size, k, none⟩ = some (.int .u64 (word S k : Nat)) := by
  match k, hk with
  | 0, _ => simp
  | 1, _ => simp
  | 2, _ => simp
  | 3, _ => simp

theorem bcell {W w1 : World} (hb : Below W.heap.size W w1) : (∀ b o, b < W.heap.size → w1.cell? ⟨b, o, none⟩ = W.cell? ⟨b, o, none⟩) ∧ (∀ b o, b < W.heap.size → w1.frozen? ⟨b, o, none⟩ = W.frozen? ⟨b, o, none⟩) :=
  ⟨fun b o h => hb.cell (p := ⟨b, o, none⟩) h, fun b o h => hb.frozen (p := ⟨b, o, none⟩) h⟩

theorem bits_or' (a b : Nat) (ha : a < 18446744073709551616) (hb : b < 18446744073709551616) : bits .or .u64 (a : Int) (b : Int) = ((a ||| b : Nat) : Int) := bits_or_u64_nat a b ha hb
theorem bits_and' (a b : Nat) (ha : a < 18446744073709551616) (hb : b < 18446744073709551616) : bits .and .u64 (a : Int) (b : Int) = ((a &&& b : Nat) : Int) := bits_and_u64_nat a b ha hb

theorem has_bit (S : Nat → Bool) (b k : Nat) (hk : k = b / 64) : (bits .and .u64 (word S k : Nat) (bt b : Nat) != 0) = S b := by
  rw [bits_and' _ _ (word_lt _ _) (bt_lt _)]
  subst hk
  have h := word_has S b
  cases hs : S b with
  | true =>
    have := h.2 hs
    unfold bt
    rw [bne_iff_ne]
    omega
  | false =>
    have h' : ¬ (word S (b / 64) &&& 2 ^ (b % 64) ≠ 0) := fun x => by rw [h.1 x] at hs; cases hs
    have h0 : word S (b / 64) &&& 2 ^ (b % 64) = 0 := by
      by_cases e : word S (b / 64) &&& 2 ^ (b % 64) = 0
      · exact e
      · exact absurd e h'
    unfold bt
    rw [h0]
    rfl
theorem bdrewN {B n : Nat} {a w : World} (h : Below B a w) : Below B a (w.drewN n) := ⟨h.os, h.tape, h.output, h.size, h.block⟩

theorem or_w (S T : Nat → Bool) (k : Nat) : bits .or .u64 (word S k : Nat) (word T k : Nat) = (word (fun n => S n || T n) k : Nat) := by
  rw [bits_or' _ _ (word_lt _ _) (word_lt _ _), word_or]
theorem and_w (S T : Nat → Bool) (k : Nat) : bits .and .u64 (word S k : Nat) (word T k : Nat) = (word (fun n => S n && T n) k : Nat) := by
  rw [bits_and' _ _ (word_lt _ _) (word_lt _ _), word_and]
theorem minus_w (S T : Nat → Bool) (k : Nat) : bits .andNot .u64 (word S k : Nat) (word T k : Nat) = (word (fun n => S n && !T n) k : Nat) := by
  rw [u64_andNot_nat _ _ (word_lt _ _) (word_lt _ _), word_minus]
theorem not_w (S : Nat → Bool) (k : Nat) : bits .xor .u64 IntKind.u64.max (word S k : Nat) = (word (fun n => !S n) k : Nat) := by
  have h := word_lt S k
  have e : IntKind.u64.max = ((18446744073709551615 : Nat) : Int) := rfl
  have e2 : (2 : Nat) ^ 64 - 1 = 18446744073709551615 := by decide
  rw [e, bits_xor_u64_nat _ _ (by omega) h, ← word_not S k]
  congr 1
  apply Nat.eq_of_testBit_eq
  intro j
  have e3 : 18446744073709551615 - word S k = 2 ^ 64 - (word S k + 1) := by rw [two64]; omega
  rw [e3, Nat.testBit_two_pow_sub_succ (by rw [two64]; exact h), Nat.testBit_xor, ← e2, Nat.testBit_two_pow_sub_one, word_testBit]
  by_cases hj : j < 64 <;> simp [hj]
end Go.Proofs.YtpkjfdgjmcphmaaDoor

/- A block that is known whole; sets in such blocks. -/
namespace Go.Proofs.YtpkjfdgjmcphmaaDoor
open Go.RowKit Bset

/-- Block g is just these cells, none of them frozen. -/
def Cl (w : World) (g : Nat) (t : TypeId) (cs : Array Value) : Prop := w.heap[g]? = some (.cells cs t (0, 0))

section
variable {w w' : World} {g : Nat} {t : TypeId} {cs : Array Value}
theorem Cl.lt (h : Cl w g t cs) : g < w.heap.size := lt_of_block h
theorem Cl.cell (h : Cl w g t cs) (i : Nat) : w.cell? ⟨g, i, none⟩ = cs[i]? := by
  unfold Cl at h
  simp [World.cell?, h]
theorem Cl.free (h : Cl w g t cs) (i : Nat) : w.frozen? ⟨g, i, none⟩ = false := by
  unfold Cl at h
  simp [World.frozen?, h]
theorem Cl.new (w : World) (t : TypeId) (cs : Array Value) : Cl (w.alloc (.cells cs t)) w.heap.size t cs := heap_alloc_new w _
theorem Cl.new' {w : World} {g : Nat} (h : g = w.heap.size) (t : TypeId) (cs : Array Value) : Cl (w.alloc (.cells cs t)) g t cs := by
  subst h
  exact Cl.new w t cs
theorem Cl.drew (h : Cl w g t cs) : Cl w.drew g t cs := h
theorem Cl.drewN (h : Cl w g t cs) (n : Nat) : Cl (w.drewN n) g t cs := h
theorem Cl.alloc (h : Cl w g t cs) (o : Obj) : Cl (w.alloc o) g t cs := (Below.heap_alloc w o g h.lt).trans h
theorem Cl.put (h : Cl w g t cs) (i : Nat) (u : Value) : Cl (w.setCell ⟨g, i, none⟩ u) g t (cs.setIfInBounds i u) := by
  unfold Cl at h ⊢
  simp [World.setCell, Array.getElem?_modify, h]
theorem Cl.other (h : Cl w g t cs) {p : Addr} (hp : g ≠ p.block) (u : Value) : Cl (w.setCell p u) g t cs := (Below.heap_setCell w p u g hp).trans h
theorem Cl.below {B : Nat} (h : Cl w g t cs) (hb : Below B w w') (hg : g < B) : Cl w' g t cs := (hb.block g hg).trans h
end

/-- The cells of a set, by number. -/
theorem Cl.word {w : World} {g : Nat} {t : TypeId} {S : Nat → Bool} (h : Cl w g t (setC S)) (k : Nat) (hk : k < 4) : w.cell? ⟨g, k, none⟩ = some (.int .u64 (word S k : Nat)) := by
  rw [h.cell]
  match k, hk with
  | 0, _ => rfl
  | 1, _ => rfl
  | 2, _ => rfl
  | 3, _ => rfl

/-- What a store into a new set's cells needs. -/
theorem Cl.zero {w : World} {g : Nat} {t : TypeId} (h : Cl w g t #[.int .u64 0, .int .u64 0, .int .u64 0, .int .u64 0]) (k : Nat) (hk : k < 4) : w.cell? ⟨g, k, none⟩ = some (.int .u64 0) := by
  rw [h.cell]
  match k, hk with
  | 0, _ => rfl
  | 1, _ => rfl
  | 2, _ => rfl
  | 3, _ => rfl

theorem setC_congr {S T : Nat → Bool} (h : ∀ n, n < 256 → S n = T n) : setC S = setC T := by
  unfold setC
  rw [word_congr h (by omega : 0 < 4), word_congr h (by omega : 1 < 4), word_congr h (by omega : 2 < 4), word_congr h (by omega : 3 < 4)]

theorem setC_put (S : Nat → Bool) (b : Nat) (hb : b < 256) {v : Nat} (hv : v = word S (b / 64) ||| bt b) :
    (setC S).setIfInBounds (b / 64) (.int .u64 (v : Nat)) = setC (fun n => S n || n == b) := by
  subst hv
  have hk : b / 64 < 4 := by omega
  unfold bt
  rw [word_put S (b := b)]
  have ho : ∀ k, k ≠ b / 64 → word S k = word (fun n => S n || n == b) k := fun k h => word_put_other S h
  generalize hK : b / 64 = K at hk ho ⊢
  unfold setC
  match K, hk, ho with
  | 0, _, ho => simp [ho 1, ho 2, ho 3]
  | 1, _, ho => simp [ho 0, ho 2, ho 3]
  | 2, _, ho => simp [ho 0, ho 1, ho 3]
  | 3, _, ho => simp [ho 0, ho 1, ho 2]

theorem word_none (k : Nat) : word (fun _ => false) k = 0 := by
  refine (eq_word (by decide) (fun j _ => ?_)).symm
  simp

theorem setC_none : setC (fun _ => false) = #[.int .u64 0, .int .u64 0, .int .u64 0, .int .u64 0] := by
  unfold setC
  simp only [word_none]
  rfl

theorem setV_none : setV (fun _ => false) = .agg #[.int .u64 0, .int .u64 0, .int .u64 0, .int .u64 0] := congrArg Value.agg setC_none

theorem setV_congr {S T : Nat → Bool} (h : ∀ n, n < 256 → S n = T n) : setV S = setV T := congrArg Value.agg (setC_congr h)
end Go.Proofs.YtpkjfdgjmcphmaaDoor

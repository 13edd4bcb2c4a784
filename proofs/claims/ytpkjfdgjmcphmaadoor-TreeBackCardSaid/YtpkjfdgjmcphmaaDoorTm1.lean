/- Plain facts on trees: a tree of numbers out of who is whose kid; its rows. Of no program. -/
namespace Go.Proofs.YtpkjfdgjmcphmaaDoor.Tm

/-- A tree with something at each node. -/
inductive RT (α : Type) where
  | mk (a : α) (ks : List (RT α))

variable {α β : Type}

mutual
def size : RT α → Nat
  | .mk _ ks => sizes ks + 1
def sizes : List (RT α) → Nat
  | [] => 0
  | t :: ts => size t + sizes ts
end

mutual
def map (f : α → β) : RT α → RT β
  | .mk a ks => .mk (f a) (maps f ks)
def maps (f : α → β) : List (RT α) → List (RT β)
  | [] => []
  | t :: ts => map f t :: maps f ts
end

mutual
/-- What stands in it, a kid ahead of its node. -/
def post : RT α → List α
  | .mk a ks => posts ks ++ [a]
def posts : List (RT α) → List α
  | [] => []
  | t :: ts => post t ++ posts ts
end

mutual
/-- .. a node ahead of its kids. -/
def pre : RT α → List α
  | .mk a ks => a :: pres ks
def pres : List (RT α) → List α
  | [] => []
  | t :: ts => pre t ++ pres ts
end

mutual
/-- .. the last kid first. -/
def back : RT α → List α
  | .mk a ks => a :: backs ks
def backs : List (RT α) → List α
  | [] => []
  | t :: ts => backs ts ++ back t
end

mutual
def deep : RT α → Nat
  | .mk _ ks => deeps ks + 1
def deeps : List (RT α) → Nat
  | [] => 0
  | t :: ts => max (deep t) (deeps ts)
end

def top : RT α → α
  | .mk a _ => a
def kidsR : RT α → List (RT α)
  | .mk _ ks => ks

theorem size_pos (t : RT α) : 0 < size t := by
  cases t
  simp [size]
theorem maps_eq (f : α → β) (ts : List (RT α)) : maps f ts = ts.map (map f) := by
  induction ts with
  | nil => rfl
  | cons t ts ih => simp [maps, ih]
theorem posts_eq (ts : List (RT α)) : posts ts = ts.flatMap post := by
  induction ts with
  | nil => rfl
  | cons t ts ih => simp [posts, ih]
theorem pres_eq (ts : List (RT α)) : pres ts = ts.flatMap pre := by
  induction ts with
  | nil => rfl
  | cons t ts ih => simp [pres, ih]
theorem backs_eq (ts : List (RT α)) : backs ts = ts.reverse.flatMap back := by
  induction ts with
  | nil => rfl
  | cons t ts ih => simp [backs, ih]
theorem sizes_append (a b : List (RT α)) : sizes (a ++ b) = sizes a + sizes b := by
  induction a with
  | nil => simp [sizes]
  | cons t ts ih => simp [sizes, ih, Nat.add_assoc]
theorem sizes_eq (ts : List (RT α)) : sizes ts = (ts.map size).sum := by
  induction ts with
  | nil => rfl
  | cons t ts ih => simp [sizes, ih]
theorem sizes_len (ts : List (RT α)) : ts.length ≤ sizes ts := by
  induction ts with
  | nil => simp [sizes]
  | cons t ts ih => have := size_pos t; simp [sizes]; omega

mutual
theorem post_len : ∀ t : RT α, (post t).length = size t
  | .mk a ks => by simp [post, size, posts_len ks]
theorem posts_len : ∀ ts : List (RT α), (posts ts).length = sizes ts
  | [] => rfl
  | t :: ts => by simp [posts, sizes, post_len t, posts_len ts]
end
mutual
theorem pre_len : ∀ t : RT α, (pre t).length = size t
  | .mk a ks => by simp [pre, size, pres_len ks]
theorem pres_len : ∀ ts : List (RT α), (pres ts).length = sizes ts
  | [] => rfl
  | t :: ts => by simp [pres, sizes, pre_len t, pres_len ts]
end
mutual
theorem back_rev : ∀ t : RT α, (back t).reverse = post t
  | .mk a ks => by simp [back, post, backs_rev ks]
theorem backs_rev : ∀ ts : List (RT α), (backs ts).reverse = posts ts
  | [] => rfl
  | t :: ts => by simp [backs, posts, back_rev t, backs_rev ts]
end
mutual
theorem pre_post : ∀ t : RT α, (pre t).Perm (post t)
  | .mk a ks => by
    rw [pre, post]
    exact ((pres_posts ks).cons a).trans (List.perm_append_singleton a (posts ks)).symm
theorem pres_posts : ∀ ts : List (RT α), (pres ts).Perm (posts ts)
  | [] => .refl _
  | t :: ts => (pre_post t).append (pres_posts ts)
end
mutual
theorem size_map (f : α → β) : ∀ t : RT α, size (map f t) = size t
  | .mk a ks => by simp [map, size, sizes_maps f ks]
theorem sizes_maps (f : α → β) : ∀ ts : List (RT α), sizes (maps f ts) = sizes ts
  | [] => rfl
  | t :: ts => by simp [maps, sizes, size_map f t, sizes_maps f ts]
end
mutual
theorem deep_map (f : α → β) : ∀ t : RT α, deep (map f t) = deep t
  | .mk a ks => by simp [map, deep, deeps_maps f ks]
theorem deeps_maps (f : α → β) : ∀ ts : List (RT α), deeps (maps f ts) = deeps ts
  | [] => rfl
  | t :: ts => by simp [maps, deeps, deep_map f t, deeps_maps f ts]
end
mutual
theorem deep_size : ∀ t : RT α, deep t ≤ size t
  | .mk a ks => by simp [deep, size, deeps_sizes ks]
theorem deeps_sizes : ∀ ts : List (RT α), deeps ts ≤ sizes ts
  | [] => by simp [deeps]
  | t :: ts => by have := deep_size t; have := deeps_sizes ts; simp [deeps, sizes]; omega
end
theorem post_last (t : RT α) : ∃ l, post t = l ++ [top t] := by
  cases t
  exact ⟨_, rfl⟩
theorem top_post (t : RT α) : top t ∈ post t := by
  obtain ⟨l, h⟩ := post_last t
  rw [h]
  simp

/- ## The tree of numbers -/

/-- Who stands in i, by the kids of each (K), so many levels. -/
def ix (K : Nat → List Nat) : Nat → Nat → RT Nat
  | 0, i => .mk i []
  | f + 1, i => .mk i ((K i).map (ix K f))

def X (K : Nat → List Nat) (i : Nat) : RT Nat := ix K i i

/-- Kids have lesser numbers. -/
def Dec (K : Nat → List Nat) : Prop := ∀ i, ∀ k ∈ K i, k < i

theorem ix_more {K : Nat → List Nat} (hK : Dec K) : ∀ f i, i ≤ f → ix K f i = X K i := by
  have key : ∀ i, ∀ f g, i ≤ f → i ≤ g → ix K f i = ix K g i := by
    intro i
    induction i using Nat.strongRecOn with
    | ind i ih =>
      intro f g hf hg
      have h0 : ∀ f, i ≤ f → f = 0 → K i = [] := by
        intro f hf h0
        subst h0
        have hi : i = 0 := by omega
        subst hi
        cases hk : K 0 with
        | nil => rfl
        | cons a l => exact absurd (hK 0 a (by simp [hk])) (by omega)
      cases f with
      | zero =>
        cases g with
        | zero => rfl
        | succ g => simp [ix, h0 0 hf rfl]
      | succ f =>
        cases g with
        | zero => simp [ix, h0 0 hg rfl]
        | succ g =>
          unfold ix
          congr 1
          refine List.map_congr_left fun k hk => ?_
          have := hK i k hk
          exact ih k this f g (by omega) (by omega)
  intro f i h
  exact key i f i h (Nat.le_refl _)

theorem X_eq {K : Nat → List Nat} (hK : Dec K) (i : Nat) : X K i = .mk i ((K i).map (X K)) := by
  cases i with
  | zero =>
    have : K 0 = [] := by
      cases hk : K 0 with
      | nil => rfl
      | cons a l => exact absurd (hK 0 a (by simp [hk])) (by omega)
    unfold X
    simp [ix, this]
  | succ i =>
    show ix K (i + 1) (i + 1) = _
    unfold ix
    congr 1
    refine List.map_congr_left fun k hk => ?_
    have := hK (i + 1) k hk
    exact ix_more hK i k (by omega)

def M (K : Nat → List Nat) (i : Nat) : Nat := size (X K i)
def Ms (K : Nat → List Nat) (l : List Nat) : Nat := sizes (l.map (X K))
theorem Ms_nil (K : Nat → List Nat) : Ms K [] = 0 := rfl
theorem Ms_cons (K : Nat → List Nat) (a : Nat) (l : List Nat) : Ms K (a :: l) = M K a + Ms K l := rfl
theorem Ms_append (K : Nat → List Nat) (a b : List Nat) : Ms K (a ++ b) = Ms K a + Ms K b := by simp [Ms, sizes_append]
theorem M_eq {K : Nat → List Nat} (hK : Dec K) (i : Nat) : M K i = Ms K (K i) + 1 := by
  unfold M Ms
  rw [X_eq hK, size]
theorem M_pos (K : Nat → List Nat) (i : Nat) : 0 < M K i := size_pos _
theorem post_X {K : Nat → List Nat} (hK : Dec K) (i : Nat) : post (X K i) = (K i).flatMap (fun k => post (X K k)) ++ [i] := by
  rw [X_eq hK, post, posts_eq, List.flatMap_map]
theorem pre_X {K : Nat → List Nat} (hK : Dec K) (i : Nat) : pre (X K i) = i :: (K i).flatMap (fun k => pre (X K k)) := by
  rw [X_eq hK, pre, pres_eq, List.flatMap_map]
theorem back_X {K : Nat → List Nat} (hK : Dec K) (i : Nat) : back (X K i) = i :: (K i).reverse.flatMap (fun k => back (X K k)) := by
  rw [X_eq hK, back, backs_eq, ← List.map_reverse, List.flatMap_map]
theorem top_X {K : Nat → List Nat} (hK : Dec K) (i : Nat) : top (X K i) = i := by
  rw [X_eq hK, top]

theorem mem_post_le {K : Nat → List Nat} (hK : Dec K) (i : Nat) : ∀ x ∈ post (X K i), x ≤ i := by
  induction i using Nat.strongRecOn with
  | ind i ih =>
    intro x hx
    rw [post_X hK, List.mem_append, List.mem_flatMap] at hx
    rcases hx with ⟨k, hk, hx⟩ | hx
    · have h1 := hK i k hk
      have := ih k h1 x hx
      omega
    · have : x = i := by simpa using hx
      omega
theorem self_post {K : Nat → List Nat} (hK : Dec K) (i : Nat) : i ∈ post (X K i) := by
  rw [post_X hK]
  simp
theorem kid_post {K : Nat → List Nat} (hK : Dec K) (i : Nat) : ∀ x ∈ post (X K i), ∀ k ∈ K x, k ∈ post (X K i) := by
  induction i using Nat.strongRecOn with
  | ind i ih =>
    intro x hx k hk
    rw [post_X hK, List.mem_append, List.mem_flatMap] at hx
    rcases hx with ⟨j, hj, hx⟩ | hx
    · rw [post_X hK, List.mem_append, List.mem_flatMap]
      exact .inl ⟨j, hj, ih j (hK i j hj) x hx k hk⟩
    · have e : x = i := by simpa using hx
      subst e
      rw [post_X hK, List.mem_append, List.mem_flatMap]
      exact .inl ⟨k, hk, self_post hK k⟩

/-- **Who is nobody's kid so far, and all that stand within these: all so far, each once.** -/
theorem free_perm {K : Nat → List Nat} (hK : Dec K) {n : Nat} (hN : ((List.range n).flatMap K).Nodup) :
    ∀ i, i ≤ n → (((List.range i).filter fun x => decide (x ∉ (List.range i).flatMap K)).flatMap fun k => post (X K k)).Perm (List.range i) := by
  intro i
  induction i with
  | zero => intro _; simp
  | succ i ih =>
    intro hi
    have hN' : ((List.range (i + 1)).flatMap K).Nodup := by
      have : ((List.range (i + 1)).flatMap K).Sublist ((List.range n).flatMap K) := by
        obtain ⟨d, rfl⟩ : ∃ d, n = i + 1 + d := ⟨n - (i + 1), by omega⟩
        have e : List.range (i + 1 + d) = List.range (i + 1) ++ (List.range d).map (i + 1 + ·) := List.range_add
        rw [e, List.flatMap_append]
        exact List.sublist_append_left _ _
      exact this.nodup hN
    rw [List.range_succ, List.flatMap_append] at hN'
    simp only [List.flatMap_cons, List.flatMap_nil, List.append_nil] at hN'
    obtain ⟨n1, n2, n3⟩ := List.nodup_append.1 hN'
    have h0 := ih (by omega)
    have hnot : i ∉ (List.range i).flatMap K ++ K i := by
      intro h
      rw [List.mem_append, List.mem_flatMap] at h
      rcases h with ⟨j, hj, h⟩ | h
      · have := hK j i h
        have := List.mem_range.1 hj
        omega
      · exact absurd (hK i i h) (by omega)
    rw [List.range_succ, List.flatMap_append]
    simp only [List.flatMap_cons, List.flatMap_nil, List.append_nil]
    rw [List.filter_append, List.filter_cons_of_pos (by simpa using hnot), List.filter_nil, List.flatMap_append]
    simp only [List.flatMap_cons, List.flatMap_nil, List.append_nil]
    rw [post_X hK]
    generalize hU : (List.range i).filter (fun x => decide (x ∉ (List.range i).flatMap K)) = U at h0
    have hUn : U.Nodup := by rw [← hU]; exact List.nodup_range.filter _
    have hV : (List.range i).filter (fun x => decide (x ∉ (List.range i).flatMap K ++ K i)) = U.filter (fun x => decide (x ∉ K i)) := by
      rw [← hU, List.filter_filter]
      refine List.filter_congr fun x _ => ?_
      simp only [List.mem_append, not_or]
      by_cases h1 : x ∈ (List.range i).flatMap K <;> by_cases h2 : x ∈ K i <;> simp [h1, h2]
    rw [hV]
    have hk : (U.filter (fun x => !decide (x ∉ K i))).Perm (K i) := by
      refine (List.perm_ext_iff_of_nodup (hUn.filter _) n2).2 fun x => ?_
      rw [List.mem_filter, ← hU, List.mem_filter]
      constructor
      · rintro ⟨_, h⟩
        simpa using h
      · intro h
        refine ⟨⟨List.mem_range.2 (hK i x h), ?_⟩, by simpa using h⟩
        simp only [decide_eq_true_eq]
        exact fun h' => n3 x h' x h rfl
    have hUU : (U.filter (fun x => decide (x ∉ K i)) ++ K i).Perm U :=
      ((hk.symm).append_left _).trans (List.filter_append_perm (fun x => decide (x ∉ K i)) U)
    have := (hUU.flatMap_right fun k => post (X K k)).trans h0
    rw [List.flatMap_append] at this
    rw [← List.append_assoc]
    exact this.append_right _

/-- An arena's kids, as one asks of a right one. -/
structure RightK (K : Nat → List Nat) (n : Nat) : Prop where
  pos : 0 < n
  dec : Dec K
  once : ((List.range n).flatMap K).Nodup
  each : ∀ j, j + 1 < n → j ∈ (List.range n).flatMap K

theorem RightK.perm {K : Nat → List Nat} {n : Nat} (h : RightK K n) : (post (X K (n - 1))).Perm (List.range n) := by
  have h0 := free_perm h.dec h.once n (Nat.le_refl _)
  have hp := h.pos
  have e : (List.range n).filter (fun x => decide (x ∉ (List.range n).flatMap K)) = [n - 1] := by
    obtain ⟨m, rfl⟩ : ∃ m, n = m + 1 := ⟨n - 1, by omega⟩
    have h1 : (List.range m).filter (fun x => decide (x ∉ (List.range (m + 1)).flatMap K)) = [] := by
      rw [List.filter_eq_nil_iff]
      intro x hx
      have := h.each x (by have := List.mem_range.1 hx; omega)
      simpa using this
    have h2 : m ∉ (List.range (m + 1)).flatMap K := by
      intro hm
      obtain ⟨j, hj, hm⟩ := List.mem_flatMap.1 hm
      have := h.dec j m hm
      have := List.mem_range.1 hj
      omega
    have e3 : List.range (m + 1) = List.range m ++ [m] := List.range_succ
    generalize hQ : (List.range (m + 1)).flatMap K = Q at h1 h2
    rw [e3, List.filter_append, h1, List.filter_cons_of_pos (by simpa using h2)]
    simp
  rw [e] at h0
  simpa using h0
theorem RightK.nodup {K : Nat → List Nat} {n : Nat} (h : RightK K n) : (post (X K (n - 1))).Nodup := h.perm.symm.nodup List.nodup_range
theorem RightK.all {K : Nat → List Nat} {n : Nat} (h : RightK K n) (i : Nat) (hi : i < n) : i ∈ post (X K (n - 1)) := h.perm.symm.subset (List.mem_range.2 hi)
theorem RightK.size {K : Nat → List Nat} {n : Nat} (h : RightK K n) : M K (n - 1) = n := by
  have := h.perm.length_eq
  rw [post_len, List.length_range] at this
  exact this

theorem post_infix {K : Nat → List Nat} (hK : Dec K) (i : Nat) : ∀ x ∈ post (X K i), post (X K x) <:+: post (X K i) := by
  induction i using Nat.strongRecOn with
  | ind i ih =>
    intro x hx
    have hx' := hx
    rw [post_X hK, List.mem_append, List.mem_flatMap] at hx
    rcases hx with ⟨k, hk, hx⟩ | hx
    · have h1 := ih k (hK i k hk) x hx
      refine h1.trans ?_
      rw [post_X hK i]
      obtain ⟨a, b, hab⟩ := List.append_of_mem hk
      rw [hab, List.flatMap_append, List.flatMap_cons]
      exact ⟨a.flatMap fun k => post (X K k), (b.flatMap fun k => post (X K k)) ++ [i], by simp⟩
    · have e : x = i := by simpa using hx
      subst e
      exact List.infix_refl _
theorem RightK.nodup_at {K : Nat → List Nat} {n : Nat} (h : RightK K n) (i : Nat) (hi : i < n) : (post (X K i)).Nodup :=
  (post_infix h.dec _ i (h.all i hi)).sublist.nodup h.nodup
theorem RightK.M_le {K : Nat → List Nat} {n : Nat} (h : RightK K n) (i : Nat) (hi : i < n) : M K i ≤ n := by
  have h1 := (post_infix h.dec _ i (h.all i hi)).sublist.length_le
  rw [post_len, post_len] at h1
  have := h.size
  unfold M at this ⊢
  omega
theorem RightK.lt {K : Nat → List Nat} {n : Nat} (h : RightK K n) (i : Nat) (hi : i < n) : ∀ x ∈ post (X K i), x < n := fun x hx =>
  Nat.lt_of_le_of_lt (mem_post_le h.dec i x hx) hi
/-- No node is the kid of two. -/
theorem RightK.one {K : Nat → List Nat} {n : Nat} (h : RightK K n) {i j k : Nat} (hi : i < n) (hj : j < n) (hik : k ∈ K i) (hjk : k ∈ K j) : i = j := by
  have h1 := (List.pairwise_flatMap.1 h.once).2
  have h2 : ∀ a b : Nat, a < b → b < n → k ∈ K a → k ∈ K b → False := by
    intro a b hab hb ka kb
    have h3 := List.pairwise_iff_getElem.1 h1 a b (by simp; omega) (by simpa using hb) hab
    simp only [List.getElem_range] at h3
    exact h3 k ka k kb rfl
  rcases Nat.lt_trichotomy i j with h4 | h4 | h4
  · exact (h2 i j h4 hj hik hjk).elim
  · exact h4
  · exact (h2 j i h4 hi hjk hik).elim
theorem RightK.own {K : Nat → List Nat} {n : Nat} (h : RightK K n) {i : Nat} (hi : i < n) : (K i).Nodup :=
  (List.pairwise_flatMap.1 h.once).1 i (List.mem_range.2 hi)

/- ## Places -/

/-- Where so many begin, one behind the other. -/
def starts (K : Nat → List Nat) : Nat → List Nat → List Nat
  | _, [] => []
  | b, k :: ks => b :: starts K (b + M K k) ks
theorem starts_append (K : Nat → List Nat) (b : Nat) (l m : List Nat) : starts K b (l ++ m) = starts K b l ++ starts K (b + Ms K l) m := by
  induction l generalizing b with
  | nil => simp [starts, Ms_nil]
  | cons a l ih => simp [starts, ih, Ms_cons, Nat.add_assoc]

/-- Each node's kids begin behind one another (own: 1, where the node is ahead of them). -/
def Spread (K : Nat → List Nat) (n own : Nat) (F : Nat → Nat) : Prop := ∀ i, i < n → (K i).map F = starts K (F i + own) (K i)

theorem range'_cat (b m n : Nat) : List.range' b m ++ List.range' (b + m) n = List.range' b (m + n) := by
  have := @List.range'_append b m n 1
  rwa [Nat.one_mul] at this

theorem starts_flat (K : Nat → List Nat) {F : Nat → Nat} {f : Nat → List Nat} : ∀ (l : List Nat) (b : Nat), l.map F = starts K b l → (∀ k ∈ l, f k = List.range' (F k) (M K k)) →
    l.flatMap f = List.range' b (Ms K l)
  | [], b, _, _ => by simp [Ms_nil]
  | k :: ks, b, hm, hf => by
    rw [List.map_cons, starts] at hm
    obtain ⟨h1, h2⟩ := List.cons.inj hm
    rw [List.flatMap_cons, hf k (by simp), h1, starts_flat K ks (b + M K k) h2 (fun x hx => hf x (by simp [hx])), Ms_cons, range'_cat]

/-- Behind its kids: the nodes' places are in a row. -/
theorem post_places {K : Nat → List Nat} (hK : Dec K) {n : Nat} {F : Nat → Nat} (hF : Spread K n 0 F) (i : Nat) (hi : i < n) :
    (post (X K i)).map (fun x => F x + M K x - 1) = List.range' (F i) (M K i) := by
  induction i using Nat.strongRecOn with
  | ind i ih =>
    rw [post_X hK, List.map_append, List.map_flatMap]
    rw [starts_flat K (K i) (F i + 0) (hF i hi) (fun k hk => ih k (hK i k hk) (by have := hK i k hk; omega))]
    have h1 := M_eq hK i
    rw [List.map_singleton, h1, Nat.add_zero, ← range'_cat]
    simp

/-- Ahead of its kids. -/
theorem pre_places {K : Nat → List Nat} (hK : Dec K) {n : Nat} {F : Nat → Nat} (hF : Spread K n 1 F) (i : Nat) (hi : i < n) :
    (pre (X K i)).map F = List.range' (F i) (M K i) := by
  induction i using Nat.strongRecOn with
  | ind i ih =>
    rw [pre_X hK, List.map_cons, List.map_flatMap]
    rw [starts_flat K (K i) (F i + 1) (hF i hi) (fun k hk => ih k (hK i k hk) (by have := hK i k hk; omega))]
    have h1 := M_eq hK i
    rw [h1, Nat.add_comm (Ms K (K i)) 1, ← range'_cat]
    simp
end Go.Proofs.YtpkjfdgjmcphmaaDoor.Tm

/- What a clean arena keeps of the arena that it is of. -/
import Derived.Test.YtpkjfdgjmcphmaaDoorTw
namespace Go.Proofs.YtpkjfdgjmcphmaaDoor
open Go.RowKit Bset Tm
namespace Tm

mutual
def allT (P : Hd → Nat → Prop) : RT Hd → Prop
  | .mk h ks => P h ks.length ∧ allTs P ks
def allTs (P : Hd → Nat → Prop) : List (RT Hd) → Prop
  | [] => True
  | t :: ts => allT P t ∧ allTs P ts
end
theorem allTs_iff {P : Hd → Nat → Prop} {ts : List (RT Hd)} : allTs P ts ↔ ∀ t ∈ ts, allT P t := by
  induction ts with
  | nil => simp [allTs]
  | cons t ts ih => simp [allTs, ih]
theorem all_tau {P : Hd → Nat → Prop} {A : List Nd} (hK : Dec (kidsN A)) (h : ∀ (i : Nat) n, A[i]? = some n → P n.hd n.kids.length) (i : Nat) (hi : i < A.length) : allT P (tau A i) := by
  induction i using Nat.strongRecOn with
  | ind i ih =>
    have hA : A[i]? = some A[i] := by simp [hi]
    rw [tau_eq hK, allT, hdAt_some hA, List.length_map, kidsN_some hA, List.length_map]
    refine ⟨h i _ hA, allTs_iff.2 fun t ht => ?_⟩
    obtain ⟨k, hk, rfl⟩ := List.mem_map.1 ht
    have := hK i k (by rw [kidsN_some hA]; exact hk)
    exact ih k this (by omega)
mutual
theorem all_flat {P : Hd → Nat → Prop} : ∀ (t : RT Hd) (b : Nat), allT P t → ∀ n ∈ flatAt b t, P n.hd n.kids.length
  | .mk h ks, b, hf, n, hn => by
    rw [allT] at hf
    rw [flatAt, List.mem_append, List.mem_singleton] at hn
    rcases hn with hn | rfl
    · exact alls_flat ks b hf.2 n hn
    · simpa [roots_len] using hf.1
theorem alls_flat {P : Hd → Nat → Prop} : ∀ (ts : List (RT Hd)) (b : Nat), allTs P ts → ∀ n ∈ flatsAt b ts, P n.hd n.kids.length
  | [], _, _, n, hn => by simp [flatsAt] at hn
  | t :: ts, b, hf, n, hn => by
    rw [allTs] at hf
    rw [flatsAt, List.mem_append] at hn
    rcases hn with hn | hn
    · exact all_flat t b hf.1 n hn
    · exact alls_flat ts _ hf.2 n hn
end
end Tm

/-- How nodes are that are worked on. -/
def okP (h : Hd) (m : Nat) : Prop := h.kind < 256 ∧ h.text.size ≤ 140737488355328 ∧ m ≤ 4294967296
theorem okA_iff {A : List Nd} : OkA A ↔ A.length ≤ 4294967296 ∧ ∀ n ∈ A, okP n.hd n.kids.length :=
  ⟨fun h => ⟨h.len, fun n hn => ⟨h.kind n hn, h.text n hn, h.kids n hn⟩⟩, fun h => ⟨h.1, fun n hn => (h.2 n hn).1, fun n hn => (h.2 n hn).2.1, fun n hn => (h.2 n hn).2.2⟩⟩
theorem ok_tree {T : Ar} (h : RightT T) (hok : OkA T.nodes) : Tm.allT okP (tree T) := by
  have h2 := h.2.k.pos
  unfold tree
  rw [h.at.1]
  exact Tm.all_tau h.2.k.dec (fun i n hn => (okA_iff.1 hok).2 n (List.mem_of_getElem? hn)) _ (by omega)
theorem ok_arOf {t : RT Hd} (h : Tm.allT okP t) (hs : size t ≤ 4294967296) : OkA (arOf t).nodes := okA_iff.2 ⟨by simp only [arOf, flat_length]; exact hs, Tm.all_flat t 0 h⟩
theorem ok_clean {T : Ar} (hok : OkA T.nodes) : OkA (cleanT T).nodes := by
  unfold cleanT
  cases hR : rightB T with
  | false => exact okA_iff.2 ⟨by simp [noAr], fun n hn => by simp [noAr] at hn⟩
  | true =>
    have h := rightB_iff.1 hR
    rw [if_pos rfl]
    exact ok_arOf (ok_tree h hok) (by rw [h.size]; exact hok.len)

theorem noAr_right : rightB noAr = false := rightB_no.2 fun h => h.2.pos rfl
theorem clean_right (T : Ar) : rightB (cleanT T) = rightB T := by
  unfold cleanT
  cases hR : rightB T with
  | false => exact noAr_right
  | true =>
    rw [if_pos rfl]
    exact rightB_iff.2 (arOf_right (rightB_iff.1 hR).fit)
theorem clean_tree {T : Ar} (h : rightB T = true) : tree (cleanT T) = tree T := by
  unfold cleanT
  rw [if_pos h, tree_arOf]
theorem clean_clean (T : Ar) : cleanT (cleanT T) = cleanT T := by
  unfold cleanT
  cases hR : rightB T with
  | false => simp [noAr_right]
  | true =>
    have h := rightB_iff.2 (arOf_right (rightB_iff.1 hR).fit)
    simp [h, tree_arOf]

noncomputable def sameT (a b : Ar) : Bool := rightB a && rightB b && eqB (cleanT a).nodes (cleanT b).nodes
theorem clean_nodes {T : Ar} (h : rightB T = true) : (cleanT T).nodes = flat (tree T) := by
  unfold cleanT
  rw [if_pos h]
  rfl
theorem same_iff {a b : Ar} : sameT a b = true ↔ rightB a = true ∧ rightB b = true ∧ tree a = tree b := by
  unfold sameT
  rw [Bool.and_eq_true, Bool.and_eq_true, eqB_iff]
  constructor
  · rintro ⟨⟨h1, h2⟩, h3⟩
    rw [clean_nodes h1, clean_nodes h2] at h3
    exact ⟨h1, h2, flat_inj h3⟩
  · rintro ⟨h1, h2, h3⟩
    rw [clean_nodes h1, clean_nodes h2, h3]
    exact ⟨⟨h1, h2⟩, rfl⟩
end Go.Proofs.YtpkjfdgjmcphmaaDoor

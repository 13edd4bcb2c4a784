/- Package tree: what stands in a tree's kids. -/
import Derived.Test.YtpkjfdgjmcphmaaDoorTz2
namespace Go.Proofs.YtpkjfdgjmcphmaaDoor
open Go.RowKit Bset Tm

theorem sizes_take {ts : List (RT Hd)} {j : Nat} (h : j < ts.length) : sizes (ts.take (j + 1)) = sizes (ts.take j) + size ts[j] := by
  rw [List.take_succ_eq_append_getElem h, sizes_append]
  simp [sizes]
theorem flats_cut {ts : List (RT Hd)} {j : Nat} (h : j < ts.length) (l : List Nd) : ((flatsAt 0 ts ++ l).drop (sizes (ts.take j))).take (size ts[j]) = flatAt (sizes (ts.take j)) ts[j] := by
  have e : ts = ts.take j ++ ts[j] :: ts.drop (j + 1) := by
    rw [← List.drop_eq_getElem_cons h, List.take_append_drop]
  have h1 : flatsAt 0 ts = flatsAt 0 (ts.take j) ++ (flatAt (sizes (ts.take j)) ts[j] ++ flatsAt (sizes (ts.take j) + size ts[j]) (ts.drop (j + 1))) := by
    conv => lhs; rw [e]
    rw [flatsAt_append, Nat.zero_add]
    rfl
  rw [h1, List.append_assoc, List.drop_left' (by rw [flats_len]), List.append_assoc, List.take_left' (by rw [flat_len])]
theorem kid_cut {h : Hd} {ts : List (RT Hd)} {j : Nat} (hj : j < ts.length) : (((flat (.mk h ts)).drop (sizes (ts.take j))).take (size ts[j])).map (mv (0 - (sizes (ts.take j) : Int))) = flat ts[j] := by
  have h1 : flat (.mk h ts) = flatsAt 0 ts ++ [⟨h, roots 0 ts⟩] := rfl
  rw [h1, flats_cut hj]
  exact flat_mv _ _ _ _ (by omega)
theorem roots_get {ts : List (RT Hd)} {j : Nat} (b : Nat) (hj : j < ts.length) : (roots b ts)[j]? = some ((b + sizes (ts.take j) + size ts[j] - 1 : Nat) : Int) := by
  have e : ts = ts.take j ++ ts[j] :: ts.drop (j + 1) := by
    rw [← List.drop_eq_getElem_cons hj, List.take_append_drop]
  have h1 : roots b ts = roots b (ts.take j) ++ (((b + sizes (ts.take j) + size ts[j] - 1 : Nat) : Int) :: roots (b + sizes (ts.take j) + size ts[j]) (ts.drop (j + 1))) := by
    conv => lhs; rw [e]
    rw [roots_append]
    rfl
  rw [h1, List.getElem?_append_right (by rw [roots_len]; simp; omega), roots_len]
  simp [Nat.min_eq_left (Nat.le_of_lt hj)]
end Go.Proofs.YtpkjfdgjmcphmaaDoor

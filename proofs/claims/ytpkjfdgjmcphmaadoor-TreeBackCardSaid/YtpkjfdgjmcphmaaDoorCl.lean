/- A block that is known whole; sets in such blocks. -/
import Derived.Test.YtpkjfdgjmcphmaaDoorSv
import Derived.Laws.Rows
import Derived.OneCell
namespace Go.Proofs.YtpkjfdgjmcphmaaDoor
open Go.RowKit Bset

/-- Block g is just these cells, none of them frozen. -/
def Cl (w : World) (g : Nat) (t : TypeId) (cs : Array Value) : Prop := w.heap[g]? = some (.cells cs t (0, 0))

section
variable {w w' : World} {g : Nat} {t : TypeId} {cs : Array Value}
theorem Cl.lt (h : Cl w g t cs) : g < w.heap.size := lt_of_block h
theorem Cl.cell (h : Cl w g t cs) (i : Nat) : w.cell? ⟨g, i, none⟩ = cs[i]? := by
  unfold Cl at h
  simp [World.cell?, h]
theorem Cl.free (h : Cl w g t cs) (i : Nat) : w.frozen? ⟨g, i, none⟩ = false := by
  unfold Cl at h
  simp [World.frozen?, h]
theorem Cl.new (w : World) (t : TypeId) (cs : Array Value) : Cl (w.alloc (.cells cs t)) w.heap.size t cs := heap_alloc_new w _
theorem Cl.new' {w : World} {g : Nat} (h : g = w.heap.size) (t : TypeId) (cs : Array Value) : Cl (w.alloc (.cells cs t)) g t cs := by
  subst h
  exact Cl.new w t cs
theorem Cl.drew (h : Cl w g t cs) : Cl w.drew g t cs := h
theorem Cl.drewN (h : Cl w g t cs) (n : Nat) : Cl (w.drewN n) g t cs := h
theorem Cl.alloc (h : Cl w g t cs) (o : Obj) : Cl (w.alloc o) g t cs := (Below.heap_alloc w o g h.lt).trans h
theorem Cl.put (h : Cl w g t cs) (i : Nat) (u : Value) : Cl (w.setCell ⟨g, i, none⟩ u) g t (cs.setIfInBounds i u) := by
  unfold Cl at h ⊢
  simp [World.setCell, Array.getElem?_modify, h]
theorem Cl.other (h : Cl w g t cs) {p : Addr} (hp : g ≠ p.block) (u : Value) : Cl (w.setCell p u) g t cs := (Below.heap_setCell w p u g hp).trans h
theorem Cl.below {B : Nat} (h : Cl w g t cs) (hb : Below B w w') (hg : g < B) : Cl w' g t cs := (hb.block g hg).trans h
end

/-- The cells of a set, by number. -/
theorem Cl.word {w : World} {g : Nat} {t : TypeId} {S : Nat → Bool} (h : Cl w g t (setC S)) (k : Nat) (hk : k < 4) : w.cell? ⟨g, k, none⟩ = some (.int .u64 (word S k : Nat)) := by
  rw [h.cell]
  match k, hk with
  | 0, _ => rfl
  | 1, _ => rfl
  | 2, _ => rfl
  | 3, _ => rfl

/-- What a store into a new set's cells needs. -/
theorem Cl.zero {w : World} {g : Nat} {t : TypeId} (h : Cl w g t #[.int .u64 0, .int .u64 0, .int .u64 0, .int .u64 0]) (k : Nat) (hk : k < 4) : w.cell? ⟨g, k, none⟩ = some (.int .u64 0) := by
  rw [h.cell]
  match k, hk with
  | 0, _ => rfl
  | 1, _ => rfl
  | 2, _ => rfl
  | 3, _ => rfl

theorem setC_congr {S T : Nat → Bool} (h : ∀ n, n < 256 → S n = T n) : setC S = setC T := by
  unfold setC
  rw [word_congr h (by omega : 0 < 4), word_congr h (by omega : 1 < 4), word_congr h (by omega : 2 < 4), word_congr h (by omega : 3 < 4)]

theorem setC_put (S : Nat → Bool) (b : Nat) (hb : b < 256) {v : Nat} (hv : v = word S (b / 64) ||| bt b) :
    (setC S).setIfInBounds (b / 64) (.int .u64 (v : Nat)) = setC (fun n => S n || n == b) := by
  subst hv
  have hk : b / 64 < 4 := by omega
  unfold bt
  rw [word_put S (b := b)]
  have ho : ∀ k, k ≠ b / 64 → word S k = word (fun n => S n || n == b) k := fun k h => word_put_other S h
  generalize hK : b / 64 = K at hk ho ⊢
  unfold setC
  match K, hk, ho with
  | 0, _, ho => simp [ho 1, ho 2, ho 3]
  | 1, _, ho => simp [ho 0, ho 2, ho 3]
  | 2, _, ho => simp [ho 0, ho 1, ho 3]
  | 3, _, ho => simp [ho 0, ho 1, ho 2]

theorem word_none (k : Nat) : word (fun _ => false) k = 0 := by
  refine (eq_word (by decide) (fun j _ => ?_)).symm
  simp

theorem setC_none : setC (fun _ => false) = #[.int .u64 0, .int .u64 0, .int .u64 0, .int .u64 0] := by
  unfold setC
  simp only [word_none]
  rfl

theorem setV_none : setV (fun _ => false) = .agg #[.int .u64 0, .int .u64 0, .int .u64 0, .int .u64 0] := congrArg Value.agg setC_none

theorem setV_congr {S T : Nat → Bool} (h : ∀ n, n < 256 → S n = T n) : setV S = setV T := congrArg Value.agg (setC_congr h)
end Go.Proofs.YtpkjfdgjmcphmaaDoor

/- Package tree: part. -/
import Derived.Test.YtpkjfdgjmcphmaaDoorTz3
namespace Go.Proofs.YtpkjfdgjmcphmaaDoor
open Go.RowKit Bset Tm

theorem Nodes.cut {w : World} {b off cap : Nat} {A : List Nd} (h : Nodes w (.slice (some ⟨b, off, none⟩) A.length cap) A) {s m : Nat} (hs : s + m ≤ A.length) (c : Nat) : Nodes w (.slice (some ⟨b, off + s * 9, none⟩) m c) ((A.drop s).take m) := by
  obtain ⟨p, cap', e, h⟩ := h
  obtain ⟨rfl, _⟩ : some (⟨b, off, none⟩ : Addr) = p ∧ cap = cap' := by simpa using e
  have hl : ((A.drop s).take m).length = m := by simp; omega
  refine ⟨some ⟨b, off + s * 9, none⟩, c, by rw [hl], ?_⟩
  rcases h with rfl | ⟨b', off', e2, h⟩
  · left
    simp
  · right
    obtain ⟨rfl, rfl⟩ : b = b' ∧ off = off' := by simpa using e2
    refine ⟨b, off + s * 9, rfl, fun j hj => ?_⟩
    have hj' : s + j < A.length := by omega
    obtain ⟨kv, h1, h2⟩ := h (s + j) hj'
    have he : ((A.drop s).take m)[j] = A[s + j] := by simp
    rw [he]
    exact ⟨kv, by rw [show off + s * 9 + j * 9 = off + (s + j) * 9 by omega]; exact h1, h2⟩

set_option maxRecDepth 100000 in
set_option maxHeartbeats 4000000 in
theorem part_any (b off cap : Nat) (r : Int) (A : List Nd) (s m : Nat) (w : World) (hN : Nodes w (.slice (some ⟨b, off, none⟩) A.length cap) A) (hcap : A.length ≤ cap) (hok : OkA A)
    (hkb : ∀ n ∈ A, ∀ k ∈ n.kids, -4611686018427387904 ≤ k ∧ k ≤ 4611686018427387904) (hs : s + m ≤ A.length) (hm : 0 < m) :
    Calls Tryd.prog 79 #[treeV (.slice (some ⟨b, off, none⟩) A.length cap) r, .int .i64 s, .int .i64 m] w fun e w' => ∃ v, e = .returned v ∧ MadeT w.heap.size w' v ⟨((A.drop s).take m).map (mv (0 - s)), (m : Int) - 1⟩ ∧ Below w.heap.size w w' := by
  have hlen := hok.len
  have B0 := ((Below.refl w.heap.size w).alloc (Nat.le_refl _) (.cells #[.slice (some ⟨b, off, none⟩) A.length cap, .int .i64 r] 26)).alloc (by simp) (.cells #[.slice none 0 0, .int .i64 0] 26)
  have K0 := (Cl.new w 26 #[.slice (some ⟨b, off, none⟩) A.length cap, .int .i64 r]).alloc (.cells #[.slice none 0 0, .int .i64 0] 26)
  have N0 : Cl ((w.alloc (.cells #[.slice (some ⟨b, off, none⟩) A.length cap, .int .i64 r] 26)).alloc (.cells #[.slice none 0 0, .int .i64 0] 26)) (w.heap.size + 1) 26 #[.slice none 0 0, .int .i64 0] := Cl.new' (by simp) _ _
  have hw : IntKind.i64.wrap ((s : Int) + (m : Int)) = ((s + m : Nat) : Int) := by rw [IntWalk.i64_in _ (by omega)]; omega
  have hs0 : (0 : Int) ≤ (s : Int) := by omega
  have hs1 : (s : Int) ≤ ((s + m : Nat) : Int) := by omega
  have hs2 : ((s + m : Nat) : Int) ≤ (cap : Int) := by omega
  have hne : ¬ cap = s := by omega
  have hsm : s + m - s = m := by omega
  have hc := fun W (h : Nodes W (.slice (some ⟨b, off, none⟩) A.length cap) A) => h.cut hs (cap - s)
  have hl : ((A.drop s).take m).length = m := by simp; omega
  have hsub : ∀ n ∈ (A.drop s).take m, n ∈ A := fun n hn => List.mem_of_mem_drop (List.mem_of_mem_take hn)
  have hN0 := hN.below B0
  have HS := Lib.hid hs
  have HL := Lib.hid hl
  have HSB := Lib.hid hsub
  clear hs hl hsub
  have hput := put_any (w.heap.size + 2) (.slice none 0 0) (.slice (some ⟨b, off + s * 9, none⟩) m (cap - s)) [] ((A.drop s).take m) s ((w.alloc (.cells #[.slice (some ⟨b, off, none⟩) A.length cap, .int .i64 r] 26)).alloc (.cells #[.slice none 0 0, .int .i64 0] 26)) (Made.nil _ _) (by simp) (fun W hW => (hc _ hN0).keep (fun b hb => hW.block b hb (by simp [Value.ownBlock]))) (by have := HL.out; have := HS.out; simp only [List.length_nil]; omega) (fun n hn => by have := hok.text n (HSB.out n hn); omega) (fun n hn => hok.kids n (HSB.out n hn)) (fun n hn => hkb n (HSB.out n hn)) (by have := HS.out; omega)
  go_enter Tryd.func79, Tryd.ntmps79
  go_wp2_with (go_at_call 70; refine hput.mono ?_; rintro e w4 ⟨v4, C4, rfl, hM4, hC4, hgb, hob, hks⟩; obtain ⟨p4, c4, rfl⟩ := own_slice hM4.row)
  rw [List.nil_append] at hM4
  have hCl : C4.length = m := by
    have := congrArg List.length hC4
    rw [List.length_map, List.length_map, HL.out] at this
    exact this
  have b4 := B0.grown hgb B0.size (fun g e => by simp [Value.ownBlock] at e)
  have n4 : Cl w4 (w.heap.size + 1) 26 #[.slice none 0 0, .int .i64 0] := (hgb.block _ N0.lt (by simp [Value.ownBlock])).trans N0
  rw [hCl] at hM4 ⊢
  have hrt := fun w => rooted_any p4 m c4 (by have := HS.out; omega) w
  clear hput hob hks hgb B0 K0 N0 hN0 hc hN
  go_wp2_with (go_at_call 72; refine (hrt _).mono ?_; rintro e w5 ⟨rfl, hb5⟩; have b5 := b4.trans (hb5.mono b4.size); have n5 := n4.below hb5 n4.lt; have hM5 := hM4.below hb5; clear hb5 n4 b4; obtain ⟨⟨z0, z1⟩, zf⟩ := n5.two)
  have hM6 := (hM5.put2 (g := w.heap.size + 1) (by omega) (.slice p4 m c4) (.int .i64 ((m : Int) - 1))).mono (lo' := w.heap.size) (by omega)
  exact end_tree (n5.put2 _ _) rfl rfl rfl ⟨_, rfl, ⟨_, C4, rfl, hM6, hC4.trans (by simp)⟩, below_put2 b5 (by omega) _ _⟩
end Go.Proofs.YtpkjfdgjmcphmaaDoor

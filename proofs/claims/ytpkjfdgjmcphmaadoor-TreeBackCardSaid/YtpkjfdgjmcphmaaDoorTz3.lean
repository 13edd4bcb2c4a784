/- bonsailaw04: nots. -/
import Derived.Test.YtpkjfdgjmcphmaaDoorTz2
namespace Go.Proofs.YtpkjfdgjmcphmaaDoor
open Go.RowKit Bset Tm

abbrev hdK (k : Nat) : Hd := ⟨k, 0#256, ⟨#[]⟩, 0, 0⟩
/-- So many Nots, one within the other. -/
def noTr : Nat → RT Hd
  | 0 => .mk (hdK 0) []
  | n + 1 => .mk (hdK 8) [noTr n]
theorem noTr_size : ∀ n, size (noTr n) = n + 1
  | 0 => rfl
  | n + 1 => by simp [noTr, size, sizes, noTr_size n]
theorem noTr_deep : ∀ n, deep (noTr n) = n + 1
  | 0 => rfl
  | n + 1 => by simp [noTr, deep, deeps, noTr_deep n]
theorem noTr_fit : ∀ n, fitT (noTr n) = true
  | 0 => by simp [noTr, fitT, fitTs, fits, noSet, noText, isZ, ByteArray.size]
  | n + 1 => by simp [noTr, fitT, fitTs, fits, noSet, noText, isZ, ByteArray.size, noTr_fit n]
theorem noTr_ok : ∀ n, Tm.allT okP (noTr n)
  | 0 => by simp [noTr, Tm.allT, Tm.allTs, okP, ByteArray.size]
  | n + 1 => by simp [noTr, Tm.allT, Tm.allTs, okP, ByteArray.size, noTr_ok n]
theorem noTr_of (n : Nat) : ofB (hdK 8) [arOf (noTr n)] = true ∧ ofT (hdK 8) [arOf (noTr n)] = arOf (noTr (n + 1)) := by
  have h1 : rightB (arOf (noTr n)) = true := rightB_iff.2 (arOf_right (noTr_fit n))
  have h2 : ofB (hdK 8) [arOf (noTr n)] = true := by
    simp [ofB, h1, fits, noSet, noText, isZ, ByteArray.size]
  refine ⟨h2, ?_⟩
  rw [ofT, if_pos h2, List.map_singleton, tree_arOf]
  rfl

theorem own_ty {w w' : World} {lo g : Nat} {t t' : TypeId} {cs : Array Value} {size : Nat} {v : Value} {n : Nat} {xs : List Value} (h : w.ownsRow lo t size v n xs) (hc : Cl w g t' cs) (ht : t ≠ t') (hg : w.grownBy w' (some g)) : w'.ownsRow lo t size v n xs := by
  refine h.kept hg ?_
  rcases h.2 with ⟨rfl, _⟩ | ⟨g', cap, cur, rfl, hb, hgg, _⟩
  · exact .inl rfl
  · refine .inr fun e => ?_
    have : g' = g := by simpa [Value.ownBlock] using e
    subst this
    have h2 : w.heap[g']? = some (.cells cs t' (0, 0)) := hc
    rw [h2] at hgg
    cases hgg
    exact ht rfl
theorem Made.ty {lo g : Nat} {w w' : World} {v : Value} {B : List (Nd × Value)} {t' : TypeId} {cs : Array Value} (h : Made lo w v B) (hc : Cl w g t' cs) (h1 : 38 ≠ t') (h2 : 3 ≠ t') (hg : w.grownBy w' (some g)) : Made lo w' v B :=
  ⟨own_ty h.row hc h1 hg, fun x hx => own_ty (h.kids x hx) hc h2 hg⟩
theorem gb_put2 (w : World) (g : Nat) (u0 u1 : Value) : w.grownBy (put2 w g u0 u1) (some g) := gb_set (gb_set (gb_refl w (some g)) 0 u0) 1 u1

/-- One tree, in a list of its own. -/
theorem trees_one {lo : Nat} {w : World} {nv : Value} {T : Ar} (h : MadeT lo w (treeV nv T.root) T) : Trees (w.alloc (.cells #[nv, .int .i64 T.root] 26)) (.slice (some ⟨w.heap.size, 0, none⟩) 1 1) [T] := by
  have hc := Cl.new w 26 #[nv, .int .i64 T.root]
  obtain ⟨nv', e, hn⟩ := (h.below ((Below.refl _ _).alloc (Nat.le_refl _) (.cells #[nv, .int .i64 T.root] 26))).tree
  have e' : nv = nv' := by simpa using e
  subst e'
  refine ⟨_, 1, rfl, .inr ⟨w.heap.size, 0, rfl, fun j hj => ?_⟩⟩
  have : j = 0 := by simp at hj; omega
  subst this
  exact ⟨nv, hc.cell 0, hc.cell 1, hn⟩

set_option maxRecDepth 100000 in
set_option maxHeartbeats 4000000 in
theorem nots_any (n : Nat) (hn : n ≤ 1000) (w : World) (hE : Env w) :
    Calls Tryd.prog 13 #[.int .i64 n] w fun e w' => ∃ v, e = .returned v ∧ MadeT w.heap.size w' v (arOf (noTr n)) ∧ Below w.heap.size w w' := by
  have k0 := Cl.new w 26 #[.slice none 0 0, .int .i64 0]
  have b0 := (Below.refl w.heap.size w).alloc (Nat.le_refl _) (.cells #[.slice none 0 0, .int .i64 0] 26)
  go_enter Tryd.func13, Tryd.ntmps13
  go_wp2_with (go_at_call 17; refine (empty_any _).mono ?_; rintro e w1 ⟨v, rfl, ⟨nv, C, rfl, hm, hc⟩, hb⟩
               obtain ⟨p, c, rfl⟩ := own_slice hm.row
               have k1 := (k0.below hb k0.lt).alloc (.cells #[.slice p C.length c, .int .i64 0] 26)
               have hb1 := b0.trans (hb.mono b0.size)
               have b1 := hb1.alloc hb1.size (.cells #[.slice p C.length c, .int .i64 0] 26)
               have q1 := Cl.new w1 26 #[.slice p C.length c, .int .i64 0]
               have m1 := (hm.mono (lo' := w.heap.size + 1) (by simp)).below ((Below.refl _ _).alloc (Nat.le_refl _) (.cells #[.slice p C.length c, .int .i64 0] 26))
               have hz := Lib.hid (Nat.lt_of_lt_of_le k0.lt hb.size)
               clear hb k0 b0 hm)
  have hzz := hz.out
  generalize w1.heap.size = gT at *
  clear hz
  go_loopw [4] (fun v W => ∃ (i : Nat) (nv : Value), v = .int .i64 i ∧ i ≤ n ∧ Below w.heap.size w W ∧ Cl W w.heap.size 26 #[.slice none 0 0, .int .i64 0] ∧ Cl W gT 26 #[nv, .int .i64 i] ∧ MadeT (w.heap.size + 1) W (treeV nv i) (arOf (noTr i)))
    (fun v _ => n - (intOf v).toNat)
  case atStart => exact ⟨0, _, rfl, Nat.zero_le _, b1, k1, q1, ⟨_, C, rfl, m1, hc⟩⟩
  case round =>
    clear b1 k1 q1 m1 hc hb1
    obtain ⟨i, nv, rfl, hi, hB, hk, hq, hm⟩ := hrel
    have hroot : (arOf (noTr i)).root = (i : Int) := by
      simp only [arOf, noTr_size]
      omega
    rw [← hroot] at hm hq
    obtain ⟨nv', C, e, hM, hC⟩ := hm
    obtain rfl : nv = nv' := by simpa using e
    obtain ⟨p, c, rfl⟩ := own_slice hM.row
    clear e
    by_cases hlt : i < n
    · have hof := fun (w : World) (h1 : Trees w (.slice (some ⟨wr.heap.size, 0, none⟩) 1 1) [arOf (noTr i)]) (h2 : Env w) => of_any (hdK 8) (.slice none 0 0) _ [arOf (noTr i)] w h1 (by simp [okP, ByteArray.size]) (fun t ht => by
        rw [List.mem_singleton.1 ht]
        exact ok_arOf (noTr_ok i) (by rw [noTr_size]; omega)) (by simp [total, arOf, flat_length, noTr_size]; omega) (by simp) h2
      simp only [nodeV_zero, (noTr_of i).1, (noTr_of i).2] at hof
      have htr := trees_one ⟨_, C, rfl, hM, hC⟩
      have hq1 := hq.alloc (.cells #[.slice p C.length c, .int .i64 (arOf (noTr i)).root] 26)
      have hk1 := hk.alloc (.cells #[.slice p C.length c, .int .i64 (arOf (noTr i)).root] 26)
      have B1 := hB.alloc hB.size (.cells #[.slice p C.length c, .int .i64 (arOf (noTr i)).root] 26)
      obtain ⟨x0, x1⟩ := hq.two.1
      have hroot2 : (arOf (noTr (i + 1))).root = ((i + 1 : Nat) : Int) := by
        simp only [arOf, noTr_size]
        omega
      have HR2 := Lib.hid hroot2
      clear hroot hroot2 hq hk hM hC
      generalize (arOf (noTr i)).root = r0 at *
      go_wp2_with (go_at_call 16; refine (hof _ htr (hE.below B1)).mono ?_; rintro e w2 ⟨v, rfl, ⟨nv2, C2, rfl, hm2, hc2⟩, hb⟩
                   obtain ⟨p2, c2, rfl⟩ := own_slice hm2.row
                   have hq2 := hq1.below hb hq1.lt
                   have hk2 := hk1.below hb hk1.lt
                   have B2 := B1.trans (hb.mono B1.size)
                   obtain ⟨⟨z0, z1⟩, zf⟩ := hq2.two
                   have B1s := Lib.hid B1.size
                   clear hb hq1 hk1 B1 htr hof x0 x1)
      have hr2 := HR2.out
      have f1 := hq2.put2 (.slice p2 C2.length c2) (.int .i64 (arOf (noTr (i + 1))).root)
      have f2 := (hk2.other (p := ⟨gT, 0, none⟩) (by simp; omega) (.slice p2 C2.length c2)).other (p := ⟨gT, 1, none⟩) (by simp; omega) (.int .i64 (arOf (noTr (i + 1))).root)
      have f3 := below_put2 B2 (g := gT) (by omega) (.slice p2 C2.length c2) (.int .i64 (arOf (noTr (i + 1))).root)
      have f4 := (hm2.ty hq2 (by decide) (by decide) (gb_put2 w2 gT (.slice p2 C2.length c2) (.int .i64 (arOf (noTr (i + 1))).root))).mono (lo' := w.heap.size + 1) (by have := hB.size; simp; omega)
      rw [hr2] at f1 f2 f3 f4 ⊢
      exact ⟨⟨i + 1, .slice p2 C2.length c2, by go_num, by omega, f3, f2, f1, ⟨_, C2, by rw [hr2], f4, hc2⟩⟩, by simp [intOf]; omega⟩
    · obtain rfl : i = n := by omega
      obtain ⟨x0, x1⟩ := hq.two.1
      obtain ⟨⟨z0, z1⟩, zf⟩ := hk.two
      have HM := Lib.hid hM
      have HR := Lib.hid hroot
      clear hM hroot
      generalize hr0 : (arOf (noTr i)).root = r0 at *
      have HR0 := Lib.hid hr0
      clear hr0
      go_wp2
      refine end_tree (hk.put2 _ _) rfl rfl rfl ⟨_, rfl, ⟨_, C, by rw [HR0.out], (HM.out.put2 (by omega) _ _).mono (by omega), hC⟩, below_put2 hB (Nat.le_refl _) _ _⟩
end Go.Proofs.YtpkjfdgjmcphmaaDoor

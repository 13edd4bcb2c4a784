/- Package tree: Walk. -/
import Derived.Test.YtpkjfdgjmcphmaaDoorTy
namespace Go.Proofs.YtpkjfdgjmcphmaaDoor
open Go.RowKit Bset Tm

/-- A tree's row. -/
def rowN (A : List Nd) : List Nat := pre (X (kidsN A) (A.length - 1))
noncomputable def rowT (T : Ar) : List Int := if rightB T = true then (rowN T.nodes).map Int.ofNat else []

theorem row_perm {A : List Nd} (h : RightA A) : (rowN A).Perm (List.range A.length) := (pre_post _).trans h.k.perm
theorem row_len {A : List Nd} (h : RightA A) : (rowN A).length = A.length := by
  have := (row_perm h).length_eq
  simpa using this
theorem row_places {A : List Nd} (h : RightA A) {F : Nat → Nat} (hF : Frm (kidsN A) A.length 1 0 F) : (rowN A).map F = List.range' 0 A.length := by
  have hp := h.k.pos
  have h1 := pre_places h.k.dec hF.spread (A.length - 1) (by omega)
  rw [hF.root, h.k.size] at h1
  exact h1
theorem row_lt {A : List Nd} (_h : RightA A) {F : Nat → Nat} (hF : Frm (kidsN A) A.length 1 0 F) {i : Nat} (hi : i < A.length) : F i < A.length := by
  have h1 := hF.low i hi
  have h2 := M_pos (kidsN A) i
  omega
theorem row_filled {A : List Nd} (h : RightA A) {F O : Nat → Nat} (hF : Frm (kidsN A) A.length 1 0 F) (hO : ∀ j, j < A.length → O (F j) = j) (a : Nat) (ha : a < (rowN A).length) : O a = (rowN A)[a] := by
  have h1 := row_places h hF
  have h2 : F (rowN A)[a] = a := by
    have : ((rowN A).map F)[a]? = some a := by
      have ha' : a < A.length := by rw [← row_len h]; exact ha
      rw [h1]
      simp [ha']
    rw [List.getElem?_map, List.getElem?_eq_getElem ha] at this
    simpa using this
  have h3 : (rowN A)[a] < A.length := List.mem_range.1 ((row_perm h).subset (List.getElem_mem ha))
  have := hO _ h3
  rw [h2] at this
  exact this
theorem row_inj {A : List Nd} (h : RightA A) {F : Nat → Nat} (hF : Frm (kidsN A) A.length 1 0 F) {i j : Nat} (hi : i < A.length) (hj : j < A.length) (e : F i = F j) : i = j := by
  have h1 := row_places h hF
  have h2 : ((rowN A).map F).Nodup := by rw [h1]; exact List.nodup_range'
  obtain ⟨a, ha, rfl⟩ := List.mem_iff_getElem.1 ((row_perm h).symm.subset (List.mem_range.2 hi))
  obtain ⟨b, hb, rfl⟩ := List.mem_iff_getElem.1 ((row_perm h).symm.subset (List.mem_range.2 hj))
  have h3 := (List.pairwise_iff_getElem.1 h2)
  rcases Nat.lt_trichotomy a b with hab | hab | hab
  · exact absurd (by rw [List.getElem_map, List.getElem_map]; exact e) (h3 a b (by simpa using ha) (by simpa using hb) hab)
  · subst hab
    rfl
  · exact absurd (by rw [List.getElem_map, List.getElem_map]; exact e.symm) (h3 b a (by simpa using hb) (by simpa using ha) hab)

set_option maxRecDepth 100000 in
set_option maxHeartbeats 4000000 in
theorem walk_any (v : Value) (T : Ar) (w : World) (hv : Tree w v T) (hok : OkA T.nodes) (hE : Env w) :
    Calls Tryd.prog 23 #[v] w fun e w' => ∃ v', e = .returned v' ∧ w'.ownsRow w.heap.size 3 1 v' (rowT T).length ((rowT T).map (Value.int .i64)) ∧ Below w.heap.size w w' := by
  obtain ⟨nv, rfl, hn⟩ := hv
  obtain ⟨p0, c0, rfl⟩ := hn.len
  have hr := fun w h1 h2 => right_at' (treeV (.slice p0 T.nodes.length c0) T.root) T w h1 hok h2
  have b0 := (Below.refl w.heap.size w).alloc (Nat.le_refl _) (.cells #[.slice p0 T.nodes.length c0, .int .i64 T.root] 26)
  have k0 := Cl.new w 26 #[.slice p0 T.nodes.length c0, .int .i64 T.root]
  have hv0 : Tree (w.alloc (.cells #[.slice p0 T.nodes.length c0, .int .i64 T.root] 26)) (treeV (.slice p0 T.nodes.length c0) T.root) T := ⟨_, rfl, hn.below b0⟩
  have hE0 := hE.below b0
  unfold rowT
  cases hR : rightB T with
  | false =>
    rw [if_neg (by simp)]
    simp only [hR] at hr
    go_enter Tryd.func23, Tryd.ntmps23
    go_wp2_with (go_at_call 18; refine (hr _ hv0 hE0).mono ?_; rintro e w1 ⟨rfl, hb⟩; obtain ⟨⟨y0, y1⟩, yf⟩ := (k0.below hb k0.lt).two)
    go_ret
    exact ⟨_, rfl, World.ownsRow_nil _ _ _ _, b0.trans (hb.mono b0.size)⟩
  | true =>
    have hRT := rightB_iff.1 hR
    rw [if_pos rfl]
    simp only [hR] at hr
    obtain ⟨A, root⟩ := T
    dsimp only at *
    have hRA : RightA A := hRT.2
    have hlen := hok.len
    have hpos := hRA.k.pos
    have hsp := fun w h => spread_any (.slice p0 A.length c0) A 1 w h hRA hok (by omega)
    have hmk := make_ints A.length hlen
    clear hR hRT
    go_enter Tryd.func23, Tryd.ntmps23
    go_wp2_with (first
      | (go_at_call 18; refine (hr _ hv0 hE0).mono ?_; rintro e w1 ⟨rfl, hb⟩; have k1 := k0.below hb k0.lt; have b1 := b0.trans (hb.mono b0.size); have hn1 := hn.below b1; clear hb k0 b0 hr hv0 hE0; obtain ⟨⟨y0, y1⟩, yf⟩ := k1.two)
      | (go_at_call 78; refine (hsp _ hn1).mono ?_; rintro e w2 ⟨g1, g2, F, rfl, hne, hg1, hg2, r1, r2, hF, hb⟩
         have b2 := b1.trans (hb.mono b1.size)
         have hl1 := r1.lt
         have s1 := r1.alloc (.cells (madeCells #[.int .i64 0] A.length) 3)
         have s4 := made_at w2 (g := w2.heap.size) rfl (.int .i64 0) A.length 3
         have b4 := b2.alloc b2.size (.cells (madeCells #[.int .i64 0] A.length) 3)
         have hz := Lib.hid b2.size
         clear hsp hn1 hb k1 y0 y1 yf r1 r2 b2))
    have hgl := hz.out
    generalize w2.alloc _ = W4 at *
    generalize w2.heap.size = gB at *
    go_loopw [22] (fun v W => ∃ (i : Nat) (O : Nat → Nat), v = .int .i64 i ∧ i ≤ A.length ∧ Below w.heap.size w W ∧ W.rowIs g1 3 A.length (fun j => .int .i64 (F j : Nat)) ∧ W.rowIs gB 3 A.length (fun j => .int .i64 (O j : Nat)) ∧ ∀ j, j < i → O (F j) = j)
      (fun v _ => A.length - (intOf v).toNat)
    case atStart => exact ⟨0, fun _ => 0, rfl, Nat.zero_le _, b4, s1, s4.congr fun j _ => rfl, fun j hj => by omega⟩
    case round =>
      clear b4 s1 s4
      obtain ⟨i, O, rfl, hi, hB, s1, s2, hall⟩ := hrel
      by_cases hlt : i < A.length
      · have x1 := s1.cell hlt
        have hF1 := row_lt hRA hF hlt
        have x2 := s2.cell hF1
        have xf := s2.frozen (F i)
        obtain ⟨m, hm⟩ : ∃ m, m = F i := ⟨_, rfl⟩
        rw [← hm] at x1 x2 xf hF1
        have hi0 : (0 : Int) ≤ (i : Int) := by omega
        have hi1 : (i : Int) < (A.length : Int) := by omega
        have hm0 : (0 : Int) ≤ (m : Int) := by omega
        have hm1 : (m : Int) < (A.length : Int) := by omega
        have HM := Lib.hid hm
        clear hm
        go_wp2
        go_roundw
        case rel =>
          refine ⟨i + 1, fun j => if j = m then i else O j, by go_num, by omega, hB.setCell (p := ⟨gB, m, none⟩) hgl _, s1.setOther (a := ⟨gB, m, none⟩) (by simp; omega) _, (s2.set m _).congr fun j _ => ?_, fun j hj => ?_⟩
          · by_cases e : j = m <;> simp [e]
          · show (if F j = m then i else O (F j)) = j
            by_cases e : j = i
            · subst e
              rw [if_pos HM.out.symm]
            · rw [if_neg]
              · exact hall j (by omega)
              · intro e2
                exact e (row_inj hRA hF (by omega) hlt (e2.trans HM.out))
        case measure => simp [intOf]; omega
      · obtain rfl : i = A.length := by omega
        have hrl := row_len hRA
        have hown := own_of_row (lo := w.heap.size) (l := (rowN A).map Int.ofNat) s2 (by simpa using hrl) (fun j hj => by
          simp at hj
          rw [row_filled hRA hF hall j hj]
          simp) hgl hlen
        clear hrl hall
        go_wp2
        go_ret
        exact ⟨_, rfl, hown, hB⟩
end Go.Proofs.YtpkjfdgjmcphmaaDoor

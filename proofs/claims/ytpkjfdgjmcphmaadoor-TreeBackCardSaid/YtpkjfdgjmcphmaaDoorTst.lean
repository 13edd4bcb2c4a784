/- Loads and stores of whole nodes, as laws. -/
import Derived.Test.YtpkjfdgjmcphmaaDoorTz1
namespace Go.Proofs.YtpkjfdgjmcphmaaDoor
open Go.RowKit Bset Tm

set_option maxHeartbeats 2000000 in
theorem store9 {w : World} {g : Nat} {t : TypeId} {a0 a1 a2 a3 a4 a5 a6 a7 a8 : Value} (hc : Cl w g t #[a0, a1, a2, a3, a4, a5, a6, a7, a8]) (h : Hd) (p : Option Addr) (n c : Nat) :
    (Instr.storeAt 38 (.pointer (some ⟨g, 0, none⟩)) (nodeV h (.slice p n c))).run Tryd.prog w = .ok () (node9 w g (.int .u8 h.kind) (.int .u64 (word (setN h.set) 0 : Nat)) (.int .u64 (word (setN h.set) 1 : Nat)) (.int .u64 (word (setN h.set) 2 : Nat)) (.int .u64 (word (setN h.set) 3 : Nat)) (.string h.text) (.int .i64 h.lo) (.int .i64 h.hi) (.slice p n c)) := by
  obtain ⟨⟨y0, y1, y2, y3, y4, y5, y6, y7, y8⟩, yf⟩ := hc.nine
  simp [go_sem, y0, y1, y2, y3, y4, y5, y6, y7, y8, yf]
theorem load9 {w : World} {g : Nat} {t : TypeId} {a0 a1 a2 a3 a4 a5 a6 a7 a8 : Value} (hc : Cl w g t #[a0, a1, a2, a3, a4, a5, a6, a7, a8]) :
    (Instr.loadAt 38 (.pointer (some ⟨g, 0, none⟩))).run Tryd.prog w = .ok (.agg #[a0, a1, a2, a3, a4, a5, a6, a7, a8]) w := by
  obtain ⟨⟨y0, y1, y2, y3, y4, y5, y6, y7, y8⟩, yf⟩ := hc.nine
  simp [go_sem, y0, y1, y2, y3, y4, y5, y6, y7, y8]

theorem gb_node9 (w : World) (g : Nat) (v0 v1 v2 v3 v4 v5 v6 v7 v8 : Value) : w.grownBy (node9 w g v0 v1 v2 v3 v4 v5 v6 v7 v8) (some g) :=
  gb_set (gb_set (gb_set (gb_set (gb_set (gb_set (gb_set (gb_set (gb_set (gb_refl w (some g)) 0 v0) 1 v1) 2 v2) 3 v3) 4 v4) 5 v5) 6 v6) 7 v7) 8 v8

theorem wpList_load9 {w : World} {g : Nat} {t : TypeId} {a0 a1 a2 a3 a4 a5 a6 a7 a8 : Value} (hc : Cl w g t #[a0, a1, a2, a3, a4, a5, a6, a7, a8]) {ops : Array Oper} {rest : List Oper} {o : Oper} {a : Act} {Q : Exit → Act → World → Prop} (hgd : o.guard = none) (s : Operand) (ho : o.op = .load 38 s)
    (hs : a.eval s = .pointer (some ⟨g, 0, none⟩)) (h : wpList Tryd.prog ops Q rest (a.put o.dst (.agg #[a0, a1, a2, a3, a4, a5, a6, a7, a8])) w) : wpList Tryd.prog ops Q (o :: rest) a w := by
  refine wpList_plain hgd fun K' hK' => ?_
  have hrun := load9 hc
  unfold Oper.wp execOp
  simp only [ho, hs, hrun, Sem.run_bind, Sem.run_pure, Result.andThen_ok]
  exact hK' _ _ h
theorem wpList_store9 {w : World} {g : Nat} {t : TypeId} {a0 a1 a2 a3 a4 a5 a6 a7 a8 : Value} (hc : Cl w g t #[a0, a1, a2, a3, a4, a5, a6, a7, a8]) {ops : Array Oper} {rest : List Oper} {o : Oper} {a : Act} {Q : Exit → Act → World → Prop} (hgd : o.guard = none) (s x : Operand) (ho : o.op = .store 38 s x)
    (hd : Hd) (p : Option Addr) (n c : Nat) (hs : a.eval s = .pointer (some ⟨g, 0, none⟩)) (hx : a.eval x = nodeV hd (.slice p n c))
    (h : ∀ w', Cl w' g t (nodeC hd (.slice p n c)) → w.grownBy w' (some g) → ∀ v, wpList Tryd.prog ops Q rest (a.put o.dst v) w') : wpList Tryd.prog ops Q (o :: rest) a w := by
  refine wpList_plain hgd fun K' hK' => ?_
  have hrun := store9 hc hd p n c
  have h1 := h _ (hc.set9 (.int .u8 hd.kind) (.int .u64 (word (setN hd.set) 0 : Nat)) (.int .u64 (word (setN hd.set) 1 : Nat)) (.int .u64 (word (setN hd.set) 2 : Nat)) (.int .u64 (word (setN hd.set) 3 : Nat)) (.string hd.text) (.int .i64 hd.lo) (.int .i64 hd.hi) (.slice p n c)) (gb_node9 w g _ _ _ _ _ _ _ _ _)
  unfold Oper.wp execOp
  simp only [ho, hs, hx, hrun, Sem.run_bind, Sem.run_pure, Result.andThen_ok]
  exact hK' _ _ (h1 _)
theorem Cl.gb' {w w' : World} {g g' : Nat} {t : TypeId} {cs : Array Value} (h : Cl w g' t cs) (hg : w.grownBy w' (some g)) (hne : g' ≠ g) : Cl w' g' t cs := h.gb hg hne
theorem own_gb {w w' : World} {lo g : Nat} {t : TypeId} {size : Nat} {v : Value} {n : Nat} {xs : List Value} (h : w.ownsRow lo t size v n xs) (hg : w.grownBy w' (some g)) (hl : g < lo) : w'.ownsRow lo t size v n xs :=
  own_keep h fun b hb hlt => hg.block b hlt (by intro e; cases e; omega)
theorem Made.gb {lo g : Nat} {w w' : World} {v : Value} {B : List (Nd × Value)} (h : Made lo w v B) (hg : w.grownBy w' (some g)) (hl : g < lo) : Made lo w' v B :=
  h.keep fun b hb hlt => hg.block b hlt (by intro e; cases e; omega)
theorem below_gb {lo g : Nat} {w0 w w' : World} (h : Below lo w0 w) (hg : w.grownBy w' (some g)) (hl : lo ≤ g) (hs : lo ≤ w.heap.size) : Below lo w0 w' :=
  h.grown hg hs (fun k e => by cases e; exact hl)
end Go.Proofs.YtpkjfdgjmcphmaaDoor

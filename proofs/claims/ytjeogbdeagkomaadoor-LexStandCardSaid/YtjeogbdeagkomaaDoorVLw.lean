/- Words in blocks of their own: ten cells. Printed by lwgen.py. -/
import Derived.Test.YtjeogbdeagkomaaDoorVBset
namespace Go.Proofs.YtjeogbdeagkomaaDoor
open Go.RowKit Bset

/-- A word as the program has it. -/
structure Lw where
  kind : Nat
  at_ : Int
  to_ : Int
  text : ByteArray
  set : Nat → Bool
  low : Int
  high : Int
abbrev lwC (x : Lw) : Array Value := #[.int .u8 (x.kind : Nat), .int .i64 x.at_, .int .i64 x.to_, .string x.text, .int .u64 (word x.set 0 : Nat), .int .u64 (word x.set 1 : Nat), .int .u64 (word x.set 2 : Nat), .int .u64 (word x.set 3 : Nat), .int .i64 x.low, .int .i64 x.high]
abbrev lwV (x : Lw) : Value := .agg (lwC x)
/-- .. without its places. -/
abbrev Lw.bare (x : Lw) : Lw := ⟨x.kind, 0, 0, x.text, x.set, x.low, x.high⟩
/-- A word of nothing, as a block is laid. -/
abbrev lwZ : Array Value := #[.int .u8 0, .int .i64 0, .int .i64 0, .string ⟨#[]⟩, .int .u64 0, .int .u64 0, .int .u64 0, .int .u64 0, .int .i64 0, .int .i64 0]

section
variable {w : World} {g : Nat} {t : TypeId} {a0 a1 a2 a3 a4 a5 a6 a7 a8 a9 v0 v1 v2 v3 v4 v5 v6 v7 v8 v9 : Value}
theorem Cl.ten (h : Cl w g t #[a0, a1, a2, a3, a4, a5, a6, a7, a8, a9]) : (w.cell? ⟨g, 0, none⟩ = some a0 ∧ w.cell? ⟨g, 1, none⟩ = some a1 ∧ w.cell? ⟨g, 2, none⟩ = some a2 ∧ w.cell? ⟨g, 3, none⟩ = some a3 ∧ w.cell? ⟨g, 4, none⟩ = some a4 ∧ w.cell? ⟨g, 5, none⟩ = some a5 ∧ w.cell? ⟨g, 6, none⟩ = some a6 ∧ w.cell? ⟨g, 7, none⟩ = some a7 ∧ w.cell? ⟨g, 8, none⟩ = some a8 ∧ w.cell? ⟨g, 9, none⟩ = some a9) ∧ ∀ i, w.frozen? ⟨g, i, none⟩ = false :=
  ⟨⟨h.cell 0, h.cell 1, h.cell 2, h.cell 3, h.cell 4, h.cell 5, h.cell 6, h.cell 7, h.cell 8, h.cell 9⟩, h.free⟩
/-- A whole word stored. -/
abbrev lw10 (w : World) (g : Nat) (v0 v1 v2 v3 v4 v5 v6 v7 v8 v9 : Value) : World :=
  ((((((((((w).setCell ⟨g, 0, none⟩ v0).setCell ⟨g, 1, none⟩ v1).setCell ⟨g, 2, none⟩ v2).setCell ⟨g, 3, none⟩ v3).setCell ⟨g, 4, none⟩ v4).setCell ⟨g, 5, none⟩ v5).setCell ⟨g, 6, none⟩ v6).setCell ⟨g, 7, none⟩ v7).setCell ⟨g, 8, none⟩ v8).setCell ⟨g, 9, none⟩ v9
theorem Cl.put10_0 (h : Cl w g t #[a0, a1, a2, a3, a4, a5, a6, a7, a8, a9]) (v : Value) : Cl (w.setCell ⟨g, 0, none⟩ v) g t #[v, a1, a2, a3, a4, a5, a6, a7, a8, a9] := h.put 0 v
theorem Cl.put10_1 (h : Cl w g t #[a0, a1, a2, a3, a4, a5, a6, a7, a8, a9]) (v : Value) : Cl (w.setCell ⟨g, 1, none⟩ v) g t #[a0, v, a2, a3, a4, a5, a6, a7, a8, a9] := h.put 1 v
theorem Cl.put10_2 (h : Cl w g t #[a0, a1, a2, a3, a4, a5, a6, a7, a8, a9]) (v : Value) : Cl (w.setCell ⟨g, 2, none⟩ v) g t #[a0, a1, v, a3, a4, a5, a6, a7, a8, a9] := h.put 2 v
theorem Cl.put10_3 (h : Cl w g t #[a0, a1, a2, a3, a4, a5, a6, a7, a8, a9]) (v : Value) : Cl (w.setCell ⟨g, 3, none⟩ v) g t #[a0, a1, a2, v, a4, a5, a6, a7, a8, a9] := h.put 3 v
theorem Cl.put10_4 (h : Cl w g t #[a0, a1, a2, a3, a4, a5, a6, a7, a8, a9]) (v : Value) : Cl (w.setCell ⟨g, 4, none⟩ v) g t #[a0, a1, a2, a3, v, a5, a6, a7, a8, a9] := h.put 4 v
theorem Cl.put10_5 (h : Cl w g t #[a0, a1, a2, a3, a4, a5, a6, a7, a8, a9]) (v : Value) : Cl (w.setCell ⟨g, 5, none⟩ v) g t #[a0, a1, a2, a3, a4, v, a6, a7, a8, a9] := h.put 5 v
theorem Cl.put10_6 (h : Cl w g t #[a0, a1, a2, a3, a4, a5, a6, a7, a8, a9]) (v : Value) : Cl (w.setCell ⟨g, 6, none⟩ v) g t #[a0, a1, a2, a3, a4, a5, v, a7, a8, a9] := h.put 6 v
theorem Cl.put10_7 (h : Cl w g t #[a0, a1, a2, a3, a4, a5, a6, a7, a8, a9]) (v : Value) : Cl (w.setCell ⟨g, 7, none⟩ v) g t #[a0, a1, a2, a3, a4, a5, a6, v, a8, a9] := h.put 7 v
theorem Cl.put10_8 (h : Cl w g t #[a0, a1, a2, a3, a4, a5, a6, a7, a8, a9]) (v : Value) : Cl (w.setCell ⟨g, 8, none⟩ v) g t #[a0, a1, a2, a3, a4, a5, a6, a7, v, a9] := h.put 8 v
theorem Cl.put10_9 (h : Cl w g t #[a0, a1, a2, a3, a4, a5, a6, a7, a8, a9]) (v : Value) : Cl (w.setCell ⟨g, 9, none⟩ v) g t #[a0, a1, a2, a3, a4, a5, a6, a7, a8, v] := h.put 9 v
theorem Cl.set10 (h : Cl w g t #[a0, a1, a2, a3, a4, a5, a6, a7, a8, a9]) (v0 v1 v2 v3 v4 v5 v6 v7 v8 v9 : Value) : Cl (lw10 w g v0 v1 v2 v3 v4 v5 v6 v7 v8 v9) g t #[v0, v1, v2, v3, v4, v5, v6, v7, v8, v9] :=
  ((((((((((h.put10_0 v0).put10_1 v1).put10_2 v2).put10_3 v3).put10_4 v4).put10_5 v5).put10_6 v6).put10_7 v7).put10_8 v8).put10_9 v9)
theorem Cl.other10 {b : Nat} {t' : TypeId} {cs : Array Value} (h : Cl w b t' cs) (hb : b ≠ g) (v0 v1 v2 v3 v4 v5 v6 v7 v8 v9 : Value) : Cl (lw10 w g v0 v1 v2 v3 v4 v5 v6 v7 v8 v9) b t' cs :=
  ((((((((((h.other (p := ⟨g, 0, none⟩) hb v0).other (p := ⟨g, 1, none⟩) hb v1).other (p := ⟨g, 2, none⟩) hb v2).other (p := ⟨g, 3, none⟩) hb v3).other (p := ⟨g, 4, none⟩) hb v4).other (p := ⟨g, 5, none⟩) hb v5).other (p := ⟨g, 6, none⟩) hb v6).other (p := ⟨g, 7, none⟩) hb v7).other (p := ⟨g, 8, none⟩) hb v8).other (p := ⟨g, 9, none⟩) hb v9)
theorem below_set10 {B : Nat} {w0 : World} (h : Below B w0 w) (hg : B ≤ g) (v0 v1 v2 v3 v4 v5 v6 v7 v8 v9 : Value) : Below B w0 (lw10 w g v0 v1 v2 v3 v4 v5 v6 v7 v8 v9) :=
  ((((((((((h.setCell (p := ⟨g, 0, none⟩) hg v0).setCell (p := ⟨g, 1, none⟩) hg v1).setCell (p := ⟨g, 2, none⟩) hg v2).setCell (p := ⟨g, 3, none⟩) hg v3).setCell (p := ⟨g, 4, none⟩) hg v4).setCell (p := ⟨g, 5, none⟩) hg v5).setCell (p := ⟨g, 6, none⟩) hg v6).setCell (p := ⟨g, 7, none⟩) hg v7).setCell (p := ⟨g, 8, none⟩) hg v8).setCell (p := ⟨g, 9, none⟩) hg v9)
end

set_option maxHeartbeats 1000000 in
/-- The end of a function whose result is a word in a block of its own. -/
theorem end_word {fn : Func} {R : Ending → World → Prop} {a : Act} {w : World} {tm : Tmp} {g : Nat} {T : TypeId} {v0 v1 v2 v3 v4 v5 v6 v7 v8 v9 : Value} (hc : Cl w g T #[v0, v1, v2, v3, v4, v5, v6, v7, v8, v9])
    (hr : fn.results = #[.cell tm 64]) (ht : a.tmps[tm]?.getD undef = .pointer (some ⟨g, 0, none⟩)) (hd : a.defers = []) (hR : R (.returned (.agg #[v0, v1, v2, v3, v4, v5, v6, v7, v8, v9])) w) : bodyPost Tryd.prog fn R .ret a w := by
  obtain ⟨⟨y0, y1, y2, y3, y4, y5, y6, y7, y8, y9⟩, yf⟩ := hc.ten
  exact bodyPost_ret (v := .agg #[v0, v1, v2, v3, v4, v5, v6, v7, v8, v9]) (by simp [results, hr, ht, go_sem, y0, y1, y2, y3, y4, y5, y6, y7, y8, y9]) hd hR
set_option maxHeartbeats 1000000 in
/-- .. a word and a bool. -/
theorem end_word_bool {fn : Func} {R : Ending → World → Prop} {a : Act} {w : World} {tm tb : Tmp} {g : Nat} {b : Bool} {T : TypeId} {v0 v1 v2 v3 v4 v5 v6 v7 v8 v9 : Value} (hc : Cl w g T #[v0, v1, v2, v3, v4, v5, v6, v7, v8, v9])
    (hr : fn.results = #[.cell tm 64, .tmp tb]) (ht : a.tmps[tm]?.getD undef = .pointer (some ⟨g, 0, none⟩)) (hb : a.tmps[tb]? = some (.bool b)) (hd : a.defers = []) (hR : R (.returned (.tuple #[.agg #[v0, v1, v2, v3, v4, v5, v6, v7, v8, v9], .bool b])) w) : bodyPost Tryd.prog fn R .ret a w := by
  obtain ⟨⟨y0, y1, y2, y3, y4, y5, y6, y7, y8, y9⟩, yf⟩ := hc.ten
  exact bodyPost_ret (v := .tuple #[.agg #[v0, v1, v2, v3, v4, v5, v6, v7, v8, v9], .bool b]) (by simp [results, hr, ht, hb, go_sem, y0, y1, y2, y3, y4, y5, y6, y7, y8, y9]) hd hR

end Go.Proofs.YtjeogbdeagkomaaDoor

/-
  NARROWER THAN 'FOR EVERY INPUT', by the rows' own cells (each row's printed sentence says how): TreeNames: laid · TreeTells: laid · ExprPuts: laid · LexBack: laid · LexStand: laid · LexParted: laid.
  DERIVED. THE GIVEN ROWS OF THIS SEAT. 6 by the template 'for every input the law returns true; each argument reads behind the call as it read before'; 0 by the template 'total and deterministic' (their statements: YtjeogbdeagkomaaDoorTotals.lean).
  GIVEN WITH THE SEED: the statements are not yours to turn. If you find one false, say at which input.
  Laid BY PROGRAM, IN A SANDBOX (cutbox-rows.mjs): the forced cells as the released guide's own fill.sh prints them over the translation e328b5e1292c85ec… (all of the seat's roots in one cut). By AI agents, Wed Nov 11 2026. No macro, syntax, notation, axiom, sorry.
-/
import Derived.Test.YtjeogbdeagkomaaDoorChecked
import GoSem.Claim
import GoSem.ClaimJoined
import GoSem.ClaimMapViews
import Derived.JoinedTies
import Derived.KernelRfl
namespace Go.Proofs.YtjeogbdeagkomaaDoor
/- THE CELL 'sum', in the pinned program and in every row, IS THE sha256 OF THE DUMP (.gsa) THAT YtjeogbdeagkomaaDoorProg.lean LOADS. Nothing in Lean hashes anything: it is a label: what it is worth is what the hold of that sum in a sandbox is worth. -/
noncomputable def Tryd.pinned : Pinned := { name := "ytjeogbdeagkomaadoor", sum := "e328b5e1292c85ecad0b7fd6f7f6e0fca2f88a06cfb9fbabfa3e24f3ca12772a", checked := Tryd.checked }
namespace Rows
def none {H : Type} : Left H := { results := [], args := [] }

/- WHAT THE LISTED PACKAGE-LEVEL VARIABLES READ AS WHEN THE CALL BEGINS. Each datum BY PROGRAM (the guide's laid-datum.mjs) off the statement by which the dump's own 'gosem.cut.vars' lays the variable. In a bare row this is a premise. The card (YtjeogbdeagkomaaDoorCards.lean) ties it to the program's text. -/
def laid_bonsai_tree_kidsOf {H : Type} : DataW H := .agg [.agg [.lit (.int .i64 0), .lit (.int .i64 0)], .agg [.lit (.int .i64 0), .lit (.int .i64 0)], .agg [.lit (.int .i64 0), .lit (.int .i64 0)], .agg [.lit (.int .i64 0), .lit (.int .i64 0)], .agg [.lit (.int .i64 2), .lit (.int .i64 (-1))], .agg [.lit (.int .i64 2), .lit (.int .i64 (-1))], .agg [.lit (.int .i64 1), .lit (.int .i64 1)], .agg [.lit (.int .i64 1), .lit (.int .i64 1)], .agg [.lit (.int .i64 1), .lit (.int .i64 1)], .agg [.lit (.int .i64 1), .lit (.int .i64 1)]]
def laid_math_bits_deBruijn32tab {H : Type} : DataW H := .agg [.lit (.int .u8 0), .lit (.int .u8 1), .lit (.int .u8 28), .lit (.int .u8 2), .lit (.int .u8 29), .lit (.int .u8 14), .lit (.int .u8 24), .lit (.int .u8 3), .lit (.int .u8 30), .lit (.int .u8 22), .lit (.int .u8 20), .lit (.int .u8 15), .lit (.int .u8 25), .lit (.int .u8 17), .lit (.int .u8 4), .lit (.int .u8 8), .lit (.int .u8 31), .lit (.int .u8 27), .lit (.int .u8 13), .lit (.int .u8 23), .lit (.int .u8 21), .lit (.int .u8 19), .lit (.int .u8 16), .lit (.int .u8 7), .lit (.int .u8 26), .lit (.int .u8 12), .lit (.int .u8 18), .lit (.int .u8 6), .lit (.int .u8 11), .lit (.int .u8 5), .lit (.int .u8 10), .lit (.int .u8 9)]
def laid_math_bits_deBruijn64tab {H : Type} : DataW H := .agg [.lit (.int .u8 0), .lit (.int .u8 1), .lit (.int .u8 56), .lit (.int .u8 2), .lit (.int .u8 57), .lit (.int .u8 49), .lit (.int .u8 28), .lit (.int .u8 3), .lit (.int .u8 61), .lit (.int .u8 58), .lit (.int .u8 42), .lit (.int .u8 50), .lit (.int .u8 38), .lit (.int .u8 29), .lit (.int .u8 17), .lit (.int .u8 4), .lit (.int .u8 62), .lit (.int .u8 47), .lit (.int .u8 59), .lit (.int .u8 36), .lit (.int .u8 45), .lit (.int .u8 43), .lit (.int .u8 51), .lit (.int .u8 22), .lit (.int .u8 53), .lit (.int .u8 39), .lit (.int .u8 33), .lit (.int .u8 30), .lit (.int .u8 24), .lit (.int .u8 18), .lit (.int .u8 12), .lit (.int .u8 5), .lit (.int .u8 63), .lit (.int .u8 55), .lit (.int .u8 48), .lit (.int .u8 27), .lit (.int .u8 60), .lit (.int .u8 41), .lit (.int .u8 37), .lit (.int .u8 16), .lit (.int .u8 46), .lit (.int .u8 35), .lit (.int .u8 44), .lit (.int .u8 21), .lit (.int .u8 52), .lit (.int .u8 32), .lit (.int .u8 23), .lit (.int .u8 11), .lit (.int .u8 54), .lit (.int .u8 26), .lit (.int .u8 40), .lit (.int .u8 15), .lit (.int .u8 34), .lit (.int .u8 20), .lit (.int .u8 31), .lit (.int .u8 10), .lit (.int .u8 25), .lit (.int .u8 14), .lit (.int .u8 19), .lit (.int .u8 9), .lit (.int .u8 13), .lit (.int .u8 8), .lit (.int .u8 7), .lit (.int .u8 6)]
def laid_internal_strconv_uint64pow10 {H : Type} : DataW H := .agg [.lit (.int .u64 1), .lit (.int .u64 10), .lit (.int .u64 100), .lit (.int .u64 1000), .lit (.int .u64 10000), .lit (.int .u64 100000), .lit (.int .u64 1000000), .lit (.int .u64 10000000), .lit (.int .u64 100000000), .lit (.int .u64 1000000000), .lit (.int .u64 10000000000), .lit (.int .u64 100000000000), .lit (.int .u64 1000000000000), .lit (.int .u64 10000000000000), .lit (.int .u64 100000000000000), .lit (.int .u64 1000000000000000), .lit (.int .u64 10000000000000000), .lit (.int .u64 100000000000000000), .lit (.int .u64 1000000000000000000), .lit (.int .u64 10000000000000000000)]
def laid_bonsai_lex_signs {H : Type} : DataW H := .agg [.lit (.string []), .lit (.string []), .lit (.string [60, 45]), .lit (.string [47]), .lit (.string [38]), .lit (.string [33]), .lit (.string [63]), .lit (.string [42]), .lit (.string [43]), .lit (.string [40]), .lit (.string [41]), .lit (.string [60]), .lit (.string [62]), .lit (.string [58])]

/-- 'bonsailaw04.TreeNames': WHATEVER THE INPUT: true; the input reads as it did. -/
def treeNamesSpec : ChangeSpec := { name := "treeNames", fn := fun _ => fun
  | [] => { results := [.lit (.bool true)], args := [] }
  | _ => none }
def treeNamesRow : OpenClaim := { program := "ytjeogbdeagkomaadoor", sum := "e328b5e1292c85ecad0b7fd6f7f6e0fca2f88a06cfb9fbabfa3e24f3ca12772a", func := "bonsai/bonsailaw04.TreeNames", spec := "treeNames", unfollowed := true, recurses := true, named := ["bonsai/tree.kidsOf"], apart := false, laid := [("bonsai/tree.kidsOf", laid_bonsai_tree_kidsOf)] }
def TreeNamesSaid : Prop := treeNamesRow.holds Tryd.pinned (OpenSpec.ofChange treeNamesSpec)

/-- ITS FALSE NEIGHBOUR: 'it returns false'. Refute it at one input. -/
def treeNamesWrong : ChangeSpec := { name := "treeNames", fn := fun _ => fun
  | [] => { results := [.lit (.bool false)], args := [] }
  | _ => none }
def TreeNamesWrongFalsely : Prop := treeNamesRow.holds Tryd.pinned (OpenSpec.ofChange treeNamesWrong)

/-- 'bonsailaw04.TreeTells': WHATEVER THE INPUT: true; the input reads as it did. -/
def treeTellsSpec : ChangeSpec := { name := "treeTells", fn := fun _ => fun
  | [d1, d2, d3] => { results := [.lit (.bool true)], args := [d1, d2, d3] }
  | _ => none }
def treeTellsRow : OpenClaim := { program := "ytjeogbdeagkomaadoor", sum := "e328b5e1292c85ecad0b7fd6f7f6e0fca2f88a06cfb9fbabfa3e24f3ca12772a", func := "bonsai/bonsailaw04.TreeTells", spec := "treeTells", unfollowed := true, recurses := true, named := ["bonsai/tree.kidsOf"], apart := false, laid := [("bonsai/tree.kidsOf", laid_bonsai_tree_kidsOf)] }
def TreeTellsSaid : Prop := treeTellsRow.holds Tryd.pinned (OpenSpec.ofChange treeTellsSpec)

/-- ITS FALSE NEIGHBOUR: 'it returns false'. Refute it at one input. -/
def treeTellsWrong : ChangeSpec := { name := "treeTells", fn := fun _ => fun
  | [d1, d2, d3] => { results := [.lit (.bool false)], args := [d1, d2, d3] }
  | _ => none }
def TreeTellsWrongFalsely : Prop := treeTellsRow.holds Tryd.pinned (OpenSpec.ofChange treeTellsWrong)

/-- 'bonsailaw05.ExprPuts': WHATEVER THE INPUT: true; the input reads as it did. -/
def exprPutsSpec : ChangeSpec := { name := "exprPuts", fn := fun _ => fun
  | [d1, d2, d3, d4] => { results := [.lit (.bool true)], args := [d1, d2, d3, d4] }
  | _ => none }
def exprPutsRow : OpenClaim := { program := "ytjeogbdeagkomaadoor", sum := "e328b5e1292c85ecad0b7fd6f7f6e0fca2f88a06cfb9fbabfa3e24f3ca12772a", func := "bonsai/bonsailaw05.ExprPuts", spec := "exprPuts", unfollowed := true, recurses := true, named := ["bonsai/tree.kidsOf"], apart := false, laid := [("bonsai/tree.kidsOf", laid_bonsai_tree_kidsOf)] }
def ExprPutsSaid : Prop := exprPutsRow.holds Tryd.pinned (OpenSpec.ofChange exprPutsSpec)

/-- ITS FALSE NEIGHBOUR: 'it returns false'. Refute it at one input. -/
def exprPutsWrong : ChangeSpec := { name := "exprPuts", fn := fun _ => fun
  | [d1, d2, d3, d4] => { results := [.lit (.bool false)], args := [d1, d2, d3, d4] }
  | _ => none }
def ExprPutsWrongFalsely : Prop := exprPutsRow.holds Tryd.pinned (OpenSpec.ofChange exprPutsWrong)

/-- 'bonsailaw06.LexBack': WHATEVER THE INPUT: true; the input reads as it did. -/
def lexBackSpec : ChangeSpec := { name := "lexBack", fn := fun _ => fun
  | [d] => { results := [.lit (.bool true)], args := [d] }
  | _ => none }
def lexBackRow : OpenClaim := { program := "ytjeogbdeagkomaadoor", sum := "e328b5e1292c85ecad0b7fd6f7f6e0fca2f88a06cfb9fbabfa3e24f3ca12772a", func := "bonsai/bonsailaw06.LexBack", spec := "lexBack", inPlace := ["internal/bytealg.IndexByteString", "internal/bytealg.IndexString", "internal/abi.NoEscape"], unfollowed := true, recurses := true, named := ["bonsai/lex.signs", "internal/bytealg.MaxLen", "internal/strconv.uint64pow10", "math/bits.deBruijn32tab", "math/bits.deBruijn64tab"], apart := false, laid := [("math/bits.deBruijn32tab", laid_math_bits_deBruijn32tab), ("math/bits.deBruijn64tab", laid_math_bits_deBruijn64tab), ("internal/strconv.uint64pow10", laid_internal_strconv_uint64pow10), ("bonsai/lex.signs", laid_bonsai_lex_signs)] }
def LexBackSaid : Prop := lexBackRow.holds Tryd.pinned (OpenSpec.ofChange lexBackSpec)

/-- ITS FALSE NEIGHBOUR: 'it returns false'. Refute it at one input. -/
def lexBackWrong : ChangeSpec := { name := "lexBack", fn := fun _ => fun
  | [d] => { results := [.lit (.bool false)], args := [d] }
  | _ => none }
def LexBackWrongFalsely : Prop := lexBackRow.holds Tryd.pinned (OpenSpec.ofChange lexBackWrong)

/-- 'bonsailaw06.LexStand': WHATEVER THE INPUT: true; the input reads as it did. -/
def lexStandSpec : ChangeSpec := { name := "lexStand", fn := fun _ => fun
  | [d] => { results := [.lit (.bool true)], args := [d] }
  | _ => none }
def lexStandRow : OpenClaim := { program := "ytjeogbdeagkomaadoor", sum := "e328b5e1292c85ecad0b7fd6f7f6e0fca2f88a06cfb9fbabfa3e24f3ca12772a", func := "bonsai/bonsailaw06.LexStand", spec := "lexStand", inPlace := ["internal/bytealg.IndexByteString", "internal/bytealg.IndexString", "internal/abi.NoEscape"], unfollowed := true, recurses := true, named := ["bonsai/lex.signs", "internal/bytealg.MaxLen"], apart := false, laid := [("bonsai/lex.signs", laid_bonsai_lex_signs)] }
def LexStandSaid : Prop := lexStandRow.holds Tryd.pinned (OpenSpec.ofChange lexStandSpec)

/-- ITS FALSE NEIGHBOUR: 'it returns false'. Refute it at one input. -/
def lexStandWrong : ChangeSpec := { name := "lexStand", fn := fun _ => fun
  | [d] => { results := [.lit (.bool false)], args := [d] }
  | _ => none }
def LexStandWrongFalsely : Prop := lexStandRow.holds Tryd.pinned (OpenSpec.ofChange lexStandWrong)

/-- 'bonsailaw06.LexParted': WHATEVER THE INPUT: true; the input reads as it did. -/
def lexPartedSpec : ChangeSpec := { name := "lexParted", fn := fun _ => fun
  | [d1, d2] => { results := [.lit (.bool true)], args := [d1, d2] }
  | _ => none }
def lexPartedRow : OpenClaim := { program := "ytjeogbdeagkomaadoor", sum := "e328b5e1292c85ecad0b7fd6f7f6e0fca2f88a06cfb9fbabfa3e24f3ca12772a", func := "bonsai/bonsailaw06.LexParted", spec := "lexParted", inPlace := ["internal/bytealg.IndexByteString", "internal/bytealg.IndexString", "internal/abi.NoEscape"], unfollowed := true, recurses := true, named := ["bonsai/lex.signs", "internal/bytealg.MaxLen"], apart := false, laid := [("bonsai/lex.signs", laid_bonsai_lex_signs)] }
def LexPartedSaid : Prop := lexPartedRow.holds Tryd.pinned (OpenSpec.ofChange lexPartedSpec)

/-- ITS FALSE NEIGHBOUR: 'it returns false'. Refute it at one input. -/
def lexPartedWrong : ChangeSpec := { name := "lexParted", fn := fun _ => fun
  | [d1, d2] => { results := [.lit (.bool false)], args := [d1, d2] }
  | _ => none }
def LexPartedWrongFalsely : Prop := lexPartedRow.holds Tryd.pinned (OpenSpec.ofChange lexPartedWrong)

/- THE SECOND FORM. 'bulk': how many values and letters a reading holds, each counted each time it is reached (what is shared counts as often as it is met; a slice's spare places count too). A statement '..UptoSaid' is the law's where the arguments, and the package variables that the reading takes, are together of bulk at most 1048576: NARROWER than '..Said'. Prove '..Said' where nothing that the law and all that it calls make is longer than what came in: it says more and counts as full. Else prove '..UptoSaid'. A law counts once. -/
mutual
def uptoBulk {H : Type} : DataW H → Nat
  | .lit (.string bytes) => bytes.length + 1
  | .lit _ => 1
  | .nil => 1
  | .ptr d => uptoBulk d + 1
  | .slice elems spare => uptoBulkAll elems + uptoBulkAll spare + 1
  | .agg parts => uptoBulkAll parts + 1
  | .iface _ d => uptoBulk d + 1
  | .map entries => uptoBulkEntries entries + 1
  | .held _ => 1
def uptoBulkAll {H : Type} : List (DataW H) → Nat
  | [] => 0
  | d :: r => uptoBulk d + uptoBulkAll r
def uptoBulkEntries {H : Type} : List (Lit × DataW H) → Nat
  | [] => 0
  | x :: r => uptoBulkEntry x + uptoBulkEntries r
def uptoBulkEntry {H : Type} : Lit × DataW H → Nat
  | (.string bytes, d) => bytes.length + uptoBulk d + 1
  | (_, d) => uptoBulk d + 1
 end
def uptoSmall : (H : Type) → List (DataW H) → Bool := fun _ ds => decide (uptoBulkAll ds ≤ 1048576)
def OpenSpec.upto (s : _root_.Go.ChangeSpec) : _root_.Go.OpenSpec := { _root_.Go.OpenSpec.ofChange s with cond := some uptoSmall }

/-- 'bonsailaw04.TreeNames', WHERE WHAT IT READS IS OF BULK AT MOST 1048576: true; the input reads as it did. -/
def treeNamesUptoRow : OpenClaim := { program := "ytjeogbdeagkomaadoor", sum := "e328b5e1292c85ecad0b7fd6f7f6e0fca2f88a06cfb9fbabfa3e24f3ca12772a", func := "bonsai/bonsailaw04.TreeNames", spec := "treeNames", unfollowed := true, recurses := true, named := ["bonsai/tree.kidsOf"], apart := false, laid := [("bonsai/tree.kidsOf", laid_bonsai_tree_kidsOf)], narrowed := true }
def TreeNamesUptoSaid : Prop := treeNamesUptoRow.holds Tryd.pinned (OpenSpec.upto treeNamesSpec)

/-- 'bonsailaw04.TreeTells', WHERE WHAT IT READS IS OF BULK AT MOST 1048576: true; the input reads as it did. -/
def treeTellsUptoRow : OpenClaim := { program := "ytjeogbdeagkomaadoor", sum := "e328b5e1292c85ecad0b7fd6f7f6e0fca2f88a06cfb9fbabfa3e24f3ca12772a", func := "bonsai/bonsailaw04.TreeTells", spec := "treeTells", unfollowed := true, recurses := true, named := ["bonsai/tree.kidsOf"], apart := false, laid := [("bonsai/tree.kidsOf", laid_bonsai_tree_kidsOf)], narrowed := true }
def TreeTellsUptoSaid : Prop := treeTellsUptoRow.holds Tryd.pinned (OpenSpec.upto treeTellsSpec)

/-- 'bonsailaw05.ExprPuts', WHERE WHAT IT READS IS OF BULK AT MOST 1048576: true; the input reads as it did. -/
def exprPutsUptoRow : OpenClaim := { program := "ytjeogbdeagkomaadoor", sum := "e328b5e1292c85ecad0b7fd6f7f6e0fca2f88a06cfb9fbabfa3e24f3ca12772a", func := "bonsai/bonsailaw05.ExprPuts", spec := "exprPuts", unfollowed := true, recurses := true, named := ["bonsai/tree.kidsOf"], apart := false, laid := [("bonsai/tree.kidsOf", laid_bonsai_tree_kidsOf)], narrowed := true }
def ExprPutsUptoSaid : Prop := exprPutsUptoRow.holds Tryd.pinned (OpenSpec.upto exprPutsSpec)

/-- 'bonsailaw06.LexBack', WHERE WHAT IT READS IS OF BULK AT MOST 1048576: true; the input reads as it did. -/
def lexBackUptoRow : OpenClaim := { program := "ytjeogbdeagkomaadoor", sum := "e328b5e1292c85ecad0b7fd6f7f6e0fca2f88a06cfb9fbabfa3e24f3ca12772a", func := "bonsai/bonsailaw06.LexBack", spec := "lexBack", inPlace := ["internal/bytealg.IndexByteString", "internal/bytealg.IndexString", "internal/abi.NoEscape"], unfollowed := true, recurses := true, named := ["bonsai/lex.signs", "internal/bytealg.MaxLen", "internal/strconv.uint64pow10", "math/bits.deBruijn32tab", "math/bits.deBruijn64tab"], apart := false, laid := [("math/bits.deBruijn32tab", laid_math_bits_deBruijn32tab), ("math/bits.deBruijn64tab", laid_math_bits_deBruijn64tab), ("internal/strconv.uint64pow10", laid_internal_strconv_uint64pow10), ("bonsai/lex.signs", laid_bonsai_lex_signs)], narrowed := true }
def LexBackUptoSaid : Prop := lexBackUptoRow.holds Tryd.pinned (OpenSpec.upto lexBackSpec)

/-- 'bonsailaw06.LexStand', WHERE WHAT IT READS IS OF BULK AT MOST 1048576: true; the input reads as it did. -/
def lexStandUptoRow : OpenClaim := { program := "ytjeogbdeagkomaadoor", sum := "e328b5e1292c85ecad0b7fd6f7f6e0fca2f88a06cfb9fbabfa3e24f3ca12772a", func := "bonsai/bonsailaw06.LexStand", spec := "lexStand", inPlace := ["internal/bytealg.IndexByteString", "internal/bytealg.IndexString", "internal/abi.NoEscape"], unfollowed := true, recurses := true, named := ["bonsai/lex.signs", "internal/bytealg.MaxLen"], apart := false, laid := [("bonsai/lex.signs", laid_bonsai_lex_signs)], narrowed := true }
def LexStandUptoSaid : Prop := lexStandUptoRow.holds Tryd.pinned (OpenSpec.upto lexStandSpec)

/-- 'bonsailaw06.LexParted', WHERE WHAT IT READS IS OF BULK AT MOST 1048576: true; the input reads as it did. -/
def lexPartedUptoRow : OpenClaim := { program := "ytjeogbdeagkomaadoor", sum := "e328b5e1292c85ecad0b7fd6f7f6e0fca2f88a06cfb9fbabfa3e24f3ca12772a", func := "bonsai/bonsailaw06.LexParted", spec := "lexParted", inPlace := ["internal/bytealg.IndexByteString", "internal/bytealg.IndexString", "internal/abi.NoEscape"], unfollowed := true, recurses := true, named := ["bonsai/lex.signs", "internal/bytealg.MaxLen"], apart := false, laid := [("bonsai/lex.signs", laid_bonsai_lex_signs)], narrowed := true }
def LexPartedUptoSaid : Prop := lexPartedUptoRow.holds Tryd.pinned (OpenSpec.upto lexPartedSpec)

end Rows
end Go.Proofs.YtjeogbdeagkomaaDoor

/-
  DERIVED. GIVEN WITH THE SEED: THE CARDS: each row of YtjeogbdeagkomaaDoorRows.lean that lists a variable, with what it lists TIED to the program's text (the seventh form; the later family's looks); each row that meets fmt, with fmt's text TOLD by the authors' own Lean function (tested against real Go, not proved from fmt's source: count such statements apart). THE CARD IS WHAT COUNTS. Prove the row's statement (the work); the ties are given (YtjeogbdeagkomaaDoorTie.lean); close each card by the builder's one call (the guide's Derived/Test/ToyasCard.lean, 'card_holds'). Laid BY PROGRAM, IN A SANDBOX (cutbox-door.mjs). By AI agents, Wed Nov 11 2026. No macro, syntax, notation, axiom, sorry.
-/
import Derived.Test.YtjeogbdeagkomaaDoorRows
import GoSem.ClaimSeven
namespace Go.Proofs.YtjeogbdeagkomaaDoor
namespace Rows

/-- THE TIED CARD OF 'bonsailaw04.TreeNames'. -/
def treeNamesCard : Claim7 := { stood := { row := treeNamesRow, standIns := [], harness := (true, "1d794a9ae3c57e668454f9e3b7f7186b1d4569aac323cb5111cacca3209c0daf"), looks := false }, kinds := [], alts := [], laidByText := true, laidKinds := [.data], laidTests := true, laidLooks := .later }
def TreeNamesCardSaid : Prop := Claim7.holds Tryd.pinned (.plain (OpenSpec.ofChange treeNamesSpec)) treeNamesCard

/-- THE TIED CARD OF 'bonsailaw04.TreeTells'. -/
def treeTellsCard : Claim7 := { stood := { row := treeTellsRow, standIns := [], harness := (true, "1d794a9ae3c57e668454f9e3b7f7186b1d4569aac323cb5111cacca3209c0daf"), looks := false }, kinds := [], alts := [], laidByText := true, laidKinds := [.data], laidTests := true, laidLooks := .later }
def TreeTellsCardSaid : Prop := Claim7.holds Tryd.pinned (.plain (OpenSpec.ofChange treeTellsSpec)) treeTellsCard

/-- THE TIED CARD OF 'bonsailaw05.ExprPuts'. -/
def exprPutsCard : Claim7 := { stood := { row := exprPutsRow, standIns := [], harness := (true, "1d794a9ae3c57e668454f9e3b7f7186b1d4569aac323cb5111cacca3209c0daf"), looks := false }, kinds := [], alts := [], laidByText := true, laidKinds := [.data], laidTests := true, laidLooks := .later }
def ExprPutsCardSaid : Prop := Claim7.holds Tryd.pinned (.plain (OpenSpec.ofChange exprPutsSpec)) exprPutsCard

/-- THE TIED CARD OF 'bonsailaw06.LexBack'. -/
def lexBackCard : Claim7 := { stood := { row := lexBackRow, standIns := [], harness := (true, "1d794a9ae3c57e668454f9e3b7f7186b1d4569aac323cb5111cacca3209c0daf"), looks := false }, kinds := [], alts := [], laidByText := true, laidKinds := [.data, .data, .data, .data], laidTests := true, laidLooks := .later }
def LexBackCardSaid : Prop := Claim7.holds Tryd.pinned (.plain (OpenSpec.ofChange lexBackSpec)) lexBackCard

/-- THE TIED CARD OF 'bonsailaw06.LexStand'. -/
def lexStandCard : Claim7 := { stood := { row := lexStandRow, standIns := [], harness := (true, "1d794a9ae3c57e668454f9e3b7f7186b1d4569aac323cb5111cacca3209c0daf"), looks := false }, kinds := [], alts := [], laidByText := true, laidKinds := [.data], laidTests := true, laidLooks := .later }
def LexStandCardSaid : Prop := Claim7.holds Tryd.pinned (.plain (OpenSpec.ofChange lexStandSpec)) lexStandCard

/-- THE TIED CARD OF 'bonsailaw06.LexParted'. -/
def lexPartedCard : Claim7 := { stood := { row := lexPartedRow, standIns := [], harness := (true, "1d794a9ae3c57e668454f9e3b7f7186b1d4569aac323cb5111cacca3209c0daf"), looks := false }, kinds := [], alts := [], laidByText := true, laidKinds := [.data], laidTests := true, laidLooks := .later }
def LexPartedCardSaid : Prop := Claim7.holds Tryd.pinned (.plain (OpenSpec.ofChange lexPartedSpec)) lexPartedCard

/-- THE SECOND FORM's CARD OF 'bonsailaw04.TreeNames'. -/
def treeNamesUptoCard : Claim7 := { stood := { row := treeNamesUptoRow, standIns := [], harness := (true, "1d794a9ae3c57e668454f9e3b7f7186b1d4569aac323cb5111cacca3209c0daf"), looks := false }, kinds := [], alts := [], laidByText := true, laidKinds := [.data], laidTests := true, laidLooks := .later }
def TreeNamesUptoCardSaid : Prop := Claim7.holds Tryd.pinned (.plain (OpenSpec.upto treeNamesSpec)) treeNamesUptoCard

/-- THE SECOND FORM's CARD OF 'bonsailaw04.TreeTells'. -/
def treeTellsUptoCard : Claim7 := { stood := { row := treeTellsUptoRow, standIns := [], harness := (true, "1d794a9ae3c57e668454f9e3b7f7186b1d4569aac323cb5111cacca3209c0daf"), looks := false }, kinds := [], alts := [], laidByText := true, laidKinds := [.data], laidTests := true, laidLooks := .later }
def TreeTellsUptoCardSaid : Prop := Claim7.holds Tryd.pinned (.plain (OpenSpec.upto treeTellsSpec)) treeTellsUptoCard

/-- THE SECOND FORM's CARD OF 'bonsailaw05.ExprPuts'. -/
def exprPutsUptoCard : Claim7 := { stood := { row := exprPutsUptoRow, standIns := [], harness := (true, "1d794a9ae3c57e668454f9e3b7f7186b1d4569aac323cb5111cacca3209c0daf"), looks := false }, kinds := [], alts := [], laidByText := true, laidKinds := [.data], laidTests := true, laidLooks := .later }
def ExprPutsUptoCardSaid : Prop := Claim7.holds Tryd.pinned (.plain (OpenSpec.upto exprPutsSpec)) exprPutsUptoCard

/-- THE SECOND FORM's CARD OF 'bonsailaw06.LexBack'. -/
def lexBackUptoCard : Claim7 := { stood := { row := lexBackUptoRow, standIns := [], harness := (true, "1d794a9ae3c57e668454f9e3b7f7186b1d4569aac323cb5111cacca3209c0daf"), looks := false }, kinds := [], alts := [], laidByText := true, laidKinds := [.data, .data, .data, .data], laidTests := true, laidLooks := .later }
def LexBackUptoCardSaid : Prop := Claim7.holds Tryd.pinned (.plain (OpenSpec.upto lexBackSpec)) lexBackUptoCard

/-- THE SECOND FORM's CARD OF 'bonsailaw06.LexStand'. -/
def lexStandUptoCard : Claim7 := { stood := { row := lexStandUptoRow, standIns := [], harness := (true, "1d794a9ae3c57e668454f9e3b7f7186b1d4569aac323cb5111cacca3209c0daf"), looks := false }, kinds := [], alts := [], laidByText := true, laidKinds := [.data], laidTests := true, laidLooks := .later }
def LexStandUptoCardSaid : Prop := Claim7.holds Tryd.pinned (.plain (OpenSpec.upto lexStandSpec)) lexStandUptoCard

/-- THE SECOND FORM's CARD OF 'bonsailaw06.LexParted'. -/
def lexPartedUptoCard : Claim7 := { stood := { row := lexPartedUptoRow, standIns := [], harness := (true, "1d794a9ae3c57e668454f9e3b7f7186b1d4569aac323cb5111cacca3209c0daf"), looks := false }, kinds := [], alts := [], laidByText := true, laidKinds := [.data], laidTests := true, laidLooks := .later }
def LexPartedUptoCardSaid : Prop := Claim7.holds Tryd.pinned (.plain (OpenSpec.upto lexPartedSpec)) lexPartedUptoCard
end Rows
end Go.Proofs.YtjeogbdeagkomaaDoor

/-
  DERIVED. GIVEN WITH THE SEED: THE CARDS: each row of YtkhokhmdiagckaaDoorRows.lean that lists a variable, with what it lists TIED to the program's text (the seventh form; the later family's looks); each row that meets fmt, with fmt's text TOLD by the authors' own Lean function (tested against real Go, not proved from fmt's source: count such statements apart). THE CARD IS WHAT COUNTS. Prove the row's statement (the work); the ties are given (YtkhokhmdiagckaaDoorTie.lean); close each card by the builder's one call (the guide's Derived/Test/ToyasCard.lean, 'card_holds'). Laid BY PROGRAM, IN A SANDBOX (cutbox-door.mjs). By AI agents, Wed Nov 11 2026. No macro, syntax, notation, axiom, sorry.
-/
import Derived.Test.YtkhokhmdiagckaaDoorRows
import GoSem.ClaimSeven
namespace Go.Proofs.YtkhokhmdiagckaaDoor
namespace Rows

/-- THE TIED CARD OF 'bonsailaw03.QuoteBack'. -/
def quoteBackCard : Claim7 := { stood := { row := quoteBackRow, standIns := [], harness := (true, "506c8079032f080abf1b8f403a9dccac2bf13444c89d17e33876012e5c5e5f7c"), looks := false }, kinds := [], alts := [], laidByText := true, laidKinds := [.data], laidTests := true, laidLooks := .later }
def QuoteBackCardSaid : Prop := Claim7.holds Tryd.pinned (.plain (OpenSpec.ofChange quoteBackSpec)) quoteBackCard

/-- THE TIED CARD OF 'bonsailaw03.QuotePlain'. -/
def quotePlainCard : Claim7 := { stood := { row := quotePlainRow, standIns := [], harness := (true, "506c8079032f080abf1b8f403a9dccac2bf13444c89d17e33876012e5c5e5f7c"), looks := false }, kinds := [], alts := [], laidByText := true, laidKinds := [.data], laidTests := true, laidLooks := .later }
def QuotePlainCardSaid : Prop := Claim7.holds Tryd.pinned (.plain (OpenSpec.ofChange quotePlainSpec)) quotePlainCard

/-- THE TIED CARD OF 'bonsailaw03.QuoteShort'. -/
def quoteShortCard : Claim7 := { stood := { row := quoteShortRow, standIns := [], harness := (true, "506c8079032f080abf1b8f403a9dccac2bf13444c89d17e33876012e5c5e5f7c"), looks := false }, kinds := [], alts := [], laidByText := true, laidKinds := [.data], laidTests := true, laidLooks := .later }
def QuoteShortCardSaid : Prop := Claim7.holds Tryd.pinned (.plain (OpenSpec.ofChange quoteShortSpec)) quoteShortCard

/-- THE SECOND FORM's CARD OF 'bonsailaw03.QuoteBack'. -/
def quoteBackUptoCard : Claim7 := { stood := { row := quoteBackUptoRow, standIns := [], harness := (true, "506c8079032f080abf1b8f403a9dccac2bf13444c89d17e33876012e5c5e5f7c"), looks := false }, kinds := [], alts := [], laidByText := true, laidKinds := [.data], laidTests := true, laidLooks := .later }
def QuoteBackUptoCardSaid : Prop := Claim7.holds Tryd.pinned (.plain (OpenSpec.upto quoteBackSpec)) quoteBackUptoCard

/-- THE SECOND FORM's CARD OF 'bonsailaw03.QuotePlain'. -/
def quotePlainUptoCard : Claim7 := { stood := { row := quotePlainUptoRow, standIns := [], harness := (true, "506c8079032f080abf1b8f403a9dccac2bf13444c89d17e33876012e5c5e5f7c"), looks := false }, kinds := [], alts := [], laidByText := true, laidKinds := [.data], laidTests := true, laidLooks := .later }
def QuotePlainUptoCardSaid : Prop := Claim7.holds Tryd.pinned (.plain (OpenSpec.upto quotePlainSpec)) quotePlainUptoCard

/-- THE SECOND FORM's CARD OF 'bonsailaw03.QuoteShort'. -/
def quoteShortUptoCard : Claim7 := { stood := { row := quoteShortUptoRow, standIns := [], harness := (true, "506c8079032f080abf1b8f403a9dccac2bf13444c89d17e33876012e5c5e5f7c"), looks := false }, kinds := [], alts := [], laidByText := true, laidKinds := [.data], laidTests := true, laidLooks := .later }
def QuoteShortUptoCardSaid : Prop := Claim7.holds Tryd.pinned (.plain (OpenSpec.upto quoteShortSpec)) quoteShortUptoCard
end Rows
end Go.Proofs.YtkhokhmdiagckaaDoor

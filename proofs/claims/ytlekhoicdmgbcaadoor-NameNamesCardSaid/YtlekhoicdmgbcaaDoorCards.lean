/-
  DERIVED. GIVEN WITH THE SEED: THE CARDS: each row of YtlekhoicdmgbcaaDoorRows.lean that lists a variable, with what it lists TIED to the program's text (the seventh form; the later family's looks); each row that meets fmt, with fmt's text TOLD by the authors' own Lean function (tested against real Go, not proved from fmt's source: count such statements apart). THE CARD IS WHAT COUNTS. Prove the row's statement (the work); the ties are given (YtlekhoicdmgbcaaDoorTie.lean); close each card by the builder's one call (the guide's Derived/Test/ToyasCard.lean, 'card_holds'). Laid BY PROGRAM, IN A SANDBOX (cutbox-door.mjs). By AI agents, Wed Nov 11 2026. No macro, syntax, notation, axiom, sorry.
-/
import Derived.Test.YtlekhoicdmgbcaaDoorRows
import GoSem.ClaimSeven
namespace Go.Proofs.YtlekhoicdmgbcaaDoor
namespace Rows

/-- THE TIED CARD OF 'bonsailaw02.NameNames'. -/
def nameNamesCard : Claim7 := { stood := { row := nameNamesRow, standIns := [], harness := (true, "eef9b0f32d46ef8698861cc6c6d1b0d9c0e5eadca80394c7f042f7b6131edeef"), looks := false }, kinds := [], alts := [], laidByText := true, laidKinds := [.data, .data, .data], laidTests := true, laidLooks := .later }
def NameNamesCardSaid : Prop := Claim7.holds Tryd.pinned (.plain (OpenSpec.ofChange nameNamesSpec)) nameNamesCard

/-- THE TIED CARD OF 'bonsailaw02.NameTells'. -/
def nameTellsCard : Claim7 := { stood := { row := nameTellsRow, standIns := [], harness := (true, "eef9b0f32d46ef8698861cc6c6d1b0d9c0e5eadca80394c7f042f7b6131edeef"), looks := false }, kinds := [], alts := [], laidByText := true, laidKinds := [.data, .data, .data], laidTests := true, laidLooks := .later }
def NameTellsCardSaid : Prop := Claim7.holds Tryd.pinned (.plain (OpenSpec.ofChange nameTellsSpec)) nameTellsCard

/-- THE TIED CARD OF 'bonsailaw02.NameFree'. -/
def nameFreeCard : Claim7 := { stood := { row := nameFreeRow, standIns := [], harness := (true, "eef9b0f32d46ef8698861cc6c6d1b0d9c0e5eadca80394c7f042f7b6131edeef"), looks := false }, kinds := [], alts := [], laidByText := true, laidKinds := [.data, .data, .data], laidTests := true, laidLooks := .later }
def NameFreeCardSaid : Prop := Claim7.holds Tryd.pinned (.plain (OpenSpec.ofChange nameFreeSpec)) nameFreeCard

/-- THE TIED CARD OF 'bonsailaw02.NameBack'. -/
def nameBackCard : Claim7 := { stood := { row := nameBackRow, standIns := [], harness := (true, "eef9b0f32d46ef8698861cc6c6d1b0d9c0e5eadca80394c7f042f7b6131edeef"), looks := false }, kinds := [], alts := [], laidByText := true, laidKinds := [.data, .data, .data], laidTests := true, laidLooks := .later }
def NameBackCardSaid : Prop := Claim7.holds Tryd.pinned (.plain (OpenSpec.ofChange nameBackSpec)) nameBackCard

/-- THE TIED CARD OF 'bonsailaw02.NameTaken'. -/
def nameTakenCard : Claim7 := { stood := { row := nameTakenRow, standIns := [], harness := (true, "eef9b0f32d46ef8698861cc6c6d1b0d9c0e5eadca80394c7f042f7b6131edeef"), looks := false }, kinds := [], alts := [], laidByText := true, laidKinds := [.data, .data, .data], laidTests := true, laidLooks := .later }
def NameTakenCardSaid : Prop := Claim7.holds Tryd.pinned (.plain (OpenSpec.ofChange nameTakenSpec)) nameTakenCard

/-- THE TIED CARD OF 'bonsailaw02.NameRow'. -/
def nameRowCard : Claim7 := { stood := { row := nameRowRow, standIns := [], harness := (true, "eef9b0f32d46ef8698861cc6c6d1b0d9c0e5eadca80394c7f042f7b6131edeef"), looks := false }, kinds := [], alts := [], laidByText := true, laidKinds := [.data, .data, .data], laidTests := true, laidLooks := .later }
def NameRowCardSaid : Prop := Claim7.holds Tryd.pinned (.plain (OpenSpec.ofChange nameRowSpec)) nameRowCard

/-- THE TIED CARD OF 'bonsailaw02.NameOwn'. -/
def nameOwnCard : Claim7 := { stood := { row := nameOwnRow, standIns := [], harness := (true, "eef9b0f32d46ef8698861cc6c6d1b0d9c0e5eadca80394c7f042f7b6131edeef"), looks := false }, kinds := [], alts := [], laidByText := true, laidKinds := [.data, .data, .data], laidTests := true, laidLooks := .later }
def NameOwnCardSaid : Prop := Claim7.holds Tryd.pinned (.plain (OpenSpec.ofChange nameOwnSpec)) nameOwnCard

/-- THE SECOND FORM's CARD OF 'bonsailaw02.NameNames'. -/
def nameNamesUptoCard : Claim7 := { stood := { row := nameNamesUptoRow, standIns := [], harness := (true, "eef9b0f32d46ef8698861cc6c6d1b0d9c0e5eadca80394c7f042f7b6131edeef"), looks := false }, kinds := [], alts := [], laidByText := true, laidKinds := [.data, .data, .data], laidTests := true, laidLooks := .later }
def NameNamesUptoCardSaid : Prop := Claim7.holds Tryd.pinned (.plain (OpenSpec.upto nameNamesSpec)) nameNamesUptoCard

/-- THE SECOND FORM's CARD OF 'bonsailaw02.NameTells'. -/
def nameTellsUptoCard : Claim7 := { stood := { row := nameTellsUptoRow, standIns := [], harness := (true, "eef9b0f32d46ef8698861cc6c6d1b0d9c0e5eadca80394c7f042f7b6131edeef"), looks := false }, kinds := [], alts := [], laidByText := true, laidKinds := [.data, .data, .data], laidTests := true, laidLooks := .later }
def NameTellsUptoCardSaid : Prop := Claim7.holds Tryd.pinned (.plain (OpenSpec.upto nameTellsSpec)) nameTellsUptoCard

/-- THE SECOND FORM's CARD OF 'bonsailaw02.NameFree'. -/
def nameFreeUptoCard : Claim7 := { stood := { row := nameFreeUptoRow, standIns := [], harness := (true, "eef9b0f32d46ef8698861cc6c6d1b0d9c0e5eadca80394c7f042f7b6131edeef"), looks := false }, kinds := [], alts := [], laidByText := true, laidKinds := [.data, .data, .data], laidTests := true, laidLooks := .later }
def NameFreeUptoCardSaid : Prop := Claim7.holds Tryd.pinned (.plain (OpenSpec.upto nameFreeSpec)) nameFreeUptoCard

/-- THE SECOND FORM's CARD OF 'bonsailaw02.NameBack'. -/
def nameBackUptoCard : Claim7 := { stood := { row := nameBackUptoRow, standIns := [], harness := (true, "eef9b0f32d46ef8698861cc6c6d1b0d9c0e5eadca80394c7f042f7b6131edeef"), looks := false }, kinds := [], alts := [], laidByText := true, laidKinds := [.data, .data, .data], laidTests := true, laidLooks := .later }
def NameBackUptoCardSaid : Prop := Claim7.holds Tryd.pinned (.plain (OpenSpec.upto nameBackSpec)) nameBackUptoCard

/-- THE SECOND FORM's CARD OF 'bonsailaw02.NameTaken'. -/
def nameTakenUptoCard : Claim7 := { stood := { row := nameTakenUptoRow, standIns := [], harness := (true, "eef9b0f32d46ef8698861cc6c6d1b0d9c0e5eadca80394c7f042f7b6131edeef"), looks := false }, kinds := [], alts := [], laidByText := true, laidKinds := [.data, .data, .data], laidTests := true, laidLooks := .later }
def NameTakenUptoCardSaid : Prop := Claim7.holds Tryd.pinned (.plain (OpenSpec.upto nameTakenSpec)) nameTakenUptoCard

/-- THE SECOND FORM's CARD OF 'bonsailaw02.NameRow'. -/
def nameRowUptoCard : Claim7 := { stood := { row := nameRowUptoRow, standIns := [], harness := (true, "eef9b0f32d46ef8698861cc6c6d1b0d9c0e5eadca80394c7f042f7b6131edeef"), looks := false }, kinds := [], alts := [], laidByText := true, laidKinds := [.data, .data, .data], laidTests := true, laidLooks := .later }
def NameRowUptoCardSaid : Prop := Claim7.holds Tryd.pinned (.plain (OpenSpec.upto nameRowSpec)) nameRowUptoCard

/-- THE SECOND FORM's CARD OF 'bonsailaw02.NameOwn'. -/
def nameOwnUptoCard : Claim7 := { stood := { row := nameOwnUptoRow, standIns := [], harness := (true, "eef9b0f32d46ef8698861cc6c6d1b0d9c0e5eadca80394c7f042f7b6131edeef"), looks := false }, kinds := [], alts := [], laidByText := true, laidKinds := [.data, .data, .data], laidTests := true, laidLooks := .later }
def NameOwnUptoCardSaid : Prop := Claim7.holds Tryd.pinned (.plain (OpenSpec.upto nameOwnSpec)) nameOwnUptoCard
end Rows
end Go.Proofs.YtlekhoicdmgbcaaDoor

/-
  DERIVED. GIVEN WITH THE SEED: THE CARDS: each row of YtcapkeaedpabjaaGreatDoorRows.lean that lists a variable, with what it lists TIED to the program's text (the seventh form; the later family's looks); each row that meets fmt, with fmt's text TOLD by the authors' own Lean function (tested against real Go, not proved from fmt's source: count such statements apart). THE CARD IS WHAT COUNTS. Prove the row's statement (the work); the ties are given (YtcapkeaedpabjaaGreatDoorTie.lean); close each card by the builder's one call (the guide's Derived/Test/ToyasCard.lean, 'card_holds'). Laid BY PROGRAM, IN A SANDBOX (cutbox-door.mjs). By AI agents, Wed Nov 11 2026. No macro, syntax, notation, axiom, sorry.
-/
import Derived.Test.YtcapkeaedpabjaaGreatDoorRows
import GoSem.ClaimSeven
namespace Go.Proofs.YtcapkeaedpabjaaGreatDoor
namespace Rows

/-- THE TIED CARD OF 'faaslaw08.SyntaxParses'. -/
def syntaxParsesCard : Claim7 := { stood := { row := syntaxParsesRow, standIns := [], harness := (true, "4bee52e8e0201277cea206271537e44427a55bdbd53a4170ec623ba18dd5244c"), looks := false }, kinds := [], alts := [], laidByText := true, laidKinds := [.data, .pinned], laidTests := true, laidLooks := .later }
def SyntaxParsesCardSaid : Prop := Claim7.holds Tryz.pinned (.plain (OpenSpec.ofChange syntaxParsesSpec)) syntaxParsesCard

/-- THE TIED CARD OF 'faaslaw08.SyntaxPrints'. -/
def syntaxPrintsCard : Claim7 := { stood := { row := syntaxPrintsRow, standIns := [], harness := (true, "4bee52e8e0201277cea206271537e44427a55bdbd53a4170ec623ba18dd5244c"), looks := false }, kinds := [], alts := [], laidByText := true, laidKinds := [.data, .pinned], laidTests := true, laidLooks := .later }
def SyntaxPrintsCardSaid : Prop := Claim7.holds Tryz.pinned (.plain (OpenSpec.ofChange syntaxPrintsSpec)) syntaxPrintsCard

/-- THE TIED CARD OF 'faaslaw09.StaticChecks'. -/
def staticChecksCard : Claim7 := { stood := { row := staticChecksRow, standIns := [], harness := (true, "4bee52e8e0201277cea206271537e44427a55bdbd53a4170ec623ba18dd5244c"), looks := false }, kinds := [], alts := [], laidByText := true, laidKinds := [.data, .pinned], laidTests := true, laidLooks := .later }
def StaticChecksCardSaid : Prop := Claim7.holds Tryz.pinned (.plain (OpenSpec.ofChange staticChecksSpec)) staticChecksCard

/-- THE TIED CARD OF 'faaslaw09.StaticSlots'. -/
def staticSlotsCard : Claim7 := { stood := { row := staticSlotsRow, standIns := [], harness := (true, "4bee52e8e0201277cea206271537e44427a55bdbd53a4170ec623ba18dd5244c"), looks := false }, kinds := [], alts := [], laidByText := true, laidKinds := [.data, .pinned], laidTests := true, laidLooks := .later }
def StaticSlotsCardSaid : Prop := Claim7.holds Tryz.pinned (.plain (OpenSpec.ofChange staticSlotsSpec)) staticSlotsCard

/-- THE TIED CARD OF 'faaslaw09.StaticCalls'. -/
def staticCallsCard : Claim7 := { stood := { row := staticCallsRow, standIns := [], harness := (true, "4bee52e8e0201277cea206271537e44427a55bdbd53a4170ec623ba18dd5244c"), looks := false }, kinds := [], alts := [], laidByText := true, laidKinds := [.data, .pinned], laidTests := true, laidLooks := .later }
def StaticCallsCardSaid : Prop := Claim7.holds Tryz.pinned (.plain (OpenSpec.ofChange staticCallsSpec)) staticCallsCard

/-- THE SECOND FORM's CARD OF 'faaslaw08.SyntaxParses'. -/
def syntaxParsesUptoCard : Claim7 := { stood := { row := syntaxParsesUptoRow, standIns := [], harness := (true, "4bee52e8e0201277cea206271537e44427a55bdbd53a4170ec623ba18dd5244c"), looks := false }, kinds := [], alts := [], laidByText := true, laidKinds := [.data, .pinned], laidTests := true, laidLooks := .later }
def SyntaxParsesUptoCardSaid : Prop := Claim7.holds Tryz.pinned (.plain (OpenSpec.upto syntaxParsesSpec)) syntaxParsesUptoCard

/-- THE SECOND FORM's CARD OF 'faaslaw08.SyntaxPrints'. -/
def syntaxPrintsUptoCard : Claim7 := { stood := { row := syntaxPrintsUptoRow, standIns := [], harness := (true, "4bee52e8e0201277cea206271537e44427a55bdbd53a4170ec623ba18dd5244c"), looks := false }, kinds := [], alts := [], laidByText := true, laidKinds := [.data, .pinned], laidTests := true, laidLooks := .later }
def SyntaxPrintsUptoCardSaid : Prop := Claim7.holds Tryz.pinned (.plain (OpenSpec.upto syntaxPrintsSpec)) syntaxPrintsUptoCard

/-- THE SECOND FORM's CARD OF 'faaslaw09.StaticChecks'. -/
def staticChecksUptoCard : Claim7 := { stood := { row := staticChecksUptoRow, standIns := [], harness := (true, "4bee52e8e0201277cea206271537e44427a55bdbd53a4170ec623ba18dd5244c"), looks := false }, kinds := [], alts := [], laidByText := true, laidKinds := [.data, .pinned], laidTests := true, laidLooks := .later }
def StaticChecksUptoCardSaid : Prop := Claim7.holds Tryz.pinned (.plain (OpenSpec.upto staticChecksSpec)) staticChecksUptoCard

/-- THE SECOND FORM's CARD OF 'faaslaw09.StaticSlots'. -/
def staticSlotsUptoCard : Claim7 := { stood := { row := staticSlotsUptoRow, standIns := [], harness := (true, "4bee52e8e0201277cea206271537e44427a55bdbd53a4170ec623ba18dd5244c"), looks := false }, kinds := [], alts := [], laidByText := true, laidKinds := [.data, .pinned], laidTests := true, laidLooks := .later }
def StaticSlotsUptoCardSaid : Prop := Claim7.holds Tryz.pinned (.plain (OpenSpec.upto staticSlotsSpec)) staticSlotsUptoCard

/-- THE SECOND FORM's CARD OF 'faaslaw09.StaticCalls'. -/
def staticCallsUptoCard : Claim7 := { stood := { row := staticCallsUptoRow, standIns := [], harness := (true, "4bee52e8e0201277cea206271537e44427a55bdbd53a4170ec623ba18dd5244c"), looks := false }, kinds := [], alts := [], laidByText := true, laidKinds := [.data, .pinned], laidTests := true, laidLooks := .later }
def StaticCallsUptoCardSaid : Prop := Claim7.holds Tryz.pinned (.plain (OpenSpec.upto staticCallsSpec)) staticCallsUptoCard
end Rows
end Go.Proofs.YtcapkeaedpabjaaGreatDoor

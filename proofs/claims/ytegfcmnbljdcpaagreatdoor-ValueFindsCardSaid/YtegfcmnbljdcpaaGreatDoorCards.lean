/-
  DERIVED. GIVEN WITH THE SEED: THE CARDS: each row of YtegfcmnbljdcpaaGreatDoorRows.lean that lists a variable, with what it lists TIED to the program's text (the seventh form; the later family's looks); each row that meets fmt, with fmt's text TOLD by the authors' own Lean function (tested against real Go, not proved from fmt's source: count such statements apart). THE CARD IS WHAT COUNTS. Prove the row's statement (the work); the ties are given (YtegfcmnbljdcpaaGreatDoorTie.lean); close each card by the builder's one call (the guide's Derived/Test/ToyasCard.lean, 'card_holds'). Laid BY PROGRAM, IN A SANDBOX (cutbox-door.mjs). By AI agents, Wed Nov 11 2026. No macro, syntax, notation, axiom, sorry.
-/
import Derived.Test.YtegfcmnbljdcpaaGreatDoorRows
import GoSem.ClaimSeven
namespace Go.Proofs.YtegfcmnbljdcpaaGreatDoor
namespace Rows

/-- THE TIED CARD OF 'faaslaw06.ValueFinds'. -/
def valueFindsCard : Claim7 := { stood := { row := valueFindsRow, standIns := [], harness := (true, "725475d3966a8b5dc074dd9f230e7bd79ac83136b80e560335b66939adcb97c7"), looks := false }, kinds := [], alts := [], laidByText := true, laidKinds := [.data, .data, .data, .data, .pinned], laidTests := true, laidLooks := .later }
def ValueFindsCardSaid : Prop := Claim7.holds Tryz.pinned (.plain (OpenSpec.ofChange valueFindsSpec)) valueFindsCard

/-- THE SECOND FORM's CARD OF 'faaslaw06.ValueFinds'. -/
def valueFindsUptoCard : Claim7 := { stood := { row := valueFindsUptoRow, standIns := [], harness := (true, "725475d3966a8b5dc074dd9f230e7bd79ac83136b80e560335b66939adcb97c7"), looks := false }, kinds := [], alts := [], laidByText := true, laidKinds := [.data, .data, .data, .data, .pinned], laidTests := true, laidLooks := .later }
def ValueFindsUptoCardSaid : Prop := Claim7.holds Tryz.pinned (.plain (OpenSpec.upto valueFindsSpec)) valueFindsUptoCard
end Rows
end Go.Proofs.YtegfcmnbljdcpaaGreatDoor

/-
  DERIVED. GIVEN WITH THE SEED: THE CARDS: each row of YtegfcmnbljdcpaaDoorRows.lean that lists a variable, with what it lists TIED to the program's text (the seventh form; the later family's looks); each row that meets fmt, with fmt's text TOLD by the authors' own Lean function (tested against real Go, not proved from fmt's source: count such statements apart). THE CARD IS WHAT COUNTS. Prove the row's statement (the work); the ties are given (YtegfcmnbljdcpaaDoorTie.lean); close each card by the builder's one call (the guide's Derived/Test/ToyasCard.lean, 'card_holds'). Laid BY PROGRAM, IN A SANDBOX (cutbox-door.mjs). By AI agents, Wed Nov 11 2026. No macro, syntax, notation, axiom, sorry.
-/
import Derived.Test.YtegfcmnbljdcpaaDoorRows
import GoSem.ClaimSeven
namespace Go.Proofs.YtegfcmnbljdcpaaDoor
namespace Rows

/-- THE TIED CARD OF 'faaslaw06.ValueRoundTrips'. -/
def valueRoundTripsCard : Claim7 := { stood := { row := valueRoundTripsRow, standIns := [], harness := (true, "fef712b0467fe5fe2290a681943023a3446deef29d26e6973dd96b61f1d68b04"), looks := false }, kinds := [], alts := [], laidByText := true, laidKinds := [.data, .pinned], laidTests := true, laidLooks := .later }
def ValueRoundTripsCardSaid : Prop := Claim7.holds Tryd.pinned (.plain (OpenSpec.ofChange valueRoundTripsSpec)) valueRoundTripsCard

/-- THE SECOND FORM's CARD OF 'faaslaw06.ValueRoundTrips'. -/
def valueRoundTripsUptoCard : Claim7 := { stood := { row := valueRoundTripsUptoRow, standIns := [], harness := (true, "fef712b0467fe5fe2290a681943023a3446deef29d26e6973dd96b61f1d68b04"), looks := false }, kinds := [], alts := [], laidByText := true, laidKinds := [.data, .pinned], laidTests := true, laidLooks := .later }
def ValueRoundTripsUptoCardSaid : Prop := Claim7.holds Tryd.pinned (.plain (OpenSpec.upto valueRoundTripsSpec)) valueRoundTripsUptoCard
end Rows
end Go.Proofs.YtegfcmnbljdcpaaDoor

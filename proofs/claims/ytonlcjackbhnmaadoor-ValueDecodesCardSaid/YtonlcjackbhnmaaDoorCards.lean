/-
  DERIVED. GIVEN WITH THE SEED: THE CARDS: each row of YtonlcjackbhnmaaDoorRows.lean that lists a variable, with what it lists TIED to the program's text (the seventh form; the later family's looks); each row that meets fmt, with fmt's text TOLD by the authors' own Lean function (tested against real Go, not proved from fmt's source: count such statements apart). THE CARD IS WHAT COUNTS. Prove the row's statement (the work); the ties are given (YtonlcjackbhnmaaDoorTie.lean); close each card by the builder's one call (the guide's Derived/Test/ToyasCard.lean, 'card_holds'). Laid BY PROGRAM, IN A SANDBOX (cutbox-door.mjs). By AI agents, Wed Nov 11 2026. No macro, syntax, notation, axiom, sorry.
-/
import Derived.Test.YtonlcjackbhnmaaDoorRows
import GoSem.ClaimSeven
namespace Go.Proofs.YtonlcjackbhnmaaDoor
namespace Rows

/-- THE TIED CARD OF 'faaslaw06.ValueChecks'. -/
def valueChecksCard : Claim7 := { stood := { row := valueChecksRow, standIns := [], harness := (true, "00198bc3180fef9cdff07bae1102dd23387d98a98df7a223c630e70db83a1493"), looks := false }, kinds := [], alts := [], laidByText := true, laidKinds := [.data, .data, .data, .data, .pinned], laidTests := true, laidLooks := .later }
def ValueChecksCardSaid : Prop := Claim7.holds Tryd.pinned (.plain (OpenSpec.ofChange valueChecksSpec)) valueChecksCard

/-- THE TIED CARD OF 'faaslaw06.ValueBuilds'. -/
def valueBuildsCard : Claim7 := { stood := { row := valueBuildsRow, standIns := [], harness := (true, "00198bc3180fef9cdff07bae1102dd23387d98a98df7a223c630e70db83a1493"), looks := false }, kinds := [], alts := [], laidByText := true, laidKinds := [.data, .data, .data, .data, .pinned], laidTests := true, laidLooks := .later }
def ValueBuildsCardSaid : Prop := Claim7.holds Tryd.pinned (.plain (OpenSpec.ofChange valueBuildsSpec)) valueBuildsCard

/-- THE TIED CARD OF 'faaslaw06.ValueOrders'. -/
def valueOrdersCard : Claim7 := { stood := { row := valueOrdersRow, standIns := [], harness := (true, "00198bc3180fef9cdff07bae1102dd23387d98a98df7a223c630e70db83a1493"), looks := false }, kinds := [], alts := [], laidByText := true, laidKinds := [.data, .pinned], laidTests := true, laidLooks := .later }
def ValueOrdersCardSaid : Prop := Claim7.holds Tryd.pinned (.plain (OpenSpec.ofChange valueOrdersSpec)) valueOrdersCard

/-- THE TIED CARD OF 'faaslaw06.ValueDecodes'. -/
def valueDecodesCard : Claim7 := { stood := { row := valueDecodesRow, standIns := [], harness := (true, "00198bc3180fef9cdff07bae1102dd23387d98a98df7a223c630e70db83a1493"), looks := false }, kinds := [], alts := [], laidByText := true, laidKinds := [.data, .data, .data, .data, .pinned], laidTests := true, laidLooks := .later }
def ValueDecodesCardSaid : Prop := Claim7.holds Tryd.pinned (.plain (OpenSpec.ofChange valueDecodesSpec)) valueDecodesCard

/-- THE TIED CARD OF 'faaslaw06.ValueRoundTrips'. -/
def valueRoundTripsCard : Claim7 := { stood := { row := valueRoundTripsRow, standIns := [], harness := (true, "00198bc3180fef9cdff07bae1102dd23387d98a98df7a223c630e70db83a1493"), looks := false }, kinds := [], alts := [], laidByText := true, laidKinds := [.data, .pinned], laidTests := true, laidLooks := .later }
def ValueRoundTripsCardSaid : Prop := Claim7.holds Tryd.pinned (.plain (OpenSpec.ofChange valueRoundTripsSpec)) valueRoundTripsCard

/-- THE SECOND FORM's CARD OF 'faaslaw06.ValueChecks'. -/
def valueChecksUptoCard : Claim7 := { stood := { row := valueChecksUptoRow, standIns := [], harness := (true, "00198bc3180fef9cdff07bae1102dd23387d98a98df7a223c630e70db83a1493"), looks := false }, kinds := [], alts := [], laidByText := true, laidKinds := [.data, .data, .data, .data, .pinned], laidTests := true, laidLooks := .later }
def ValueChecksUptoCardSaid : Prop := Claim7.holds Tryd.pinned (.plain (OpenSpec.upto valueChecksSpec)) valueChecksUptoCard

/-- THE SECOND FORM's CARD OF 'faaslaw06.ValueBuilds'. -/
def valueBuildsUptoCard : Claim7 := { stood := { row := valueBuildsUptoRow, standIns := [], harness := (true, "00198bc3180fef9cdff07bae1102dd23387d98a98df7a223c630e70db83a1493"), looks := false }, kinds := [], alts := [], laidByText := true, laidKinds := [.data, .data, .data, .data, .pinned], laidTests := true, laidLooks := .later }
def ValueBuildsUptoCardSaid : Prop := Claim7.holds Tryd.pinned (.plain (OpenSpec.upto valueBuildsSpec)) valueBuildsUptoCard

/-- THE SECOND FORM's CARD OF 'faaslaw06.ValueOrders'. -/
def valueOrdersUptoCard : Claim7 := { stood := { row := valueOrdersUptoRow, standIns := [], harness := (true, "00198bc3180fef9cdff07bae1102dd23387d98a98df7a223c630e70db83a1493"), looks := false }, kinds := [], alts := [], laidByText := true, laidKinds := [.data, .pinned], laidTests := true, laidLooks := .later }
def ValueOrdersUptoCardSaid : Prop := Claim7.holds Tryd.pinned (.plain (OpenSpec.upto valueOrdersSpec)) valueOrdersUptoCard

/-- THE SECOND FORM's CARD OF 'faaslaw06.ValueDecodes'. -/
def valueDecodesUptoCard : Claim7 := { stood := { row := valueDecodesUptoRow, standIns := [], harness := (true, "00198bc3180fef9cdff07bae1102dd23387d98a98df7a223c630e70db83a1493"), looks := false }, kinds := [], alts := [], laidByText := true, laidKinds := [.data, .data, .data, .data, .pinned], laidTests := true, laidLooks := .later }
def ValueDecodesUptoCardSaid : Prop := Claim7.holds Tryd.pinned (.plain (OpenSpec.upto valueDecodesSpec)) valueDecodesUptoCard

/-- THE SECOND FORM's CARD OF 'faaslaw06.ValueRoundTrips'. -/
def valueRoundTripsUptoCard : Claim7 := { stood := { row := valueRoundTripsUptoRow, standIns := [], harness := (true, "00198bc3180fef9cdff07bae1102dd23387d98a98df7a223c630e70db83a1493"), looks := false }, kinds := [], alts := [], laidByText := true, laidKinds := [.data, .pinned], laidTests := true, laidLooks := .later }
def ValueRoundTripsUptoCardSaid : Prop := Claim7.holds Tryd.pinned (.plain (OpenSpec.upto valueRoundTripsSpec)) valueRoundTripsUptoCard
end Rows
end Go.Proofs.YtonlcjackbhnmaaDoor

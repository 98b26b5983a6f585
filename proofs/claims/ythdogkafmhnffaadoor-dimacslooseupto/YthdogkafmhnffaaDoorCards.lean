/-
  DERIVED. GIVEN WITH THE SEED: THE CARDS: each row of YthdogkafmhnffaaDoorRows.lean that lists a variable, with what it lists TIED to the program's text (the seventh form; the later family's looks); each row that meets fmt, with fmt's text TOLD by the authors' own Lean function (tested against real Go, not proved from fmt's source: count such statements apart). THE CARD IS WHAT COUNTS. Prove the row's statement (the work); the ties are given (YthdogkafmhnffaaDoorTie.lean); close each card by the builder's one call (the guide's Derived/Test/ToyasCard.lean, 'card_holds'). Laid BY PROGRAM, IN A SANDBOX (cutbox-door.mjs). By AI agents, Wed Nov 11 2026. No macro, syntax, notation, axiom, sorry.
-/
import Derived.Test.YthdogkafmhnffaaDoorRows
import GoSem.ClaimSeven
namespace Go.Proofs.YthdogkafmhnffaaDoor
namespace Rows

/-- THE TIED CARD OF 'depotlaw03.DimacsNumbers'. -/
def dimacsNumbersCard : Claim7 := { stood := { row := dimacsNumbersRow, standIns := [], harness := (true, "4331c114895af384b8d8ec1b3b42365422e6f7684d3ed99f390f0b5d9c2ffb6c"), looks := true }, kinds := [], alts := [], laidByText := true, laidKinds := [.data, .pinned], laidTests := true, laidLooks := .later }
def DimacsNumbersCardSaid : Prop := Claim7.holds Tryd.pinned (.plain (OpenSpec.ofChange dimacsNumbersSpec)) dimacsNumbersCard

/-- THE TIED CARD OF 'depotlaw03.DimacsReads'. -/
def dimacsReadsCard : Claim7 := { stood := { row := dimacsReadsRow, standIns := [], harness := (true, "4331c114895af384b8d8ec1b3b42365422e6f7684d3ed99f390f0b5d9c2ffb6c"), looks := true }, kinds := [], alts := [], laidByText := true, laidKinds := [.data, .data, .data, .data, .sentinel, .sentinel, .pinned], laidTests := true, laidLooks := .later }
def DimacsReadsCardSaid : Prop := Claim7.holds Tryd.pinned (.plain (OpenSpec.ofChange dimacsReadsSpec)) dimacsReadsCard

/-- THE TIED CARD OF 'depotlaw03.DimacsTells'. -/
def dimacsTellsCard : Claim7 := { stood := { row := dimacsTellsRow, standIns := [], harness := (true, "4331c114895af384b8d8ec1b3b42365422e6f7684d3ed99f390f0b5d9c2ffb6c"), looks := true }, kinds := [], alts := [], laidByText := true, laidKinds := [.data, .data, .data, .data, .sentinel, .sentinel, .pinned], laidTests := true, laidLooks := .later }
def DimacsTellsCardSaid : Prop := Claim7.holds Tryd.pinned (.plain (OpenSpec.ofChange dimacsTellsSpec)) dimacsTellsCard

/-- THE TIED CARD OF 'depotlaw03.DimacsBack'. -/
def dimacsBackCard : Claim7 := { stood := { row := dimacsBackRow, standIns := [], harness := (true, "4331c114895af384b8d8ec1b3b42365422e6f7684d3ed99f390f0b5d9c2ffb6c"), looks := true }, kinds := [], alts := [], laidByText := true, laidKinds := [.data, .data, .data, .data, .pinned], laidTests := true, laidLooks := .later }
def DimacsBackCardSaid : Prop := Claim7.holds Tryd.pinned (.plain (OpenSpec.ofChange dimacsBackSpec)) dimacsBackCard

/-- THE TIED CARD OF 'depotlaw03.DimacsLoose'. -/
def dimacsLooseCard : Claim7 := { stood := { row := dimacsLooseRow, standIns := [], harness := (true, "4331c114895af384b8d8ec1b3b42365422e6f7684d3ed99f390f0b5d9c2ffb6c"), looks := true }, kinds := [], alts := [], laidByText := true, laidKinds := [.data, .data, .data, .data, .pinned], laidTests := true, laidLooks := .later }
def DimacsLooseCardSaid : Prop := Claim7.holds Tryd.pinned (.plain (OpenSpec.ofChange dimacsLooseSpec)) dimacsLooseCard

/-- THE SECOND FORM's CARD OF 'depotlaw03.DimacsNumbers'. -/
def dimacsNumbersUptoCard : Claim7 := { stood := { row := dimacsNumbersUptoRow, standIns := [], harness := (true, "4331c114895af384b8d8ec1b3b42365422e6f7684d3ed99f390f0b5d9c2ffb6c"), looks := true }, kinds := [], alts := [], laidByText := true, laidKinds := [.data, .pinned], laidTests := true, laidLooks := .later }
def DimacsNumbersUptoCardSaid : Prop := Claim7.holds Tryd.pinned (.plain (OpenSpec.upto dimacsNumbersSpec)) dimacsNumbersUptoCard

/-- THE SECOND FORM's CARD OF 'depotlaw03.DimacsReads'. -/
def dimacsReadsUptoCard : Claim7 := { stood := { row := dimacsReadsUptoRow, standIns := [], harness := (true, "4331c114895af384b8d8ec1b3b42365422e6f7684d3ed99f390f0b5d9c2ffb6c"), looks := true }, kinds := [], alts := [], laidByText := true, laidKinds := [.data, .data, .data, .data, .sentinel, .sentinel, .pinned], laidTests := true, laidLooks := .later }
def DimacsReadsUptoCardSaid : Prop := Claim7.holds Tryd.pinned (.plain (OpenSpec.upto dimacsReadsSpec)) dimacsReadsUptoCard

/-- THE SECOND FORM's CARD OF 'depotlaw03.DimacsTells'. -/
def dimacsTellsUptoCard : Claim7 := { stood := { row := dimacsTellsUptoRow, standIns := [], harness := (true, "4331c114895af384b8d8ec1b3b42365422e6f7684d3ed99f390f0b5d9c2ffb6c"), looks := true }, kinds := [], alts := [], laidByText := true, laidKinds := [.data, .data, .data, .data, .sentinel, .sentinel, .pinned], laidTests := true, laidLooks := .later }
def DimacsTellsUptoCardSaid : Prop := Claim7.holds Tryd.pinned (.plain (OpenSpec.upto dimacsTellsSpec)) dimacsTellsUptoCard

/-- THE SECOND FORM's CARD OF 'depotlaw03.DimacsBack'. -/
def dimacsBackUptoCard : Claim7 := { stood := { row := dimacsBackUptoRow, standIns := [], harness := (true, "4331c114895af384b8d8ec1b3b42365422e6f7684d3ed99f390f0b5d9c2ffb6c"), looks := true }, kinds := [], alts := [], laidByText := true, laidKinds := [.data, .data, .data, .data, .pinned], laidTests := true, laidLooks := .later }
def DimacsBackUptoCardSaid : Prop := Claim7.holds Tryd.pinned (.plain (OpenSpec.upto dimacsBackSpec)) dimacsBackUptoCard

/-- THE SECOND FORM's CARD OF 'depotlaw03.DimacsLoose'. -/
def dimacsLooseUptoCard : Claim7 := { stood := { row := dimacsLooseUptoRow, standIns := [], harness := (true, "4331c114895af384b8d8ec1b3b42365422e6f7684d3ed99f390f0b5d9c2ffb6c"), looks := true }, kinds := [], alts := [], laidByText := true, laidKinds := [.data, .data, .data, .data, .pinned], laidTests := true, laidLooks := .later }
def DimacsLooseUptoCardSaid : Prop := Claim7.holds Tryd.pinned (.plain (OpenSpec.upto dimacsLooseSpec)) dimacsLooseUptoCard
end Rows
end Go.Proofs.YthdogkafmhnffaaDoor

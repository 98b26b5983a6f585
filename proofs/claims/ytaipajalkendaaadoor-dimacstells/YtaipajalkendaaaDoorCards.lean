/-
  DERIVED. GIVEN WITH THE SEED: THE CARDS: each row of YtaipajalkendaaaDoorRows.lean that lists a variable, with what it lists TIED to the program's text (the seventh form; the later family's looks); each row that meets fmt, with fmt's text TOLD by the authors' own Lean function (tested against real Go, not proved from fmt's source: count such statements apart). THE CARD IS WHAT COUNTS. Prove the row's statement (the work); the ties are given (YtaipajalkendaaaDoorTie.lean); close each card by the builder's one call (the guide's Derived/Test/ToyasCard.lean, 'card_holds'). Laid BY PROGRAM, IN A SANDBOX (cutbox-door.mjs). By AI agents, Wed Nov 11 2026. No macro, syntax, notation, axiom, sorry.
-/
import Derived.Test.YtaipajalkendaaaDoorRows
import GoSem.ClaimSeven
namespace Go.Proofs.YtaipajalkendaaaDoor
namespace Rows

/-- THE TIED CARD OF 'depotlaw03.DimacsReads'. -/
def dimacsReadsCard : Claim7 := { stood := { row := dimacsReadsRow, standIns := [], harness := (true, "4a55bdc54c86d0f0848c5b8dbed733e5af6f9e4f3a6ad2357356c2274c0d7e6d"), looks := true }, kinds := [], alts := [], laidByText := true, laidKinds := [.data, .data, .data, .data, .sentinel, .sentinel, .pinned], laidTests := true, laidLooks := .later }
def DimacsReadsCardSaid : Prop := Claim7.holds Tryd.pinned (.plain (OpenSpec.ofChange dimacsReadsSpec)) dimacsReadsCard

/-- THE TIED CARD OF 'depotlaw03.DimacsTells'. -/
def dimacsTellsCard : Claim7 := { stood := { row := dimacsTellsRow, standIns := [], harness := (true, "4a55bdc54c86d0f0848c5b8dbed733e5af6f9e4f3a6ad2357356c2274c0d7e6d"), looks := true }, kinds := [], alts := [], laidByText := true, laidKinds := [.data, .data, .data, .data, .sentinel, .sentinel, .pinned], laidTests := true, laidLooks := .later }
def DimacsTellsCardSaid : Prop := Claim7.holds Tryd.pinned (.plain (OpenSpec.ofChange dimacsTellsSpec)) dimacsTellsCard

/-- THE TIED CARD OF 'depotlaw09.DratNumbers'. -/
def dratNumbersCard : Claim7 := { stood := { row := dratNumbersRow, standIns := [], harness := (true, "4a55bdc54c86d0f0848c5b8dbed733e5af6f9e4f3a6ad2357356c2274c0d7e6d"), looks := true }, kinds := [], alts := [], laidByText := true, laidKinds := [.data, .data, .data, .sentinel, .sentinel], laidTests := true, laidLooks := .later }
def DratNumbersCardSaid : Prop := Claim7.holds Tryd.pinned (.plain (OpenSpec.ofChange dratNumbersSpec)) dratNumbersCard

/-- THE TIED CARD OF 'depotlaw09.DratSteps'. -/
def dratStepsCard : Claim7 := { stood := { row := dratStepsRow, standIns := [], harness := (true, "4a55bdc54c86d0f0848c5b8dbed733e5af6f9e4f3a6ad2357356c2274c0d7e6d"), looks := true }, kinds := [], alts := [], laidByText := true, laidKinds := [.data, .data, .data, .sentinel, .sentinel], laidTests := true, laidLooks := .later }
def DratStepsCardSaid : Prop := Claim7.holds Tryd.pinned (.plain (OpenSpec.ofChange dratStepsSpec)) dratStepsCard

/-- THE TIED CARD OF 'depotlaw09.DratForeign'. -/
def dratForeignCard : Claim7 := { stood := { row := dratForeignRow, standIns := [], harness := (true, "4a55bdc54c86d0f0848c5b8dbed733e5af6f9e4f3a6ad2357356c2274c0d7e6d"), looks := true }, kinds := [], alts := [], laidByText := true, laidKinds := [.data, .data, .data, .sentinel, .sentinel], laidTests := true, laidLooks := .later }
def DratForeignCardSaid : Prop := Claim7.holds Tryd.pinned (.plain (OpenSpec.ofChange dratForeignSpec)) dratForeignCard

/-- THE SECOND FORM's CARD OF 'depotlaw03.DimacsReads'. -/
def dimacsReadsUptoCard : Claim7 := { stood := { row := dimacsReadsUptoRow, standIns := [], harness := (true, "4a55bdc54c86d0f0848c5b8dbed733e5af6f9e4f3a6ad2357356c2274c0d7e6d"), looks := true }, kinds := [], alts := [], laidByText := true, laidKinds := [.data, .data, .data, .data, .sentinel, .sentinel, .pinned], laidTests := true, laidLooks := .later }
def DimacsReadsUptoCardSaid : Prop := Claim7.holds Tryd.pinned (.plain (OpenSpec.upto dimacsReadsSpec)) dimacsReadsUptoCard

/-- THE SECOND FORM's CARD OF 'depotlaw03.DimacsTells'. -/
def dimacsTellsUptoCard : Claim7 := { stood := { row := dimacsTellsUptoRow, standIns := [], harness := (true, "4a55bdc54c86d0f0848c5b8dbed733e5af6f9e4f3a6ad2357356c2274c0d7e6d"), looks := true }, kinds := [], alts := [], laidByText := true, laidKinds := [.data, .data, .data, .data, .sentinel, .sentinel, .pinned], laidTests := true, laidLooks := .later }
def DimacsTellsUptoCardSaid : Prop := Claim7.holds Tryd.pinned (.plain (OpenSpec.upto dimacsTellsSpec)) dimacsTellsUptoCard

/-- THE SECOND FORM's CARD OF 'depotlaw09.DratNumbers'. -/
def dratNumbersUptoCard : Claim7 := { stood := { row := dratNumbersUptoRow, standIns := [], harness := (true, "4a55bdc54c86d0f0848c5b8dbed733e5af6f9e4f3a6ad2357356c2274c0d7e6d"), looks := true }, kinds := [], alts := [], laidByText := true, laidKinds := [.data, .data, .data, .sentinel, .sentinel], laidTests := true, laidLooks := .later }
def DratNumbersUptoCardSaid : Prop := Claim7.holds Tryd.pinned (.plain (OpenSpec.upto dratNumbersSpec)) dratNumbersUptoCard

/-- THE SECOND FORM's CARD OF 'depotlaw09.DratSteps'. -/
def dratStepsUptoCard : Claim7 := { stood := { row := dratStepsUptoRow, standIns := [], harness := (true, "4a55bdc54c86d0f0848c5b8dbed733e5af6f9e4f3a6ad2357356c2274c0d7e6d"), looks := true }, kinds := [], alts := [], laidByText := true, laidKinds := [.data, .data, .data, .sentinel, .sentinel], laidTests := true, laidLooks := .later }
def DratStepsUptoCardSaid : Prop := Claim7.holds Tryd.pinned (.plain (OpenSpec.upto dratStepsSpec)) dratStepsUptoCard

/-- THE SECOND FORM's CARD OF 'depotlaw09.DratForeign'. -/
def dratForeignUptoCard : Claim7 := { stood := { row := dratForeignUptoRow, standIns := [], harness := (true, "4a55bdc54c86d0f0848c5b8dbed733e5af6f9e4f3a6ad2357356c2274c0d7e6d"), looks := true }, kinds := [], alts := [], laidByText := true, laidKinds := [.data, .data, .data, .sentinel, .sentinel], laidTests := true, laidLooks := .later }
def DratForeignUptoCardSaid : Prop := Claim7.holds Tryd.pinned (.plain (OpenSpec.upto dratForeignSpec)) dratForeignUptoCard
end Rows
end Go.Proofs.YtaipajalkendaaaDoor

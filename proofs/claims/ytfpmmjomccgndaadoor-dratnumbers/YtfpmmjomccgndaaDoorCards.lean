/-
  DERIVED. GIVEN WITH THE SEED: THE CARDS: each row of YtfpmmjomccgndaaDoorRows.lean that lists a variable, with what it lists TIED to the program's text (the seventh form; the later family's looks); each row that meets fmt, with fmt's text TOLD by the authors' own Lean function (tested against real Go, not proved from fmt's source: count such statements apart). THE CARD IS WHAT COUNTS. Prove the row's statement (the work); the ties are given (YtfpmmjomccgndaaDoorTie.lean); close each card by the builder's one call (the guide's Derived/Test/ToyasCard.lean, 'card_holds'). Laid BY PROGRAM, IN A SANDBOX (cutbox-door.mjs). By AI agents, Wed Nov 11 2026. No macro, syntax, notation, axiom, sorry.
-/
import Derived.Test.YtfpmmjomccgndaaDoorRows
import GoSem.ClaimSeven
namespace Go.Proofs.YtfpmmjomccgndaaDoor
namespace Rows

/-- THE TIED CARD OF 'depotlaw09.DratNumbers'. -/
def dratNumbersCard : Claim7 := { stood := { row := dratNumbersRow, standIns := [], harness := (true, "202054f76500e482ef319654772a94e9215502546182a0b3c8a9fee2fc5e6900"), looks := true }, kinds := [], alts := [], laidByText := true, laidKinds := [.data, .data, .data, .sentinel, .sentinel], laidTests := true, laidLooks := .later }
def DratNumbersCardSaid : Prop := Claim7.holds Tryd.pinned (.plain (OpenSpec.ofChange dratNumbersSpec)) dratNumbersCard

/-- THE TIED CARD OF 'depotlaw09.DratReads'. -/
def dratReadsCard : Claim7 := { stood := { row := dratReadsRow, standIns := [], harness := (true, "202054f76500e482ef319654772a94e9215502546182a0b3c8a9fee2fc5e6900"), looks := true }, kinds := [], alts := [], laidByText := true, laidKinds := [.data, .data, .data, .sentinel, .sentinel], laidTests := true, laidLooks := .later }
def DratReadsCardSaid : Prop := Claim7.holds Tryd.pinned (.plain (OpenSpec.ofChange dratReadsSpec)) dratReadsCard

/-- THE TIED CARD OF 'depotlaw09.DratWrites'. -/
def dratWritesCard : Claim7 := { stood := { row := dratWritesRow, standIns := [], harness := (true, "202054f76500e482ef319654772a94e9215502546182a0b3c8a9fee2fc5e6900"), looks := true }, kinds := [], alts := [], laidByText := true, laidKinds := [.data, .data, .data], laidTests := true, laidLooks := .later }
def DratWritesCardSaid : Prop := Claim7.holds Tryd.pinned (.plain (OpenSpec.ofChange dratWritesSpec)) dratWritesCard

/-- THE TIED CARD OF 'depotlaw09.DratSteps'. -/
def dratStepsCard : Claim7 := { stood := { row := dratStepsRow, standIns := [], harness := (true, "202054f76500e482ef319654772a94e9215502546182a0b3c8a9fee2fc5e6900"), looks := true }, kinds := [], alts := [], laidByText := true, laidKinds := [.data, .data, .data, .sentinel, .sentinel], laidTests := true, laidLooks := .later }
def DratStepsCardSaid : Prop := Claim7.holds Tryd.pinned (.plain (OpenSpec.ofChange dratStepsSpec)) dratStepsCard

/-- THE TIED CARD OF 'depotlaw09.DratKeeps'. -/
def dratKeepsCard : Claim7 := { stood := { row := dratKeepsRow, standIns := [], harness := (true, "202054f76500e482ef319654772a94e9215502546182a0b3c8a9fee2fc5e6900"), looks := true }, kinds := [], alts := [], laidByText := true, laidKinds := [.data, .data, .data, .sentinel, .sentinel], laidTests := true, laidLooks := .later }
def DratKeepsCardSaid : Prop := Claim7.holds Tryd.pinned (.plain (OpenSpec.ofChange dratKeepsSpec)) dratKeepsCard

/-- THE TIED CARD OF 'depotlaw09.DratBack'. -/
def dratBackCard : Claim7 := { stood := { row := dratBackRow, standIns := [], harness := (true, "202054f76500e482ef319654772a94e9215502546182a0b3c8a9fee2fc5e6900"), looks := true }, kinds := [], alts := [], laidByText := true, laidKinds := [.data, .data, .data, .sentinel, .sentinel], laidTests := true, laidLooks := .later }
def DratBackCardSaid : Prop := Claim7.holds Tryd.pinned (.plain (OpenSpec.ofChange dratBackSpec)) dratBackCard

/-- THE SECOND FORM's CARD OF 'depotlaw09.DratNumbers'. -/
def dratNumbersUptoCard : Claim7 := { stood := { row := dratNumbersUptoRow, standIns := [], harness := (true, "202054f76500e482ef319654772a94e9215502546182a0b3c8a9fee2fc5e6900"), looks := true }, kinds := [], alts := [], laidByText := true, laidKinds := [.data, .data, .data, .sentinel, .sentinel], laidTests := true, laidLooks := .later }
def DratNumbersUptoCardSaid : Prop := Claim7.holds Tryd.pinned (.plain (OpenSpec.upto dratNumbersSpec)) dratNumbersUptoCard

/-- THE SECOND FORM's CARD OF 'depotlaw09.DratReads'. -/
def dratReadsUptoCard : Claim7 := { stood := { row := dratReadsUptoRow, standIns := [], harness := (true, "202054f76500e482ef319654772a94e9215502546182a0b3c8a9fee2fc5e6900"), looks := true }, kinds := [], alts := [], laidByText := true, laidKinds := [.data, .data, .data, .sentinel, .sentinel], laidTests := true, laidLooks := .later }
def DratReadsUptoCardSaid : Prop := Claim7.holds Tryd.pinned (.plain (OpenSpec.upto dratReadsSpec)) dratReadsUptoCard

/-- THE SECOND FORM's CARD OF 'depotlaw09.DratWrites'. -/
def dratWritesUptoCard : Claim7 := { stood := { row := dratWritesUptoRow, standIns := [], harness := (true, "202054f76500e482ef319654772a94e9215502546182a0b3c8a9fee2fc5e6900"), looks := true }, kinds := [], alts := [], laidByText := true, laidKinds := [.data, .data, .data], laidTests := true, laidLooks := .later }
def DratWritesUptoCardSaid : Prop := Claim7.holds Tryd.pinned (.plain (OpenSpec.upto dratWritesSpec)) dratWritesUptoCard

/-- THE SECOND FORM's CARD OF 'depotlaw09.DratSteps'. -/
def dratStepsUptoCard : Claim7 := { stood := { row := dratStepsUptoRow, standIns := [], harness := (true, "202054f76500e482ef319654772a94e9215502546182a0b3c8a9fee2fc5e6900"), looks := true }, kinds := [], alts := [], laidByText := true, laidKinds := [.data, .data, .data, .sentinel, .sentinel], laidTests := true, laidLooks := .later }
def DratStepsUptoCardSaid : Prop := Claim7.holds Tryd.pinned (.plain (OpenSpec.upto dratStepsSpec)) dratStepsUptoCard

/-- THE SECOND FORM's CARD OF 'depotlaw09.DratKeeps'. -/
def dratKeepsUptoCard : Claim7 := { stood := { row := dratKeepsUptoRow, standIns := [], harness := (true, "202054f76500e482ef319654772a94e9215502546182a0b3c8a9fee2fc5e6900"), looks := true }, kinds := [], alts := [], laidByText := true, laidKinds := [.data, .data, .data, .sentinel, .sentinel], laidTests := true, laidLooks := .later }
def DratKeepsUptoCardSaid : Prop := Claim7.holds Tryd.pinned (.plain (OpenSpec.upto dratKeepsSpec)) dratKeepsUptoCard

/-- THE SECOND FORM's CARD OF 'depotlaw09.DratBack'. -/
def dratBackUptoCard : Claim7 := { stood := { row := dratBackUptoRow, standIns := [], harness := (true, "202054f76500e482ef319654772a94e9215502546182a0b3c8a9fee2fc5e6900"), looks := true }, kinds := [], alts := [], laidByText := true, laidKinds := [.data, .data, .data, .sentinel, .sentinel], laidTests := true, laidLooks := .later }
def DratBackUptoCardSaid : Prop := Claim7.holds Tryd.pinned (.plain (OpenSpec.upto dratBackSpec)) dratBackUptoCard
end Rows
end Go.Proofs.YtfpmmjomccgndaaDoor

/-
  DERIVED. GIVEN WITH THE SEED: THE CARDS: each row of YtefjpcleknchlaaDoorRows.lean that lists a variable, with what it lists TIED to the program's text (the seventh form; the later family's looks); each row that meets fmt, with fmt's text TOLD by the authors' own Lean function (tested against real Go, not proved from fmt's source: count such statements apart). THE CARD IS WHAT COUNTS. Prove the row's statement (the work); the ties are given (YtefjpcleknchlaaDoorTie.lean); close each card by the builder's one call (the guide's Derived/Test/ToyasCard.lean, 'card_holds'). Laid BY PROGRAM, IN A SANDBOX (cutbox-door.mjs). By AI agents, Wed Nov 11 2026. No macro, syntax, notation, axiom, sorry.
-/
import Derived.Test.YtefjpcleknchlaaDoorRows
import GoSem.ClaimSeven
namespace Go.Proofs.YtefjpcleknchlaaDoor
namespace Rows

/-- THE TIED CARD OF 'depotlaw02.CnfTidies'. -/
def cnfTidiesCard : Claim7 := { stood := { row := cnfTidiesRow, standIns := [], harness := (true, "0849d6b95efadd4be88383e4347a6662a720fa078e7ffd3146ad21345aed5257"), looks := false }, kinds := [], alts := [], laidByText := true, laidKinds := [.data, .data, .data], laidTests := true, laidLooks := .later }
def CnfTidiesCardSaid : Prop := Claim7.holds Tryd.pinned (.plain (OpenSpec.ofChange cnfTidiesSpec)) cnfTidiesCard

/-- THE TIED CARD OF 'depotlaw02.CnfModels'. -/
def cnfModelsCard : Claim7 := { stood := { row := cnfModelsRow, standIns := [], harness := (true, "0849d6b95efadd4be88383e4347a6662a720fa078e7ffd3146ad21345aed5257"), looks := false }, kinds := [], alts := [], laidByText := true, laidKinds := [.data, .data, .data], laidTests := true, laidLooks := .later }
def CnfModelsCardSaid : Prop := Claim7.holds Tryd.pinned (.plain (OpenSpec.ofChange cnfModelsSpec)) cnfModelsCard

/-- THE SECOND FORM's CARD OF 'depotlaw02.CnfTidies'. -/
def cnfTidiesUptoCard : Claim7 := { stood := { row := cnfTidiesUptoRow, standIns := [], harness := (true, "0849d6b95efadd4be88383e4347a6662a720fa078e7ffd3146ad21345aed5257"), looks := false }, kinds := [], alts := [], laidByText := true, laidKinds := [.data, .data, .data], laidTests := true, laidLooks := .later }
def CnfTidiesUptoCardSaid : Prop := Claim7.holds Tryd.pinned (.plain (OpenSpec.upto cnfTidiesSpec)) cnfTidiesUptoCard

/-- THE SECOND FORM's CARD OF 'depotlaw02.CnfModels'. -/
def cnfModelsUptoCard : Claim7 := { stood := { row := cnfModelsUptoRow, standIns := [], harness := (true, "0849d6b95efadd4be88383e4347a6662a720fa078e7ffd3146ad21345aed5257"), looks := false }, kinds := [], alts := [], laidByText := true, laidKinds := [.data, .data, .data], laidTests := true, laidLooks := .later }
def CnfModelsUptoCardSaid : Prop := Claim7.holds Tryd.pinned (.plain (OpenSpec.upto cnfModelsSpec)) cnfModelsUptoCard
end Rows
end Go.Proofs.YtefjpcleknchlaaDoor

/-
  DERIVED. GIVEN WITH THE SEED: THE CARDS: each row of YtfklgfdkpmfdnaaDoorRows.lean that lists a variable, with what it lists TIED to the program's text (the seventh form; the later family's looks); each row that meets fmt, with fmt's text TOLD by the authors' own Lean function (tested against real Go, not proved from fmt's source: count such statements apart). THE CARD IS WHAT COUNTS. Prove the row's statement (the work); the ties are given (YtfklgfdkpmfdnaaDoorTie.lean); close each card by the builder's one call (the guide's Derived/Test/ToyasCard.lean, 'card_holds'). Laid BY PROGRAM, IN A SANDBOX (cutbox-door.mjs). By AI agents, Wed Nov 11 2026. No macro, syntax, notation, axiom, sorry.
-/
import Derived.Test.YtfklgfdkpmfdnaaDoorRows
import GoSem.ClaimSeven
namespace Go.Proofs.YtfklgfdkpmfdnaaDoor
namespace Rows

/-- THE TIED CARD OF 'depotlaw02.CnfModels'. -/
def cnfModelsCard : Claim7 := { stood := { row := cnfModelsRow, standIns := [], harness := (true, "09c91bceedd0e11e2c4fb9cb9de52207637306efd1356616cbce37ffe7056aa5"), looks := false }, kinds := [], alts := [], laidByText := true, laidKinds := [.data, .data, .data], laidTests := true, laidLooks := .later }
def CnfModelsCardSaid : Prop := Claim7.holds Tryd.pinned (.plain (OpenSpec.ofChange cnfModelsSpec)) cnfModelsCard

/-- THE TIED CARD OF 'depotlaw02.CnfKeepsModels'. -/
def cnfKeepsModelsCard : Claim7 := { stood := { row := cnfKeepsModelsRow, standIns := [], harness := (true, "09c91bceedd0e11e2c4fb9cb9de52207637306efd1356616cbce37ffe7056aa5"), looks := false }, kinds := [], alts := [], laidByText := true, laidKinds := [.data, .data, .data], laidTests := true, laidLooks := .later }
def CnfKeepsModelsCardSaid : Prop := Claim7.holds Tryd.pinned (.plain (OpenSpec.ofChange cnfKeepsModelsSpec)) cnfKeepsModelsCard

/-- THE SECOND FORM's CARD OF 'depotlaw02.CnfModels'. -/
def cnfModelsUptoCard : Claim7 := { stood := { row := cnfModelsUptoRow, standIns := [], harness := (true, "09c91bceedd0e11e2c4fb9cb9de52207637306efd1356616cbce37ffe7056aa5"), looks := false }, kinds := [], alts := [], laidByText := true, laidKinds := [.data, .data, .data], laidTests := true, laidLooks := .later }
def CnfModelsUptoCardSaid : Prop := Claim7.holds Tryd.pinned (.plain (OpenSpec.upto cnfModelsSpec)) cnfModelsUptoCard

/-- THE SECOND FORM's CARD OF 'depotlaw02.CnfKeepsModels'. -/
def cnfKeepsModelsUptoCard : Claim7 := { stood := { row := cnfKeepsModelsUptoRow, standIns := [], harness := (true, "09c91bceedd0e11e2c4fb9cb9de52207637306efd1356616cbce37ffe7056aa5"), looks := false }, kinds := [], alts := [], laidByText := true, laidKinds := [.data, .data, .data], laidTests := true, laidLooks := .later }
def CnfKeepsModelsUptoCardSaid : Prop := Claim7.holds Tryd.pinned (.plain (OpenSpec.upto cnfKeepsModelsSpec)) cnfKeepsModelsUptoCard
end Rows
end Go.Proofs.YtfklgfdkpmfdnaaDoor

/-
  DERIVED. GIVEN WITH THE SEED: THE CARDS: each row of YtbnnoajpmmbpbaaDoorRows.lean that lists a variable, with what it lists TIED to the program's text (the seventh form; the later family's looks); each row that meets fmt, with fmt's text TOLD by the authors' own Lean function (tested against real Go, not proved from fmt's source: count such statements apart). THE CARD IS WHAT COUNTS. Prove the row's statement (the work); the ties are given (YtbnnoajpmmbpbaaDoorTie.lean); close each card by the builder's one call (the guide's Derived/Test/ToyasCard.lean, 'card_holds'). Laid BY PROGRAM, IN A SANDBOX (cutbox-door.mjs). By AI agents, Wed Nov 11 2026. No macro, syntax, notation, axiom, sorry.
-/
import Derived.Test.YtbnnoajpmmbpbaaDoorRows
import GoSem.ClaimSeven
namespace Go.Proofs.YtbnnoajpmmbpbaaDoor
namespace Rows

/-- THE TIED CARD OF 'depotlaw02.CnfKeepsTidy'. -/
def cnfKeepsTidyCard : Claim7 := { stood := { row := cnfKeepsTidyRow, standIns := [], harness := (true, "afdce228a165e58fb1313a83f521de39011c949768516dd7dece68951cd78531"), looks := false }, kinds := [], alts := [], laidByText := true, laidKinds := [.data, .data, .data], laidTests := true, laidLooks := .later }
def CnfKeepsTidyCardSaid : Prop := Claim7.holds Tryd.pinned (.plain (OpenSpec.ofChange cnfKeepsTidySpec)) cnfKeepsTidyCard

/-- THE SECOND FORM's CARD OF 'depotlaw02.CnfKeepsTidy'. -/
def cnfKeepsTidyUptoCard : Claim7 := { stood := { row := cnfKeepsTidyUptoRow, standIns := [], harness := (true, "afdce228a165e58fb1313a83f521de39011c949768516dd7dece68951cd78531"), looks := false }, kinds := [], alts := [], laidByText := true, laidKinds := [.data, .data, .data], laidTests := true, laidLooks := .later }
def CnfKeepsTidyUptoCardSaid : Prop := Claim7.holds Tryd.pinned (.plain (OpenSpec.upto cnfKeepsTidySpec)) cnfKeepsTidyUptoCard
end Rows
end Go.Proofs.YtbnnoajpmmbpbaaDoor

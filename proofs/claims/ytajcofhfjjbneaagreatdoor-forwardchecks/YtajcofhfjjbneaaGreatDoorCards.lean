/-
  DERIVED. GIVEN WITH THE SEED: THE CARDS: each row of YtajcofhfjjbneaaGreatDoorRows.lean that lists a variable, with what it lists TIED to the program's text (the seventh form; the later family's looks); each row that meets fmt, with fmt's text TOLD by the authors' own Lean function (tested against real Go, not proved from fmt's source: count such statements apart). THE CARD IS WHAT COUNTS. Prove the row's statement (the work); the ties are given (YtajcofhfjjbneaaGreatDoorTie.lean); close each card by the builder's one call (the guide's Derived/Test/ToyasCard.lean, 'card_holds'). Laid BY PROGRAM, IN A SANDBOX (cutbox-door.mjs). By AI agents, Wed Nov 11 2026. No macro, syntax, notation, axiom, sorry.
-/
import Derived.Test.YtajcofhfjjbneaaGreatDoorRows
import GoSem.ClaimSeven
namespace Go.Proofs.YtajcofhfjjbneaaGreatDoor
namespace Rows

/-- THE TIED CARD OF 'depotlaw11.ForwardChecks'. -/
def forwardChecksCard : Claim7 := { stood := { row := forwardChecksRow, standIns := [], harness := (true, "b73aaaa7ef265e39549eb59cd2443d21f41ff4a67e007a51809551fc0f743410"), looks := true }, kinds := [], alts := [], laidByText := true, laidKinds := [.data], laidTests := true, laidLooks := .later }
def ForwardChecksCardSaid : Prop := Claim7.holds Tryz.pinned (.plain (OpenSpec.ofChange forwardChecksSpec)) forwardChecksCard

/-- THE SECOND FORM's CARD OF 'depotlaw11.ForwardChecks'. -/
def forwardChecksUptoCard : Claim7 := { stood := { row := forwardChecksUptoRow, standIns := [], harness := (true, "b73aaaa7ef265e39549eb59cd2443d21f41ff4a67e007a51809551fc0f743410"), looks := true }, kinds := [], alts := [], laidByText := true, laidKinds := [.data], laidTests := true, laidLooks := .later }
def ForwardChecksUptoCardSaid : Prop := Claim7.holds Tryz.pinned (.plain (OpenSpec.upto forwardChecksSpec)) forwardChecksUptoCard
end Rows
end Go.Proofs.YtajcofhfjjbneaaGreatDoor

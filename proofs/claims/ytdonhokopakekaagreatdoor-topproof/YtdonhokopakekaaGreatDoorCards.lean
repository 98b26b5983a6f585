/-
  DERIVED. GIVEN WITH THE SEED: THE CARDS: each row of YtdonhokopakekaaGreatDoorRows.lean that lists a variable, with what it lists TIED to the program's text (the seventh form; the later family's looks); each row that meets fmt, with fmt's text TOLD by the authors' own Lean function (tested against real Go, not proved from fmt's source: count such statements apart). THE CARD IS WHAT COUNTS. Prove the row's statement (the work); the ties are given (YtdonhokopakekaaGreatDoorTie.lean); close each card by the builder's one call (the guide's Derived/Test/ToyasCard.lean, 'card_holds'). Laid BY PROGRAM, IN A SANDBOX (cutbox-door.mjs). By AI agents, Wed Nov 11 2026. No macro, syntax, notation, axiom, sorry.
-/
import Derived.Test.YtdonhokopakekaaGreatDoorRows
import GoSem.ClaimSeven
namespace Go.Proofs.YtdonhokopakekaaGreatDoor
namespace Rows

/-- THE TIED CARD OF 'depottop.TopProof'. -/
def topProofCard : Claim7 := { stood := { row := topProofRow, standIns := [], harness := (true, "4e89c4820fcd7f2ab95852b408899ce4d9b42301091e76babc55f4e84c901741"), looks := true }, kinds := [], alts := [], laidByText := true, laidKinds := [.data], laidTests := true, laidLooks := .later }
def TopProofCardSaid : Prop := Claim7.holds Tryz.pinned (.plain (OpenSpec.ofChange topProofSpec)) topProofCard

/-- THE SECOND FORM's CARD OF 'depottop.TopProof'. -/
def topProofUptoCard : Claim7 := { stood := { row := topProofUptoRow, standIns := [], harness := (true, "4e89c4820fcd7f2ab95852b408899ce4d9b42301091e76babc55f4e84c901741"), looks := true }, kinds := [], alts := [], laidByText := true, laidKinds := [.data], laidTests := true, laidLooks := .later }
def TopProofUptoCardSaid : Prop := Claim7.holds Tryz.pinned (.plain (OpenSpec.upto topProofSpec)) topProofUptoCard
end Rows
end Go.Proofs.YtdonhokopakekaaGreatDoor

/-
  DERIVED. GIVEN WITH THE SEED: THE CARDS: each row of YtnkmkbailifdoaaGreatDoorRows.lean that lists a variable, with what it lists TIED to the program's text (the seventh form; the later family's looks); each row that meets fmt, with fmt's text TOLD by the authors' own Lean function (tested against real Go, not proved from fmt's source: count such statements apart). THE CARD IS WHAT COUNTS. Prove the row's statement (the work); the ties are given (YtnkmkbailifdoaaGreatDoorTie.lean); close each card by the builder's one call (the guide's Derived/Test/ToyasCard.lean, 'card_holds'). Laid BY PROGRAM, IN A SANDBOX (cutbox-door.mjs). By AI agents, Wed Nov 11 2026. No macro, syntax, notation, axiom, sorry.
-/
import Derived.Test.YtnkmkbailifdoaaGreatDoorRows
import GoSem.ClaimSeven
namespace Go.Proofs.YtnkmkbailifdoaaGreatDoor
namespace Rows

/-- THE TIED CARD OF 'depotlaw11.ForwardSound'. -/
def forwardSoundCard : Claim7 := { stood := { row := forwardSoundRow, standIns := [], harness := (true, "b3c0d68e99bee08385dfc54bc4ea4766ffc89df04fd53ff99aea1521e7c33b3b"), looks := true }, kinds := [], alts := [], laidByText := true, laidKinds := [.data, .data, .data], laidTests := true, laidLooks := .later }
def ForwardSoundCardSaid : Prop := Claim7.holds Tryz.pinned (.plain (OpenSpec.ofChange forwardSoundSpec)) forwardSoundCard

/-- THE SECOND FORM's CARD OF 'depotlaw11.ForwardSound'. -/
def forwardSoundUptoCard : Claim7 := { stood := { row := forwardSoundUptoRow, standIns := [], harness := (true, "b3c0d68e99bee08385dfc54bc4ea4766ffc89df04fd53ff99aea1521e7c33b3b"), looks := true }, kinds := [], alts := [], laidByText := true, laidKinds := [.data, .data, .data], laidTests := true, laidLooks := .later }
def ForwardSoundUptoCardSaid : Prop := Claim7.holds Tryz.pinned (.plain (OpenSpec.upto forwardSoundSpec)) forwardSoundUptoCard
end Rows
end Go.Proofs.YtnkmkbailifdoaaGreatDoor

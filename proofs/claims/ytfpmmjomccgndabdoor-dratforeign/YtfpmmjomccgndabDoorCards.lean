/-
  DERIVED. GIVEN WITH THE SEED: THE CARDS: each row of YtfpmmjomccgndabDoorRows.lean that lists a variable, with what it lists TIED to the program's text (the seventh form; the later family's looks); each row that meets fmt, with fmt's text TOLD by the authors' own Lean function (tested against real Go, not proved from fmt's source: count such statements apart). THE CARD IS WHAT COUNTS. Prove the row's statement (the work); the ties are given (YtfpmmjomccgndabDoorTie.lean); close each card by the builder's one call (the guide's Derived/Test/ToyasCard.lean, 'card_holds'). Laid BY PROGRAM, IN A SANDBOX (cutbox-door.mjs). By AI agents, Wed Nov 11 2026. No macro, syntax, notation, axiom, sorry.
-/
import Derived.Test.YtfpmmjomccgndabDoorRows
import GoSem.ClaimSeven
namespace Go.Proofs.YtfpmmjomccgndabDoor
namespace Rows

/-- THE TIED CARD OF 'depotlaw09.DratJoins'. -/
def dratJoinsCard : Claim7 := { stood := { row := dratJoinsRow, standIns := [], harness := (true, "f3900dc44275ed96877cc5f7b49751e9d955fc5a73bfdfc25ed7c6920baea248"), looks := true }, kinds := [], alts := [], laidByText := true, laidKinds := [.data, .data, .data, .sentinel, .sentinel], laidTests := true, laidLooks := .later }
def DratJoinsCardSaid : Prop := Claim7.holds Tryd.pinned (.plain (OpenSpec.ofChange dratJoinsSpec)) dratJoinsCard

/-- THE TIED CARD OF 'depotlaw09.DratLoose'. -/
def dratLooseCard : Claim7 := { stood := { row := dratLooseRow, standIns := [], harness := (true, "f3900dc44275ed96877cc5f7b49751e9d955fc5a73bfdfc25ed7c6920baea248"), looks := true }, kinds := [], alts := [], laidByText := true, laidKinds := [.data, .data, .data, .sentinel, .sentinel], laidTests := true, laidLooks := .later }
def DratLooseCardSaid : Prop := Claim7.holds Tryd.pinned (.plain (OpenSpec.ofChange dratLooseSpec)) dratLooseCard

/-- THE TIED CARD OF 'depotlaw09.DratForeign'. -/
def dratForeignCard : Claim7 := { stood := { row := dratForeignRow, standIns := [], harness := (true, "f3900dc44275ed96877cc5f7b49751e9d955fc5a73bfdfc25ed7c6920baea248"), looks := true }, kinds := [], alts := [], laidByText := true, laidKinds := [.data, .data, .data, .sentinel, .sentinel], laidTests := true, laidLooks := .later }
def DratForeignCardSaid : Prop := Claim7.holds Tryd.pinned (.plain (OpenSpec.ofChange dratForeignSpec)) dratForeignCard

/-- THE SECOND FORM's CARD OF 'depotlaw09.DratJoins'. -/
def dratJoinsUptoCard : Claim7 := { stood := { row := dratJoinsUptoRow, standIns := [], harness := (true, "f3900dc44275ed96877cc5f7b49751e9d955fc5a73bfdfc25ed7c6920baea248"), looks := true }, kinds := [], alts := [], laidByText := true, laidKinds := [.data, .data, .data, .sentinel, .sentinel], laidTests := true, laidLooks := .later }
def DratJoinsUptoCardSaid : Prop := Claim7.holds Tryd.pinned (.plain (OpenSpec.upto dratJoinsSpec)) dratJoinsUptoCard

/-- THE SECOND FORM's CARD OF 'depotlaw09.DratLoose'. -/
def dratLooseUptoCard : Claim7 := { stood := { row := dratLooseUptoRow, standIns := [], harness := (true, "f3900dc44275ed96877cc5f7b49751e9d955fc5a73bfdfc25ed7c6920baea248"), looks := true }, kinds := [], alts := [], laidByText := true, laidKinds := [.data, .data, .data, .sentinel, .sentinel], laidTests := true, laidLooks := .later }
def DratLooseUptoCardSaid : Prop := Claim7.holds Tryd.pinned (.plain (OpenSpec.upto dratLooseSpec)) dratLooseUptoCard

/-- THE SECOND FORM's CARD OF 'depotlaw09.DratForeign'. -/
def dratForeignUptoCard : Claim7 := { stood := { row := dratForeignUptoRow, standIns := [], harness := (true, "f3900dc44275ed96877cc5f7b49751e9d955fc5a73bfdfc25ed7c6920baea248"), looks := true }, kinds := [], alts := [], laidByText := true, laidKinds := [.data, .data, .data, .sentinel, .sentinel], laidTests := true, laidLooks := .later }
def DratForeignUptoCardSaid : Prop := Claim7.holds Tryd.pinned (.plain (OpenSpec.upto dratForeignSpec)) dratForeignUptoCard
end Rows
end Go.Proofs.YtfpmmjomccgndabDoor

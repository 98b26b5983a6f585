/-
  DERIVED. GIVEN WITH THE SEED: THE CARDS: each row of YtkinilhapgagcabDoorRows.lean that lists a variable, with what it lists TIED to the program's text (the seventh form; the later family's looks); each row that meets fmt, with fmt's text TOLD by the authors' own Lean function (tested against real Go, not proved from fmt's source: count such statements apart). THE CARD IS WHAT COUNTS. Prove the row's statement (the work); the ties are given (YtkinilhapgagcabDoorTie.lean); close each card by the builder's one call (the guide's Derived/Test/ToyasCard.lean, 'card_holds'). Laid BY PROGRAM, IN A SANDBOX (cutbox-door.mjs). By AI agents, Wed Nov 11 2026. No macro, syntax, notation, axiom, sorry.
-/
import Derived.Test.YtkinilhapgagcabDoorRows
import GoSem.ClaimSeven
namespace Go.Proofs.YtkinilhapgagcabDoor
namespace Rows

/-- THE TIED CARD OF 'depotlaw08.RupGrows'. -/
def rupGrowsCard : Claim7 := { stood := { row := rupGrowsRow, standIns := [], harness := (true, "def38ef93278da2fc56538426e25389bb0d6cd5c2355ff77cd3ad920e15809ad"), looks := true }, kinds := [], alts := [], laidByText := true, laidKinds := [.data], laidTests := true, laidLooks := .later }
def RupGrowsCardSaid : Prop := Claim7.holds Tryd.pinned (.plain (OpenSpec.ofChange rupGrowsSpec)) rupGrowsCard

/-- THE TIED CARD OF 'depotlaw08.RupOrder'. -/
def rupOrderCard : Claim7 := { stood := { row := rupOrderRow, standIns := [], harness := (true, "def38ef93278da2fc56538426e25389bb0d6cd5c2355ff77cd3ad920e15809ad"), looks := true }, kinds := [], alts := [], laidByText := true, laidKinds := [.data], laidTests := true, laidLooks := .later }
def RupOrderCardSaid : Prop := Claim7.holds Tryd.pinned (.plain (OpenSpec.ofChange rupOrderSpec)) rupOrderCard

/-- THE TIED CARD OF 'depotlaw08.RupKeeps'. -/
def rupKeepsCard : Claim7 := { stood := { row := rupKeepsRow, standIns := [], harness := (true, "def38ef93278da2fc56538426e25389bb0d6cd5c2355ff77cd3ad920e15809ad"), looks := true }, kinds := [], alts := [], laidByText := true, laidKinds := [.data], laidTests := true, laidLooks := .later }
def RupKeepsCardSaid : Prop := Claim7.holds Tryd.pinned (.plain (OpenSpec.ofChange rupKeepsSpec)) rupKeepsCard

/-- THE SECOND FORM's CARD OF 'depotlaw08.RupGrows'. -/
def rupGrowsUptoCard : Claim7 := { stood := { row := rupGrowsUptoRow, standIns := [], harness := (true, "def38ef93278da2fc56538426e25389bb0d6cd5c2355ff77cd3ad920e15809ad"), looks := true }, kinds := [], alts := [], laidByText := true, laidKinds := [.data], laidTests := true, laidLooks := .later }
def RupGrowsUptoCardSaid : Prop := Claim7.holds Tryd.pinned (.plain (OpenSpec.upto rupGrowsSpec)) rupGrowsUptoCard

/-- THE SECOND FORM's CARD OF 'depotlaw08.RupOrder'. -/
def rupOrderUptoCard : Claim7 := { stood := { row := rupOrderUptoRow, standIns := [], harness := (true, "def38ef93278da2fc56538426e25389bb0d6cd5c2355ff77cd3ad920e15809ad"), looks := true }, kinds := [], alts := [], laidByText := true, laidKinds := [.data], laidTests := true, laidLooks := .later }
def RupOrderUptoCardSaid : Prop := Claim7.holds Tryd.pinned (.plain (OpenSpec.upto rupOrderSpec)) rupOrderUptoCard

/-- THE SECOND FORM's CARD OF 'depotlaw08.RupKeeps'. -/
def rupKeepsUptoCard : Claim7 := { stood := { row := rupKeepsUptoRow, standIns := [], harness := (true, "def38ef93278da2fc56538426e25389bb0d6cd5c2355ff77cd3ad920e15809ad"), looks := true }, kinds := [], alts := [], laidByText := true, laidKinds := [.data], laidTests := true, laidLooks := .later }
def RupKeepsUptoCardSaid : Prop := Claim7.holds Tryd.pinned (.plain (OpenSpec.upto rupKeepsSpec)) rupKeepsUptoCard
end Rows
end Go.Proofs.YtkinilhapgagcabDoor

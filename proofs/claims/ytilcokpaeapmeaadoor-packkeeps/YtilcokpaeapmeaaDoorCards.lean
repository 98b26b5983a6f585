/-
  DERIVED. GIVEN WITH THE SEED: THE CARDS: each row of YtilcokpaeapmeaaDoorRows.lean that lists a variable, with what it lists TIED to the program's text (the seventh form; the later family's looks); each row that meets fmt, with fmt's text TOLD by the authors' own Lean function (tested against real Go, not proved from fmt's source: count such statements apart). THE CARD IS WHAT COUNTS. Prove the row's statement (the work); the ties are given (YtilcokpaeapmeaaDoorTie.lean); close each card by the builder's one call (the guide's Derived/Test/ToyasCard.lean, 'card_holds'). Laid BY PROGRAM, IN A SANDBOX (cutbox-door.mjs). By AI agents, Wed Nov 11 2026. No macro, syntax, notation, axiom, sorry.
-/
import Derived.Test.YtilcokpaeapmeaaDoorRows
import GoSem.ClaimSeven
namespace Go.Proofs.YtilcokpaeapmeaaDoor
namespace Rows

/-- THE TIED CARD OF 'depotlaw09.DratKeeps'. -/
def dratKeepsCard : Claim7 := { stood := { row := dratKeepsRow, standIns := [], harness := (true, "3b54cf99f79248671850803bc5f94f86af0d8fce17c3a5f805d9b80a97e0876f"), looks := true }, kinds := [], alts := [], laidByText := true, laidKinds := [.data, .data, .data, .sentinel, .sentinel], laidTests := true, laidLooks := .later }
def DratKeepsCardSaid : Prop := Claim7.holds Tryd.pinned (.plain (OpenSpec.ofChange dratKeepsSpec)) dratKeepsCard

/-- THE TIED CARD OF 'depotlaw10.PackKeeps'. -/
def packKeepsCard : Claim7 := { stood := { row := packKeepsRow, standIns := [], harness := (true, "3b54cf99f79248671850803bc5f94f86af0d8fce17c3a5f805d9b80a97e0876f"), looks := true }, kinds := [], alts := [], laidByText := true, laidKinds := [.data, .data, .data, .sentinel, .sentinel], laidTests := true, laidLooks := .later }
def PackKeepsCardSaid : Prop := Claim7.holds Tryd.pinned (.plain (OpenSpec.ofChange packKeepsSpec)) packKeepsCard

/-- THE SECOND FORM's CARD OF 'depotlaw09.DratKeeps'. -/
def dratKeepsUptoCard : Claim7 := { stood := { row := dratKeepsUptoRow, standIns := [], harness := (true, "3b54cf99f79248671850803bc5f94f86af0d8fce17c3a5f805d9b80a97e0876f"), looks := true }, kinds := [], alts := [], laidByText := true, laidKinds := [.data, .data, .data, .sentinel, .sentinel], laidTests := true, laidLooks := .later }
def DratKeepsUptoCardSaid : Prop := Claim7.holds Tryd.pinned (.plain (OpenSpec.upto dratKeepsSpec)) dratKeepsUptoCard

/-- THE SECOND FORM's CARD OF 'depotlaw10.PackKeeps'. -/
def packKeepsUptoCard : Claim7 := { stood := { row := packKeepsUptoRow, standIns := [], harness := (true, "3b54cf99f79248671850803bc5f94f86af0d8fce17c3a5f805d9b80a97e0876f"), looks := true }, kinds := [], alts := [], laidByText := true, laidKinds := [.data, .data, .data, .sentinel, .sentinel], laidTests := true, laidLooks := .later }
def PackKeepsUptoCardSaid : Prop := Claim7.holds Tryd.pinned (.plain (OpenSpec.upto packKeepsSpec)) packKeepsUptoCard
end Rows
end Go.Proofs.YtilcokpaeapmeaaDoor

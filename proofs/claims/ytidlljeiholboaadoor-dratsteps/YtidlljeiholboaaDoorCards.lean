/-
  DERIVED. GIVEN WITH THE SEED: THE CARDS: each row of YtidlljeiholboaaDoorRows.lean that lists a variable, with what it lists TIED to the program's text (the seventh form; the later family's looks); each row that meets fmt, with fmt's text TOLD by the authors' own Lean function (tested against real Go, not proved from fmt's source: count such statements apart). THE CARD IS WHAT COUNTS. Prove the row's statement (the work); the ties are given (YtidlljeiholboaaDoorTie.lean); close each card by the builder's one call (the guide's Derived/Test/ToyasCard.lean, 'card_holds'). Laid BY PROGRAM, IN A SANDBOX (cutbox-door.mjs). By AI agents, Wed Nov 11 2026. No macro, syntax, notation, axiom, sorry.
-/
import Derived.Test.YtidlljeiholboaaDoorRows
import GoSem.ClaimSeven
namespace Go.Proofs.YtidlljeiholboaaDoor
namespace Rows

/-- THE TIED CARD OF 'depotlaw09.DratReads'. -/
def dratReadsCard : Claim7 := { stood := { row := dratReadsRow, standIns := [], harness := (true, "e05a5cd645df21fbeb013193199156b6b6dabc24c2b2687bdff6251d88a484be"), looks := true }, kinds := [], alts := [], laidByText := true, laidKinds := [.data, .data, .data, .sentinel, .sentinel], laidTests := true, laidLooks := .later }
def DratReadsCardSaid : Prop := Claim7.holds Tryd.pinned (.plain (OpenSpec.ofChange dratReadsSpec)) dratReadsCard

/-- THE TIED CARD OF 'depotlaw09.DratSteps'. -/
def dratStepsCard : Claim7 := { stood := { row := dratStepsRow, standIns := [], harness := (true, "e05a5cd645df21fbeb013193199156b6b6dabc24c2b2687bdff6251d88a484be"), looks := true }, kinds := [], alts := [], laidByText := true, laidKinds := [.data, .data, .data, .sentinel, .sentinel], laidTests := true, laidLooks := .later }
def DratStepsCardSaid : Prop := Claim7.holds Tryd.pinned (.plain (OpenSpec.ofChange dratStepsSpec)) dratStepsCard

/-- THE TIED CARD OF 'depotlaw09.DratKeeps'. -/
def dratKeepsCard : Claim7 := { stood := { row := dratKeepsRow, standIns := [], harness := (true, "e05a5cd645df21fbeb013193199156b6b6dabc24c2b2687bdff6251d88a484be"), looks := true }, kinds := [], alts := [], laidByText := true, laidKinds := [.data, .data, .data, .sentinel, .sentinel], laidTests := true, laidLooks := .later }
def DratKeepsCardSaid : Prop := Claim7.holds Tryd.pinned (.plain (OpenSpec.ofChange dratKeepsSpec)) dratKeepsCard

/-- THE TIED CARD OF 'depotlaw10.PackOpens'. -/
def packOpensCard : Claim7 := { stood := { row := packOpensRow, standIns := [], harness := (true, "e05a5cd645df21fbeb013193199156b6b6dabc24c2b2687bdff6251d88a484be"), looks := true }, kinds := [], alts := [], laidByText := true, laidKinds := [.data, .data, .data, .sentinel, .sentinel], laidTests := true, laidLooks := .later }
def PackOpensCardSaid : Prop := Claim7.holds Tryd.pinned (.plain (OpenSpec.ofChange packOpensSpec)) packOpensCard

/-- THE TIED CARD OF 'depotlaw10.PackKeeps'. -/
def packKeepsCard : Claim7 := { stood := { row := packKeepsRow, standIns := [], harness := (true, "e05a5cd645df21fbeb013193199156b6b6dabc24c2b2687bdff6251d88a484be"), looks := true }, kinds := [], alts := [], laidByText := true, laidKinds := [.data, .data, .data, .sentinel, .sentinel], laidTests := true, laidLooks := .later }
def PackKeepsCardSaid : Prop := Claim7.holds Tryd.pinned (.plain (OpenSpec.ofChange packKeepsSpec)) packKeepsCard

/-- THE SECOND FORM's CARD OF 'depotlaw09.DratReads'. -/
def dratReadsUptoCard : Claim7 := { stood := { row := dratReadsUptoRow, standIns := [], harness := (true, "e05a5cd645df21fbeb013193199156b6b6dabc24c2b2687bdff6251d88a484be"), looks := true }, kinds := [], alts := [], laidByText := true, laidKinds := [.data, .data, .data, .sentinel, .sentinel], laidTests := true, laidLooks := .later }
def DratReadsUptoCardSaid : Prop := Claim7.holds Tryd.pinned (.plain (OpenSpec.upto dratReadsSpec)) dratReadsUptoCard

/-- THE SECOND FORM's CARD OF 'depotlaw09.DratSteps'. -/
def dratStepsUptoCard : Claim7 := { stood := { row := dratStepsUptoRow, standIns := [], harness := (true, "e05a5cd645df21fbeb013193199156b6b6dabc24c2b2687bdff6251d88a484be"), looks := true }, kinds := [], alts := [], laidByText := true, laidKinds := [.data, .data, .data, .sentinel, .sentinel], laidTests := true, laidLooks := .later }
def DratStepsUptoCardSaid : Prop := Claim7.holds Tryd.pinned (.plain (OpenSpec.upto dratStepsSpec)) dratStepsUptoCard

/-- THE SECOND FORM's CARD OF 'depotlaw09.DratKeeps'. -/
def dratKeepsUptoCard : Claim7 := { stood := { row := dratKeepsUptoRow, standIns := [], harness := (true, "e05a5cd645df21fbeb013193199156b6b6dabc24c2b2687bdff6251d88a484be"), looks := true }, kinds := [], alts := [], laidByText := true, laidKinds := [.data, .data, .data, .sentinel, .sentinel], laidTests := true, laidLooks := .later }
def DratKeepsUptoCardSaid : Prop := Claim7.holds Tryd.pinned (.plain (OpenSpec.upto dratKeepsSpec)) dratKeepsUptoCard

/-- THE SECOND FORM's CARD OF 'depotlaw10.PackOpens'. -/
def packOpensUptoCard : Claim7 := { stood := { row := packOpensUptoRow, standIns := [], harness := (true, "e05a5cd645df21fbeb013193199156b6b6dabc24c2b2687bdff6251d88a484be"), looks := true }, kinds := [], alts := [], laidByText := true, laidKinds := [.data, .data, .data, .sentinel, .sentinel], laidTests := true, laidLooks := .later }
def PackOpensUptoCardSaid : Prop := Claim7.holds Tryd.pinned (.plain (OpenSpec.upto packOpensSpec)) packOpensUptoCard

/-- THE SECOND FORM's CARD OF 'depotlaw10.PackKeeps'. -/
def packKeepsUptoCard : Claim7 := { stood := { row := packKeepsUptoRow, standIns := [], harness := (true, "e05a5cd645df21fbeb013193199156b6b6dabc24c2b2687bdff6251d88a484be"), looks := true }, kinds := [], alts := [], laidByText := true, laidKinds := [.data, .data, .data, .sentinel, .sentinel], laidTests := true, laidLooks := .later }
def PackKeepsUptoCardSaid : Prop := Claim7.holds Tryd.pinned (.plain (OpenSpec.upto packKeepsSpec)) packKeepsUptoCard
end Rows
end Go.Proofs.YtidlljeiholboaaDoor

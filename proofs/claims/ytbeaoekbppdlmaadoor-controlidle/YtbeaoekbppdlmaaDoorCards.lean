/-
  DERIVED. GIVEN WITH THE SEED: THE CARDS: each row of YtbeaoekbppdlmaaDoorRows.lean that lists a variable, with what it lists TIED to the program's text (the seventh form; the later family's looks); each row that meets fmt, with fmt's text TOLD by the authors' own Lean function (tested against real Go, not proved from fmt's source: count such statements apart). THE CARD IS WHAT COUNTS. Prove the row's statement (the work); the ties are given (YtbeaoekbppdlmaaDoorTie.lean); close each card by the builder's one call (the guide's Derived/Test/ToyasCard.lean, 'card_holds'). Laid BY PROGRAM, IN A SANDBOX (cutbox-door.mjs). By AI agents, Wed Nov 11 2026. No macro, syntax, notation, axiom, sorry.
-/
import Derived.Test.YtbeaoekbppdlmaaDoorRows
import GoSem.ClaimSeven
namespace Go.Proofs.YtbeaoekbppdlmaaDoor
namespace Rows

/-- THE TIED CARD OF 'depotlaw21.ControlKeeps'. -/
def controlKeepsCard : Claim7 := { stood := { row := controlKeepsRow, standIns := [], harness := (true, "92398daa72a9e2fec34757a944addacfc834e6c02eeb4dbd780493c5043efe9c"), looks := false }, kinds := [], alts := [], laidByText := true, laidKinds := [.data, .pinned], laidTests := true, laidLooks := .later }
def ControlKeepsCardSaid : Prop := Claim7.holds Tryd.pinned (.plain (OpenSpec.ofChange controlKeepsSpec)) controlKeepsCard

/-- THE TIED CARD OF 'depotlaw21.ControlBack'. -/
def controlBackCard : Claim7 := { stood := { row := controlBackRow, standIns := [], harness := (true, "92398daa72a9e2fec34757a944addacfc834e6c02eeb4dbd780493c5043efe9c"), looks := false }, kinds := [], alts := [], laidByText := true, laidKinds := [.data, .pinned], laidTests := true, laidLooks := .later }
def ControlBackCardSaid : Prop := Claim7.holds Tryd.pinned (.plain (OpenSpec.ofChange controlBackSpec)) controlBackCard

/-- THE TIED CARD OF 'depotlaw21.ControlAgain'. -/
def controlAgainCard : Claim7 := { stood := { row := controlAgainRow, standIns := [], harness := (true, "92398daa72a9e2fec34757a944addacfc834e6c02eeb4dbd780493c5043efe9c"), looks := false }, kinds := [], alts := [], laidByText := true, laidKinds := [.data, .pinned], laidTests := true, laidLooks := .later }
def ControlAgainCardSaid : Prop := Claim7.holds Tryd.pinned (.plain (OpenSpec.ofChange controlAgainSpec)) controlAgainCard

/-- THE TIED CARD OF 'depotlaw21.ControlIdle'. -/
def controlIdleCard : Claim7 := { stood := { row := controlIdleRow, standIns := [], harness := (true, "92398daa72a9e2fec34757a944addacfc834e6c02eeb4dbd780493c5043efe9c"), looks := false }, kinds := [], alts := [], laidByText := true, laidKinds := [.data, .pinned], laidTests := true, laidLooks := .later }
def ControlIdleCardSaid : Prop := Claim7.holds Tryd.pinned (.plain (OpenSpec.ofChange controlIdleSpec)) controlIdleCard

/-- THE SECOND FORM's CARD OF 'depotlaw21.ControlKeeps'. -/
def controlKeepsUptoCard : Claim7 := { stood := { row := controlKeepsUptoRow, standIns := [], harness := (true, "92398daa72a9e2fec34757a944addacfc834e6c02eeb4dbd780493c5043efe9c"), looks := false }, kinds := [], alts := [], laidByText := true, laidKinds := [.data, .pinned], laidTests := true, laidLooks := .later }
def ControlKeepsUptoCardSaid : Prop := Claim7.holds Tryd.pinned (.plain (OpenSpec.upto controlKeepsSpec)) controlKeepsUptoCard

/-- THE SECOND FORM's CARD OF 'depotlaw21.ControlBack'. -/
def controlBackUptoCard : Claim7 := { stood := { row := controlBackUptoRow, standIns := [], harness := (true, "92398daa72a9e2fec34757a944addacfc834e6c02eeb4dbd780493c5043efe9c"), looks := false }, kinds := [], alts := [], laidByText := true, laidKinds := [.data, .pinned], laidTests := true, laidLooks := .later }
def ControlBackUptoCardSaid : Prop := Claim7.holds Tryd.pinned (.plain (OpenSpec.upto controlBackSpec)) controlBackUptoCard

/-- THE SECOND FORM's CARD OF 'depotlaw21.ControlAgain'. -/
def controlAgainUptoCard : Claim7 := { stood := { row := controlAgainUptoRow, standIns := [], harness := (true, "92398daa72a9e2fec34757a944addacfc834e6c02eeb4dbd780493c5043efe9c"), looks := false }, kinds := [], alts := [], laidByText := true, laidKinds := [.data, .pinned], laidTests := true, laidLooks := .later }
def ControlAgainUptoCardSaid : Prop := Claim7.holds Tryd.pinned (.plain (OpenSpec.upto controlAgainSpec)) controlAgainUptoCard

/-- THE SECOND FORM's CARD OF 'depotlaw21.ControlIdle'. -/
def controlIdleUptoCard : Claim7 := { stood := { row := controlIdleUptoRow, standIns := [], harness := (true, "92398daa72a9e2fec34757a944addacfc834e6c02eeb4dbd780493c5043efe9c"), looks := false }, kinds := [], alts := [], laidByText := true, laidKinds := [.data, .pinned], laidTests := true, laidLooks := .later }
def ControlIdleUptoCardSaid : Prop := Claim7.holds Tryd.pinned (.plain (OpenSpec.upto controlIdleSpec)) controlIdleUptoCard
end Rows
end Go.Proofs.YtbeaoekbppdlmaaDoor

/-
  DERIVED. GIVEN WITH THE SEED: THE CARDS: each row of YtgaojmcmpdjfmaaDoorRows.lean that lists a variable, with what it lists TIED to the program's text (the seventh form; the later family's looks); each row that meets fmt, with fmt's text TOLD by the authors' own Lean function (tested against real Go, not proved from fmt's source: count such statements apart). THE CARD IS WHAT COUNTS. Prove the row's statement (the work); the ties are given (YtgaojmcmpdjfmaaDoorTie.lean); close each card by the builder's one call (the guide's Derived/Test/ToyasCard.lean, 'card_holds'). Laid BY PROGRAM, IN A SANDBOX (cutbox-door.mjs). By AI agents, Wed Nov 11 2026. No macro, syntax, notation, axiom, sorry.
-/
import Derived.Test.YtgaojmcmpdjfmaaDoorRows
import GoSem.ClaimSeven
namespace Go.Proofs.YtgaojmcmpdjfmaaDoor
namespace Rows

/-- THE TIED CARD OF 'depotlaw08.RupKeeps'. -/
def rupKeepsCard : Claim7 := { stood := { row := rupKeepsRow, standIns := [], harness := (true, "726d96852bfd87186278fba50854609efae6bd38fe6f937fc405cbdecb69827c"), looks := true }, kinds := [], alts := [], laidByText := true, laidKinds := [.data], laidTests := true, laidLooks := .later }
def RupKeepsCardSaid : Prop := Claim7.holds Tryd.pinned (.plain (OpenSpec.ofChange rupKeepsSpec)) rupKeepsCard

/-- THE SECOND FORM's CARD OF 'depotlaw08.RupKeeps'. -/
def rupKeepsUptoCard : Claim7 := { stood := { row := rupKeepsUptoRow, standIns := [], harness := (true, "726d96852bfd87186278fba50854609efae6bd38fe6f937fc405cbdecb69827c"), looks := true }, kinds := [], alts := [], laidByText := true, laidKinds := [.data], laidTests := true, laidLooks := .later }
def RupKeepsUptoCardSaid : Prop := Claim7.holds Tryd.pinned (.plain (OpenSpec.upto rupKeepsSpec)) rupKeepsUptoCard
end Rows
end Go.Proofs.YtgaojmcmpdjfmaaDoor

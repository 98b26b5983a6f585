/-
  DERIVED. GIVEN WITH THE SEED: THE CARDS: each row of YtblkhkfjaggnfaaDoorRows.lean that lists a variable, with what it lists TIED to the program's text (the seventh form; the later family's looks); each row that meets fmt, with fmt's text TOLD by the authors' own Lean function (tested against real Go, not proved from fmt's source: count such statements apart). THE CARD IS WHAT COUNTS. Prove the row's statement (the work); the ties are given (YtblkhkfjaggnfaaDoorTie.lean); close each card by the builder's one call (the guide's Derived/Test/ToyasCard.lean, 'card_holds'). Laid BY PROGRAM, IN A SANDBOX (cutbox-door.mjs). By AI agents, Wed Nov 11 2026. No macro, syntax, notation, axiom, sorry.
-/
import Derived.Test.YtblkhkfjaggnfaaDoorRows
import GoSem.ClaimSeven
namespace Go.Proofs.YtblkhkfjaggnfaaDoor
namespace Rows

/-- THE TIED CARD OF 'depotlaw21.ControlNumbers'. -/
def controlNumbersCard : Claim7 := { stood := { row := controlNumbersRow, standIns := [], harness := (true, "1b9786729604870dc0b2b71b8318184f0b7ec03e108258d80e8dec3cce3962c5"), looks := false }, kinds := [], alts := [], laidByText := true, laidKinds := [.data, .pinned], laidTests := true, laidLooks := .later }
def ControlNumbersCardSaid : Prop := Claim7.holds Tryd.pinned (.plain (OpenSpec.ofChange controlNumbersSpec)) controlNumbersCard

/-- THE TIED CARD OF 'depotlaw21.ControlReads'. -/
def controlReadsCard : Claim7 := { stood := { row := controlReadsRow, standIns := [], harness := (true, "1b9786729604870dc0b2b71b8318184f0b7ec03e108258d80e8dec3cce3962c5"), looks := false }, kinds := [], alts := [], laidByText := true, laidKinds := [.data, .pinned], laidTests := true, laidLooks := .later }
def ControlReadsCardSaid : Prop := Claim7.holds Tryd.pinned (.plain (OpenSpec.ofChange controlReadsSpec)) controlReadsCard

/-- THE TIED CARD OF 'depotlaw21.ControlShapes'. -/
def controlShapesCard : Claim7 := { stood := { row := controlShapesRow, standIns := [], harness := (true, "1b9786729604870dc0b2b71b8318184f0b7ec03e108258d80e8dec3cce3962c5"), looks := false }, kinds := [], alts := [], laidByText := true, laidKinds := [.data, .pinned], laidTests := true, laidLooks := .later }
def ControlShapesCardSaid : Prop := Claim7.holds Tryd.pinned (.plain (OpenSpec.ofChange controlShapesSpec)) controlShapesCard

/-- THE TIED CARD OF 'depotlaw21.ControlWrites'. -/
def controlWritesCard : Claim7 := { stood := { row := controlWritesRow, standIns := [], harness := (true, "1b9786729604870dc0b2b71b8318184f0b7ec03e108258d80e8dec3cce3962c5"), looks := false }, kinds := [], alts := [], laidByText := true, laidKinds := [.data, .pinned], laidTests := true, laidLooks := .later }
def ControlWritesCardSaid : Prop := Claim7.holds Tryd.pinned (.plain (OpenSpec.ofChange controlWritesSpec)) controlWritesCard

/-- THE SECOND FORM's CARD OF 'depotlaw21.ControlNumbers'. -/
def controlNumbersUptoCard : Claim7 := { stood := { row := controlNumbersUptoRow, standIns := [], harness := (true, "1b9786729604870dc0b2b71b8318184f0b7ec03e108258d80e8dec3cce3962c5"), looks := false }, kinds := [], alts := [], laidByText := true, laidKinds := [.data, .pinned], laidTests := true, laidLooks := .later }
def ControlNumbersUptoCardSaid : Prop := Claim7.holds Tryd.pinned (.plain (OpenSpec.upto controlNumbersSpec)) controlNumbersUptoCard

/-- THE SECOND FORM's CARD OF 'depotlaw21.ControlReads'. -/
def controlReadsUptoCard : Claim7 := { stood := { row := controlReadsUptoRow, standIns := [], harness := (true, "1b9786729604870dc0b2b71b8318184f0b7ec03e108258d80e8dec3cce3962c5"), looks := false }, kinds := [], alts := [], laidByText := true, laidKinds := [.data, .pinned], laidTests := true, laidLooks := .later }
def ControlReadsUptoCardSaid : Prop := Claim7.holds Tryd.pinned (.plain (OpenSpec.upto controlReadsSpec)) controlReadsUptoCard

/-- THE SECOND FORM's CARD OF 'depotlaw21.ControlShapes'. -/
def controlShapesUptoCard : Claim7 := { stood := { row := controlShapesUptoRow, standIns := [], harness := (true, "1b9786729604870dc0b2b71b8318184f0b7ec03e108258d80e8dec3cce3962c5"), looks := false }, kinds := [], alts := [], laidByText := true, laidKinds := [.data, .pinned], laidTests := true, laidLooks := .later }
def ControlShapesUptoCardSaid : Prop := Claim7.holds Tryd.pinned (.plain (OpenSpec.upto controlShapesSpec)) controlShapesUptoCard

/-- THE SECOND FORM's CARD OF 'depotlaw21.ControlWrites'. -/
def controlWritesUptoCard : Claim7 := { stood := { row := controlWritesUptoRow, standIns := [], harness := (true, "1b9786729604870dc0b2b71b8318184f0b7ec03e108258d80e8dec3cce3962c5"), looks := false }, kinds := [], alts := [], laidByText := true, laidKinds := [.data, .pinned], laidTests := true, laidLooks := .later }
def ControlWritesUptoCardSaid : Prop := Claim7.holds Tryd.pinned (.plain (OpenSpec.upto controlWritesSpec)) controlWritesUptoCard
end Rows
end Go.Proofs.YtblkhkfjaggnfaaDoor

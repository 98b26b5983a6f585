/-
  DERIVED. GIVEN WITH THE SEED: THE CARDS: each row of YthhimmkklnbecaaDoorRows.lean that lists a variable, with what it lists TIED to the program's text (the seventh form; the later family's looks); each row that meets fmt, with fmt's text TOLD by the authors' own Lean function (tested against real Go, not proved from fmt's source: count such statements apart). THE CARD IS WHAT COUNTS. Prove the row's statement (the work); the ties are given (YthhimmkklnbecaaDoorTie.lean); close each card by the builder's one call (the guide's Derived/Test/ToyasCard.lean, 'card_holds'). Laid BY PROGRAM, IN A SANDBOX (cutbox-door.mjs). By AI agents, Wed Nov 11 2026. No macro, syntax, notation, axiom, sorry.
-/
import Derived.Test.YthhimmkklnbecaaDoorRows
import GoSem.ClaimSeven
namespace Go.Proofs.YthhimmkklnbecaaDoor
namespace Rows

/-- THE TIED CARD OF 'depotlaw03.DimacsReads'. -/
def dimacsReadsCard : Claim7 := { stood := { row := dimacsReadsRow, standIns := [], harness := (true, "5f30fd8fce97def7e493d038b9e1fc1f29db50a68730fc49660c7ae35214a9df"), looks := true }, kinds := [], alts := [], laidByText := true, laidKinds := [.data, .data, .data, .data, .sentinel, .sentinel, .pinned], laidTests := true, laidLooks := .later }
def DimacsReadsCardSaid : Prop := Claim7.holds Tryd.pinned (.plain (OpenSpec.ofChange dimacsReadsSpec)) dimacsReadsCard

/-- THE TIED CARD OF 'depotlaw03.DimacsTells'. -/
def dimacsTellsCard : Claim7 := { stood := { row := dimacsTellsRow, standIns := [], harness := (true, "5f30fd8fce97def7e493d038b9e1fc1f29db50a68730fc49660c7ae35214a9df"), looks := true }, kinds := [], alts := [], laidByText := true, laidKinds := [.data, .data, .data, .data, .sentinel, .sentinel, .pinned], laidTests := true, laidLooks := .later }
def DimacsTellsCardSaid : Prop := Claim7.holds Tryd.pinned (.plain (OpenSpec.ofChange dimacsTellsSpec)) dimacsTellsCard

/-- THE TIED CARD OF 'depotlaw03.DimacsForeign'. -/
def dimacsForeignCard : Claim7 := { stood := { row := dimacsForeignRow, standIns := [], harness := (true, "5f30fd8fce97def7e493d038b9e1fc1f29db50a68730fc49660c7ae35214a9df"), looks := true }, kinds := [], alts := [], laidByText := true, laidKinds := [.data, .data, .data, .data, .pinned], laidTests := true, laidLooks := .later }
def DimacsForeignCardSaid : Prop := Claim7.holds Tryd.pinned (.plain (OpenSpec.ofChange dimacsForeignSpec)) dimacsForeignCard

/-- THE TIED CARD OF 'depotlaw03.DimacsLong'. -/
def dimacsLongCard : Claim7 := { stood := { row := dimacsLongRow, standIns := [], harness := (true, "5f30fd8fce97def7e493d038b9e1fc1f29db50a68730fc49660c7ae35214a9df"), looks := true }, kinds := [], alts := [], laidByText := true, laidKinds := [.data, .data, .data, .data, .pinned], laidTests := true, laidLooks := .later }
def DimacsLongCardSaid : Prop := Claim7.holds Tryd.pinned (.plain (OpenSpec.ofChange dimacsLongSpec)) dimacsLongCard

/-- THE SECOND FORM's CARD OF 'depotlaw03.DimacsReads'. -/
def dimacsReadsUptoCard : Claim7 := { stood := { row := dimacsReadsUptoRow, standIns := [], harness := (true, "5f30fd8fce97def7e493d038b9e1fc1f29db50a68730fc49660c7ae35214a9df"), looks := true }, kinds := [], alts := [], laidByText := true, laidKinds := [.data, .data, .data, .data, .sentinel, .sentinel, .pinned], laidTests := true, laidLooks := .later }
def DimacsReadsUptoCardSaid : Prop := Claim7.holds Tryd.pinned (.plain (OpenSpec.upto dimacsReadsSpec)) dimacsReadsUptoCard

/-- THE SECOND FORM's CARD OF 'depotlaw03.DimacsTells'. -/
def dimacsTellsUptoCard : Claim7 := { stood := { row := dimacsTellsUptoRow, standIns := [], harness := (true, "5f30fd8fce97def7e493d038b9e1fc1f29db50a68730fc49660c7ae35214a9df"), looks := true }, kinds := [], alts := [], laidByText := true, laidKinds := [.data, .data, .data, .data, .sentinel, .sentinel, .pinned], laidTests := true, laidLooks := .later }
def DimacsTellsUptoCardSaid : Prop := Claim7.holds Tryd.pinned (.plain (OpenSpec.upto dimacsTellsSpec)) dimacsTellsUptoCard

/-- THE SECOND FORM's CARD OF 'depotlaw03.DimacsForeign'. -/
def dimacsForeignUptoCard : Claim7 := { stood := { row := dimacsForeignUptoRow, standIns := [], harness := (true, "5f30fd8fce97def7e493d038b9e1fc1f29db50a68730fc49660c7ae35214a9df"), looks := true }, kinds := [], alts := [], laidByText := true, laidKinds := [.data, .data, .data, .data, .pinned], laidTests := true, laidLooks := .later }
def DimacsForeignUptoCardSaid : Prop := Claim7.holds Tryd.pinned (.plain (OpenSpec.upto dimacsForeignSpec)) dimacsForeignUptoCard

/-- THE SECOND FORM's CARD OF 'depotlaw03.DimacsLong'. -/
def dimacsLongUptoCard : Claim7 := { stood := { row := dimacsLongUptoRow, standIns := [], harness := (true, "5f30fd8fce97def7e493d038b9e1fc1f29db50a68730fc49660c7ae35214a9df"), looks := true }, kinds := [], alts := [], laidByText := true, laidKinds := [.data, .data, .data, .data, .pinned], laidTests := true, laidLooks := .later }
def DimacsLongUptoCardSaid : Prop := Claim7.holds Tryd.pinned (.plain (OpenSpec.upto dimacsLongSpec)) dimacsLongUptoCard
end Rows
end Go.Proofs.YthhimmkklnbecaaDoor

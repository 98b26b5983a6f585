/-
  DERIVED. GIVEN WITH THE SEED: THE CARDS: each row of YtmanjignognplaaDoorRows.lean that lists a variable, with what it lists TIED to the program's text (the seventh form; the later family's looks); each row that meets fmt, with fmt's text TOLD by the authors' own Lean function (tested against real Go, not proved from fmt's source: count such statements apart). THE CARD IS WHAT COUNTS. Prove the row's statement (the work); the ties are given (YtmanjignognplaaDoorTie.lean); close each card by the builder's one call (the guide's Derived/Test/ToyasCard.lean, 'card_holds'). Laid BY PROGRAM, IN A SANDBOX (cutbox-door.mjs). By AI agents, Wed Nov 11 2026. No macro, syntax, notation, axiom, sorry.
-/
import Derived.Test.YtmanjignognplaaDoorRows
import GoSem.ClaimSeven
namespace Go.Proofs.YtmanjignognplaaDoor
namespace Rows

/-- THE TIED CARD OF 'depotlaw22.RelationForms'. -/
def relationFormsCard : Claim7 := { stood := { row := relationFormsRow, standIns := [], harness := (true, "21754a664a44c1e664e30cbe124c58c2a11ff49bb26e7854defd0d166414b8f6"), looks := false }, kinds := [], alts := [], laidByText := true, laidKinds := [.data], laidTests := true, laidLooks := .later }
def RelationFormsCardSaid : Prop := Claim7.holds Tryd.pinned (.plain (OpenSpec.ofChange relationFormsSpec)) relationFormsCard

/-- THE TIED CARD OF 'depotlaw22.RelationReads'. -/
def relationReadsCard : Claim7 := { stood := { row := relationReadsRow, standIns := [], harness := (true, "21754a664a44c1e664e30cbe124c58c2a11ff49bb26e7854defd0d166414b8f6"), looks := false }, kinds := [], alts := [], laidByText := true, laidKinds := [.data], laidTests := true, laidLooks := .later }
def RelationReadsCardSaid : Prop := Claim7.holds Tryd.pinned (.plain (OpenSpec.ofChange relationReadsSpec)) relationReadsCard

/-- THE TIED CARD OF 'depotlaw22.RelationWrites'. -/
def relationWritesCard : Claim7 := { stood := { row := relationWritesRow, standIns := [], harness := (true, "21754a664a44c1e664e30cbe124c58c2a11ff49bb26e7854defd0d166414b8f6"), looks := false }, kinds := [], alts := [], laidByText := true, laidKinds := [.data], laidTests := true, laidLooks := .later }
def RelationWritesCardSaid : Prop := Claim7.holds Tryd.pinned (.plain (OpenSpec.ofChange relationWritesSpec)) relationWritesCard

/-- THE SECOND FORM's CARD OF 'depotlaw22.RelationForms'. -/
def relationFormsUptoCard : Claim7 := { stood := { row := relationFormsUptoRow, standIns := [], harness := (true, "21754a664a44c1e664e30cbe124c58c2a11ff49bb26e7854defd0d166414b8f6"), looks := false }, kinds := [], alts := [], laidByText := true, laidKinds := [.data], laidTests := true, laidLooks := .later }
def RelationFormsUptoCardSaid : Prop := Claim7.holds Tryd.pinned (.plain (OpenSpec.upto relationFormsSpec)) relationFormsUptoCard

/-- THE SECOND FORM's CARD OF 'depotlaw22.RelationReads'. -/
def relationReadsUptoCard : Claim7 := { stood := { row := relationReadsUptoRow, standIns := [], harness := (true, "21754a664a44c1e664e30cbe124c58c2a11ff49bb26e7854defd0d166414b8f6"), looks := false }, kinds := [], alts := [], laidByText := true, laidKinds := [.data], laidTests := true, laidLooks := .later }
def RelationReadsUptoCardSaid : Prop := Claim7.holds Tryd.pinned (.plain (OpenSpec.upto relationReadsSpec)) relationReadsUptoCard

/-- THE SECOND FORM's CARD OF 'depotlaw22.RelationWrites'. -/
def relationWritesUptoCard : Claim7 := { stood := { row := relationWritesUptoRow, standIns := [], harness := (true, "21754a664a44c1e664e30cbe124c58c2a11ff49bb26e7854defd0d166414b8f6"), looks := false }, kinds := [], alts := [], laidByText := true, laidKinds := [.data], laidTests := true, laidLooks := .later }
def RelationWritesUptoCardSaid : Prop := Claim7.holds Tryd.pinned (.plain (OpenSpec.upto relationWritesSpec)) relationWritesUptoCard
end Rows
end Go.Proofs.YtmanjignognplaaDoor

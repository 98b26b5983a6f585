/-
  DERIVED. GIVEN WITH THE SEED: THE CARDS: each row of YtmfcaoacklbkoaaDoorRows.lean that lists a variable, with what it lists TIED to the program's text (the seventh form; the later family's looks); each row that meets fmt, with fmt's text TOLD by the authors' own Lean function (tested against real Go, not proved from fmt's source: count such statements apart). THE CARD IS WHAT COUNTS. Prove the row's statement (the work); the ties are given (YtmfcaoacklbkoaaDoorTie.lean); close each card by the builder's one call (the guide's Derived/Test/ToyasCard.lean, 'card_holds'). Laid BY PROGRAM, IN A SANDBOX (cutbox-door.mjs). By AI agents, Wed Nov 11 2026. No macro, syntax, notation, axiom, sorry.
-/
import Derived.Test.YtmfcaoacklbkoaaDoorRows
import GoSem.ClaimSeven
namespace Go.Proofs.YtmfcaoacklbkoaaDoor
namespace Rows

/-- THE TIED CARD OF 'depotlaw22.RelationNumbers'. -/
def relationNumbersCard : Claim7 := { stood := { row := relationNumbersRow, standIns := [], harness := (true, "a8f15024438ad163deb3f392200e9caa70e706e4aa41988c271990a730743855"), looks := false }, kinds := [], alts := [], laidByText := true, laidKinds := [.data], laidTests := true, laidLooks := .later }
def RelationNumbersCardSaid : Prop := Claim7.holds Tryd.pinned (.plain (OpenSpec.ofChange relationNumbersSpec)) relationNumbersCard

/-- THE TIED CARD OF 'depotlaw22.RelationThere'. -/
def relationThereCard : Claim7 := { stood := { row := relationThereRow, standIns := [], harness := (true, "a8f15024438ad163deb3f392200e9caa70e706e4aa41988c271990a730743855"), looks := false }, kinds := [], alts := [], laidByText := true, laidKinds := [.data], laidTests := true, laidLooks := .later }
def RelationThereCardSaid : Prop := Claim7.holds Tryd.pinned (.plain (OpenSpec.ofChange relationThereSpec)) relationThereCard

/-- THE TIED CARD OF 'depotlaw22.RelationGaps'. -/
def relationGapsCard : Claim7 := { stood := { row := relationGapsRow, standIns := [], harness := (true, "a8f15024438ad163deb3f392200e9caa70e706e4aa41988c271990a730743855"), looks := false }, kinds := [], alts := [], laidByText := true, laidKinds := [.data], laidTests := true, laidLooks := .later }
def RelationGapsCardSaid : Prop := Claim7.holds Tryd.pinned (.plain (OpenSpec.ofChange relationGapsSpec)) relationGapsCard

/-- THE TIED CARD OF 'depotlaw22.RelationLists'. -/
def relationListsCard : Claim7 := { stood := { row := relationListsRow, standIns := [], harness := (true, "a8f15024438ad163deb3f392200e9caa70e706e4aa41988c271990a730743855"), looks := false }, kinds := [], alts := [], laidByText := true, laidKinds := [.data], laidTests := true, laidLooks := .later }
def RelationListsCardSaid : Prop := Claim7.holds Tryd.pinned (.plain (OpenSpec.ofChange relationListsSpec)) relationListsCard

/-- THE TIED CARD OF 'depotlaw22.RelationKeeps'. -/
def relationKeepsCard : Claim7 := { stood := { row := relationKeepsRow, standIns := [], harness := (true, "a8f15024438ad163deb3f392200e9caa70e706e4aa41988c271990a730743855"), looks := false }, kinds := [], alts := [], laidByText := true, laidKinds := [.data], laidTests := true, laidLooks := .later }
def RelationKeepsCardSaid : Prop := Claim7.holds Tryd.pinned (.plain (OpenSpec.ofChange relationKeepsSpec)) relationKeepsCard

/-- THE SECOND FORM's CARD OF 'depotlaw22.RelationNumbers'. -/
def relationNumbersUptoCard : Claim7 := { stood := { row := relationNumbersUptoRow, standIns := [], harness := (true, "a8f15024438ad163deb3f392200e9caa70e706e4aa41988c271990a730743855"), looks := false }, kinds := [], alts := [], laidByText := true, laidKinds := [.data], laidTests := true, laidLooks := .later }
def RelationNumbersUptoCardSaid : Prop := Claim7.holds Tryd.pinned (.plain (OpenSpec.upto relationNumbersSpec)) relationNumbersUptoCard

/-- THE SECOND FORM's CARD OF 'depotlaw22.RelationThere'. -/
def relationThereUptoCard : Claim7 := { stood := { row := relationThereUptoRow, standIns := [], harness := (true, "a8f15024438ad163deb3f392200e9caa70e706e4aa41988c271990a730743855"), looks := false }, kinds := [], alts := [], laidByText := true, laidKinds := [.data], laidTests := true, laidLooks := .later }
def RelationThereUptoCardSaid : Prop := Claim7.holds Tryd.pinned (.plain (OpenSpec.upto relationThereSpec)) relationThereUptoCard

/-- THE SECOND FORM's CARD OF 'depotlaw22.RelationGaps'. -/
def relationGapsUptoCard : Claim7 := { stood := { row := relationGapsUptoRow, standIns := [], harness := (true, "a8f15024438ad163deb3f392200e9caa70e706e4aa41988c271990a730743855"), looks := false }, kinds := [], alts := [], laidByText := true, laidKinds := [.data], laidTests := true, laidLooks := .later }
def RelationGapsUptoCardSaid : Prop := Claim7.holds Tryd.pinned (.plain (OpenSpec.upto relationGapsSpec)) relationGapsUptoCard

/-- THE SECOND FORM's CARD OF 'depotlaw22.RelationLists'. -/
def relationListsUptoCard : Claim7 := { stood := { row := relationListsUptoRow, standIns := [], harness := (true, "a8f15024438ad163deb3f392200e9caa70e706e4aa41988c271990a730743855"), looks := false }, kinds := [], alts := [], laidByText := true, laidKinds := [.data], laidTests := true, laidLooks := .later }
def RelationListsUptoCardSaid : Prop := Claim7.holds Tryd.pinned (.plain (OpenSpec.upto relationListsSpec)) relationListsUptoCard

/-- THE SECOND FORM's CARD OF 'depotlaw22.RelationKeeps'. -/
def relationKeepsUptoCard : Claim7 := { stood := { row := relationKeepsUptoRow, standIns := [], harness := (true, "a8f15024438ad163deb3f392200e9caa70e706e4aa41988c271990a730743855"), looks := false }, kinds := [], alts := [], laidByText := true, laidKinds := [.data], laidTests := true, laidLooks := .later }
def RelationKeepsUptoCardSaid : Prop := Claim7.holds Tryd.pinned (.plain (OpenSpec.upto relationKeepsSpec)) relationKeepsUptoCard
end Rows
end Go.Proofs.YtmfcaoacklbkoaaDoor

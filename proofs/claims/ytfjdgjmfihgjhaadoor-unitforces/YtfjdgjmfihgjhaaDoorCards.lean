/-
  DERIVED. GIVEN WITH THE SEED: THE CARDS: each row of YtfjdgjmfihgjhaaDoorRows.lean that lists a variable, with what it lists TIED to the program's text (the seventh form; the later family's looks); each row that meets fmt, with fmt's text TOLD by the authors' own Lean function (tested against real Go, not proved from fmt's source: count such statements apart). THE CARD IS WHAT COUNTS. Prove the row's statement (the work); the ties are given (YtfjdgjmfihgjhaaDoorTie.lean); close each card by the builder's one call (the guide's Derived/Test/ToyasCard.lean, 'card_holds'). Laid BY PROGRAM, IN A SANDBOX (cutbox-door.mjs). By AI agents, Wed Nov 11 2026. No macro, syntax, notation, axiom, sorry.
-/
import Derived.Test.YtfjdgjmfihgjhaaDoorRows
import GoSem.ClaimSeven
namespace Go.Proofs.YtfjdgjmfihgjhaaDoor
namespace Rows

/-- THE TIED CARD OF 'depotlaw06.UnitNumbers'. -/
def unitNumbersCard : Claim7 := { stood := { row := unitNumbersRow, standIns := [], harness := (true, "2ee5fa8ba8f54f45fe33d6e61b229dd846f4a3155cea8a51ef0f8a9b1ba004dd"), looks := false }, kinds := [], alts := [], laidByText := true, laidKinds := [.data], laidTests := true, laidLooks := .later }
def UnitNumbersCardSaid : Prop := Claim7.holds Tryd.pinned (.plain (OpenSpec.ofChange unitNumbersSpec)) unitNumbersCard

/-- THE TIED CARD OF 'depotlaw06.UnitCloses'. -/
def unitClosesCard : Claim7 := { stood := { row := unitClosesRow, standIns := [], harness := (true, "2ee5fa8ba8f54f45fe33d6e61b229dd846f4a3155cea8a51ef0f8a9b1ba004dd"), looks := false }, kinds := [], alts := [], laidByText := true, laidKinds := [.data], laidTests := true, laidLooks := .later }
def UnitClosesCardSaid : Prop := Claim7.holds Tryd.pinned (.plain (OpenSpec.ofChange unitClosesSpec)) unitClosesCard

/-- THE TIED CARD OF 'depotlaw06.UnitWhys'. -/
def unitWhysCard : Claim7 := { stood := { row := unitWhysRow, standIns := [], harness := (true, "2ee5fa8ba8f54f45fe33d6e61b229dd846f4a3155cea8a51ef0f8a9b1ba004dd"), looks := false }, kinds := [], alts := [], laidByText := true, laidKinds := [.data], laidTests := true, laidLooks := .later }
def UnitWhysCardSaid : Prop := Claim7.holds Tryd.pinned (.plain (OpenSpec.ofChange unitWhysSpec)) unitWhysCard

/-- THE TIED CARD OF 'depotlaw06.UnitForces'. -/
def unitForcesCard : Claim7 := { stood := { row := unitForcesRow, standIns := [], harness := (true, "2ee5fa8ba8f54f45fe33d6e61b229dd846f4a3155cea8a51ef0f8a9b1ba004dd"), looks := false }, kinds := [], alts := [], laidByText := true, laidKinds := [.data], laidTests := true, laidLooks := .later }
def UnitForcesCardSaid : Prop := Claim7.holds Tryd.pinned (.plain (OpenSpec.ofChange unitForcesSpec)) unitForcesCard

/-- THE TIED CARD OF 'depotlaw06.UnitProbes'. -/
def unitProbesCard : Claim7 := { stood := { row := unitProbesRow, standIns := [], harness := (true, "2ee5fa8ba8f54f45fe33d6e61b229dd846f4a3155cea8a51ef0f8a9b1ba004dd"), looks := false }, kinds := [], alts := [], laidByText := true, laidKinds := [.data], laidTests := true, laidLooks := .later }
def UnitProbesCardSaid : Prop := Claim7.holds Tryd.pinned (.plain (OpenSpec.ofChange unitProbesSpec)) unitProbesCard

/-- THE TIED CARD OF 'depotlaw06.UnitKeeps'. -/
def unitKeepsCard : Claim7 := { stood := { row := unitKeepsRow, standIns := [], harness := (true, "2ee5fa8ba8f54f45fe33d6e61b229dd846f4a3155cea8a51ef0f8a9b1ba004dd"), looks := false }, kinds := [], alts := [], laidByText := true, laidKinds := [.data], laidTests := true, laidLooks := .later }
def UnitKeepsCardSaid : Prop := Claim7.holds Tryd.pinned (.plain (OpenSpec.ofChange unitKeepsSpec)) unitKeepsCard

/-- THE SECOND FORM's CARD OF 'depotlaw06.UnitNumbers'. -/
def unitNumbersUptoCard : Claim7 := { stood := { row := unitNumbersUptoRow, standIns := [], harness := (true, "2ee5fa8ba8f54f45fe33d6e61b229dd846f4a3155cea8a51ef0f8a9b1ba004dd"), looks := false }, kinds := [], alts := [], laidByText := true, laidKinds := [.data], laidTests := true, laidLooks := .later }
def UnitNumbersUptoCardSaid : Prop := Claim7.holds Tryd.pinned (.plain (OpenSpec.upto unitNumbersSpec)) unitNumbersUptoCard

/-- THE SECOND FORM's CARD OF 'depotlaw06.UnitCloses'. -/
def unitClosesUptoCard : Claim7 := { stood := { row := unitClosesUptoRow, standIns := [], harness := (true, "2ee5fa8ba8f54f45fe33d6e61b229dd846f4a3155cea8a51ef0f8a9b1ba004dd"), looks := false }, kinds := [], alts := [], laidByText := true, laidKinds := [.data], laidTests := true, laidLooks := .later }
def UnitClosesUptoCardSaid : Prop := Claim7.holds Tryd.pinned (.plain (OpenSpec.upto unitClosesSpec)) unitClosesUptoCard

/-- THE SECOND FORM's CARD OF 'depotlaw06.UnitWhys'. -/
def unitWhysUptoCard : Claim7 := { stood := { row := unitWhysUptoRow, standIns := [], harness := (true, "2ee5fa8ba8f54f45fe33d6e61b229dd846f4a3155cea8a51ef0f8a9b1ba004dd"), looks := false }, kinds := [], alts := [], laidByText := true, laidKinds := [.data], laidTests := true, laidLooks := .later }
def UnitWhysUptoCardSaid : Prop := Claim7.holds Tryd.pinned (.plain (OpenSpec.upto unitWhysSpec)) unitWhysUptoCard

/-- THE SECOND FORM's CARD OF 'depotlaw06.UnitForces'. -/
def unitForcesUptoCard : Claim7 := { stood := { row := unitForcesUptoRow, standIns := [], harness := (true, "2ee5fa8ba8f54f45fe33d6e61b229dd846f4a3155cea8a51ef0f8a9b1ba004dd"), looks := false }, kinds := [], alts := [], laidByText := true, laidKinds := [.data], laidTests := true, laidLooks := .later }
def UnitForcesUptoCardSaid : Prop := Claim7.holds Tryd.pinned (.plain (OpenSpec.upto unitForcesSpec)) unitForcesUptoCard

/-- THE SECOND FORM's CARD OF 'depotlaw06.UnitProbes'. -/
def unitProbesUptoCard : Claim7 := { stood := { row := unitProbesUptoRow, standIns := [], harness := (true, "2ee5fa8ba8f54f45fe33d6e61b229dd846f4a3155cea8a51ef0f8a9b1ba004dd"), looks := false }, kinds := [], alts := [], laidByText := true, laidKinds := [.data], laidTests := true, laidLooks := .later }
def UnitProbesUptoCardSaid : Prop := Claim7.holds Tryd.pinned (.plain (OpenSpec.upto unitProbesSpec)) unitProbesUptoCard

/-- THE SECOND FORM's CARD OF 'depotlaw06.UnitKeeps'. -/
def unitKeepsUptoCard : Claim7 := { stood := { row := unitKeepsUptoRow, standIns := [], harness := (true, "2ee5fa8ba8f54f45fe33d6e61b229dd846f4a3155cea8a51ef0f8a9b1ba004dd"), looks := false }, kinds := [], alts := [], laidByText := true, laidKinds := [.data], laidTests := true, laidLooks := .later }
def UnitKeepsUptoCardSaid : Prop := Claim7.holds Tryd.pinned (.plain (OpenSpec.upto unitKeepsSpec)) unitKeepsUptoCard
end Rows
end Go.Proofs.YtfjdgjmfihgjhaaDoor

/-
  DERIVED. GIVEN WITH THE SEED: THE CARDS: each row of YtfjdgjmfihgjhabDoorRows.lean that lists a variable, with what it lists TIED to the program's text (the seventh form; the later family's looks); each row that meets fmt, with fmt's text TOLD by the authors' own Lean function (tested against real Go, not proved from fmt's source: count such statements apart). THE CARD IS WHAT COUNTS. Prove the row's statement (the work); the ties are given (YtfjdgjmfihgjhabDoorTie.lean); close each card by the builder's one call (the guide's Derived/Test/ToyasCard.lean, 'card_holds'). Laid BY PROGRAM, IN A SANDBOX (cutbox-door.mjs). By AI agents, Wed Nov 11 2026. No macro, syntax, notation, axiom, sorry.
-/
import Derived.Test.YtfjdgjmfihgjhabDoorRows
import GoSem.ClaimSeven
namespace Go.Proofs.YtfjdgjmfihgjhabDoor
namespace Rows

/-- THE TIED CARD OF 'depotlaw06.UnitOrders'. -/
def unitOrdersCard : Claim7 := { stood := { row := unitOrdersRow, standIns := [], harness := (true, "8b9517380b929b92eeb700c110f5e5b6ef8190337b74949f08c9b7b193f31229"), looks := false }, kinds := [], alts := [], laidByText := true, laidKinds := [.data], laidTests := true, laidLooks := .later }
def UnitOrdersCardSaid : Prop := Claim7.holds Tryd.pinned (.plain (OpenSpec.ofChange unitOrdersSpec)) unitOrdersCard

/-- THE TIED CARD OF 'depotlaw06.UnitSound'. -/
def unitSoundCard : Claim7 := { stood := { row := unitSoundRow, standIns := [], harness := (true, "8b9517380b929b92eeb700c110f5e5b6ef8190337b74949f08c9b7b193f31229"), looks := false }, kinds := [], alts := [], laidByText := true, laidKinds := [.data], laidTests := true, laidLooks := .later }
def UnitSoundCardSaid : Prop := Claim7.holds Tryd.pinned (.plain (OpenSpec.ofChange unitSoundSpec)) unitSoundCard

/-- THE TIED CARD OF 'depotlaw06.UnitGrows'. -/
def unitGrowsCard : Claim7 := { stood := { row := unitGrowsRow, standIns := [], harness := (true, "8b9517380b929b92eeb700c110f5e5b6ef8190337b74949f08c9b7b193f31229"), looks := false }, kinds := [], alts := [], laidByText := true, laidKinds := [.data], laidTests := true, laidLooks := .later }
def UnitGrowsCardSaid : Prop := Claim7.holds Tryd.pinned (.plain (OpenSpec.ofChange unitGrowsSpec)) unitGrowsCard

/-- THE TIED CARD OF 'depotlaw06.UnitStory'. -/
def unitStoryCard : Claim7 := { stood := { row := unitStoryRow, standIns := [], harness := (true, "8b9517380b929b92eeb700c110f5e5b6ef8190337b74949f08c9b7b193f31229"), looks := false }, kinds := [], alts := [], laidByText := true, laidKinds := [.data], laidTests := true, laidLooks := .later }
def UnitStoryCardSaid : Prop := Claim7.holds Tryd.pinned (.plain (OpenSpec.ofChange unitStorySpec)) unitStoryCard

/-- THE SECOND FORM's CARD OF 'depotlaw06.UnitOrders'. -/
def unitOrdersUptoCard : Claim7 := { stood := { row := unitOrdersUptoRow, standIns := [], harness := (true, "8b9517380b929b92eeb700c110f5e5b6ef8190337b74949f08c9b7b193f31229"), looks := false }, kinds := [], alts := [], laidByText := true, laidKinds := [.data], laidTests := true, laidLooks := .later }
def UnitOrdersUptoCardSaid : Prop := Claim7.holds Tryd.pinned (.plain (OpenSpec.upto unitOrdersSpec)) unitOrdersUptoCard

/-- THE SECOND FORM's CARD OF 'depotlaw06.UnitSound'. -/
def unitSoundUptoCard : Claim7 := { stood := { row := unitSoundUptoRow, standIns := [], harness := (true, "8b9517380b929b92eeb700c110f5e5b6ef8190337b74949f08c9b7b193f31229"), looks := false }, kinds := [], alts := [], laidByText := true, laidKinds := [.data], laidTests := true, laidLooks := .later }
def UnitSoundUptoCardSaid : Prop := Claim7.holds Tryd.pinned (.plain (OpenSpec.upto unitSoundSpec)) unitSoundUptoCard

/-- THE SECOND FORM's CARD OF 'depotlaw06.UnitGrows'. -/
def unitGrowsUptoCard : Claim7 := { stood := { row := unitGrowsUptoRow, standIns := [], harness := (true, "8b9517380b929b92eeb700c110f5e5b6ef8190337b74949f08c9b7b193f31229"), looks := false }, kinds := [], alts := [], laidByText := true, laidKinds := [.data], laidTests := true, laidLooks := .later }
def UnitGrowsUptoCardSaid : Prop := Claim7.holds Tryd.pinned (.plain (OpenSpec.upto unitGrowsSpec)) unitGrowsUptoCard

/-- THE SECOND FORM's CARD OF 'depotlaw06.UnitStory'. -/
def unitStoryUptoCard : Claim7 := { stood := { row := unitStoryUptoRow, standIns := [], harness := (true, "8b9517380b929b92eeb700c110f5e5b6ef8190337b74949f08c9b7b193f31229"), looks := false }, kinds := [], alts := [], laidByText := true, laidKinds := [.data], laidTests := true, laidLooks := .later }
def UnitStoryUptoCardSaid : Prop := Claim7.holds Tryd.pinned (.plain (OpenSpec.upto unitStorySpec)) unitStoryUptoCard
end Rows
end Go.Proofs.YtfjdgjmfihgjhabDoor

/-
  DERIVED. GIVEN WITH THE SEED: THE CARDS: each row of YtmhelbgemehdmaaDoorRows.lean that lists a variable, with what it lists TIED to the program's text (the seventh form; the later family's looks); each row that meets fmt, with fmt's text TOLD by the authors' own Lean function (tested against real Go, not proved from fmt's source: count such statements apart). THE CARD IS WHAT COUNTS. Prove the row's statement (the work); the ties are given (YtmhelbgemehdmaaDoorTie.lean); close each card by the builder's one call (the guide's Derived/Test/ToyasCard.lean, 'card_holds'). Laid BY PROGRAM, IN A SANDBOX (cutbox-door.mjs). By AI agents, Wed Nov 11 2026. No macro, syntax, notation, axiom, sorry.
-/
import Derived.Test.YtmhelbgemehdmaaDoorRows
import GoSem.ClaimSeven
namespace Go.Proofs.YtmhelbgemehdmaaDoor
namespace Rows

/-- THE TIED CARD OF 'depotlaw06.UnitProbes'. -/
def unitProbesCard : Claim7 := { stood := { row := unitProbesRow, standIns := [], harness := (true, "9bfc0b3cac56aed4c87092730a45ab84d96948f0d00b6b1af5da29b94db4e500"), looks := false }, kinds := [], alts := [], laidByText := true, laidKinds := [.data], laidTests := true, laidLooks := .later }
def UnitProbesCardSaid : Prop := Claim7.holds Tryd.pinned (.plain (OpenSpec.ofChange unitProbesSpec)) unitProbesCard

/-- THE TIED CARD OF 'depotlaw06.UnitKeeps'. -/
def unitKeepsCard : Claim7 := { stood := { row := unitKeepsRow, standIns := [], harness := (true, "9bfc0b3cac56aed4c87092730a45ab84d96948f0d00b6b1af5da29b94db4e500"), looks := false }, kinds := [], alts := [], laidByText := true, laidKinds := [.data], laidTests := true, laidLooks := .later }
def UnitKeepsCardSaid : Prop := Claim7.holds Tryd.pinned (.plain (OpenSpec.ofChange unitKeepsSpec)) unitKeepsCard

/-- THE TIED CARD OF 'depotlaw06.UnitStory'. -/
def unitStoryCard : Claim7 := { stood := { row := unitStoryRow, standIns := [], harness := (true, "9bfc0b3cac56aed4c87092730a45ab84d96948f0d00b6b1af5da29b94db4e500"), looks := false }, kinds := [], alts := [], laidByText := true, laidKinds := [.data], laidTests := true, laidLooks := .later }
def UnitStoryCardSaid : Prop := Claim7.holds Tryd.pinned (.plain (OpenSpec.ofChange unitStorySpec)) unitStoryCard

/-- THE SECOND FORM's CARD OF 'depotlaw06.UnitProbes'. -/
def unitProbesUptoCard : Claim7 := { stood := { row := unitProbesUptoRow, standIns := [], harness := (true, "9bfc0b3cac56aed4c87092730a45ab84d96948f0d00b6b1af5da29b94db4e500"), looks := false }, kinds := [], alts := [], laidByText := true, laidKinds := [.data], laidTests := true, laidLooks := .later }
def UnitProbesUptoCardSaid : Prop := Claim7.holds Tryd.pinned (.plain (OpenSpec.upto unitProbesSpec)) unitProbesUptoCard

/-- THE SECOND FORM's CARD OF 'depotlaw06.UnitKeeps'. -/
def unitKeepsUptoCard : Claim7 := { stood := { row := unitKeepsUptoRow, standIns := [], harness := (true, "9bfc0b3cac56aed4c87092730a45ab84d96948f0d00b6b1af5da29b94db4e500"), looks := false }, kinds := [], alts := [], laidByText := true, laidKinds := [.data], laidTests := true, laidLooks := .later }
def UnitKeepsUptoCardSaid : Prop := Claim7.holds Tryd.pinned (.plain (OpenSpec.upto unitKeepsSpec)) unitKeepsUptoCard

/-- THE SECOND FORM's CARD OF 'depotlaw06.UnitStory'. -/
def unitStoryUptoCard : Claim7 := { stood := { row := unitStoryUptoRow, standIns := [], harness := (true, "9bfc0b3cac56aed4c87092730a45ab84d96948f0d00b6b1af5da29b94db4e500"), looks := false }, kinds := [], alts := [], laidByText := true, laidKinds := [.data], laidTests := true, laidLooks := .later }
def UnitStoryUptoCardSaid : Prop := Claim7.holds Tryd.pinned (.plain (OpenSpec.upto unitStorySpec)) unitStoryUptoCard
end Rows
end Go.Proofs.YtmhelbgemehdmaaDoor

/-
  DERIVED. GIVEN WITH THE SEED: THE CARDS: each row of YtijhabhbeambeaaDoorRows.lean that lists a variable, with what it lists TIED to the program's text (the seventh form; the later family's looks); each row that meets fmt, with fmt's text TOLD by the authors' own Lean function (tested against real Go, not proved from fmt's source: count such statements apart). THE CARD IS WHAT COUNTS. Prove the row's statement (the work); the ties are given (YtijhabhbeambeaaDoorTie.lean); close each card by the builder's one call (the guide's Derived/Test/ToyasCard.lean, 'card_holds'). Laid BY PROGRAM, IN A SANDBOX (cutbox-door.mjs). By AI agents, Wed Nov 11 2026. No macro, syntax, notation, axiom, sorry.
-/
import Derived.Test.YtijhabhbeambeaaDoorRows
import GoSem.ClaimSeven
namespace Go.Proofs.YtijhabhbeambeaaDoor
namespace Rows

/-- THE TIED CARD OF 'depotlaw06.UnitProbes'. -/
def unitProbesCard : Claim7 := { stood := { row := unitProbesRow, standIns := [], harness := (true, "dd5012e4fc0f0727bdb5bface70613e3fd016b1ea3d862c796bb31b28edc6fab"), looks := false }, kinds := [], alts := [], laidByText := true, laidKinds := [.data], laidTests := true, laidLooks := .later }
def UnitProbesCardSaid : Prop := Claim7.holds Tryd.pinned (.plain (OpenSpec.ofChange unitProbesSpec)) unitProbesCard

/-- THE TIED CARD OF 'depotlaw06.UnitKeeps'. -/
def unitKeepsCard : Claim7 := { stood := { row := unitKeepsRow, standIns := [], harness := (true, "dd5012e4fc0f0727bdb5bface70613e3fd016b1ea3d862c796bb31b28edc6fab"), looks := false }, kinds := [], alts := [], laidByText := true, laidKinds := [.data], laidTests := true, laidLooks := .later }
def UnitKeepsCardSaid : Prop := Claim7.holds Tryd.pinned (.plain (OpenSpec.ofChange unitKeepsSpec)) unitKeepsCard

/-- THE SECOND FORM's CARD OF 'depotlaw06.UnitProbes'. -/
def unitProbesUptoCard : Claim7 := { stood := { row := unitProbesUptoRow, standIns := [], harness := (true, "dd5012e4fc0f0727bdb5bface70613e3fd016b1ea3d862c796bb31b28edc6fab"), looks := false }, kinds := [], alts := [], laidByText := true, laidKinds := [.data], laidTests := true, laidLooks := .later }
def UnitProbesUptoCardSaid : Prop := Claim7.holds Tryd.pinned (.plain (OpenSpec.upto unitProbesSpec)) unitProbesUptoCard

/-- THE SECOND FORM's CARD OF 'depotlaw06.UnitKeeps'. -/
def unitKeepsUptoCard : Claim7 := { stood := { row := unitKeepsUptoRow, standIns := [], harness := (true, "dd5012e4fc0f0727bdb5bface70613e3fd016b1ea3d862c796bb31b28edc6fab"), looks := false }, kinds := [], alts := [], laidByText := true, laidKinds := [.data], laidTests := true, laidLooks := .later }
def UnitKeepsUptoCardSaid : Prop := Claim7.holds Tryd.pinned (.plain (OpenSpec.upto unitKeepsSpec)) unitKeepsUptoCard
end Rows
end Go.Proofs.YtijhabhbeambeaaDoor

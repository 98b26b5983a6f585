/-
  DERIVED. GIVEN WITH THE SEED: THE CARDS: each row of YtlbpdiemanhfkaaDoorRows.lean that lists a variable, with what it lists TIED to the program's text (the seventh form; the later family's looks); each row that meets fmt, with fmt's text TOLD by the authors' own Lean function (tested against real Go, not proved from fmt's source: count such statements apart). THE CARD IS WHAT COUNTS. Prove the row's statement (the work); the ties are given (YtlbpdiemanhfkaaDoorTie.lean); close each card by the builder's one call (the guide's Derived/Test/ToyasCard.lean, 'card_holds'). Laid BY PROGRAM, IN A SANDBOX (cutbox-door.mjs). By AI agents, Wed Nov 11 2026. No macro, syntax, notation, axiom, sorry.
-/
import Derived.Test.YtlbpdiemanhfkaaDoorRows
import GoSem.ClaimSeven
namespace Go.Proofs.YtlbpdiemanhfkaaDoor
namespace Rows

/-- THE TIED CARD OF 'depotlaw06.UnitKeeps'. -/
def unitKeepsCard : Claim7 := { stood := { row := unitKeepsRow, standIns := [], harness := (true, "7b8c1bc8348fbf2f7eae78d9a9e6d85a1c203d16c29e94817197a59b28d07537"), looks := false }, kinds := [], alts := [], laidByText := true, laidKinds := [.data], laidTests := true, laidLooks := .later }
def UnitKeepsCardSaid : Prop := Claim7.holds Tryd.pinned (.plain (OpenSpec.ofChange unitKeepsSpec)) unitKeepsCard

/-- THE SECOND FORM's CARD OF 'depotlaw06.UnitKeeps'. -/
def unitKeepsUptoCard : Claim7 := { stood := { row := unitKeepsUptoRow, standIns := [], harness := (true, "7b8c1bc8348fbf2f7eae78d9a9e6d85a1c203d16c29e94817197a59b28d07537"), looks := false }, kinds := [], alts := [], laidByText := true, laidKinds := [.data], laidTests := true, laidLooks := .later }
def UnitKeepsUptoCardSaid : Prop := Claim7.holds Tryd.pinned (.plain (OpenSpec.upto unitKeepsSpec)) unitKeepsUptoCard
end Rows
end Go.Proofs.YtlbpdiemanhfkaaDoor

/-
  DERIVED. GIVEN WITH THE SEED: THE CARDS: each row of YtpebpnbikdahkaaDoorRows.lean that lists a variable, with what it lists TIED to the program's text (the seventh form; the later family's looks); each row that meets fmt, with fmt's text TOLD by the authors' own Lean function (tested against real Go, not proved from fmt's source: count such statements apart). THE CARD IS WHAT COUNTS. Prove the row's statement (the work); the ties are given (YtpebpnbikdahkaaDoorTie.lean); close each card by the builder's one call (the guide's Derived/Test/ToyasCard.lean, 'card_holds'). Laid BY PROGRAM, IN A SANDBOX (cutbox-door.mjs). By AI agents, Wed Nov 11 2026. No macro, syntax, notation, axiom, sorry.
-/
import Derived.Test.YtpebpnbikdahkaaDoorRows
import GoSem.ClaimSeven
namespace Go.Proofs.YtpebpnbikdahkaaDoor
namespace Rows

/-- THE TIED CARD OF 'depotlaw03.DimacsLong'. -/
def dimacsLongCard : Claim7 := { stood := { row := dimacsLongRow, standIns := [], harness := (true, "e9137e824028533486a9fd371e69c45f7866545b980d4676f1dfc802e434d521"), looks := false }, kinds := [], alts := [], laidByText := true, laidKinds := [.data, .data, .data, .data, .pinned], laidTests := true, laidLooks := .later }
def DimacsLongCardSaid : Prop := Claim7.holds Tryd.pinned (.plain (OpenSpec.ofChange dimacsLongSpec)) dimacsLongCard

/-- THE SECOND FORM's CARD OF 'depotlaw03.DimacsLong'. -/
def dimacsLongUptoCard : Claim7 := { stood := { row := dimacsLongUptoRow, standIns := [], harness := (true, "e9137e824028533486a9fd371e69c45f7866545b980d4676f1dfc802e434d521"), looks := false }, kinds := [], alts := [], laidByText := true, laidKinds := [.data, .data, .data, .data, .pinned], laidTests := true, laidLooks := .later }
def DimacsLongUptoCardSaid : Prop := Claim7.holds Tryd.pinned (.plain (OpenSpec.upto dimacsLongSpec)) dimacsLongUptoCard
end Rows
end Go.Proofs.YtpebpnbikdahkaaDoor

/-
  DERIVED. GIVEN WITH THE SEED: THE CARDS: each row of YtofojjdegobekaaDoorRows.lean that lists a variable, with what it lists TIED to the program's text (the seventh form; the later family's looks); each row that meets fmt, with fmt's text TOLD by the authors' own Lean function (tested against real Go, not proved from fmt's source: count such statements apart). THE CARD IS WHAT COUNTS. Prove the row's statement (the work); the ties are given (YtofojjdegobekaaDoorTie.lean); close each card by the builder's one call (the guide's Derived/Test/ToyasCard.lean, 'card_holds'). Laid BY PROGRAM, IN A SANDBOX (cutbox-door.mjs). By AI agents, Wed Nov 11 2026. No macro, syntax, notation, axiom, sorry.
-/
import Derived.Test.YtofojjdegobekaaDoorRows
import GoSem.ClaimSeven
namespace Go.Proofs.YtofojjdegobekaaDoor
namespace Rows

/-- THE TIED CARD OF 'depotlaw15.LearnFollows'. -/
def learnFollowsCard : Claim7 := { stood := { row := learnFollowsRow, standIns := [], harness := (true, "69fd72a1b4db1b0934903e41575a16f8b6a11765f50735663a987abdc1b0824f"), looks := false }, kinds := [], alts := [], laidByText := true, laidKinds := [.data], laidTests := true, laidLooks := .later }
def LearnFollowsCardSaid : Prop := Claim7.holds Tryd.pinned (.plain (OpenSpec.ofChange learnFollowsSpec)) learnFollowsCard

/-- THE TIED CARD OF 'depotlaw15.LearnLess'. -/
def learnLessCard : Claim7 := { stood := { row := learnLessRow, standIns := [], harness := (true, "69fd72a1b4db1b0934903e41575a16f8b6a11765f50735663a987abdc1b0824f"), looks := false }, kinds := [], alts := [], laidByText := true, laidKinds := [.data], laidTests := true, laidLooks := .later }
def LearnLessCardSaid : Prop := Claim7.holds Tryd.pinned (.plain (OpenSpec.ofChange learnLessSpec)) learnLessCard

/-- THE SECOND FORM's CARD OF 'depotlaw15.LearnFollows'. -/
def learnFollowsUptoCard : Claim7 := { stood := { row := learnFollowsUptoRow, standIns := [], harness := (true, "69fd72a1b4db1b0934903e41575a16f8b6a11765f50735663a987abdc1b0824f"), looks := false }, kinds := [], alts := [], laidByText := true, laidKinds := [.data], laidTests := true, laidLooks := .later }
def LearnFollowsUptoCardSaid : Prop := Claim7.holds Tryd.pinned (.plain (OpenSpec.upto learnFollowsSpec)) learnFollowsUptoCard

/-- THE SECOND FORM's CARD OF 'depotlaw15.LearnLess'. -/
def learnLessUptoCard : Claim7 := { stood := { row := learnLessUptoRow, standIns := [], harness := (true, "69fd72a1b4db1b0934903e41575a16f8b6a11765f50735663a987abdc1b0824f"), looks := false }, kinds := [], alts := [], laidByText := true, laidKinds := [.data], laidTests := true, laidLooks := .later }
def LearnLessUptoCardSaid : Prop := Claim7.holds Tryd.pinned (.plain (OpenSpec.upto learnLessSpec)) learnLessUptoCard
end Rows
end Go.Proofs.YtofojjdegobekaaDoor

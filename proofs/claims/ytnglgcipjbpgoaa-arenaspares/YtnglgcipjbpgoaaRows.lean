/-
  No cell of these rows narrows 'for every input' (looked for: loops, veiled, ifaces, maps, wideKeys, modest, calm, conditions, laid).
  DERIVED. THE GIVEN ROWS OF THIS SEAT. 3 by the template 'for every input the law returns true; each argument reads behind the call as it read before'; 0 by the template 'total and deterministic' (their statements: YtnglgcipjbpgoaaTotals.lean).
  GIVEN WITH THE SEED: the statements are not yours to turn. If you find one false, say at which input.
  Laid BY PROGRAM, IN A SANDBOX (cutbox-rows.mjs): the forced cells as the released guide's own fill.sh prints them over the translation 32a465821c5830ba… (all of the seat's roots in one cut). By AI agents, Wed Nov 11 2026. No macro, syntax, notation, axiom, sorry.
-/
import Derived.Test.YtnglgcipjbpgoaaChecked
import GoSem.Claim
import GoSem.ClaimJoined
import GoSem.ClaimMapViews
import Derived.JoinedTies
import Derived.KernelRfl
namespace Go.Proofs.Ytnglgcipjbpgoaa
/- THE CELL 'sum', in the pinned program and in every row, IS THE sha256 OF THE DUMP (.gsa) THAT YtnglgcipjbpgoaaProg.lean LOADS. Nothing in Lean hashes anything: it is a label: what it is worth is what the hold of that sum in a sandbox is worth. -/
noncomputable def Try.pinned : Pinned := { name := "ytnglgcipjbpgoaa", sum := "32a465821c5830ba86892afc8eeb2a540292a38e6a27acdcbd9f19fef1375c42", checked := Try.checked }
namespace Rows
def none {H : Type} : Left H := { results := [], args := [] }

/-- 'depotlaw04.ArenaPlays': WHATEVER THE INPUT: true; the input reads as it did. -/
def arenaPlaysSpec : ChangeSpec := { name := "arenaPlays", fn := fun _ => fun
  | [d] => { results := [.lit (.bool true)], args := [d] }
  | _ => none }
def arenaPlaysRow : OpenClaim := { program := "ytnglgcipjbpgoaa", sum := "32a465821c5830ba86892afc8eeb2a540292a38e6a27acdcbd9f19fef1375c42", func := "depot/depotlaw04.ArenaPlays", spec := "arenaPlays", unfollowed := true, recurses := true, apart := false }
def ArenaPlaysSaid : Prop := arenaPlaysRow.holds Try.pinned (OpenSpec.ofChange arenaPlaysSpec)

/-- ITS FALSE NEIGHBOUR: 'it returns false'. Refute it at one input. -/
def arenaPlaysWrong : ChangeSpec := { name := "arenaPlays", fn := fun _ => fun
  | [d] => { results := [.lit (.bool false)], args := [d] }
  | _ => none }
def ArenaPlaysWrongFalsely : Prop := arenaPlaysRow.holds Try.pinned (OpenSpec.ofChange arenaPlaysWrong)

/-- 'depotlaw04.ArenaLives': WHATEVER THE INPUT: true; the input reads as it did. -/
def arenaLivesSpec : ChangeSpec := { name := "arenaLives", fn := fun _ => fun
  | [d1, d2, d3] => { results := [.lit (.bool true)], args := [d1, d2, d3] }
  | _ => none }
def arenaLivesRow : OpenClaim := { program := "ytnglgcipjbpgoaa", sum := "32a465821c5830ba86892afc8eeb2a540292a38e6a27acdcbd9f19fef1375c42", func := "depot/depotlaw04.ArenaLives", spec := "arenaLives", unfollowed := true, recurses := true, apart := false }
def ArenaLivesSaid : Prop := arenaLivesRow.holds Try.pinned (OpenSpec.ofChange arenaLivesSpec)

/-- ITS FALSE NEIGHBOUR: 'it returns false'. Refute it at one input. -/
def arenaLivesWrong : ChangeSpec := { name := "arenaLives", fn := fun _ => fun
  | [d1, d2, d3] => { results := [.lit (.bool false)], args := [d1, d2, d3] }
  | _ => none }
def ArenaLivesWrongFalsely : Prop := arenaLivesRow.holds Try.pinned (OpenSpec.ofChange arenaLivesWrong)

/-- 'depotlaw04.ArenaSpares': WHATEVER THE INPUT: true; the input reads as it did. -/
def arenaSparesSpec : ChangeSpec := { name := "arenaSpares", fn := fun _ => fun
  | [d] => { results := [.lit (.bool true)], args := [d] }
  | _ => none }
def arenaSparesRow : OpenClaim := { program := "ytnglgcipjbpgoaa", sum := "32a465821c5830ba86892afc8eeb2a540292a38e6a27acdcbd9f19fef1375c42", func := "depot/depotlaw04.ArenaSpares", spec := "arenaSpares", unfollowed := true, recurses := true, apart := false }
def ArenaSparesSaid : Prop := arenaSparesRow.holds Try.pinned (OpenSpec.ofChange arenaSparesSpec)

/-- ITS FALSE NEIGHBOUR: 'it returns false'. Refute it at one input. -/
def arenaSparesWrong : ChangeSpec := { name := "arenaSpares", fn := fun _ => fun
  | [d] => { results := [.lit (.bool false)], args := [d] }
  | _ => none }
def ArenaSparesWrongFalsely : Prop := arenaSparesRow.holds Try.pinned (OpenSpec.ofChange arenaSparesWrong)

/- THE SECOND FORM. 'bulk': how many values and letters a reading holds, each counted each time it is reached (what is shared counts as often as it is met; a slice's spare places count too). A statement '..UptoSaid' is the law's where the arguments, and the package variables that the reading takes, are together of bulk at most 1048576: NARROWER than '..Said'. Prove '..Said' where nothing that the law and all that it calls make is longer than what came in: it says more and counts as full. Else prove '..UptoSaid'. A law counts once. -/
mutual
def uptoBulk {H : Type} : DataW H → Nat
  | .lit (.string bytes) => bytes.length + 1
  | .lit _ => 1
  | .nil => 1
  | .ptr d => uptoBulk d + 1
  | .slice elems spare => uptoBulkAll elems + uptoBulkAll spare + 1
  | .agg parts => uptoBulkAll parts + 1
  | .iface _ d => uptoBulk d + 1
  | .map entries => uptoBulkEntries entries + 1
  | .held _ => 1
def uptoBulkAll {H : Type} : List (DataW H) → Nat
  | [] => 0
  | d :: r => uptoBulk d + uptoBulkAll r
def uptoBulkEntries {H : Type} : List (Lit × DataW H) → Nat
  | [] => 0
  | x :: r => uptoBulkEntry x + uptoBulkEntries r
def uptoBulkEntry {H : Type} : Lit × DataW H → Nat
  | (.string bytes, d) => bytes.length + uptoBulk d + 1
  | (_, d) => uptoBulk d + 1
 end
def uptoSmall : (H : Type) → List (DataW H) → Bool := fun _ ds => decide (uptoBulkAll ds ≤ 1048576)
def OpenSpec.upto (s : _root_.Go.ChangeSpec) : _root_.Go.OpenSpec := { _root_.Go.OpenSpec.ofChange s with cond := some uptoSmall }

/-- 'depotlaw04.ArenaPlays', WHERE WHAT IT READS IS OF BULK AT MOST 1048576: true; the input reads as it did. -/
def arenaPlaysUptoRow : OpenClaim := { program := "ytnglgcipjbpgoaa", sum := "32a465821c5830ba86892afc8eeb2a540292a38e6a27acdcbd9f19fef1375c42", func := "depot/depotlaw04.ArenaPlays", spec := "arenaPlays", unfollowed := true, recurses := true, apart := false, narrowed := true }
def ArenaPlaysUptoSaid : Prop := arenaPlaysUptoRow.holds Try.pinned (OpenSpec.upto arenaPlaysSpec)

/-- 'depotlaw04.ArenaLives', WHERE WHAT IT READS IS OF BULK AT MOST 1048576: true; the input reads as it did. -/
def arenaLivesUptoRow : OpenClaim := { program := "ytnglgcipjbpgoaa", sum := "32a465821c5830ba86892afc8eeb2a540292a38e6a27acdcbd9f19fef1375c42", func := "depot/depotlaw04.ArenaLives", spec := "arenaLives", unfollowed := true, recurses := true, apart := false, narrowed := true }
def ArenaLivesUptoSaid : Prop := arenaLivesUptoRow.holds Try.pinned (OpenSpec.upto arenaLivesSpec)

/-- 'depotlaw04.ArenaSpares', WHERE WHAT IT READS IS OF BULK AT MOST 1048576: true; the input reads as it did. -/
def arenaSparesUptoRow : OpenClaim := { program := "ytnglgcipjbpgoaa", sum := "32a465821c5830ba86892afc8eeb2a540292a38e6a27acdcbd9f19fef1375c42", func := "depot/depotlaw04.ArenaSpares", spec := "arenaSpares", unfollowed := true, recurses := true, apart := false, narrowed := true }
def ArenaSparesUptoSaid : Prop := arenaSparesUptoRow.holds Try.pinned (OpenSpec.upto arenaSparesSpec)

end Rows
end Go.Proofs.Ytnglgcipjbpgoaa

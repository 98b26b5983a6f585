/-
  NARROWER THAN 'FOR EVERY INPUT', by the rows' own cells (each row's printed sentence says how): RelationNumbers: laid · RelationThere: laid · RelationGaps: laid · RelationLists: laid · RelationKeeps: laid.
  DERIVED. THE GIVEN ROWS OF THIS SEAT. 5 by the template 'for every input the law returns true; each argument reads behind the call as it read before'; 0 by the template 'total and deterministic' (their statements: YtmfcaoacklbkoaaDoorTotals.lean).
  GIVEN WITH THE SEED: the statements are not yours to turn. If you find one false, say at which input.
  Laid BY PROGRAM, IN A SANDBOX (cutbox-rows.mjs): the forced cells as the released guide's own fill.sh prints them over the translation 3d67c89401621a54… (all of the seat's roots in one cut). By AI agents, Wed Nov 11 2026. No macro, syntax, notation, axiom, sorry.
-/
import Derived.Test.YtmfcaoacklbkoaaDoorChecked
import GoSem.Claim
import GoSem.ClaimJoined
import GoSem.ClaimMapViews
import Derived.JoinedTies
import Derived.KernelRfl
namespace Go.Proofs.YtmfcaoacklbkoaaDoor
/- THE CELL 'sum', in the pinned program and in every row, IS THE sha256 OF THE DUMP (.gsa) THAT YtmfcaoacklbkoaaDoorProg.lean LOADS. Nothing in Lean hashes anything: it is a label: what it is worth is what the hold of that sum in a sandbox is worth. -/
noncomputable def Tryd.pinned : Pinned := { name := "ytmfcaoacklbkoaadoor", sum := "3d67c89401621a54cab3cf7b98db0525d26ad7e985404a59f9907758e41c4f5c", checked := Tryd.checked }
namespace Rows
def none {H : Type} : Left H := { results := [], args := [] }

/- WHAT THE LISTED PACKAGE-LEVEL VARIABLES READ AS WHEN THE CALL BEGINS. Each datum BY PROGRAM (the guide's laid-datum.mjs) off the statement by which the dump's own 'gosem.cut.vars' lays the variable. In a bare row this is a premise. The card (YtmfcaoacklbkoaaDoorCards.lean) ties it to the program's text. -/
def laid_depot_relation_operators {H : Type} : DataW H := .agg [.agg [.lit (.int .i64 1), .lit (.string [60, 60]), .lit (.int .i64 (-1)), .lit (.int .i64 (-1))], .agg [.lit (.int .i64 2), .lit (.string [60, 61]), .lit (.int .i64 (-1)), .lit (.int .i64 0)], .agg [.lit (.int .i64 3), .lit (.string [61]), .lit (.int .i64 0), .lit (.int .i64 0)], .agg [.lit (.int .i64 4), .lit (.string [62, 61]), .lit (.int .i64 0), .lit (.int .i64 1)], .agg [.lit (.int .i64 5), .lit (.string [62, 62]), .lit (.int .i64 1), .lit (.int .i64 1)]]

/-- 'depotlaw22.RelationNumbers': WHATEVER THE INPUT: true; the input reads as it did. -/
def relationNumbersSpec : ChangeSpec := { name := "relationNumbers", fn := fun _ => fun
  | [] => { results := [.lit (.bool true)], args := [] }
  | _ => none }
def relationNumbersRow : OpenClaim := { program := "ytmfcaoacklbkoaadoor", sum := "3d67c89401621a54cab3cf7b98db0525d26ad7e985404a59f9907758e41c4f5c", func := "depot/depotlaw22.RelationNumbers", spec := "relationNumbers", inPlace := ["internal/bytealg.IndexByteString", "internal/bytealg.IndexString", "internal/abi.NoEscape"], unfollowed := true, recurses := true, named := ["depot/relation.operators", "internal/bytealg.MaxLen"], apart := false, laid := [("depot/relation.operators", laid_depot_relation_operators)] }
def RelationNumbersSaid : Prop := relationNumbersRow.holds Tryd.pinned (OpenSpec.ofChange relationNumbersSpec)

/-- ITS FALSE NEIGHBOUR: 'it returns false'. Refute it at one input. -/
def relationNumbersWrong : ChangeSpec := { name := "relationNumbers", fn := fun _ => fun
  | [] => { results := [.lit (.bool false)], args := [] }
  | _ => none }
def RelationNumbersWrongFalsely : Prop := relationNumbersRow.holds Tryd.pinned (OpenSpec.ofChange relationNumbersWrong)

/-- 'depotlaw22.RelationThere': WHATEVER THE INPUT: true; the input reads as it did. -/
def relationThereSpec : ChangeSpec := { name := "relationThere", fn := fun _ => fun
  | [d] => { results := [.lit (.bool true)], args := [d] }
  | _ => none }
def relationThereRow : OpenClaim := { program := "ytmfcaoacklbkoaadoor", sum := "3d67c89401621a54cab3cf7b98db0525d26ad7e985404a59f9907758e41c4f5c", func := "depot/depotlaw22.RelationThere", spec := "relationThere", inPlace := ["internal/bytealg.IndexByteString", "internal/bytealg.IndexString", "internal/abi.NoEscape"], unfollowed := true, recurses := true, named := ["depot/relation.operators", "internal/bytealg.MaxLen"], apart := false, laid := [("depot/relation.operators", laid_depot_relation_operators)] }
def RelationThereSaid : Prop := relationThereRow.holds Tryd.pinned (OpenSpec.ofChange relationThereSpec)

/-- ITS FALSE NEIGHBOUR: 'it returns false'. Refute it at one input. -/
def relationThereWrong : ChangeSpec := { name := "relationThere", fn := fun _ => fun
  | [d] => { results := [.lit (.bool false)], args := [d] }
  | _ => none }
def RelationThereWrongFalsely : Prop := relationThereRow.holds Tryd.pinned (OpenSpec.ofChange relationThereWrong)

/-- 'depotlaw22.RelationGaps': WHATEVER THE INPUT: true; the input reads as it did. -/
def relationGapsSpec : ChangeSpec := { name := "relationGaps", fn := fun _ => fun
  | [d1, d2] => { results := [.lit (.bool true)], args := [d1, d2] }
  | _ => none }
def relationGapsRow : OpenClaim := { program := "ytmfcaoacklbkoaadoor", sum := "3d67c89401621a54cab3cf7b98db0525d26ad7e985404a59f9907758e41c4f5c", func := "depot/depotlaw22.RelationGaps", spec := "relationGaps", inPlace := ["internal/bytealg.IndexByteString", "internal/bytealg.IndexString", "internal/abi.NoEscape"], unfollowed := true, recurses := true, named := ["depot/relation.operators", "internal/bytealg.MaxLen"], apart := false, laid := [("depot/relation.operators", laid_depot_relation_operators)] }
def RelationGapsSaid : Prop := relationGapsRow.holds Tryd.pinned (OpenSpec.ofChange relationGapsSpec)

/-- ITS FALSE NEIGHBOUR: 'it returns false'. Refute it at one input. -/
def relationGapsWrong : ChangeSpec := { name := "relationGaps", fn := fun _ => fun
  | [d1, d2] => { results := [.lit (.bool false)], args := [d1, d2] }
  | _ => none }
def RelationGapsWrongFalsely : Prop := relationGapsRow.holds Tryd.pinned (OpenSpec.ofChange relationGapsWrong)

/-- 'depotlaw22.RelationLists': WHATEVER THE INPUT: true; the input reads as it did. -/
def relationListsSpec : ChangeSpec := { name := "relationLists", fn := fun _ => fun
  | [d] => { results := [.lit (.bool true)], args := [d] }
  | _ => none }
def relationListsRow : OpenClaim := { program := "ytmfcaoacklbkoaadoor", sum := "3d67c89401621a54cab3cf7b98db0525d26ad7e985404a59f9907758e41c4f5c", func := "depot/depotlaw22.RelationLists", spec := "relationLists", inPlace := ["internal/bytealg.IndexByteString", "internal/bytealg.IndexString"], unfollowed := true, recurses := true, named := ["depot/relation.operators", "internal/bytealg.MaxLen"], apart := false, laid := [("depot/relation.operators", laid_depot_relation_operators)] }
def RelationListsSaid : Prop := relationListsRow.holds Tryd.pinned (OpenSpec.ofChange relationListsSpec)

/-- ITS FALSE NEIGHBOUR: 'it returns false'. Refute it at one input. -/
def relationListsWrong : ChangeSpec := { name := "relationLists", fn := fun _ => fun
  | [d] => { results := [.lit (.bool false)], args := [d] }
  | _ => none }
def RelationListsWrongFalsely : Prop := relationListsRow.holds Tryd.pinned (OpenSpec.ofChange relationListsWrong)

/-- 'depotlaw22.RelationKeeps': WHATEVER THE INPUT: true; the input reads as it did. -/
def relationKeepsSpec : ChangeSpec := { name := "relationKeeps", fn := fun _ => fun
  | [d1, d2] => { results := [.lit (.bool true)], args := [d1, d2] }
  | _ => none }
def relationKeepsRow : OpenClaim := { program := "ytmfcaoacklbkoaadoor", sum := "3d67c89401621a54cab3cf7b98db0525d26ad7e985404a59f9907758e41c4f5c", func := "depot/depotlaw22.RelationKeeps", spec := "relationKeeps", inPlace := ["internal/bytealg.IndexByteString", "internal/bytealg.IndexString", "internal/abi.NoEscape"], unfollowed := true, recurses := true, named := ["depot/relation.operators", "internal/bytealg.MaxLen"], apart := false, laid := [("depot/relation.operators", laid_depot_relation_operators)] }
def RelationKeepsSaid : Prop := relationKeepsRow.holds Tryd.pinned (OpenSpec.ofChange relationKeepsSpec)

/-- ITS FALSE NEIGHBOUR: 'it returns false'. Refute it at one input. -/
def relationKeepsWrong : ChangeSpec := { name := "relationKeeps", fn := fun _ => fun
  | [d1, d2] => { results := [.lit (.bool false)], args := [d1, d2] }
  | _ => none }
def RelationKeepsWrongFalsely : Prop := relationKeepsRow.holds Tryd.pinned (OpenSpec.ofChange relationKeepsWrong)

/- THE SECOND FORM. 'bulk': how many values and letters a reading holds, each counted each time it is reached (what is shared counts as often as it is met; a slice's spare places count too). A statement '..UptoSaid' is the law's where the arguments, and the package variables that the reading takes, are together of bulk at most 1048576: NARROWER than '..Said'. Prove '..Said' where nothing that the law and all that it calls make is longer than what came in: it says more and counts as full. Else prove '..UptoSaid'. A law counts once. -/
mutual
def uptoBulk {H : Type} : DataW H → Nat
  | .lit (.string bytes) => bytes.length + 1
  | .lit _ => 1
  | .nil => 1
  | .ptr d => uptoBulk d + 1
  | .slice elems spare => uptoBulkAll elems + uptoBulkAll spare + 1
  | .agg parts => uptoBulkAll parts + 1
  | .iface _ d => uptoBulk d + 1
  | .map entries => uptoBulkEntries entries + 1
  | .held _ => 1
def uptoBulkAll {H : Type} : List (DataW H) → Nat
  | [] => 0
  | d :: r => uptoBulk d + uptoBulkAll r
def uptoBulkEntries {H : Type} : List (Lit × DataW H) → Nat
  | [] => 0
  | x :: r => uptoBulkEntry x + uptoBulkEntries r
def uptoBulkEntry {H : Type} : Lit × DataW H → Nat
  | (.string bytes, d) => bytes.length + uptoBulk d + 1
  | (_, d) => uptoBulk d + 1
 end
def uptoSmall : (H : Type) → List (DataW H) → Bool := fun _ ds => decide (uptoBulkAll ds ≤ 1048576)
def OpenSpec.upto (s : _root_.Go.ChangeSpec) : _root_.Go.OpenSpec := { _root_.Go.OpenSpec.ofChange s with cond := some uptoSmall }

/-- 'depotlaw22.RelationNumbers', WHERE WHAT IT READS IS OF BULK AT MOST 1048576: true; the input reads as it did. -/
def relationNumbersUptoRow : OpenClaim := { program := "ytmfcaoacklbkoaadoor", sum := "3d67c89401621a54cab3cf7b98db0525d26ad7e985404a59f9907758e41c4f5c", func := "depot/depotlaw22.RelationNumbers", spec := "relationNumbers", inPlace := ["internal/bytealg.IndexByteString", "internal/bytealg.IndexString", "internal/abi.NoEscape"], unfollowed := true, recurses := true, named := ["depot/relation.operators", "internal/bytealg.MaxLen"], apart := false, laid := [("depot/relation.operators", laid_depot_relation_operators)], narrowed := true }
def RelationNumbersUptoSaid : Prop := relationNumbersUptoRow.holds Tryd.pinned (OpenSpec.upto relationNumbersSpec)

/-- 'depotlaw22.RelationThere', WHERE WHAT IT READS IS OF BULK AT MOST 1048576: true; the input reads as it did. -/
def relationThereUptoRow : OpenClaim := { program := "ytmfcaoacklbkoaadoor", sum := "3d67c89401621a54cab3cf7b98db0525d26ad7e985404a59f9907758e41c4f5c", func := "depot/depotlaw22.RelationThere", spec := "relationThere", inPlace := ["internal/bytealg.IndexByteString", "internal/bytealg.IndexString", "internal/abi.NoEscape"], unfollowed := true, recurses := true, named := ["depot/relation.operators", "internal/bytealg.MaxLen"], apart := false, laid := [("depot/relation.operators", laid_depot_relation_operators)], narrowed := true }
def RelationThereUptoSaid : Prop := relationThereUptoRow.holds Tryd.pinned (OpenSpec.upto relationThereSpec)

/-- 'depotlaw22.RelationGaps', WHERE WHAT IT READS IS OF BULK AT MOST 1048576: true; the input reads as it did. -/
def relationGapsUptoRow : OpenClaim := { program := "ytmfcaoacklbkoaadoor", sum := "3d67c89401621a54cab3cf7b98db0525d26ad7e985404a59f9907758e41c4f5c", func := "depot/depotlaw22.RelationGaps", spec := "relationGaps", inPlace := ["internal/bytealg.IndexByteString", "internal/bytealg.IndexString", "internal/abi.NoEscape"], unfollowed := true, recurses := true, named := ["depot/relation.operators", "internal/bytealg.MaxLen"], apart := false, laid := [("depot/relation.operators", laid_depot_relation_operators)], narrowed := true }
def RelationGapsUptoSaid : Prop := relationGapsUptoRow.holds Tryd.pinned (OpenSpec.upto relationGapsSpec)

/-- 'depotlaw22.RelationLists', WHERE WHAT IT READS IS OF BULK AT MOST 1048576: true; the input reads as it did. -/
def relationListsUptoRow : OpenClaim := { program := "ytmfcaoacklbkoaadoor", sum := "3d67c89401621a54cab3cf7b98db0525d26ad7e985404a59f9907758e41c4f5c", func := "depot/depotlaw22.RelationLists", spec := "relationLists", inPlace := ["internal/bytealg.IndexByteString", "internal/bytealg.IndexString"], unfollowed := true, recurses := true, named := ["depot/relation.operators", "internal/bytealg.MaxLen"], apart := false, laid := [("depot/relation.operators", laid_depot_relation_operators)], narrowed := true }
def RelationListsUptoSaid : Prop := relationListsUptoRow.holds Tryd.pinned (OpenSpec.upto relationListsSpec)

/-- 'depotlaw22.RelationKeeps', WHERE WHAT IT READS IS OF BULK AT MOST 1048576: true; the input reads as it did. -/
def relationKeepsUptoRow : OpenClaim := { program := "ytmfcaoacklbkoaadoor", sum := "3d67c89401621a54cab3cf7b98db0525d26ad7e985404a59f9907758e41c4f5c", func := "depot/depotlaw22.RelationKeeps", spec := "relationKeeps", inPlace := ["internal/bytealg.IndexByteString", "internal/bytealg.IndexString", "internal/abi.NoEscape"], unfollowed := true, recurses := true, named := ["depot/relation.operators", "internal/bytealg.MaxLen"], apart := false, laid := [("depot/relation.operators", laid_depot_relation_operators)], narrowed := true }
def RelationKeepsUptoSaid : Prop := relationKeepsUptoRow.holds Tryd.pinned (OpenSpec.upto relationKeepsSpec)

end Rows
end Go.Proofs.YtmfcaoacklbkoaaDoor

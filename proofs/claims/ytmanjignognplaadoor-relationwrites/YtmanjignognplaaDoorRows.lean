/-
  NARROWER THAN 'FOR EVERY INPUT', by the rows' own cells (each row's printed sentence says how): RelationForms: laid · RelationReads: laid · RelationWrites: laid.
  DERIVED. THE GIVEN ROWS OF THIS SEAT. 3 by the template 'for every input the law returns true; each argument reads behind the call as it read before'; 0 by the template 'total and deterministic' (their statements: YtmanjignognplaaDoorTotals.lean).
  GIVEN WITH THE SEED: the statements are not yours to turn. If you find one false, say at which input.
  Laid BY PROGRAM, IN A SANDBOX (cutbox-rows.mjs): the forced cells as the released guide's own fill.sh prints them over the translation 152458d903e6ef75… (all of the seat's roots in one cut). By AI agents, Wed Nov 11 2026. No macro, syntax, notation, axiom, sorry.
-/
import Derived.Test.YtmanjignognplaaDoorChecked
import GoSem.Claim
import GoSem.ClaimJoined
import GoSem.ClaimMapViews
import Derived.JoinedTies
import Derived.KernelRfl
namespace Go.Proofs.YtmanjignognplaaDoor
/- THE CELL 'sum', in the pinned program and in every row, IS THE sha256 OF THE DUMP (.gsa) THAT YtmanjignognplaaDoorProg.lean LOADS. Nothing in Lean hashes anything: it is a label: what it is worth is what the hold of that sum in a sandbox is worth. -/
noncomputable def Tryd.pinned : Pinned := { name := "ytmanjignognplaadoor", sum := "152458d903e6ef75eefda1b9e2d635af029b6e1b8c9bb78260e5fc7fc7bc876a", checked := Tryd.checked }
namespace Rows
def none {H : Type} : Left H := { results := [], args := [] }

/- WHAT THE LISTED PACKAGE-LEVEL VARIABLES READ AS WHEN THE CALL BEGINS. Each datum BY PROGRAM (the guide's laid-datum.mjs) off the statement by which the dump's own 'gosem.cut.vars' lays the variable. In a bare row this is a premise. The card (YtmanjignognplaaDoorCards.lean) ties it to the program's text. -/
def laid_depot_relation_operators {H : Type} : DataW H := .agg [.agg [.lit (.int .i64 1), .lit (.string [60, 60]), .lit (.int .i64 (-1)), .lit (.int .i64 (-1))], .agg [.lit (.int .i64 2), .lit (.string [60, 61]), .lit (.int .i64 (-1)), .lit (.int .i64 0)], .agg [.lit (.int .i64 3), .lit (.string [61]), .lit (.int .i64 0), .lit (.int .i64 0)], .agg [.lit (.int .i64 4), .lit (.string [62, 61]), .lit (.int .i64 0), .lit (.int .i64 1)], .agg [.lit (.int .i64 5), .lit (.string [62, 62]), .lit (.int .i64 1), .lit (.int .i64 1)]]

/-- 'depotlaw22.RelationForms': WHATEVER THE INPUT: true; the input reads as it did. -/
def relationFormsSpec : ChangeSpec := { name := "relationForms", fn := fun _ => fun
  | [d1, d2] => { results := [.lit (.bool true)], args := [d1, d2] }
  | _ => none }
def relationFormsRow : OpenClaim := { program := "ytmanjignognplaadoor", sum := "152458d903e6ef75eefda1b9e2d635af029b6e1b8c9bb78260e5fc7fc7bc876a", func := "depot/depotlaw22.RelationForms", spec := "relationForms", inPlace := ["internal/bytealg.IndexByteString", "internal/bytealg.IndexString"], unfollowed := true, recurses := true, named := ["depot/relation.operators", "internal/bytealg.MaxLen"], apart := false, laid := [("depot/relation.operators", laid_depot_relation_operators)] }
def RelationFormsSaid : Prop := relationFormsRow.holds Tryd.pinned (OpenSpec.ofChange relationFormsSpec)

/-- ITS FALSE NEIGHBOUR: 'it returns false'. Refute it at one input. -/
def relationFormsWrong : ChangeSpec := { name := "relationForms", fn := fun _ => fun
  | [d1, d2] => { results := [.lit (.bool false)], args := [d1, d2] }
  | _ => none }
def RelationFormsWrongFalsely : Prop := relationFormsRow.holds Tryd.pinned (OpenSpec.ofChange relationFormsWrong)

/-- 'depotlaw22.RelationReads': WHATEVER THE INPUT: true; the input reads as it did. -/
def relationReadsSpec : ChangeSpec := { name := "relationReads", fn := fun _ => fun
  | [d] => { results := [.lit (.bool true)], args := [d] }
  | _ => none }
def relationReadsRow : OpenClaim := { program := "ytmanjignognplaadoor", sum := "152458d903e6ef75eefda1b9e2d635af029b6e1b8c9bb78260e5fc7fc7bc876a", func := "depot/depotlaw22.RelationReads", spec := "relationReads", inPlace := ["internal/bytealg.IndexByteString", "internal/bytealg.IndexString"], unfollowed := true, recurses := true, named := ["depot/relation.operators", "internal/bytealg.MaxLen"], apart := false, laid := [("depot/relation.operators", laid_depot_relation_operators)] }
def RelationReadsSaid : Prop := relationReadsRow.holds Tryd.pinned (OpenSpec.ofChange relationReadsSpec)

/-- ITS FALSE NEIGHBOUR: 'it returns false'. Refute it at one input. -/
def relationReadsWrong : ChangeSpec := { name := "relationReads", fn := fun _ => fun
  | [d] => { results := [.lit (.bool false)], args := [d] }
  | _ => none }
def RelationReadsWrongFalsely : Prop := relationReadsRow.holds Tryd.pinned (OpenSpec.ofChange relationReadsWrong)

/-- 'depotlaw22.RelationWrites': WHATEVER THE INPUT: true; the input reads as it did. -/
def relationWritesSpec : ChangeSpec := { name := "relationWrites", fn := fun _ => fun
  | [d] => { results := [.lit (.bool true)], args := [d] }
  | _ => none }
def relationWritesRow : OpenClaim := { program := "ytmanjignognplaadoor", sum := "152458d903e6ef75eefda1b9e2d635af029b6e1b8c9bb78260e5fc7fc7bc876a", func := "depot/depotlaw22.RelationWrites", spec := "relationWrites", inPlace := ["internal/bytealg.IndexByteString", "internal/bytealg.IndexString", "internal/abi.NoEscape"], unfollowed := true, recurses := true, named := ["depot/relation.operators", "internal/bytealg.MaxLen"], apart := false, laid := [("depot/relation.operators", laid_depot_relation_operators)] }
def RelationWritesSaid : Prop := relationWritesRow.holds Tryd.pinned (OpenSpec.ofChange relationWritesSpec)

/-- ITS FALSE NEIGHBOUR: 'it returns false'. Refute it at one input. -/
def relationWritesWrong : ChangeSpec := { name := "relationWrites", fn := fun _ => fun
  | [d] => { results := [.lit (.bool false)], args := [d] }
  | _ => none }
def RelationWritesWrongFalsely : Prop := relationWritesRow.holds Tryd.pinned (OpenSpec.ofChange relationWritesWrong)

/- THE SECOND FORM. 'bulk': how many values and letters a reading holds, each counted each time it is reached (what is shared counts as often as it is met; a slice's spare places count too). A statement '..UptoSaid' is the law's where the arguments, and the package variables that the reading takes, are together of bulk at most 1048576: NARROWER than '..Said'. Prove '..Said' where nothing that the law and all that it calls make is longer than what came in: it says more and counts as full. Else prove '..UptoSaid'. A law counts once. -/
mutual
def uptoBulk {H : Type} : DataW H → Nat
  | .lit (.string bytes) => bytes.length + 1
  | .lit _ => 1
  | .nil => 1
  | .ptr d => uptoBulk d + 1
  | .slice elems spare => uptoBulkAll elems + uptoBulkAll spare + 1
  | .agg parts => uptoBulkAll parts + 1
  | .iface _ d => uptoBulk d + 1
  | .map entries => uptoBulkEntries entries + 1
  | .held _ => 1
def uptoBulkAll {H : Type} : List (DataW H) → Nat
  | [] => 0
  | d :: r => uptoBulk d + uptoBulkAll r
def uptoBulkEntries {H : Type} : List (Lit × DataW H) → Nat
  | [] => 0
  | x :: r => uptoBulkEntry x + uptoBulkEntries r
def uptoBulkEntry {H : Type} : Lit × DataW H → Nat
  | (.string bytes, d) => bytes.length + uptoBulk d + 1
  | (_, d) => uptoBulk d + 1
 end
def uptoSmall : (H : Type) → List (DataW H) → Bool := fun _ ds => decide (uptoBulkAll ds ≤ 1048576)
def OpenSpec.upto (s : _root_.Go.ChangeSpec) : _root_.Go.OpenSpec := { _root_.Go.OpenSpec.ofChange s with cond := some uptoSmall }

/-- 'depotlaw22.RelationForms', WHERE WHAT IT READS IS OF BULK AT MOST 1048576: true; the input reads as it did. -/
def relationFormsUptoRow : OpenClaim := { program := "ytmanjignognplaadoor", sum := "152458d903e6ef75eefda1b9e2d635af029b6e1b8c9bb78260e5fc7fc7bc876a", func := "depot/depotlaw22.RelationForms", spec := "relationForms", inPlace := ["internal/bytealg.IndexByteString", "internal/bytealg.IndexString"], unfollowed := true, recurses := true, named := ["depot/relation.operators", "internal/bytealg.MaxLen"], apart := false, laid := [("depot/relation.operators", laid_depot_relation_operators)], narrowed := true }
def RelationFormsUptoSaid : Prop := relationFormsUptoRow.holds Tryd.pinned (OpenSpec.upto relationFormsSpec)

/-- 'depotlaw22.RelationReads', WHERE WHAT IT READS IS OF BULK AT MOST 1048576: true; the input reads as it did. -/
def relationReadsUptoRow : OpenClaim := { program := "ytmanjignognplaadoor", sum := "152458d903e6ef75eefda1b9e2d635af029b6e1b8c9bb78260e5fc7fc7bc876a", func := "depot/depotlaw22.RelationReads", spec := "relationReads", inPlace := ["internal/bytealg.IndexByteString", "internal/bytealg.IndexString"], unfollowed := true, recurses := true, named := ["depot/relation.operators", "internal/bytealg.MaxLen"], apart := false, laid := [("depot/relation.operators", laid_depot_relation_operators)], narrowed := true }
def RelationReadsUptoSaid : Prop := relationReadsUptoRow.holds Tryd.pinned (OpenSpec.upto relationReadsSpec)

/-- 'depotlaw22.RelationWrites', WHERE WHAT IT READS IS OF BULK AT MOST 1048576: true; the input reads as it did. -/
def relationWritesUptoRow : OpenClaim := { program := "ytmanjignognplaadoor", sum := "152458d903e6ef75eefda1b9e2d635af029b6e1b8c9bb78260e5fc7fc7bc876a", func := "depot/depotlaw22.RelationWrites", spec := "relationWrites", inPlace := ["internal/bytealg.IndexByteString", "internal/bytealg.IndexString", "internal/abi.NoEscape"], unfollowed := true, recurses := true, named := ["depot/relation.operators", "internal/bytealg.MaxLen"], apart := false, laid := [("depot/relation.operators", laid_depot_relation_operators)], narrowed := true }
def RelationWritesUptoSaid : Prop := relationWritesUptoRow.holds Tryd.pinned (OpenSpec.upto relationWritesSpec)

end Rows
end Go.Proofs.YtmanjignognplaaDoor

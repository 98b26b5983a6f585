/-
  No cell of these rows narrows 'for every input' (looked for: loops, veiled, ifaces, maps, wideKeys, modest, calm, conditions, laid).
  DERIVED. THE GIVEN ROWS OF THIS SEAT. 4 by the template 'for every input the law returns true; each argument reads behind the call as it read before'; 0 by the template 'total and deterministic' (their statements: YtefjpcleknchlaaTotals.lean).
  GIVEN WITH THE SEED: the statements are not yours to turn. If you find one false, say at which input.
  Laid BY PROGRAM, IN A SANDBOX (cutbox-rows.mjs): the forced cells as the released guide's own fill.sh prints them over the translation 753f77df53338c73… (all of the seat's roots in one cut). By AI agents, Wed Nov 11 2026. No macro, syntax, notation, axiom, sorry.
-/
import Derived.Test.YtefjpcleknchlaaChecked
import GoSem.Claim
import GoSem.ClaimJoined
import GoSem.ClaimMapViews
import Derived.JoinedTies
import Derived.KernelRfl
namespace Go.Proofs.Ytefjpcleknchlaa
/- THE CELL 'sum', in the pinned program and in every row, IS THE sha256 OF THE DUMP (.gsa) THAT YtefjpcleknchlaaProg.lean LOADS. Nothing in Lean hashes anything: it is a label: what it is worth is what the hold of that sum in a sandbox is worth. -/
noncomputable def Try.pinned : Pinned := { name := "ytefjpcleknchlaa", sum := "753f77df53338c73271fe09a6e3a78381cb3a67cda166ce47894c9907ab52961", checked := Try.checked }
namespace Rows
def none {H : Type} : Left H := { results := [], args := [] }

/-- 'depotlaw02.CnfShape': WHATEVER THE INPUT: true; the input reads as it did. -/
def cnfShapeSpec : ChangeSpec := { name := "cnfShape", fn := fun _ => fun
  | [d] => { results := [.lit (.bool true)], args := [d] }
  | _ => none }
def cnfShapeRow : OpenClaim := { program := "ytefjpcleknchlaa", sum := "753f77df53338c73271fe09a6e3a78381cb3a67cda166ce47894c9907ab52961", func := "depot/depotlaw02.CnfShape", spec := "cnfShape", apart := false }
def CnfShapeSaid : Prop := cnfShapeRow.holds Try.pinned (OpenSpec.ofChange cnfShapeSpec)

/-- ITS FALSE NEIGHBOUR: 'it returns false'. Refute it at one input. -/
def cnfShapeWrong : ChangeSpec := { name := "cnfShape", fn := fun _ => fun
  | [d] => { results := [.lit (.bool false)], args := [d] }
  | _ => none }
def CnfShapeWrongFalsely : Prop := cnfShapeRow.holds Try.pinned (OpenSpec.ofChange cnfShapeWrong)

/-- 'depotlaw02.CnfJoins': WHATEVER THE INPUT: true; the input reads as it did. -/
def cnfJoinsSpec : ChangeSpec := { name := "cnfJoins", fn := fun _ => fun
  | [d1, d2] => { results := [.lit (.bool true)], args := [d1, d2] }
  | _ => none }
def cnfJoinsRow : OpenClaim := { program := "ytefjpcleknchlaa", sum := "753f77df53338c73271fe09a6e3a78381cb3a67cda166ce47894c9907ab52961", func := "depot/depotlaw02.CnfJoins", spec := "cnfJoins", apart := false }
def CnfJoinsSaid : Prop := cnfJoinsRow.holds Try.pinned (OpenSpec.ofChange cnfJoinsSpec)

/-- ITS FALSE NEIGHBOUR: 'it returns false'. Refute it at one input. -/
def cnfJoinsWrong : ChangeSpec := { name := "cnfJoins", fn := fun _ => fun
  | [d1, d2] => { results := [.lit (.bool false)], args := [d1, d2] }
  | _ => none }
def CnfJoinsWrongFalsely : Prop := cnfJoinsRow.holds Try.pinned (OpenSpec.ofChange cnfJoinsWrong)

/-- 'depotlaw02.CnfTold': WHATEVER THE INPUT: true; the input reads as it did. -/
def cnfToldSpec : ChangeSpec := { name := "cnfTold", fn := fun _ => fun
  | [d1, d2] => { results := [.lit (.bool true)], args := [d1, d2] }
  | _ => none }
def cnfToldRow : OpenClaim := { program := "ytefjpcleknchlaa", sum := "753f77df53338c73271fe09a6e3a78381cb3a67cda166ce47894c9907ab52961", func := "depot/depotlaw02.CnfTold", spec := "cnfTold", apart := false }
def CnfToldSaid : Prop := cnfToldRow.holds Try.pinned (OpenSpec.ofChange cnfToldSpec)

/-- ITS FALSE NEIGHBOUR: 'it returns false'. Refute it at one input. -/
def cnfToldWrong : ChangeSpec := { name := "cnfTold", fn := fun _ => fun
  | [d1, d2] => { results := [.lit (.bool false)], args := [d1, d2] }
  | _ => none }
def CnfToldWrongFalsely : Prop := cnfToldRow.holds Try.pinned (OpenSpec.ofChange cnfToldWrong)

/-- 'depotlaw02.CnfLeft': WHATEVER THE INPUT: true; the input reads as it did. -/
def cnfLeftSpec : ChangeSpec := { name := "cnfLeft", fn := fun _ => fun
  | [d1, d2] => { results := [.lit (.bool true)], args := [d1, d2] }
  | _ => none }
def cnfLeftRow : OpenClaim := { program := "ytefjpcleknchlaa", sum := "753f77df53338c73271fe09a6e3a78381cb3a67cda166ce47894c9907ab52961", func := "depot/depotlaw02.CnfLeft", spec := "cnfLeft", recurses := true, apart := false }
def CnfLeftSaid : Prop := cnfLeftRow.holds Try.pinned (OpenSpec.ofChange cnfLeftSpec)

/-- ITS FALSE NEIGHBOUR: 'it returns false'. Refute it at one input. -/
def cnfLeftWrong : ChangeSpec := { name := "cnfLeft", fn := fun _ => fun
  | [d1, d2] => { results := [.lit (.bool false)], args := [d1, d2] }
  | _ => none }
def CnfLeftWrongFalsely : Prop := cnfLeftRow.holds Try.pinned (OpenSpec.ofChange cnfLeftWrong)

/- THE SECOND FORM. 'bulk': how many values and letters a reading holds, each counted each time it is reached (what is shared counts as often as it is met; a slice's spare places count too). A statement '..UptoSaid' is the law's where the arguments, and the package variables that the reading takes, are together of bulk at most 1048576: NARROWER than '..Said'. Prove '..Said' where nothing that the law and all that it calls make is longer than what came in: it says more and counts as full. Else prove '..UptoSaid'. A law counts once. -/
mutual
def uptoBulk {H : Type} : DataW H → Nat
  | .lit (.string bytes) => bytes.length + 1
  | .lit _ => 1
  | .nil => 1
  | .ptr d => uptoBulk d + 1
  | .slice elems spare => uptoBulkAll elems + uptoBulkAll spare + 1
  | .agg parts => uptoBulkAll parts + 1
  | .iface _ d => uptoBulk d + 1
  | .map entries => uptoBulkEntries entries + 1
  | .held _ => 1
def uptoBulkAll {H : Type} : List (DataW H) → Nat
  | [] => 0
  | d :: r => uptoBulk d + uptoBulkAll r
def uptoBulkEntries {H : Type} : List (Lit × DataW H) → Nat
  | [] => 0
  | x :: r => uptoBulkEntry x + uptoBulkEntries r
def uptoBulkEntry {H : Type} : Lit × DataW H → Nat
  | (.string bytes, d) => bytes.length + uptoBulk d + 1
  | (_, d) => uptoBulk d + 1
 end
def uptoSmall : (H : Type) → List (DataW H) → Bool := fun _ ds => decide (uptoBulkAll ds ≤ 1048576)
def OpenSpec.upto (s : _root_.Go.ChangeSpec) : _root_.Go.OpenSpec := { _root_.Go.OpenSpec.ofChange s with cond := some uptoSmall }

/-- 'depotlaw02.CnfShape', WHERE WHAT IT READS IS OF BULK AT MOST 1048576: true; the input reads as it did. -/
def cnfShapeUptoRow : OpenClaim := { program := "ytefjpcleknchlaa", sum := "753f77df53338c73271fe09a6e3a78381cb3a67cda166ce47894c9907ab52961", func := "depot/depotlaw02.CnfShape", spec := "cnfShape", apart := false, narrowed := true }
def CnfShapeUptoSaid : Prop := cnfShapeUptoRow.holds Try.pinned (OpenSpec.upto cnfShapeSpec)

/-- 'depotlaw02.CnfJoins', WHERE WHAT IT READS IS OF BULK AT MOST 1048576: true; the input reads as it did. -/
def cnfJoinsUptoRow : OpenClaim := { program := "ytefjpcleknchlaa", sum := "753f77df53338c73271fe09a6e3a78381cb3a67cda166ce47894c9907ab52961", func := "depot/depotlaw02.CnfJoins", spec := "cnfJoins", apart := false, narrowed := true }
def CnfJoinsUptoSaid : Prop := cnfJoinsUptoRow.holds Try.pinned (OpenSpec.upto cnfJoinsSpec)

/-- 'depotlaw02.CnfTold', WHERE WHAT IT READS IS OF BULK AT MOST 1048576: true; the input reads as it did. -/
def cnfToldUptoRow : OpenClaim := { program := "ytefjpcleknchlaa", sum := "753f77df53338c73271fe09a6e3a78381cb3a67cda166ce47894c9907ab52961", func := "depot/depotlaw02.CnfTold", spec := "cnfTold", apart := false, narrowed := true }
def CnfToldUptoSaid : Prop := cnfToldUptoRow.holds Try.pinned (OpenSpec.upto cnfToldSpec)

/-- 'depotlaw02.CnfLeft', WHERE WHAT IT READS IS OF BULK AT MOST 1048576: true; the input reads as it did. -/
def cnfLeftUptoRow : OpenClaim := { program := "ytefjpcleknchlaa", sum := "753f77df53338c73271fe09a6e3a78381cb3a67cda166ce47894c9907ab52961", func := "depot/depotlaw02.CnfLeft", spec := "cnfLeft", recurses := true, apart := false, narrowed := true }
def CnfLeftUptoSaid : Prop := cnfLeftUptoRow.holds Try.pinned (OpenSpec.upto cnfLeftSpec)

end Rows
end Go.Proofs.Ytefjpcleknchlaa

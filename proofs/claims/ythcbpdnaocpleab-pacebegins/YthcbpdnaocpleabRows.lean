/-
  No cell of these rows narrows 'for every input' (looked for: loops, veiled, ifaces, maps, wideKeys, modest, calm, conditions, laid).
  DERIVED. THE GIVEN ROWS OF THIS SEAT. 4 by the template 'for every input the law returns true; each argument reads behind the call as it read before'; 0 by the template 'total and deterministic' (their statements: YthcbpdnaocpleabTotals.lean).
  GIVEN WITH THE SEED: the statements are not yours to turn. If you find one false, say at which input.
  Laid BY PROGRAM, IN A SANDBOX (cutbox-rows.mjs): the forced cells as the released guide's own fill.sh prints them over the translation f2d1b09058c9313d… (all of the seat's roots in one cut). By AI agents, Wed Nov 11 2026. No macro, syntax, notation, axiom, sorry.
-/
import Derived.Test.YthcbpdnaocpleabChecked
import GoSem.Claim
import GoSem.ClaimJoined
import GoSem.ClaimMapViews
import Derived.JoinedTies
import Derived.KernelRfl
namespace Go.Proofs.Ythcbpdnaocpleab
/- THE CELL 'sum', in the pinned program and in every row, IS THE sha256 OF THE DUMP (.gsa) THAT YthcbpdnaocpleabProg.lean LOADS. Nothing in Lean hashes anything: it is a label: what it is worth is what the hold of that sum in a sandbox is worth. -/
noncomputable def Try.pinned : Pinned := { name := "ythcbpdnaocpleab", sum := "f2d1b09058c9313d367b73d0039b12ac775c5f5db48cc71047e50abbb548b197", checked := Try.checked }
namespace Rows
def none {H : Type} : Left H := { results := [], args := [] }

/-- 'depotlaw13.PaceDoubles': WHATEVER THE INPUT: true; the input reads as it did. -/
def paceDoublesSpec : ChangeSpec := { name := "paceDoubles", fn := fun _ => fun
  | [d] => { results := [.lit (.bool true)], args := [d] }
  | _ => none }
def paceDoublesRow : OpenClaim := { program := "ythcbpdnaocpleab", sum := "f2d1b09058c9313d367b73d0039b12ac775c5f5db48cc71047e50abbb548b197", func := "depot/depotlaw13.PaceDoubles", spec := "paceDoubles", apart := false }
def PaceDoublesSaid : Prop := paceDoublesRow.holds Try.pinned (OpenSpec.ofChange paceDoublesSpec)

/-- ITS FALSE NEIGHBOUR: 'it returns false'. Refute it at one input. -/
def paceDoublesWrong : ChangeSpec := { name := "paceDoubles", fn := fun _ => fun
  | [d] => { results := [.lit (.bool false)], args := [d] }
  | _ => none }
def PaceDoublesWrongFalsely : Prop := paceDoublesRow.holds Try.pinned (OpenSpec.ofChange paceDoublesWrong)

/-- 'depotlaw13.PaceSpans': WHATEVER THE INPUT: true; the input reads as it did. -/
def paceSpansSpec : ChangeSpec := { name := "paceSpans", fn := fun _ => fun
  | [d1, d2] => { results := [.lit (.bool true)], args := [d1, d2] }
  | _ => none }
def paceSpansRow : OpenClaim := { program := "ythcbpdnaocpleab", sum := "f2d1b09058c9313d367b73d0039b12ac775c5f5db48cc71047e50abbb548b197", func := "depot/depotlaw13.PaceSpans", spec := "paceSpans", unfollowed := true, recurses := true, apart := false }
def PaceSpansSaid : Prop := paceSpansRow.holds Try.pinned (OpenSpec.ofChange paceSpansSpec)

/-- ITS FALSE NEIGHBOUR: 'it returns false'. Refute it at one input. -/
def paceSpansWrong : ChangeSpec := { name := "paceSpans", fn := fun _ => fun
  | [d1, d2] => { results := [.lit (.bool false)], args := [d1, d2] }
  | _ => none }
def PaceSpansWrongFalsely : Prop := paceSpansRow.holds Try.pinned (OpenSpec.ofChange paceSpansWrong)

/-- 'depotlaw13.PaceBegins': WHATEVER THE INPUT: true; the input reads as it did. -/
def paceBeginsSpec : ChangeSpec := { name := "paceBegins", fn := fun _ => fun
  | [d1, d2, d3] => { results := [.lit (.bool true)], args := [d1, d2, d3] }
  | _ => none }
def paceBeginsRow : OpenClaim := { program := "ythcbpdnaocpleab", sum := "f2d1b09058c9313d367b73d0039b12ac775c5f5db48cc71047e50abbb548b197", func := "depot/depotlaw13.PaceBegins", spec := "paceBegins", unfollowed := true, recurses := true, apart := false }
def PaceBeginsSaid : Prop := paceBeginsRow.holds Try.pinned (OpenSpec.ofChange paceBeginsSpec)

/-- ITS FALSE NEIGHBOUR: 'it returns false'. Refute it at one input. -/
def paceBeginsWrong : ChangeSpec := { name := "paceBegins", fn := fun _ => fun
  | [d1, d2, d3] => { results := [.lit (.bool false)], args := [d1, d2, d3] }
  | _ => none }
def PaceBeginsWrongFalsely : Prop := paceBeginsRow.holds Try.pinned (OpenSpec.ofChange paceBeginsWrong)

/-- 'depotlaw13.PaceKeeps': WHATEVER THE INPUT: true; the input reads as it did. -/
def paceKeepsSpec : ChangeSpec := { name := "paceKeeps", fn := fun _ => fun
  | [d1, d2, d3] => { results := [.lit (.bool true)], args := [d1, d2, d3] }
  | _ => none }
def paceKeepsRow : OpenClaim := { program := "ythcbpdnaocpleab", sum := "f2d1b09058c9313d367b73d0039b12ac775c5f5db48cc71047e50abbb548b197", func := "depot/depotlaw13.PaceKeeps", spec := "paceKeeps", unfollowed := true, recurses := true, apart := false }
def PaceKeepsSaid : Prop := paceKeepsRow.holds Try.pinned (OpenSpec.ofChange paceKeepsSpec)

/-- ITS FALSE NEIGHBOUR: 'it returns false'. Refute it at one input. -/
def paceKeepsWrong : ChangeSpec := { name := "paceKeeps", fn := fun _ => fun
  | [d1, d2, d3] => { results := [.lit (.bool false)], args := [d1, d2, d3] }
  | _ => none }
def PaceKeepsWrongFalsely : Prop := paceKeepsRow.holds Try.pinned (OpenSpec.ofChange paceKeepsWrong)

/- THE SECOND FORM. 'bulk': how many values and letters a reading holds, each counted each time it is reached (what is shared counts as often as it is met; a slice's spare places count too). A statement '..UptoSaid' is the law's where the arguments, and the package variables that the reading takes, are together of bulk at most 1048576: NARROWER than '..Said'. Prove '..Said' where nothing that the law and all that it calls make is longer than what came in: it says more and counts as full. Else prove '..UptoSaid'. A law counts once. -/
mutual
def uptoBulk {H : Type} : DataW H → Nat
  | .lit (.string bytes) => bytes.length + 1
  | .lit _ => 1
  | .nil => 1
  | .ptr d => uptoBulk d + 1
  | .slice elems spare => uptoBulkAll elems + uptoBulkAll spare + 1
  | .agg parts => uptoBulkAll parts + 1
  | .iface _ d => uptoBulk d + 1
  | .map entries => uptoBulkEntries entries + 1
  | .held _ => 1
def uptoBulkAll {H : Type} : List (DataW H) → Nat
  | [] => 0
  | d :: r => uptoBulk d + uptoBulkAll r
def uptoBulkEntries {H : Type} : List (Lit × DataW H) → Nat
  | [] => 0
  | x :: r => uptoBulkEntry x + uptoBulkEntries r
def uptoBulkEntry {H : Type} : Lit × DataW H → Nat
  | (.string bytes, d) => bytes.length + uptoBulk d + 1
  | (_, d) => uptoBulk d + 1
 end
def uptoSmall : (H : Type) → List (DataW H) → Bool := fun _ ds => decide (uptoBulkAll ds ≤ 1048576)
def OpenSpec.upto (s : _root_.Go.ChangeSpec) : _root_.Go.OpenSpec := { _root_.Go.OpenSpec.ofChange s with cond := some uptoSmall }

/-- 'depotlaw13.PaceDoubles', WHERE WHAT IT READS IS OF BULK AT MOST 1048576: true; the input reads as it did. -/
def paceDoublesUptoRow : OpenClaim := { program := "ythcbpdnaocpleab", sum := "f2d1b09058c9313d367b73d0039b12ac775c5f5db48cc71047e50abbb548b197", func := "depot/depotlaw13.PaceDoubles", spec := "paceDoubles", apart := false, narrowed := true }
def PaceDoublesUptoSaid : Prop := paceDoublesUptoRow.holds Try.pinned (OpenSpec.upto paceDoublesSpec)

/-- 'depotlaw13.PaceSpans', WHERE WHAT IT READS IS OF BULK AT MOST 1048576: true; the input reads as it did. -/
def paceSpansUptoRow : OpenClaim := { program := "ythcbpdnaocpleab", sum := "f2d1b09058c9313d367b73d0039b12ac775c5f5db48cc71047e50abbb548b197", func := "depot/depotlaw13.PaceSpans", spec := "paceSpans", unfollowed := true, recurses := true, apart := false, narrowed := true }
def PaceSpansUptoSaid : Prop := paceSpansUptoRow.holds Try.pinned (OpenSpec.upto paceSpansSpec)

/-- 'depotlaw13.PaceBegins', WHERE WHAT IT READS IS OF BULK AT MOST 1048576: true; the input reads as it did. -/
def paceBeginsUptoRow : OpenClaim := { program := "ythcbpdnaocpleab", sum := "f2d1b09058c9313d367b73d0039b12ac775c5f5db48cc71047e50abbb548b197", func := "depot/depotlaw13.PaceBegins", spec := "paceBegins", unfollowed := true, recurses := true, apart := false, narrowed := true }
def PaceBeginsUptoSaid : Prop := paceBeginsUptoRow.holds Try.pinned (OpenSpec.upto paceBeginsSpec)

/-- 'depotlaw13.PaceKeeps', WHERE WHAT IT READS IS OF BULK AT MOST 1048576: true; the input reads as it did. -/
def paceKeepsUptoRow : OpenClaim := { program := "ythcbpdnaocpleab", sum := "f2d1b09058c9313d367b73d0039b12ac775c5f5db48cc71047e50abbb548b197", func := "depot/depotlaw13.PaceKeeps", spec := "paceKeeps", unfollowed := true, recurses := true, apart := false, narrowed := true }
def PaceKeepsUptoSaid : Prop := paceKeepsUptoRow.holds Try.pinned (OpenSpec.upto paceKeepsSpec)

end Rows
end Go.Proofs.Ythcbpdnaocpleab

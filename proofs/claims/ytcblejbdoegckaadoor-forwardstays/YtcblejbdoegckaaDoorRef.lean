/-
  The document's answer, walked: merged.
-/
import Derived.Test.YtcblejbdoegckaaDoorLists
import Derived.Test.YtcblejbdoegckaaDoorPlainRef
import Derived.WalkSpells
import Derived.Deep.LoopGhost
set_option linter.unusedSimpArgs false
set_option linter.unusedVariables false
namespace Go.Proofs.YtcblejbdoegckaaDoor
open Go.RowKit

/-- a cell of a list that is read, in a world that has grown -/
theorem cell_in {w wr : World} {b off k : Nat} {zs : List Int} (hb : b < w.heap.size) (bel : Below w.heap.size w wr) (hc : ∀ j, j < zs.length → w.cell? ⟨b, off + j, none⟩ = some (.int .i64 (zs.getD j 0))) (hk : k < zs.length) : wr.cell? ⟨b, off + k, none⟩ = some (.int .i64 (zs.getD k 0)) :=
  (bel.cell (p := ⟨b, off + k, none⟩) hb).trans (hc k hk)
theorem own_grow1 {base : Nat} {w : World} {v : Value} {out : List Int} {x : Int} (h : w.ownsRow base 3 1 v (out.length + 1) (out.map (Value.int .i64) ++ [.int .i64 x])) : Own base w v (out ++ [x]) := by
  simpa [Own] using h

/-- the address behind a list that is not empty -/
def AddrOf (w : World) (a : Option Addr) (zs : List Int) : Prop := zs ≠ [] → ∃ b off, a = some ⟨b, off, none⟩ ∧ b < w.heap.size ∧ ∀ j, j < zs.length → w.cell? ⟨b, off + j, none⟩ = some (.int .i64 (zs.getD j 0))

end Go.Proofs.YtcblejbdoegckaaDoor

/-
  What ReadAnswer says, in memory.
  KEEP: box own below mono lt set kept new trans refl app on grown cell out block size os tape output c f c0 c1 f0 f1 len nil form rd rds low set0 set1 not_row at row ap bel bx ge lit fin tx or rdz be one
-/
import Derived.Test.YtlkbbbbclmffjaaGreatDoorJText
import Derived.Test.YtlkbbbbclmffjaaGreatDoorJGrow
import Derived.Test.YtlkbbbbclmffjaaGreatDoorKCopyBs
set_option linter.unusedSimpArgs false
set_option linter.unusedVariables false
namespace Go.Proofs.YtlkbbbbclmffjaaGreatDoor
open Go Go.RowKit

def AnS (w : World) (A : AnA) (e : Ending) (w' : World) : Prop :=
  ∃ v, e = .returned (.tuple #[.bool A.sat, v, .int .i64 A.err, .int .i64 (A.line : Int)]) ∧ OwnBo w.heap.size w' v A.mod ∧ Below w.heap.size w w'
theorem OwnBo.nilA (B : Nat) (w : World) : OwnBo B w (.slice none 0 0) [] := World.ownsRow_nil _ _ _ _
theorem OwnBo.belowA {B : Nat} {w w' : World} {v : Value} {ms : List Bool} (h : OwnBo B w v ms) (hb : Below w.heap.size w w') : OwnBo B w' v ms := World.ownsRow.kept h (grown_below hb) (one_or _)
theorem AnS.bad {w w' : World} {A : AnA} {e : Int} {j : Nat} (hA : A = ⟨false, [], e, j⟩) (hb : Below w.heap.size w w') : AnS w A (.returned (.tuple #[.bool false, .slice none 0 0, .int .i64 e, .int .i64 (j : Int)])) w' := by
  subst hA; exact ⟨_, rfl, OwnBo.nilA _ _, hb⟩
theorem toldW_some {ws : List (List UInt8)} {b : Bool} (h : toldW ws = some b) : ws = [[115], if b then yesW else noW] := by
  unfold toldW at h
  split at h
  · rename_i e; cases h; exact e
  · split at h
    · rename_i e; cases h; exact e
    · cases h
end Go.Proofs.YtlkbbbbclmffjaaGreatDoor

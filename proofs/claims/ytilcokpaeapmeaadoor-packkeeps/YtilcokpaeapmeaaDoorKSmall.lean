/-
  The law's small formula, walked.
-/
import Derived.Test.YtilcokpaeapmeaaDoorJForms
import Derived.Handy
set_option linter.unusedSimpArgs false
set_option linter.unusedVariables false
namespace Go.Proofs.YtilcokpaeapmeaaDoor
open Go.RowKit

theorem ownTwo (w : World) (x y : Int) : Own w.heap.size (w.alloc (.cells #[.int .i64 x, .int .i64 y] 3)) (.slice (some ⟨w.heap.size, 0, none⟩) 2 2) [x, y] :=
  World.ownsRow_lit w #[.int .i64 x, .int .i64 y] 2 (Nat.le_refl _) (by unfold maxLen; omega) (by simp)
theorem ownOne (w : World) (x : Int) : Own w.heap.size (w.alloc (.cells #[.int .i64 x] 3)) (.slice (some ⟨w.heap.size, 0, none⟩) 1 1) [x] :=
  World.ownsRow_lit w #[.int .i64 x] 1 (Nat.le_refl _) (by unfold maxLen; omega) (by simp)
/-- two lists laid one behind the other in a new row -/
theorem rds_two {w : World} {u v : Value} {zs ys : List Int} (hu : Rd w u zs) (hv : Rd w v ys) (t : TypeId) : Rds (w.alloc (.cells #[u, v] t)) (.slice (some ⟨w.heap.size, 0, none⟩) 2 2) [zs, ys] := by
  refine ⟨by simp, some ⟨w.heap.size, 0, none⟩, 2, rfl, Nat.le_refl _, by unfold maxLen; omega, fun h => (by cases h), fun _ => ⟨w.heap.size, 0, rfl, by simp, fun j hj => ?_⟩⟩
  match j, hj with
  | 0, _ => exact ⟨u, box0 _ _ _ _, hu.below (below_box _ _)⟩
  | 1, _ => exact ⟨v, box1 _ _ _ _, hv.below (below_box _ _)⟩
def smallF : List (List Int) := [[1, 2], [-1]]
end Go.Proofs.YtilcokpaeapmeaaDoor

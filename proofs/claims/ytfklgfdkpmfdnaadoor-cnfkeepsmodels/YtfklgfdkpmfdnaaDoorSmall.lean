/-
  The law's small formula, walked.
-/
import Derived.Test.YtfklgfdkpmfdnaaDoorShape
import Derived.Handy
set_option linter.unusedSimpArgs false
set_option linter.unusedVariables false
namespace Go.Proofs.YtfklgfdkpmfdnaaDoor
open Go.RowKit

theorem ownTwo (w : World) (x y : Int) : Own w.heap.size (w.alloc (.cells #[.int .i64 x, .int .i64 y] 3)) (.slice (some ⟨w.heap.size, 0, none⟩) 2 2) [x, y] :=
  World.ownsRow_lit w #[.int .i64 x, .int .i64 y] 2 (Nat.le_refl _) (by unfold maxLen; omega) (by simp)
theorem ownOne (w : World) (x : Int) : Own w.heap.size (w.alloc (.cells #[.int .i64 x] 3)) (.slice (some ⟨w.heap.size, 0, none⟩) 1 1) [x] :=
  World.ownsRow_lit w #[.int .i64 x] 1 (Nat.le_refl _) (by unfold maxLen; omega) (by simp)
/-- two lists laid one behind the other in a new row -/
theorem rds_two {w : World} {u v : Value} {zs ys : List Int} (hu : Rd w u zs) (hv : Rd w v ys) (t : TypeId) : Rds (w.alloc (.cells #[u, v] t)) (.slice (some ⟨w.heap.size, 0, none⟩) 2 2) [zs, ys] := by
  refine ⟨by simp, some ⟨w.heap.size, 0, none⟩, 2, rfl, Nat.le_refl _, by unfold maxLen; omega, fun h => (by cases h), fun _ => ⟨w.heap.size, 0, rfl, by simp, fun j hj => ?_⟩⟩
  match j, hj with
  | 0, _ => exact ⟨u, box0 _ _ _ _, hu.below (below_box _ _)⟩
  | 1, _ => exact ⟨v, box1 _ _ _ _, hv.below (below_box _ _)⟩
def smallF : List (List Int) := [[1, 2], [-1]]
set_option maxHeartbeats 1600000 in
theorem small_any (w : World) :
    Calls Tryd.prog 10 #[] w fun e w' => ∃ s, e = .returned (.agg #[.int .i64 2, s]) ∧ Rds w' s smallF ∧ Below w.heap.size w w' := by
  go_enter Tryd.func10, Tryd.ntmps10
  go_wp2
  go_returns
  have hA := below_box w (Obj.cells #[Value.int IntKind.i64 2, Value.slice (some { block := w.heap.size + 1 + 1 + 1, off := 0 }) 2 2] 24)
  have eA : (w.alloc (Obj.cells #[Value.int IntKind.i64 2, Value.slice (some { block := w.heap.size + 1 + 1 + 1, off := 0 }) 2 2] 24)).heap.size = w.heap.size + 1 := by simp
  generalize w.alloc (Obj.cells #[Value.int IntKind.i64 2, Value.slice (some { block := w.heap.size + 1 + 1 + 1, off := 0 }) 2 2] 24) = A at *
  refine ⟨_, rfl, ?_, ?_⟩
  · have h1 := ((ownTwo A 1 2).rd (by simp)).below (below_box _ (.cells #[.int .i64 (-1)] 3))
    have h2 := (ownOne (A.alloc (.cells #[.int .i64 1, .int .i64 2] 3)) (-1)).rd (by simp)
    have h3 := rds_two h1 h2 31
    simp only [World.size_alloc, eA] at h3
    exact h3
  · exact Below.step (Below.step (Below.step hA (below_box _ _)) (below_box _ _)) (below_box _ _)

end Go.Proofs.YtfklgfdkpmfdnaaDoor

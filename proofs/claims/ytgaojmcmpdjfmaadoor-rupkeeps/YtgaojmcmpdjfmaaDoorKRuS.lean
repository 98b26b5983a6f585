/-
  rup: the small formula of the laws.
  KEEP: set on app at below new trans refl start ap kept rd rds mono lt add none own nil put len pos setF setV putL putR other neV same_any
-/
import Derived.Test.YtgaojmcmpdjfmaaDoorKSmall
set_option linter.unusedSimpArgs false
set_option linter.unusedVariables false
namespace Go.Proofs.YtgaojmcmpdjfmaaDoor
open Go.RowKit

theorem rds_one {w : World} {u : Value} {zs : List Int} (hu : Rd w u zs) (t : TypeId) : Rds (w.alloc (.cells #[u] t)) (.slice (some ⟨w.heap.size, 0, none⟩) 1 1) [zs] := by
  refine ⟨by simp, some ⟨w.heap.size, 0, none⟩, 1, rfl, Nat.le_refl _, by unfold maxLen; omega, fun h => (by cases h), fun _ => ⟨w.heap.size, 0, rfl, by simp, fun j hj => ?_⟩⟩
  match j, hj with
  | 0, _ => exact ⟨u, by show (match (w.heap.push (.cells #[u] t (0, 0)))[w.heap.size]? with | some (Obj.cells c elem frozen) => c[0 + 0]? | x => none) = _; rw [Array.getElem?_push_size]; rfl, hu.below (below_box _ _)⟩
def sml8 : List (List Int) := [[-1, 2]]
set_option maxHeartbeats 1600000 in
theorem small8_any (w : World) :
    Calls Tryd.prog 18 #[] w fun e w' => ∃ s, e = .returned (.agg #[.int .i64 2, s]) ∧ Rds w' s sml8 ∧ Below w.heap.size w w' := by
  go_enter Tryd.func18, Tryd.ntmps18
  go_wp2
  go_returns
  have hA := below_box w (Obj.cells #[Value.int IntKind.i64 2, Value.slice (some { block := w.heap.size + 1 + 1, off := 0 }) 1 1] 24)
  have eA : (w.alloc (Obj.cells #[Value.int IntKind.i64 2, Value.slice (some { block := w.heap.size + 1 + 1, off := 0 }) 1 1] 24)).heap.size = w.heap.size + 1 := by simp
  generalize w.alloc (Obj.cells #[Value.int IntKind.i64 2, Value.slice (some { block := w.heap.size + 1 + 1, off := 0 }) 1 1] 24) = A at *
  refine ⟨_, rfl, ?_, ?_⟩
  · have h1 := (ownTwo A (-1) 2).rd (by simp)
    have h3 := rds_one h1 25
    simp only [World.size_alloc, eA] at h3
    exact h3
  · exact Below.step (Below.step hA (below_box _ _)) (below_box _ _)
end Go.Proofs.YtgaojmcmpdjfmaaDoor

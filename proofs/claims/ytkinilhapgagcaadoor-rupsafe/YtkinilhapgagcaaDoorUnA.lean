/-
  unit, the statements' helpers: awake; what a copy reads.
  KEEP: set on app at below new trans refl start ap kept rd rds mono lt add none own nil put len pos setF setV putL putR other neV same_any
-/
import Derived.Test.YtkinilhapgagcaaDoorUnCl
import Derived.Test.YtkinilhapgagcaaDoorSmall
import Derived.Test.YtkinilhapgagcaaDoorSames
set_option linter.unusedSimpArgs false
set_option linter.unusedVariables false
namespace Go.Proofs.YtkinilhapgagcaaDoor
open Go Go.RowKit

def awkF : List (List Int) := [[1], [-1, 2]]
theorem awk_clo : Clo awkF [] [(1, 0), (2, 1)] (-1) := by
  refine ⟨⟨⟨by decide, by decide, fun j hj => by omega⟩, by decide, ⟨by decide, by decide, fun j hj => ?_⟩, by decide, trivial⟩, .inl ⟨rfl, fun j hj => ?_⟩⟩
  · obtain rfl : j = 0 := by simpa using hj
    decide
  · rcases (show j = 0 ∨ j = 1 by have : j < 2 := hj; omega) with rfl | rfl <;> decide
theorem awk_says {clash : Bool} {D : List Int} (h : Says6 awkF [] clash D) : clash = false ∧ D = [1, 2] := by
  have h2 := clo_says (v := 2) (css := awkF) (facts := []) (cs := [(1, 0), (2, 1)]) (by decide) (by decide) (by intro l hl; simp at hl) awk_clo
  have e : tid ([] ++ [((1 : Int), 0), (2, 1)].map (Prod.fst : Int × Nat → Int)) = [1, 2] := by decide
  rw [e] at h2
  exact Says6.unique (fun _ => Iff.rfl) Iff.rfl h h2
theorem awk_few : Few awkF := Few.of (by decide) (by decide)
theorem rd_nil (w : World) : Rd w (.slice none 0 0) [] := Rd.nil w
end Go.Proofs.YtkinilhapgagcaaDoor

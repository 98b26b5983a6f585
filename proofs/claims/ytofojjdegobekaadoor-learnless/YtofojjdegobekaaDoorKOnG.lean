/-
  rup: greatest, anyTrue.
  KEEP: set on app at below new trans refl start ap kept rd rds mono lt add none own nil put len pos setF setV putL putR other neV same_any
-/
import Derived.Test.YtofojjdegobekaaDoorJUnR
import Derived.Test.YtofojjdegobekaaDoorKUnG
set_option linter.unusedSimpArgs false
set_option linter.unusedVariables false
namespace Go.Proofs.YtofojjdegobekaaDoor
open Go Go.RowKit

/-- does a literal of c stand in K? -/
def anyK (K c : List Int) : Bool := c.any (fun l => decide (l ∈ K))
theorem anyK_take {K c : List Int} (h : ∀ m ∈ c, m ∉ K) : anyK K c = false := by
  unfold anyK
  rw [List.any_eq_false]
  intro x hx
  simpa using h x hx
theorem anyK_yes {K c : List Int} {m : Int} (h : m ∈ c) (hK : m ∈ K) : anyK K c = true := List.any_eq_true.2 ⟨m, h, decide_eq_true hK⟩
end Go.Proofs.YtofojjdegobekaaDoor

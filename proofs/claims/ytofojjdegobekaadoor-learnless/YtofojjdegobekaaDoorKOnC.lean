/-
  rup: clashes (defer, panic, recover).
  KEEP: set on app at below new trans refl start ap kept rd rds mono lt add none own nil put len pos setF setV putL putR other neV same_any from call
-/
import Derived.Test.YtofojjdegobekaaDoorJOnPt
import Derived.Defers
import Derived.Recover
import Derived.Deep.RegionHeld
set_option linter.unusedSimpArgs false
set_option linter.unusedVariables false
namespace Go.Proofs.YtofojjdegobekaaDoor
open Go Go.RowKit

section
variable {w0 w W W' : World} {b : Nat} {s0 s s' : Sy} {n : Nat} {css : List (List Int)} {K M M' : List Int} {R R' : List Nat} {y : Bool}
end
/-- what clashes is asked -/
def Gs (d : List Int) (q : Int) : List Int := opp (d.filter (fun l => decide (l ≠ q)))
theorem mem_Gs {d : List Int} {q x : Int} : x ∈ Gs d q ↔ -x ∈ d ∧ -x ≠ q := by
  unfold Gs; rw [mem_opp, List.mem_filter, decide_eq_true_eq]
section
variable {w0 w W W' : World} {b : Nat} {s0 s : Sy} {n : Nat} {css : List (List Int)} {K G M : List Int} {R : List Nat} {t : Nat} {l : Int}
end
end Go.Proofs.YtofojjdegobekaaDoor

/-
  rup: opposites as the program reckons them.
-/
import Derived.Test.YtjajafeaengnjaaGreatDoorKNum
set_option linter.unusedSimpArgs false
set_option linter.unusedVariables false
namespace Go.Proofs.YtjajafeaengnjaaGreatDoor
open Go Go.RowKit

/-- a number of 64 bits -/
def i64 (x : Int) : Prop := -9223372036854775808 ≤ x ∧ x ≤ 9223372036854775807
/-- the opposite, as the program reckons it -/
def ngw (x : Int) : Int := IntKind.i64.wrap (-x)
theorem ngw_fmd {x : Int} (h : fmd x = true) : ngw x = -x := by
  have := fmd_range h
  unfold ngw; rw [IntKind.wrap_i64]; omega
theorem fmd_ngw {x : Int} (h : i64 x) : fmd (ngw x) = fmd x := by
  unfold i64 at h
  by_cases e : x = -9223372036854775808
  · subst e; decide
  · have e2 : ngw x = -x := by unfold ngw; rw [IntKind.wrap_i64]; omega
    rw [e2]
    cases h2 : fmd x
    · cases h3 : fmd (-x)
      · rfl
      · have := fmd_neg h3
        rw [Int.neg_neg, h2] at this; cases this
    · exact fmd_neg h2
theorem opw_all {c : List Int} (h : ∀ x ∈ c, i64 x) : (c.map ngw).all fmd = c.all fmd := by
  induction c with
  | nil => rfl
  | cons x r ih =>
    rw [List.map_cons, List.all_cons, List.all_cons, ih (fun y hy => h y (List.mem_cons_of_mem _ hy)), fmd_ngw (h x (by simp))]
end Go.Proofs.YtjajafeaengnjaaGreatDoor

/-
  unit, the statements' helpers: within, shaped.
  KEEP: set on app at below new trans refl start ap kept rd rds mono lt add none own nil put len pos setF setV putL putR other neV same_any
-/
import Derived.Test.YtmhelbgemehdmaaDoorUnA
set_option linter.unusedSimpArgs false
set_option linter.unusedVariables false
namespace Go.Proofs.YtmhelbgemehdmaaDoor
open Go Go.RowKit

def ins6 (n l : Int) : Bool := !decide (l = 0) && !decide (n < l) && !decide (l < -n)
theorem fit6 {n l : Int} (h0 : 0 ≤ n) (h1 : n ≤ 1048576) : (fmd l && decide (varOf l ≤ n)) = ins6 n l := by
  unfold varOf ins6
  rcases fmd_cases l with ⟨h, a0, a1, a2⟩ | ⟨h, a0⟩
  · rw [h, Bool.eq_iff_iff]
    by_cases hs : l < 0
    · simp only [hs, Bool.true_and, if_true, decide_eq_true_eq, Bool.and_eq_true, Bool.not_eq_true', decide_eq_false_iff_not]; omega
    · simp only [hs, Bool.true_and, if_true, if_false, decide_eq_true_eq, Bool.and_eq_true, Bool.not_eq_true', decide_eq_false_iff_not]; omega
  · rw [h, Bool.false_and, eq_comm, Bool.eq_false_iff]
    intro h2
    simp only [Bool.and_eq_true, Bool.not_eq_true', decide_eq_false_iff_not] at h2
    omega
theorem fits6 {n : Int} {zs : List Int} (h0 : 0 ≤ n) (h1 : n ≤ 1048576) : fitsP n zs = zs.all (ins6 n) := by
  unfold fitsP
  congr 1
  funext l
  exact fit6 h0 h1
theorem fits_all {zs : List Int} : fitsP 1048576 zs = zs.all fmd := by
  unfold fitsP
  congr 1
  funext l
  cases h : fmd l
  · rfl
  · have := varOf_range l
    simp only [Bool.true_and, decide_eq_true_eq]; omega
end Go.Proofs.YtmhelbgemehdmaaDoor

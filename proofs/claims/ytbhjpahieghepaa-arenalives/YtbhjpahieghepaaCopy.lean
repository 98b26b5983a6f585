/-
  CopyInts, CopyClauses, CopyFormula, walked; a formula that is built on from what was copied.
-/
import Derived.Test.YtbhjpahieghepaaFormAns
import Derived.Laws.Rows
import Derived.Lib.Hide
set_option linter.unusedSimpArgs false
set_option linter.unusedVariables false
namespace Go.Proofs.Ytbhjpahieghepaa
open Go.RowKit

theorem own_one_more {base : Nat} {w : World} {v : Value} {out : List Int} {x : Int} (h : w.ownsRow base 3 1 v (out.length + 1) (out.map (Value.int .i64) ++ [.int .i64 x])) : Own base w v (out ++ [x]) := by
  unfold Own; simpa using h
theorem rds_each {w : World} {v : Value} {css : List (List Int)} (h : Rds w v css) : ∀ z ∈ css, z.length * 8 ≤ 140737488351232 := fun z hz => by
  obtain ⟨k, hk, rfl⟩ := List.getElem_of_mem hz
  obtain ⟨_, _, _, _, _, hc⟩ := h.form
  obtain ⟨_, _, u, _, _, hr⟩ := hc k hk
  have := hr.len
  simpa [List.getD_eq_getElem?_getD, hk] using this
theorem ownf_form {B : Nat} {W : World} {s : Value} {css : List (List Int)} (h : OwnF B W s css) : ∃ a c, s = .slice a css.length c := by
  obtain ⟨L, h, rfl⟩ := h
  obtain ⟨a, c, e⟩ := row_form h.row
  exact ⟨a, c, by rw [e]; simp⟩

end Go.Proofs.Ytbhjpahieghepaa

/-
  SameInts, SameClauses, SameFormula, walked.
-/
import Derived.Test.YtbhjpahieghepaaShape
set_option linter.unusedSimpArgs false
set_option linter.unusedVariables false
namespace Go.Proofs.Ytbhjpahieghepaa
open Go.RowKit

theorem take_eq_more {α : Type} {d : α} {a b : List α} {k : Nat} (ha : k < a.length) (hb : k < b.length) (h : a.take k = b.take k) (he : a.getD k d = b.getD k d) : a.take (k + 1) = b.take (k + 1) := by
  rw [take_succ_getD a d k ha, take_succ_getD b d k hb, h, he]
theorem beq_no_at {α : Type} [BEq α] [LawfulBEq α] {d : α} {a b : List α} {k : Nat} (h : a.getD k d ≠ b.getD k d) : (a == b) = false := by
  rw [beq_eq_false_iff_ne]; intro e; subst e; exact h rfl
theorem beq_no_len {α : Type} [BEq α] [LawfulBEq α] {a b : List α} (h : a.length ≠ b.length) : (a == b) = false := by
  rw [beq_eq_false_iff_ne]; intro e; subst e; exact h rfl

end Go.Proofs.Ytbhjpahieghepaa

/-
  The document's Pieces, value, walked.
  KEEP: len below nil form rd mono on app start at new trans refl kept own row out grown rdz set one more lt size cell some none letL tail next step go add put del get look no yes e c f b k n m box
-/
import Derived.Test.YtblkhkfjaggnfaaCtM
import Derived.Maps.AppendAt
import Derived.OwnWalk
set_option linter.unusedSimpArgs false
set_option linter.unusedVariables false
namespace Go.Proofs.Ytblkhkfjaggnfaa
open Go Go.RowKit

/-- may a field have it -/
def pieceB (i : Nat) (p : List UInt8) : Bool := ((trF p).length == p.length) && !(decide (0 < i) && p.isEmpty)
def allP : Nat → List (List UInt8) → Bool
  | _, [] => true
  | i, p :: r => pieceB i p && allP (i + 1) r
def valF (l : List UInt8) : Bool := allP 0 (pcF l) && fairF true l
theorem pcs_size : ∀ (l cur : List UInt8), (∀ p ∈ pcs l cur, p.length ≤ l.length + cur.length) ∧ (pcs l cur).length ≤ l.length + 1 ∧ 0 < (pcs l cur).length
  | [], cur => by simp [pcs]
  | b :: r, cur => by
    by_cases hb : b = 10
    · have ih := pcs_size r []
      rw [pcs, if_pos hb]
      refine ⟨fun p hp => ?_, by simp; omega, by simp⟩
      rcases List.mem_cons.1 hp with rfl | hp
      · simp
      · have := ih.1 p hp; simp at this ⊢; omega
    · have ih := pcs_size r (cur ++ [b])
      rw [pcs, if_neg hb]
      refine ⟨fun p hp => ?_, by simp; omega, ih.2.2⟩
      have := ih.1 p hp; simp at this ⊢; omega
theorem pc_drop {ps : List (List UInt8)} {k : Nat} (h : k < ps.length) : ps.drop k = ps.getD k [] :: ps.drop (k + 1) := by
  rw [List.drop_eq_getElem_cons h]; simp [List.getD_eq_getElem?_getD, h]
end Go.Proofs.Ytblkhkfjaggnfaa

/-
  trim: steps that stand in others; the end of a row of steps that is read.
  KEEP: len below nil form rd mono one more grown lt size cell some none of ofNat add out step row get at drop
-/
import Derived.Test.YtldolhllacbhjaaDrM
set_option linter.unusedSimpArgs false
set_option linter.unusedVariables false
namespace Go.Proofs.Ytldolhllacbhjaa
open Go Go.RowKit

/-- the first k steps left out -/
theorem RdZ.drop {w : World} {b off n c : Nat} {l : List Stp} (h : RdZ w (.slice (some ⟨b, off, none⟩) n c) l) (k : Nat) (hk : k ≤ l.length) :
    RdZ w (.slice (some ⟨b, off + k * 2, none⟩) (n - k) (c - k)) (l.drop k) := by
  obtain ⟨h1, a, c', e, hc, hm, h2⟩ := h
  injection e with q1 q2 q3
  subst q1; subst q2; subst q3
  refine ⟨by simp; omega, _, _, by rw [List.length_drop], by simp; omega, by omega, fun hne => ?_⟩
  obtain ⟨b', o', e, hb, hcell⟩ := h2 (by intro e; subst e; simp at hne)
  injection e with e
  injection e with q1 q2
  subst q1; subst q2
  refine ⟨_, _, rfl, hb, fun j hj => ?_⟩
  obtain ⟨u, hd, hu, hr⟩ := hcell (k + j) (by simp at hj; omega)
  have e2 : (l.drop k).getD j (false, []) = l.getD (k + j) (false, []) := by simp [List.getD_eq_getElem?_getD]
  rw [e2, show off + k * 2 + j * 2 = off + (k + j) * 2 by omega]
  exact ⟨u, hd, hu, hr⟩
theorem sub_step {x y : Stp} {a b : List Stp} : (x :: a).isSublist (y :: b) = if x == y then a.isSublist b else (x :: a).isSublist b := by
  rw [List.isSublist]
theorem sub_nil {b : List Stp} : ([] : List Stp).isSublist b = true := by unfold List.isSublist; rfl
theorem sub_none {x : Stp} {a : List Stp} : (x :: a).isSublist [] = false := rfl
theorem drop_at {l : List Stp} {k : Nat} (h : k < l.length) : l.drop k = l.getD k (false, []) :: l.drop (k + 1) := by
  rw [List.drop_eq_getElem_cons h]
  simp [List.getD_eq_getElem?_getD, h]

end Go.Proofs.Ytldolhllacbhjaa

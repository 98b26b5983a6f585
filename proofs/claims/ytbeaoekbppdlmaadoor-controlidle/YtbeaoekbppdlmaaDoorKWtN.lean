/-
  How long the text of stanzas is at most.
  KEEP: len below nil form rd mono own row out each one
-/
import Derived.Test.YtbeaoekbppdlmaaDoorKStN
import Derived.Test.YtbeaoekbppdlmaaDoorKCvX
set_option linter.unusedVariables false
set_option linter.unusedSimpArgs false
namespace Go.Proofs.YtbeaoekbppdlmaaDoor
open Go Go.RowKit

theorem pieceT_len : ∀ (n : Nat) (l : List UInt8), l.length ≤ n → (pieceT (pcF l)).length ≤ 2 * l.length + 2
  | n, l, hn => by
    have hg := congrArg List.length (cut_glue l)
    rw [List.length_append] at hg
    rw [pcF_cut]
    have e : ∀ (p : List UInt8) r, (pieceT (p :: r)).length = p.length + 2 + (pieceT r).length := fun p r => by simp [pieceT]; omega
    rw [e]
    cases h : hasN l
    · rw [h] at hg
      have : (pieceT (if false = true then pcF (cutN l).2 else [])).length = 0 := rfl
      rw [this]; omega
    · rw [h, if_pos rfl] at hg
      have h1 := cut_len l h
      rw [if_pos rfl]
      simp only [List.length_cons] at hg
      match n, hn with
      | 0, hn => omega
      | n + 1, hn =>
        have := pieceT_len n _ (show (cutN l).2.length ≤ n by omega)
        omega
theorem fldT_len (f : Fld) : (fldT f).length ≤ 4 * (f.1.length + f.2.length + 1) := by
  have h := pieceT_len _ f.2 (Nat.le_refl _)
  have e : ∀ (p : List UInt8) r, (pieceT (p :: r)).length = p.length + 2 + (pieceT r).length := fun p r => by simp [pieceT]; omega
  unfold fldT
  rw [pcF_cut] at h ⊢
  generalize (if hasN f.2 = true then pcF (cutN f.2).2 else []) = r at *
  rw [e] at h
  have hh : (hdT (cutN f.2).1).length ≤ (cutN f.2).1.length + 1 := by unfold hdT; split <;> simp
  simp only [List.length_append, List.length_cons, List.length_nil, List.getD_cons_zero, List.drop_succ_cons, List.drop_zero] at h ⊢
  omega
theorem stT_len : ∀ fs : List Fld, (stT fs).length ≤ 4 * fldN fs
  | [] => Nat.zero_le _
  | f :: r => by
    have h1 := fldT_len f
    have h2 := stT_len r
    have e : fldN (f :: r) = (f.1.length + f.2.length + 1) + fldN r := by simp [fldN]; omega
    have e2 : (stT (f :: r)).length = (fldT f).length + (stT r).length := by simp [stT]
    omega
theorem wrR_len : ∀ (l : List Stz) (k : Nat), (wrR k l).length ≤ 4 * stzN l
  | [], k => by cases k <;> simp [wrR]
  | s :: r, k => by
    have h1 := stT_len s.2
    have h2 := wrR_len r (k + 1)
    have e : stzN (s :: r) = (fldN s.2 + 1) + stzN r := by simp [stzN]; omega
    rw [wrR_cons]
    simp only [List.length_append]
    split <;> simp <;> omega
theorem wrtF_len (l : List Stz) : (wrtF l).length ≤ 4 * stzN l := wrR_len l 0

end Go.Proofs.YtbeaoekbppdlmaaDoor

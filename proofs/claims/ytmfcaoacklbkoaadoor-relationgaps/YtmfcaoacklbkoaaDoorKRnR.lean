/-
  RelationThere, what it asks of pure things.
  KEEP: off c0 c1 c2 c3 c4 s0 s1 s2 s3 s4 newS rds lt f t q x len below nil form rd mono on app start at new trans refl kept own row out set one more size cell some none
-/
import Derived.Test.YtmfcaoacklbkoaaDoorKRnQ
set_option linter.unusedSimpArgs false
set_option linter.unusedVariables false
namespace Go.Proofs.YtmfcaoacklbkoaaDoor
open Go Go.RowKit

def nemB (l : List (List Rl)) : Bool := l.all fun x => decide (0 < x.length)
def allB (l : List (List Rl)) : Bool := l.all fun x => frmB x
theorem nem_take {l : List (List Rl)} {k : Nat} (h : k < l.length) : nemB (l.take (k + 1)) = (nemB (l.take k) && decide (0 < (l.getD k []).length)) := by
  unfold nemB
  rw [List.take_add_one, List.all_append, List.getElem?_eq_getElem h, List.getD_eq_getElem?_getD, List.getElem?_eq_getElem h]
  simp
theorem all_take {l : List (List Rl)} {k : Nat} (h : k < l.length) : allB (l.take (k + 1)) = (allB (l.take k) && frmB (l.getD k [])) := by
  unfold allB
  rw [List.take_add_one, List.all_append, List.getElem?_eq_getElem h, List.getD_eq_getElem?_getD, List.getElem?_eq_getElem h]
  simp
theorem frm_take {rs : List Rl} {k : Nat} (h : k < rs.length) : frmB (rs.take (k + 1)) = (frmB (rs.take k) && relB (rs.getD k noRl).1 (rs.getD k noRl).2.1 (rs.getD k noRl).2.2) := by
  unfold frmB
  rw [List.take_add_one, List.all_append, List.getElem?_eq_getElem h, List.getD_eq_getElem?_getD, List.getElem?_eq_getElem h]
  simp
theorem frm_flat : ∀ l : List (List Rl), frmB l.flatten = allB l
  | [] => rfl
  | x :: q => by
    have := frm_flat q
    unfold allB frmB at this ⊢
    rw [List.flatten_cons, List.all_append, List.all_cons, this]
theorem lis_none : ∀ (l : List (List Rl)) (k : Nat) (acc : ByteArray), (nemB l && allB l) = false → lisT k acc l = none
  | [], k, acc, h => by cases h
  | x :: q, k, acc, h => by
    rw [lisT, altT_wr]
    split
    · rfl
    rename_i hne
    cases hf : frmB x
    · rfl
    · simp only [if_true]
      refine lis_none q _ _ ?_
      unfold nemB allB at h ⊢
      rw [List.all_cons, List.all_cons, hf, decide_eq_true (List.length_pos_iff.2 hne)] at h
      simpa using h
theorem lis_some : ∀ (l : List (List Rl)) (k : Nat) (acc : ByteArray), nemB l = true → allB l = true → ∃ T, lisT k acc l = some T ∧ T.size ≤ acc.size + szL l
  | [], k, acc, h1, h2 => ⟨acc, rfl, Nat.le_refl _⟩
  | x :: q, k, acc, h1, h2 => by
    unfold nemB at h1
    unfold allB at h2
    rw [List.all_cons, Bool.and_eq_true] at h1 h2
    have hx := of_decide_eq_true h1.1
    have hne : x ≠ [] := List.length_pos_iff.1 hx
    obtain ⟨T, e1, e2⟩ := lis_some q (k + 1) (wrT ⟨#[32, 124, 32]⟩ 0 (if k = 0 then acc else acc ++ ⟨#[44, 32]⟩) x) h1.2 h2.2
    refine ⟨T, by rw [lisT, altT_wr, if_neg hne, h2.1, if_pos rfl]; exact e1, ?_⟩
    have h3 := (wrT_size ⟨#[32, 124, 32]⟩ (by decide) x 0 (if k = 0 then acc else acc ++ ⟨#[44, 32]⟩)).2
    have h4 : (if k = 0 then acc else acc ++ (⟨#[44, 32]⟩ : ByteArray)).size ≤ acc.size + 2 := by
      split
      · omega
      · rw [ByteArray.size_append]; exact Nat.le_refl _
    rw [szL]
    omega
theorem szL_at : ∀ (l : List (List Rl)) (k : Nat), k < l.length → szR (l.getD k []) + 2 ≤ szL l
  | [], k, h => by simp at h
  | r :: q, 0, h => by simp only [szL, List.getD_cons_zero]; omega
  | r :: q, k + 1, h => by
    have := szL_at q k (by simpa using h)
    simp only [szL, List.getD_cons_succ]; omega
theorem aa_formed : relB ⟨#[97, 97]⟩ 0 ⟨#[]⟩ = true := by decide

end Go.Proofs.YtmfcaoacklbkoaaDoor

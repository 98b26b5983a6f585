/-
  The document's answer, walked: Taut, Subsumes, Without.
-/
import Derived.Test.YtgaojmcmpdjfmaaDoorJTidy
import Derived.Test.YtgaojmcmpdjfmaaDoorKFind
set_option linter.unusedSimpArgs false
set_option linter.unusedVariables false
namespace Go.Proofs.YtgaojmcmpdjfmaaDoor
open Go.RowKit

/-- as many behind the putting together as b had: each of a is one of b's -/
theorem len_allIn (a b : List Int) (ha : a.all fmd = true) (hb : b.all fmd = true) : ((tid (tid a ++ tid b)).length == (tid b).length) = allIn a (tid b) := by
  have sub : ∀ x ∈ tid b, x ∈ tid (tid a ++ tid b) := fun x hx => mem_tid.2 ⟨List.mem_append_right _ hx, tid_fmd x hx⟩
  have hfa : ∀ x ∈ a, fmd x = true := by simpa using ha
  rw [Bool.eq_iff_iff, beq_iff_eq]
  constructor
  · intro hl
    have heq : tid b = tid (tid a ++ tid b) := by
      refine (List.Sublist.eq_of_length ?_ hl.symm)
      exact rising_sublist (tid_rising _) (tid_rising _) sub
    unfold allIn
    rw [List.all_eq_true]
    intro x hx
    have hf := hfa x hx
    have hm : x ∈ tid b := by rw [heq]; exact mem_tid.2 ⟨List.mem_append_left _ (mem_tid.2 ⟨hx, hf⟩), hf⟩
    simp [hf, hm]
  · intro h
    have : tid (tid a ++ tid b) = tid b := by
      refine rising_unique (tid_rising _) (tid_rising _) fun x => ⟨fun hx => ?_, sub x⟩
      rcases List.mem_append.1 (mem_tid.1 hx).1 with p | p
      · have hx := (mem_tid.1 p).1
        unfold allIn at h
        have := List.all_eq_true.1 h x hx
        simp only [Bool.and_eq_true, List.contains_iff_mem] at this
        exact this.2
      · exact p
    rw [this]

theorem nat_beq (n m : Nat) : ((n : Int) == (m : Int)) = (n == m) := by
  rw [Bool.eq_iff_iff, beq_iff_eq, beq_iff_eq]; omega

theorem wout_take_yes {t : List Int} {l : Int} {k : Nat} (h : k < t.length) (hf : (t.getD k 0 == l) = false) : wout (t.take (k + 1)) l = wout (t.take k) l ++ [t.getD k 0] := by
  unfold wout
  rw [List.take_succ_eq_append_getElem h, List.filter_append]
  have e : t.getD k 0 = t[k] := by simp [List.getD_eq_getElem?_getD, List.getElem?_eq_getElem h]
  rw [e] at hf ⊢
  have hb : (t[k] != l) = true := by rw [bne_iff_ne]; exact beq_eq_false_iff_ne.1 hf
  rw [List.filter_cons_of_pos (by exact hb)]
  rfl
theorem wout_take_no {t : List Int} {l : Int} {k : Nat} (h : k < t.length) (hf : (t.getD k 0 == l) = true) : wout (t.take (k + 1)) l = wout (t.take k) l := by
  unfold wout
  rw [List.take_succ_eq_append_getElem h, List.filter_append]
  have e : t.getD k 0 = t[k] := by simp [List.getD_eq_getElem?_getD, List.getElem?_eq_getElem h]
  rw [e] at hf
  have hb : ¬ (t[k] != l) = true := by rw [bne_iff_ne]; simp [beq_iff_eq.1 hf]
  rw [List.filter_cons_of_neg (by exact hb)]
  simp
theorem wout_len (t : List Int) (l : Int) : (wout t l).length ≤ t.length := List.length_filter_le _ _

end Go.Proofs.YtgaojmcmpdjfmaaDoor

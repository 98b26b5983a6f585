/-
  joined: OnR OnD RpA
-/
import Derived.Test.YtofojjdegobekaaDoorKOnC
import Derived.Test.YtofojjdegobekaaDoorJUnS
import Derived.Test.YtofojjdegobekaaDoorJTidy
set_option linter.unusedSimpArgs false
set_option linter.unusedVariables false
namespace Go.Proofs.YtofojjdegobekaaDoor
open Go Go.RowKit

theorem lnk9 {listed : Array Bool} {L : Nat → Bool} (hs : listed.size = 9) (h : ∀ j, j < 9 → listed.getD j false = L j) {i : Nat} (hi : i < 9) : (listed.setIfInBounds i true).size = 9 ∧ ∀ j, j < 9 → (listed.setIfInBounds i true).getD j false = upd L i j := by
  refine ⟨by simpa using hs, fun j hj => ?_⟩
  rw [set_getD false (by rw [hs]; exact hi), h j hj]
  rfl
theorem getD_ft9 {listed : Array Bool} {i : Nat} (hs : listed.size = 9) (hi : i < 9) (h : listed.getD i true = false) : listed.getD i false = false := by
  have hj : i < listed.size := by omega
  simp [Array.getD, hj] at h ⊢
  exact h
end Go.Proofs.YtofojjdegobekaaDoor
set_option linter.unusedSimpArgs false
set_option linter.unusedVariables false
namespace Go.Proofs.YtofojjdegobekaaDoor
open Go Go.RowKit

end Go.Proofs.YtofojjdegobekaaDoor
set_option linter.unusedSimpArgs false
set_option linter.unusedVariables false
namespace Go.Proofs.YtofojjdegobekaaDoor
open Go Go.RowKit

/-- the partners' numbers -/
def ptnN (css : List (List Int)) (l : Int) : List Nat := (List.range css.length).filter (fun i => fmd l && (css.getD i []).contains l)
theorem ptnN_eq (n : Int) (css : List (List Int)) (l : Int) (h : frm n css = true) : ptnA n css l = (ptnN css l).map (fun i : Nat => (i : Int)) := by
  unfold ptnA; rw [if_pos h]; rfl
theorem mem_ptnN {css : List (List Int)} {l : Int} {i : Nat} : i ∈ ptnN css l ↔ i < css.length ∧ fmd l = true ∧ l ∈ css.getD i [] := by
  unfold ptnN
  rw [List.mem_filter, List.mem_range, Bool.and_eq_true, List.contains_iff_mem]
theorem Gs_rst (d : List Int) (p : Int) : Gs d (-p) = opp (rst d p) := rfl
theorem parB_yes {css : List (List Int)} {K : List Int} {p : Int} (hf : fmd p = true) (h : ∀ i ∈ ptnN css (-p), claB css (K ++ Gs (css.getD i []) (-p)) = true) : parB css K p css = true := by
  unfold parB
  rw [List.all_eq_true]
  intro d hd
  by_cases hm : -p ∈ d
  · obtain ⟨k, hk, e⟩ := in_getD hd
    have := h k (mem_ptnN.2 ⟨hk, fmd_neg hf, by rw [e]; exact hm⟩)
    rw [e, Gs_rst] at this
    rw [this]; simp
  · rw [decide_eq_false hm]; rfl
theorem parB_no {css : List (List Int)} {K : List Int} {p : Int} {i : Nat} (hi : i ∈ ptnN css (-p)) (h : claB css (K ++ Gs (css.getD i []) (-p)) = false) : parB css K p css = false := by
  obtain ⟨h1, h2, h3⟩ := mem_ptnN.1 hi
  unfold parB
  rw [List.all_eq_false]
  refine ⟨_, getD_in h1, ?_⟩
  rw [Gs_rst] at h
  rw [decide_eq_true h3, h]
  simp
theorem mem_take_moreN {c : List Nat} {j : Nat} (hj : j < c.length) {x : Nat} : x ∈ c.take (j + 1) ↔ x ∈ c.take j ∨ x = c.getD j 0 := by
  rw [List.take_succ_eq_append_getElem hj, List.mem_append, List.mem_singleton, List.getD_eq_getElem?_getD, List.getElem?_eq_getElem hj]; rfl
theorem ptnN_len (css : List (List Int)) (l : Int) : (ptnN css l).length ≤ css.length := by
  unfold ptnN; exact Nat.le_trans (List.length_filter_le _ _) (by simp)

end Go.Proofs.YtofojjdegobekaaDoor

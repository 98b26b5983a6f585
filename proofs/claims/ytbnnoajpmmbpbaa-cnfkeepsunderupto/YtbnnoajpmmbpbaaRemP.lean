/-
  What stays of a clause where literals are true: in plain words; (plain).
-/
import Derived.Test.YtbnnoajpmmbpbaaTruth
import Derived.Test.YtbnnoajpmmbpbaaGrow
import Derived.Laws.OwnMore
set_option linter.unusedSimpArgs false
set_option linter.unusedVariables false
namespace Go.Proofs.Ytbnnoajpmmbpbaa
open Go.RowKit

theorem idx_litAt {i : Int} (h0 : 0 ≤ i) (h1 : i < 2097152) : fmd (litAt i) = true ∧ idx (litAt i) = i := by
  rcases (show i % 2 = 0 ∨ i % 2 = 1 by omega) with h | h
  · rw [litAt_even h0 h1 h]
    have hf : fmd (i / 2 + 1) = true := fmd_true (by omega) (by omega) (by omega)
    exact ⟨hf, by rw [(there_pos hf (by omega)).1]; omega⟩
  · rw [litAt_odd h0 h1 h]
    have hf : fmd (-(i / 2 + 1)) = true := fmd_true (by omega) (by omega) (by omega)
    exact ⟨hf, by rw [(there_neg hf (by omega)).1]; omega⟩
/-- which literals are given, by Index -/
def giv (part : List Int) (N : Nat) : List Bool := (List.range (2 * N)).map (fun i : Nat => part.contains (litAt (i : Int)))
theorem giv_len (part : List Int) (N : Nat) : (giv part N).length = 2 * N := by simp [giv]
theorem giv_nil (N : Nat) : giv [] N = List.replicate (2 * N) false := by
  unfold giv; apply List.ext_getElem?; intro i
  by_cases h : i < 2 * N
  · simp [h]
  · simp [h]
theorem idx_lt {N : Nat} {l : Int} (hf : fmd l = true) (hv : varOf l ≤ N) : 0 ≤ idx l ∧ (idx l).toNat < 2 * N ∧ idx l = ((idx l).toNat : Int) := by
  obtain ⟨h0, h1, h2⟩ := fmd_range hf
  rcases Int.lt_or_gt_of_ne h0 with hs | hs
  · obtain ⟨a, b⟩ := there_neg hf hs; rw [b] at hv; rw [a]; omega
  · obtain ⟨a, b⟩ := there_pos hf hs; rw [b] at hv; rw [a]; omega
theorem giv_at {part : List Int} {N : Nat} {l : Int} (hf : fmd l = true) (hv : varOf l ≤ N) : (giv part N).getD (idx l).toNat false = part.contains l := by
  obtain ⟨h0, h1, h2⟩ := idx_lt hf hv
  unfold giv
  rw [List.getD_eq_getElem?_getD, List.getElem?_map, List.getElem?_range h1]
  simp only [Option.map_some, Option.getD_some]
  rw [← h2, litAt_idx hf]
theorem contains_more (part : List Int) (k : Nat) (h : k < part.length) (x : Int) : (part.take (k + 1)).contains x = ((part.take k).contains x || (x == part.getD k 0)) := by
  rw [take_succ_getD part 0 k h]
  rw [Bool.eq_iff_iff]; simp
theorem giv_set {part : List Int} {N k : Nat} (hN : N ≤ 1048576) (h : k < part.length) (hf : fmd (part.getD k 0) = true) (hv : varOf (part.getD k 0) ≤ N) :
    (giv (part.take k) N).set (idx (part.getD k 0)).toNat true = giv (part.take (k + 1)) N := by
  obtain ⟨h0, h1, h2⟩ := idx_lt hf hv
  apply List.ext_getElem?
  intro i
  by_cases hi : i < 2 * N
  · have e1 : (giv (part.take (k + 1)) N)[i]? = some ((part.take (k + 1)).contains (litAt i)) := by simp [giv, hi]
    rw [e1, contains_more part k h]
    by_cases hq : (idx (part.getD k 0)).toNat = i
    · subst hq
      rw [List.getElem?_set_self (by rw [giv_len]; exact h1), ← h2, litAt_idx hf]
      simp
    · rw [List.getElem?_set_ne hq]
      have e2 : (giv (part.take k) N)[i]? = some ((part.take k).contains (litAt i)) := by simp [giv, hi]
      rw [e2]
      have e3 : (litAt (i : Int) == part.getD k 0) = false := by
        rw [beq_eq_false_iff_ne]; intro e
        have := (idx_litAt (i := (i : Int)) (by omega) (by omega)).2
        rw [e] at this; omega
      rw [e3, Bool.or_false]
  · rw [List.getElem?_eq_none (by rw [List.length_set, giv_len]; omega), List.getElem?_eq_none (by rw [giv_len]; omega)]

/-- what stays of a clause -/
def remL (part c : List Int) : List Int := c.filter (fun l => !part.contains (-l))
def remG (part c : List Int) : Bool := c.any (fun l => part.contains l)
def rems (part c : List Int) : Option (List Int) := if remG part c then none else some (remL part c)
theorem remL_yes {part c : List Int} {k : Nat} (h : k < c.length) (hf : part.contains (-c.getD k 0) = false) : remL part (c.take (k + 1)) = remL part (c.take k) ++ [c.getD k 0] := by
  unfold remL; rw [take_succ_getD c 0 k h, List.filter_append]; simp only [List.filter_cons, List.filter_nil, hf]; simp
theorem remL_no {part c : List Int} {k : Nat} (h : k < c.length) (hf : part.contains (-c.getD k 0) = true) : remL part (c.take (k + 1)) = remL part (c.take k) := by
  unfold remL; rw [take_succ_getD c 0 k h, List.filter_append]; simp only [List.filter_cons, List.filter_nil, hf]; simp
theorem remL_len (part c : List Int) : (remL part c).length ≤ c.length := List.length_filter_le _ _
theorem varOf_neg {l : Int} (hf : fmd l = true) : varOf (-l) = varOf l := by
  have hn := fmd_neg hf
  obtain ⟨h0, h1, h2⟩ := fmd_range hf
  rcases Int.lt_or_gt_of_ne h0 with hs | hs
  · rw [(there_neg hf hs).2, (there_pos hn (by omega)).2]
  · rw [(there_pos hf hs).2, (there_neg hn (by omega)).2]; omega
end Go.Proofs.Ytbnnoajpmmbpbaa

/-
  What two clauses that meet say of the resolvent: in plain words.
-/
import Derived.Test.YtbphbnfnolgkfaaDoorRes
import Derived.Test.YtbphbnfnolgkfaaDoorEntW
set_option linter.unusedSimpArgs false
set_option linter.unusedVariables false
namespace Go.Proofs.YtbphbnfnolgkfaaDoor
open Go Go.RowKit

theorem resolveOf_zero {a b : List Int} {v : Int} (h : (resolveOf a b v).1 = 0) : a.contains v = true ∧ b.contains (-v) = true ∧ (resolveOf a b v).2 = tid (wout (tid a) v ++ wout (tid b) (-v)) := by
  unfold resolveOf at h ⊢
  split at h
  · rename_i h1
    rw [if_pos h1]
    split at h
    · rename_i h2
      rw [if_pos h2]
      rw [Bool.and_eq_true] at h2
      exact ⟨h2.1, h2.2, rfl⟩
    · simp at h
  · simp at h
theorem mem_res {a b : List Int} {v x : Int} (h : x ∈ tid (wout (tid a) v ++ wout (tid b) (-v))) : fmd x = true ∧ (x ∈ a ∨ x ∈ b) := by
  rw [mem_tid, List.mem_append] at h
  unfold wout at h
  rw [List.mem_filter, List.mem_filter, mem_tid, mem_tid] at h
  exact ⟨h.2, h.1.imp (fun h => h.1.1) (fun h => h.1.1)⟩
theorem res_fits {n : Int} {a b : List Int} {v : Int} (ha : fitsP n a = true) (hb : fitsP n b = true) : fitsP n (tid (wout (tid a) v ++ wout (tid b) (-v))) = true := by
  unfold fitsP at *
  rw [List.all_eq_true] at *
  intro x hx
  rcases (mem_res hx).2 with h | h
  · exact ha x h
  · exact hb x h
/-- a model of both makes the resolvent true -/
theorem res_true {m : List Bool} {a b : List Int} {v : Int} (ha : fitsP m.length a = true) (hb : fitsP m.length b = true) (hv : a.contains v = true) (ta : mkT m a = true) (tb : mkT m b = true) : mkT m (tid (wout (tid a) v ++ wout (tid b) (-v))) = true := by
  unfold mkT at *
  rw [List.any_eq_true] at *
  obtain ⟨x, hx, tx⟩ := ta
  obtain ⟨y, hy, ty⟩ := tb
  unfold fitsP at ha hb
  rw [List.all_eq_true] at ha hb
  have fx : fmd x = true := by have := ha x hx; rw [Bool.and_eq_true] at this; exact this.1
  have fy : fmd y = true := by have := hb y hy; rw [Bool.and_eq_true] at this; exact this.1
  by_cases h : x = v
  · have hxv := ha x hx
    rw [Bool.and_eq_true, decide_eq_true_eq] at hxv
    have hopp := trv_opp fx hxv.2
    have hyv : y ≠ -v := by
      rintro rfl
      rw [← h, hopp, tx] at ty
      cases ty
    exact ⟨y, by rw [mem_tid, List.mem_append]; exact ⟨.inr (by unfold wout; rw [List.mem_filter, mem_tid]; exact ⟨⟨hy, fy⟩, by simpa using hyv⟩), fy⟩, ty⟩
  · exact ⟨x, by rw [mem_tid, List.mem_append]; exact ⟨.inl (by unfold wout; rw [List.mem_filter, mem_tid]; exact ⟨⟨hx, fx⟩, by simpa using h⟩), fx⟩, tx⟩
/-- the formula entails it -/
theorem res_ent {n : Int} {css : List (List Int)} {i j : Nat} {v : Int} (hf : frm n css = true) (hn : n ≤ 16) (hi : i < css.length) (hj : j < css.length) (h : (resolveOf (css.getD i []) (css.getD j []) v).1 = 0) :
    entB n css (resolveOf (css.getD i []) (css.getD j []) v).2 = true ∧ entE n css (resolveOf (css.getD i []) (css.getD j []) v).2 = 0 := by
  obtain ⟨h1, h2, h3⟩ := resolveOf_zero h
  rw [h3]
  have hall : ∀ z ∈ css, fitsP n z = true := by
    have := hf; simp only [frm, Bool.and_eq_true] at this; exact fun z hz => List.all_eq_true.1 this.2 z hz
  have mi : css.getD i [] ∈ css := by rw [List.getD_eq_getElem?_getD, List.getElem?_eq_getElem hi]; exact List.getElem_mem hi
  have mj : css.getD j [] ∈ css := by rw [List.getD_eq_getElem?_getD, List.getElem?_eq_getElem hj]; exact List.getElem_mem hj
  have hfit := res_fits (v := v) (hall _ mi) (hall _ mj)
  unfold entB entE
  rw [hf, hfit, if_neg (by omega : ¬ 16 < n), decide_eq_true hn]
  refine ⟨?_, rfl⟩
  simp only [Bool.true_and]
  rw [List.all_eq_true]
  intro m hm
  unfold modF at hm
  rw [hf, decide_eq_true hn] at hm
  have h0 : 0 ≤ n := by have := hf; simp only [frm, Bool.and_eq_true, decide_eq_true_eq] at this; exact this.1.1
  obtain ⟨q1, q2⟩ := mem_mods.1 (by simpa using hm)
  have q3 : (m.length : Int) = n := by omega
  unfold satT at q2
  rw [List.all_eq_true] at q2
  exact res_true (by rw [q3]; exact hall _ mi) (by rw [q3]; exact hall _ mj) h1 (q2 _ mi) (q2 _ mj)

end Go.Proofs.YtbphbnfnolgkfaaDoor

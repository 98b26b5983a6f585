/-
  What a model makes true of a tidy formula: in plain words.
-/
import Derived.Test.YtfklgfdkpmfdnaaDoorTell
import Derived.Test.YtfklgfdkpmfdnaaDoorTidyP
set_option linter.unusedSimpArgs false
set_option linter.unusedVariables false
namespace Go.Proofs.YtfklgfdkpmfdnaaDoor
open Go.RowKit

theorem mkT_congr {ms : List Bool} {a b : List Int} (h : ∀ x, x ∈ a ↔ x ∈ b) : mkT ms a = mkT ms b := by
  unfold mkT
  rw [Bool.eq_iff_iff, List.any_eq_true, List.any_eq_true]
  exact ⟨fun ⟨x, hx, e⟩ => ⟨x, (h x).1 hx, e⟩, fun ⟨x, hx, e⟩ => ⟨x, (h x).2 hx, e⟩⟩
theorem fits_fmd {n : Int} {z : List Int} (h : fitsP n z = true) : ∀ x ∈ z, fmd x = true ∧ varOf x ≤ n := fun x hx => by
  have := List.all_eq_true.1 h x hx; simpa using this
theorem mkT_tid {ms : List Bool} {n : Int} {z : List Int} (h : fitsP n z = true) : mkT ms (tid z) = mkT ms z :=
  mkT_congr fun x => by rw [mem_tid]; exact ⟨fun h => h.1, fun hx => ⟨hx, (fits_fmd h x hx).1⟩⟩
theorem trv_opp {ms : List Bool} {l : Int} (hf : fmd l = true) (hv : varOf l ≤ ms.length) : trv ms (-l) = !trv ms l := by
  have hn := fmd_neg hf
  obtain ⟨h0, _, _⟩ := fmd_range hf
  rcases Int.lt_or_gt_of_ne h0 with hs | hs
  · obtain ⟨j, hj, e1, e2, e3⟩ := trv_neg hf hv hs
    have hv2 : varOf (-l) ≤ ms.length := by rw [(there_pos hn (by omega)).2]; rw [(there_neg hf hs).2] at hv; exact hv
    obtain ⟨j', hj', e1', e2', e3'⟩ := trv_pos hn hv2 (by omega)
    obtain rfl : j' = j := by omega
    rw [e3, e3']; simp
  · obtain ⟨j, hj, e1, e2, e3⟩ := trv_pos hf hv hs
    have hv2 : varOf (-l) ≤ ms.length := by rw [(there_neg hn (by omega)).2]; rw [(there_pos hf hs).2] at hv; omega
    obtain ⟨j', hj', e1', e2', e3'⟩ := trv_neg hn hv2 (by omega)
    obtain rfl : j' = j := by omega
    rw [e3, e3']
/-- a clause in which a literal stands beside its opposite is made true -/
theorem mkT_taut {ms : List Bool} {z : List Int} (h : fitsP ms.length z = true) (ha : adj (tid z) = true) : mkT ms z = true := by
  obtain ⟨j, hj, e⟩ := (adj_iff _).1 ha
  have m1 : (tid z).getD j 0 ∈ tid z := getD_mem' (by omega)
  have m2 : (tid z).getD (j + 1) 0 ∈ tid z := getD_mem' hj
  have z1 := (mem_tid.1 m1).1
  have z2 := (mem_tid.1 m2).1
  rw [e] at z2
  obtain ⟨f1, v1⟩ := fits_fmd h _ z1
  unfold mkT
  rw [List.any_eq_true]
  cases ht : trv ms ((tid z).getD j 0)
  · exact ⟨_, z2, by rw [trv_opp f1 v1, ht]; rfl⟩
  · exact ⟨_, z1, ht⟩
theorem mdl_all {n : Int} {css : List (List Int)} {ms : List Bool} (h : mdl n css ms = true) : frm n css = true ∧ (ms.length : Int) = n ∧ ∀ z ∈ css, fitsP ms.length z = true := by
  unfold mdl at h
  simp only [Bool.and_eq_true, beq_iff_eq] at h
  refine ⟨h.1, h.2, fun z hz => ?_⟩
  have := h.1
  unfold frm at this
  simp only [Bool.and_eq_true] at this
  rw [h.2]
  exact List.all_eq_true.1 this.2 z hz
theorem getD_of_mem {css : List (List Int)} {z : List Int} (h : z ∈ css) : ∃ j, j < css.length ∧ css.getD j [] = z := by
  obtain ⟨j, hj, rfl⟩ := List.getElem_of_mem h
  exact ⟨j, hj, by simp [List.getD_eq_getElem?_getD, hj]⟩
/-- Tidy keeps the models -/
theorem sat_tidy {ms : List Bool} {css : List (List Int)} (h : ∀ z ∈ css, fitsP ms.length z = true) : satT ms (tdK css css.length) = satT ms css := by
  unfold satT
  rw [Bool.eq_iff_iff, List.all_eq_true, List.all_eq_true]
  constructor
  · intro H z hz
    obtain ⟨j, hj, e⟩ := getD_of_mem hz
    cases ha : adj (tid z)
    · have := H (tid z) ((tdK_mem css (tid z) css.length).2 ⟨ha, j, hj, by rw [e]⟩)
      rwa [mkT_tid (h z hz)] at this
    · exact mkT_taut (h z hz) ha
  · intro H t ht
    obtain ⟨_, j, hj, e⟩ := (tdK_mem css t css.length).1 ht
    have hz : css.getD j [] ∈ css := getD_mem' hj
    rw [← e, mkT_tid (h _ hz)]
    exact H _ hz
theorem frm_tidy {n : Int} {css : List (List Int)} (h : frm n css = true) : frm n (tdK css css.length) = true := by
  unfold frm at h ⊢
  simp only [Bool.and_eq_true] at h ⊢
  refine ⟨h.1, List.all_eq_true.2 fun t ht => ?_⟩
  obtain ⟨_, j, hj, e⟩ := (tdK_mem css t css.length).1 ht
  have hz := List.all_eq_true.1 h.2 _ (getD_mem' (d := []) hj)
  rw [← e]
  unfold fitsP
  rw [List.all_eq_true]
  intro x hx
  exact List.all_eq_true.1 hz x (mem_tid.1 hx).1

end Go.Proofs.YtfklgfdkpmfdnaaDoor

/-
  What Tidy, Join and Under mean by their models: in plain words.
-/
import Derived.Test.YtefjpcleknchlabDoorTell
import Derived.Test.YtefjpcleknchlabDoorTidyP
import Derived.Test.YtefjpcleknchlabDoorRemP
import Derived.Test.YtefjpcleknchlabDoorRJoin
import Derived.Test.YtefjpcleknchlabDoorUnder
set_option linter.unusedSimpArgs false
set_option linter.unusedVariables false
namespace Go.Proofs.YtefjpcleknchlabDoor
open Go.RowKit

theorem mkT_congr {ms : List Bool} {a b : List Int} (h : ∀ x, x ∈ a ↔ x ∈ b) : mkT ms a = mkT ms b := by
  unfold mkT
  rw [Bool.eq_iff_iff, List.any_eq_true, List.any_eq_true]
  exact ⟨fun ⟨x, hx, e⟩ => ⟨x, (h x).1 hx, e⟩, fun ⟨x, hx, e⟩ => ⟨x, (h x).2 hx, e⟩⟩
theorem fits_fmd {n : Int} {z : List Int} (h : fitsP n z = true) : ∀ x ∈ z, fmd x = true ∧ varOf x ≤ n := fun x hx => by
  have := List.all_eq_true.1 h x hx; simpa using this
theorem mkT_tid {ms : List Bool} {n : Int} {z : List Int} (h : fitsP n z = true) : mkT ms (tid z) = mkT ms z :=
  mkT_congr fun x => by rw [mem_tid]; exact ⟨fun h => h.1, fun hx => ⟨hx, (fits_fmd h x hx).1⟩⟩
theorem trv_opp {ms : List Bool} {l : Int} (hf : fmd l = true) (hv : varOf l ≤ ms.length) : trv ms (-l) = !trv ms l := by
  have hn := fmd_neg hf
  obtain ⟨h0, _, _⟩ := fmd_range hf
  rcases Int.lt_or_gt_of_ne h0 with hs | hs
  · obtain ⟨j, hj, e1, e2, e3⟩ := trv_neg hf hv hs
    have hv2 : varOf (-l) ≤ ms.length := by rw [(there_pos hn (by omega)).2]; rw [(there_neg hf hs).2] at hv; exact hv
    obtain ⟨j', hj', e1', e2', e3'⟩ := trv_pos hn hv2 (by omega)
    obtain rfl : j' = j := by omega
    rw [e3, e3']; simp
  · obtain ⟨j, hj, e1, e2, e3⟩ := trv_pos hf hv hs
    have hv2 : varOf (-l) ≤ ms.length := by rw [(there_neg hn (by omega)).2]; rw [(there_pos hf hs).2] at hv; omega
    obtain ⟨j', hj', e1', e2', e3'⟩ := trv_neg hn hv2 (by omega)
    obtain rfl : j' = j := by omega
    rw [e3, e3']
/-- a clause in which a literal stands beside its opposite is made true -/
theorem mkT_taut {ms : List Bool} {z : List Int} (h : fitsP ms.length z = true) (ha : adj (tid z) = true) : mkT ms z = true := by
  obtain ⟨j, hj, e⟩ := (adj_iff _).1 ha
  have m1 : (tid z).getD j 0 ∈ tid z := getD_mem' (by omega)
  have m2 : (tid z).getD (j + 1) 0 ∈ tid z := getD_mem' hj
  have z1 := (mem_tid.1 m1).1
  have z2 := (mem_tid.1 m2).1
  rw [e] at z2
  obtain ⟨f1, v1⟩ := fits_fmd h _ z1
  unfold mkT
  rw [List.any_eq_true]
  cases ht : trv ms ((tid z).getD j 0)
  · exact ⟨_, z2, by rw [trv_opp f1 v1, ht]; rfl⟩
  · exact ⟨_, z1, ht⟩
theorem mdl_all {n : Int} {css : List (List Int)} {ms : List Bool} (h : mdl n css ms = true) : frm n css = true ∧ (ms.length : Int) = n ∧ ∀ z ∈ css, fitsP ms.length z = true := by
  unfold mdl at h
  simp only [Bool.and_eq_true, beq_iff_eq] at h
  refine ⟨h.1, h.2, fun z hz => ?_⟩
  have := h.1
  unfold frm at this
  simp only [Bool.and_eq_true] at this
  rw [h.2]
  exact List.all_eq_true.1 this.2 z hz
theorem getD_of_mem {css : List (List Int)} {z : List Int} (h : z ∈ css) : ∃ j, j < css.length ∧ css.getD j [] = z := by
  obtain ⟨j, hj, rfl⟩ := List.getElem_of_mem h
  exact ⟨j, hj, by simp [List.getD_eq_getElem?_getD, hj]⟩
/-- Tidy keeps the models -/
theorem sat_tidy {ms : List Bool} {css : List (List Int)} (h : ∀ z ∈ css, fitsP ms.length z = true) : satT ms (tdK css css.length) = satT ms css := by
  unfold satT
  rw [Bool.eq_iff_iff, List.all_eq_true, List.all_eq_true]
  constructor
  · intro H z hz
    obtain ⟨j, hj, e⟩ := getD_of_mem hz
    cases ha : adj (tid z)
    · have := H (tid z) ((tdK_mem css (tid z) css.length).2 ⟨ha, j, hj, by rw [e]⟩)
      rwa [mkT_tid (h z hz)] at this
    · exact mkT_taut (h z hz) ha
  · intro H t ht
    obtain ⟨_, j, hj, e⟩ := (tdK_mem css t css.length).1 ht
    have hz : css.getD j [] ∈ css := getD_mem' hj
    rw [← e, mkT_tid (h _ hz)]
    exact H _ hz
theorem frm_tidy {n : Int} {css : List (List Int)} (h : frm n css = true) : frm n (tdK css css.length) = true := by
  unfold frm at h ⊢
  simp only [Bool.and_eq_true] at h ⊢
  refine ⟨h.1, List.all_eq_true.2 fun t ht => ?_⟩
  obtain ⟨_, j, hj, e⟩ := (tdK_mem css t css.length).1 ht
  have hz := List.all_eq_true.1 h.2 _ (getD_mem' (d := []) hj)
  rw [← e]
  unfold fitsP
  rw [List.all_eq_true]
  intro x hx
  exact List.all_eq_true.1 hz x (mem_tid.1 hx).1
theorem means_tidy {n : Int} {css : List (List Int)} {ms : List Bool} (hf : frm n css = true) : (mdl (tdF n css).1 (tdF n css).2.1 ms && satT ms (tdF n css).2.1) = (mdl n css ms && satT ms css) := by
  unfold tdF
  rw [hf]
  simp only [if_true]
  have hf2 := frm_tidy hf
  unfold mdl
  rw [hf, hf2]
  by_cases hq : (ms.length : Int) = n
  · have := sat_tidy (ms := ms) (css := css) (mdl_all (n := n) (by unfold mdl; rw [hf]; simp [hq])).2.2
    rw [this]
  · have : ((ms.length : Int) == n) = false := by simpa using hq
    rw [this]; rfl
theorem means_join {n : Int} {css dss : List (List Int)} {ms : List Bool} (hf : frm n css = true) (hg : frm n dss = true) :
    (mdl (jnF n css n dss).1 (jnF n css n dss).2.1 ms && satT ms (jnF n css n dss).2.1) = ((mdl n css ms && satT ms css) && (mdl n dss ms && satT ms dss)) := by
  have hj : frm n (css ++ dss) = true := by
    unfold frm at hf hg ⊢
    simp only [Bool.and_eq_true, List.all_append] at hf hg ⊢
    exact ⟨hf.1, hf.2, hg.2⟩
  unfold jnF
  rw [hf, hg]
  simp only [Bool.and_self, if_true]
  have hm : max n n = n := by omega
  rw [hm]
  unfold mdl
  rw [hf, hg, hj]
  cases ((ms.length : Int) == n) <;> simp [satT, List.all_append]
/-- each of the list is a literal of the model's variables, which it makes true -/
def hld (ms : List Bool) (part : List Int) : Bool := part.all (fun l => decide (l ≠ 0 ∧ l ≤ ms.length ∧ -l ≤ ms.length) && trv ms l)
/-- what holds of each literal of such a list -/
theorem hld_mem {ms : List Bool} {part : List Int} (hn : ms.length ≤ 1048576) (h : hld ms part = true) : ∀ l ∈ part, fmd l = true ∧ varOf l ≤ ms.length ∧ trv ms l = true := fun l hl => by
  have := List.all_eq_true.1 h l hl
  simp only [Bool.and_eq_true, decide_eq_true_eq] at this
  obtain ⟨⟨h0, h1, h2⟩, h3⟩ := this
  have hf : fmd l = true := fmd_true h0 (by omega) (by omega)
  refine ⟨hf, ?_, h3⟩
  rcases Int.lt_or_gt_of_ne h0 with hs | hs
  · rw [(there_neg hf hs).2]; exact h2
  · rw [(there_pos hf hs).2]; exact h1
theorem hld_fits {ms : List Bool} {part : List Int} (hn : ms.length ≤ 1048576) (h : hld ms part = true) : fitsP ms.length part = true := by
  unfold fitsP
  rw [List.all_eq_true]
  intro l hl
  obtain ⟨a, b, _⟩ := hld_mem hn h l hl
  rw [a]; simpa using b
theorem hld_adj {ms : List Bool} {part : List Int} (hn : ms.length ≤ 1048576) (h : hld ms part = true) : adj (tid part) = false := by
  cases ha : adj (tid part)
  · rfl
  · exfalso
    obtain ⟨j, hj, e⟩ := (adj_iff _).1 ha
    have m1 : (tid part).getD j 0 ∈ tid part := getD_mem' (by omega)
    have m2 : (tid part).getD (j + 1) 0 ∈ tid part := getD_mem' hj
    have z1 := (mem_tid.1 m1).1
    have z2 := (mem_tid.1 m2).1
    rw [e] at z2
    obtain ⟨f1, v1, t1⟩ := hld_mem hn h _ z1
    obtain ⟨_, _, t2⟩ := hld_mem hn h _ z2
    rw [trv_opp f1 v1, t1] at t2
    cases t2
theorem mkT_remG {ms : List Bool} {part z : List Int} (hn : ms.length ≤ 1048576) (h : hld ms part = true) (hg : remG part z = true) : mkT ms z = true := by
  unfold remG at hg
  obtain ⟨l, hl, hc⟩ := List.any_eq_true.1 hg
  have hp : l ∈ part := by simpa using hc
  exact List.any_eq_true.2 ⟨l, hl, (hld_mem hn h l hp).2.2⟩
theorem mkT_remL {ms : List Bool} {part z : List Int} (hn : ms.length ≤ 1048576) (h : hld ms part = true) (hz : fitsP ms.length z = true) : mkT ms (remL part z) = mkT ms z := by
  unfold mkT remL
  rw [Bool.eq_iff_iff, List.any_eq_true, List.any_eq_true]
  constructor
  · rintro ⟨x, hx, e⟩; exact ⟨x, (List.mem_filter.1 hx).1, e⟩
  · rintro ⟨x, hx, e⟩
    refine ⟨x, List.mem_filter.2 ⟨hx, ?_⟩, e⟩
    obtain ⟨f1, v1⟩ := fits_fmd hz x hx
    cases hc : part.contains (-x)
    · rfl
    · exfalso
      have hp : -x ∈ part := by simpa using hc
      have := (hld_mem hn h _ hp).2.2
      rw [trv_opp f1 v1, e] at this
      cases this
theorem sat_under {ms : List Bool} {part : List Int} {css : List (List Int)} (hn : ms.length ≤ 1048576) (h : hld ms part = true) (hz : ∀ z ∈ css, fitsP ms.length z = true) : satT ms (css.filterMap (rems part)) = satT ms css := by
  unfold satT
  rw [Bool.eq_iff_iff, List.all_eq_true, List.all_eq_true]
  constructor
  · intro H z hm
    cases hg : remG part z
    · have := H (remL part z) (List.mem_filterMap.2 ⟨z, hm, by unfold rems; rw [hg]; rfl⟩)
      rwa [mkT_remL hn h (hz z hm)] at this
    · exact mkT_remG hn h hg
  · intro H t ht
    obtain ⟨z, hm, e⟩ := List.mem_filterMap.1 ht
    unfold rems at e
    cases hg : remG part z
    · rw [hg] at e
      simp at e
      rw [← e, mkT_remL hn h (hz z hm)]
      exact H z hm
    · rw [hg] at e; simp at e
theorem frm_under {n : Int} {css : List (List Int)} (part : List Int) (h : frm n css = true) : frm n (css.filterMap (rems part)) = true := by
  unfold frm at h ⊢
  simp only [Bool.and_eq_true] at h ⊢
  refine ⟨h.1, List.all_eq_true.2 fun t ht => ?_⟩
  obtain ⟨z, hm, e⟩ := List.mem_filterMap.1 ht
  have hz := List.all_eq_true.1 h.2 z hm
  unfold rems at e
  cases hg : remG part z
  · rw [hg] at e
    simp at e
    rw [← e]
    unfold fitsP remL
    rw [List.all_eq_true]
    intro x hx
    exact List.all_eq_true.1 hz x (List.mem_filter.1 hx).1
  · rw [hg] at e; simp at e
theorem means_under {n : Int} {css : List (List Int)} {ms : List Bool} {part : List Int} (hm : mdl n css ms = true) (hh : hld ms part = true) :
    (unF n css part).2.2 = 0 ∧ (mdl (unF n css part).1 (unF n css part).2.1 ms && satT ms (unF n css part).2.1) = (mdl n css ms && satT ms css) := by
  obtain ⟨hf, hq, hz⟩ := mdl_all hm
  have hn : ms.length ≤ 1048576 := by
    have := hf
    unfold frm at this
    simp only [Bool.and_eq_true, decide_eq_true_eq] at this
    omega
  have hp : fitsP n part = true := by rw [← hq]; exact hld_fits hn hh
  have hu := frm_under part hf
  unfold unF
  rw [hf, hp, hld_adj hn hh]
  refine ⟨rfl, ?_⟩
  simp only [Bool.and_self, Bool.not_true, Bool.false_eq_true, if_false]
  have : mdl n (css.filterMap (rems part)) ms = true := by
    unfold mdl; rw [hu]; simpa using hq
  rw [this, hm, sat_under hn hh hz]

end Go.Proofs.YtefjpcleknchlabDoor

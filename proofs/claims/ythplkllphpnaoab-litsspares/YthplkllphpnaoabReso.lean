/-
  Resolvents as lists.
-/
import Derived.Test.YthplkllphpnaoabRes2
set_option linter.unusedSimpArgs false
set_option linter.unusedVariables false
namespace Go.Proofs.Ythplkllphpnaoab
open Go

theorem mem_wout {t : List Int} {l x : Int} : x ∈ wout t l ↔ x ∈ t ∧ x ≠ l := by unfold wout; simp
/-- the resolvent on l -/
def reso (a b : List Int) (l : Int) : List Int := tid (wout (tid a) l ++ wout (tid b) (-l))
theorem mem_reso {a b : List Int} {l x : Int} : x ∈ reso a b l ↔ fmd x = true ∧ ((x ∈ a ∧ x ≠ l) ∨ (x ∈ b ∧ x ≠ -l)) := by
  unfold reso
  rw [mem_tid, List.mem_append, mem_wout, mem_wout, mem_tid, mem_tid]
  constructor
  · rintro ⟨h | h, hf⟩
    · exact ⟨hf, .inl ⟨h.1.1, h.2⟩⟩
    · exact ⟨hf, .inr ⟨h.1.1, h.2⟩⟩
  · rintro ⟨hf, h | h⟩
    · exact ⟨.inl ⟨⟨h.1, hf⟩, h.2⟩, hf⟩
    · exact ⟨.inr ⟨⟨h.1, hf⟩, h.2⟩, hf⟩
theorem reso_fmd (a b : List Int) (l : Int) : ∀ x ∈ reso a b l, fmd x = true := fun x h => (mem_reso.1 h).1
theorem reso8 (a b : List Int) (l : Int) : (reso a b l).length * 8 ≤ 140737488351232 := tid8 _
theorem varOf_neg {l : Int} (hf : fmd l = true) : varOf (-l) = varOf l := by
  have h := fmd_range hf
  have hg := fmd_neg hf
  by_cases hs : 0 < l
  · rw [(there_pos hf hs).2, (there_neg hg (by omega)).2]; omega
  · rw [(there_neg hf (by omega)).2, (there_pos hg (by omega)).2]
theorem resAll_mem {a b : List Int} {p : Int × List Int} (h : p ∈ resAll a b) : a.all fmd = true ∧ b.all fmd = true ∧ ∃ l, fmd l = true ∧ l ∈ a ∧ -l ∈ b ∧ p = (varOf l, reso a b l) := by
  unfold resAll at h
  split at h
  · rename_i hs
    rw [Bool.and_eq_true] at hs
    unfold resOn at h
    rw [List.mem_filterMap] at h
    obtain ⟨l, hl, he⟩ := h
    unfold resOne at he
    split at he
    · rename_i hc
      simp only [Bool.and_eq_true, List.contains_iff_mem] at hc
      exact ⟨hs.1, hs.2, l, hc.1.1, (mem_tid.1 hc.1.2).1, (mem_tid.1 hc.2.2).1, by cases he; rfl⟩
    · cases he
  · cases h
theorem resAll_pivot {a b : List Int} {v : Int} (ha : a.all fmd = true) (hb : b.all fmd = true) (hv : 0 < v) (h1 : a.contains v = true) (h2 : b.contains (-v) = true) : (v, reso a b v) ∈ resAll a b := by
  rw [List.contains_iff_mem] at h1 h2
  have fv : fmd v = true := List.all_eq_true.1 ha v h1
  have fw : fmd (-v) = true := List.all_eq_true.1 hb _ h2
  unfold resAll
  rw [ha, hb]
  unfold resOn
  rw [if_pos (by rfl), List.mem_filterMap]
  refine ⟨v, mem_tid.2 ⟨h1, fv⟩, ?_⟩
  unfold resOne
  have c1 : (tid a).contains v = true := List.contains_iff_mem.2 (mem_tid.2 ⟨h1, fv⟩)
  have c2 : (tid b).contains (-v) = true := List.contains_iff_mem.2 (mem_tid.2 ⟨h2, fw⟩)
  rw [fv, fw, c1, c2, (there_pos fv hv).2]
  rfl
theorem resAll_len (a b : List Int) : (resAll a b).length ≤ 2097152 := by
  unfold resAll
  split
  · unfold resOn
    exact Nat.le_trans (List.length_filterMap_le _ _) (tid_rises a).len
  · simp
theorem resAll_fmd {a b : List Int} {p : Int × List Int} (h : p ∈ resAll a b) : ∀ x ∈ p.2, fmd x = true := by
  obtain ⟨ha, hb, l, hf, _, _, rfl⟩ := resAll_mem h
  exact reso_fmd a b l
theorem reso_at {a b : List Int} {l : Int} {k : Nat} (h : k < (reso a b l).length) :
    (a.contains ((reso a b l).getD k 0) = true ∧ (reso a b l).getD k 0 ≠ l) ∨ (b.contains ((reso a b l).getD k 0) = true ∧ (reso a b l).getD k 0 ≠ -l) := by
  have hm : (reso a b l).getD k 0 ∈ reso a b l := by rw [List.getD_eq_getElem?_getD, List.getElem?_eq_getElem h]; exact List.getElem_mem _
  rcases (mem_reso.1 hm).2 with h | h
  · exact .inl ⟨List.contains_iff_mem.2 h.1, h.2⟩
  · exact .inr ⟨List.contains_iff_mem.2 h.1, h.2⟩


theorem var_idx {y : Int} (h : fmd y = true) : varOf y = idx y / 2 + 1 := by
  have hr := fmd_range h
  by_cases hs : 0 < y
  · rw [(there_pos h hs).1, (there_pos h hs).2]; omega
  · rw [(there_neg h (by omega)).1, (there_neg h (by omega)).2]; omega
/-- those of a list whose variable is at most x -/
def vle (t : List Int) (x : Int) : List Int := t.filter (fun y => decide (varOf y ≤ x))
def lastV (t : List Int) : Nat → Int
  | 0 => 0
  | k + 1 => varOf (t.getD k 0)
theorem mem_vle {t : List Int} {x y : Int} : y ∈ vle t x ↔ y ∈ t ∧ varOf y ≤ x := by unfold vle; simp
theorem vle_zero {t : List Int} (h : Rises t) : vle t 0 = [] := by
  rw [List.eq_nil_iff_forall_not_mem]
  intro y hy
  have hm := mem_vle.1 hy
  have h1 := var_idx (h.2 y hm.1)
  have h2 := idx_range (h.2 y hm.1)
  omega
theorem getD_mem {t : List Int} {k : Nat} (h : k < t.length) : t.getD k 0 ∈ t := by rw [List.getD_eq_getElem?_getD, List.getElem?_eq_getElem h]; exact List.getElem_mem _
theorem var_mono {t : List Int} (h : Rises t) {i j : Nat} (hij : i ≤ j) (hj : j < t.length) : varOf (t.getD i 0) ≤ varOf (t.getD j 0) := by
  rw [var_idx (h.2 _ (getD_mem (by omega))), var_idx (h.2 _ (getD_mem hj))]
  rcases Nat.lt_or_ge i j with h1 | h1
  · have := rise_getD h.1 h1 hj
    omega
  · have : i = j := by omega
    subst this; exact Int.le_refl _
theorem lastV_le {t : List Int} (h : Rises t) {k : Nat} (hk : k < t.length) : lastV t k ≤ varOf (t.getD k 0) := by
  cases k with
  | zero =>
    have h1 := var_idx (h.2 _ (getD_mem hk))
    have h2 := idx_range (h.2 _ (getD_mem hk))
    show 0 ≤ _
    omega
  | succ k => exact var_mono h (Nat.le_succ _) hk
theorem vle_all {t : List Int} (h : Rises t) : vle t (lastV t t.length) = t := by
  unfold vle
  rw [List.filter_eq_self]
  intro y hy
  rw [decide_eq_true_eq]
  obtain ⟨j, hj, rfl⟩ := List.mem_iff_getElem.1 hy
  cases ht : t.length with
  | zero => omega
  | succ m =>
    have e : t[j] = t.getD j 0 := by simp [List.getD_eq_getElem?_getD, List.getElem?_eq_getElem hj]
    rw [e]
    exact var_mono h (by omega) (by omega)
/-- what is new of the next variable -/
def both (t : List Int) (v : Int) : List Int := (if t.contains v then [v] else []) ++ (if t.contains (-v) then [-v] else [])
theorem mem_both {t : List Int} {v y : Int} : y ∈ both t v ↔ y ∈ t ∧ (y = v ∨ y = -v) := by
  unfold both
  rw [List.mem_append]
  constructor
  · rintro (h | h)
    · split at h
      · rename_i hc; simp at h; subst h; exact ⟨List.contains_iff_mem.1 hc, .inl rfl⟩
      · cases h
    · split at h
      · rename_i hc; simp at h; subst h; exact ⟨List.contains_iff_mem.1 hc, .inr rfl⟩
      · cases h
  · rintro ⟨hm, rfl | rfl⟩
    · left; rw [if_pos (List.contains_iff_mem.2 hm)]; simp
    · right; rw [if_pos (List.contains_iff_mem.2 hm)]; simp
theorem vle_step {t : List Int} (h : Rises t) {k : Nat} (hk : k < t.length) (hne : varOf (t.getD k 0) ≠ lastV t k) : vle t (varOf (t.getD k 0)) = vle t (lastV t k) ++ both t (varOf (t.getD k 0)) := by
  have hv0 := h.2 _ (getD_mem hk)
  have hle := lastV_le h hk
  have hv1 := var_idx hv0
  have hv2 := idx_range hv0
  have gap : ∀ y ∈ t, varOf y ≤ lastV t k ∨ varOf (t.getD k 0) ≤ varOf y := by
    intro y hy
    obtain ⟨j, hj, rfl⟩ := List.mem_iff_getElem.1 hy
    have e : t[j] = t.getD j 0 := by simp [List.getD_eq_getElem?_getD, List.getElem?_eq_getElem hj]
    rw [e]
    rcases Nat.lt_or_ge j k with h1 | h1
    · left
      cases k with
      | zero => omega
      | succ m => exact var_mono h (by omega) (by omega)
    · right; exact var_mono h h1 hj
  generalize varOf (t.getD k 0) = v at *
  generalize lastV t k = la at *
  have hvr : ∀ y, fmd y = true → varOf y = v → y = v ∨ y = -v := by
    intro y hy e
    have hr := fmd_range hy
    by_cases hs : 0 < y
    · rw [(there_pos hy hs).2] at e; omega
    · rw [(there_neg hy (by omega)).2] at e; omega
  have hvb : ∀ y, y ∈ t → (y = v ∨ y = -v) → varOf y = v := by
    intro y hy e
    have hr := fmd_range (h.2 y hy)
    rcases e with rfl | rfl
    · exact (there_pos (h.2 _ hy) (by omega)).2
    · rw [(there_neg (h.2 _ hy) (by omega)).2]; omega
  refine rising_unique (h.1.filter _) ?_ fun y => ?_
  · rw [List.pairwise_append]
    refine ⟨h.1.filter _, ?_, ?_⟩
    · unfold both
      split
      · rename_i c1
        split
        · rename_i c2
          have f1 := h.2 _ (List.contains_iff_mem.1 c1)
          have f2 := h.2 _ (List.contains_iff_mem.1 c2)
          refine List.Pairwise.cons (fun y hy => ?_) (List.pairwise_singleton _ _)
          simp at hy
          subst hy
          rw [(there_pos f1 (by omega)).1, (there_neg f2 (by omega)).1]; omega
        · exact List.pairwise_singleton _ _
      · split
        · exact List.pairwise_singleton _ _
        · exact List.Pairwise.nil
    · intro x hx y hy
      have hx := mem_vle.1 hx
      have hy := mem_both.1 hy
      have e := hvb y hy.1 hy.2
      have hx2 := var_idx (h.2 x hx.1)
      have hy2 := var_idx (h.2 y hy.1)
      omega
  · rw [List.mem_append, mem_vle, mem_vle, mem_both]
    constructor
    · rintro ⟨hm, hl⟩
      rcases gap y hm with g | g
      · exact .inl ⟨hm, g⟩
      · exact .inr ⟨hm, hvr y (h.2 y hm) (by omega)⟩
    · rintro (⟨hm, hl⟩ | ⟨hm, e⟩)
      · exact ⟨hm, by omega⟩
      · exact ⟨hm, by rw [hvb y hm e]; exact Int.le_refl _⟩
/-- what the document adds on a variable -/
def addsL (a b : List Int) (v : Int) : List (Int × List Int) := (if a.contains v && b.contains (-v) then [(v, reso a b v)] else []) ++ (if b.contains v && a.contains (-v) then [(v, reso b a v)] else [])
theorem reso_swap (a b : List Int) (v : Int) : reso b a v = tid (wout (tid a) (-v) ++ wout (tid b) v) := by
  refine tid_congr fun x _ => ?_
  rw [List.mem_append, List.mem_append]
  exact Or.comm
theorem resOn_both {a b : List Int} {v : Int} (hv : 0 < v) (hf : fmd v = true) : resOn (tid a) (tid b) (both (tid a) v) = addsL a b v := by
  have hf2 := fmd_neg hf
  have ct : ∀ (z : List Int) (y : Int), fmd y = true → (tid z).contains y = z.contains y := fun z y hy => by
    rw [Bool.eq_iff_iff, List.contains_iff_mem, List.contains_iff_mem, mem_tid]; exact ⟨fun h => h.1, fun h => ⟨h, hy⟩⟩
  have e1 : resOne (tid a) (tid b) v = if a.contains v && b.contains (-v) then some (v, reso a b v) else none := by
    unfold resOne; rw [hf, hf2, ct a v hf, ct b (-v) hf2, (there_pos hf hv).2]; rfl
  have e2 : resOne (tid a) (tid b) (-v) = if b.contains v && a.contains (-v) then some (v, reso b a v) else none := by
    unfold resOne
    rw [Int.neg_neg, hf, hf2, ct a _ hf2, ct b v hf, varOf_neg hf, (there_pos hf hv).2, reso_swap, Bool.true_and, Bool.true_and, Bool.and_comm]
  unfold both addsL resOn
  rw [List.filterMap_append, ct a v hf, ct a (-v) hf2]
  congr 1
  · cases ha : a.contains v
    · rfl
    · rw [if_pos rfl, List.filterMap_cons, e1, ha, Bool.true_and]
      cases b.contains (-v) <;> rfl
  · cases ha : a.contains (-v)
    · rw [Bool.and_false]; rfl
    · rw [if_pos rfl, List.filterMap_cons, e2, ha, Bool.and_true]
      cases b.contains v <;> rfl
theorem resOn_step {a b : List Int} {k : Nat} (hk : k < (tid a).length) (hne : varOf ((tid a).getD k 0) ≠ lastV (tid a) k) :
    resOn (tid a) (tid b) (vle (tid a) (lastV (tid a) (k + 1))) = resOn (tid a) (tid b) (vle (tid a) (lastV (tid a) k)) ++ addsL a b (varOf ((tid a).getD k 0)) := by
  have hr := tid_rises a
  have hf := hr.2 _ (getD_mem hk)
  have h1 := var_idx hf
  have h2 := idx_range hf
  have h3 : fmd (varOf ((tid a).getD k 0)) = true := fmd_true (by omega) (by omega) (by omega)
  show resOn (tid a) (tid b) (vle (tid a) (varOf ((tid a).getD k 0))) = _
  rw [vle_step hr hk hne, ← resOn_both (by omega) h3]
  unfold resOn
  rw [List.filterMap_append]
theorem resOn_vle_len (a b : List Int) (x : Int) : (resOn (tid a) (tid b) (vle (tid a) x)).length ≤ 2097152 := by
  unfold resOn
  refine Nat.le_trans (List.length_filterMap_le _ _) ?_
  unfold vle
  exact Nat.le_trans (List.length_filter_le _ _) (tid_rises a).len

end Go.Proofs.Ythplkllphpnaoab

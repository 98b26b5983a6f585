/-
  What a resolvent holds, and when it is true.
-/
import Derived.Test.YthplkllphpnaoabRes2
import Derived.Test.YthplkllphpnaoabAsk
set_option linter.unusedSimpArgs false
set_option linter.unusedVariables false
namespace Go.Proofs.Ythplkllphpnaoab
open Go

theorem mem_wout {t : List Int} {l x : Int} : x ∈ wout t l ↔ x ∈ t ∧ x ≠ l := by unfold wout; simp
/-- the resolvent on l -/
def reso (a b : List Int) (l : Int) : List Int := tid (wout (tid a) l ++ wout (tid b) (-l))
theorem mem_reso {a b : List Int} {l x : Int} : x ∈ reso a b l ↔ fmd x = true ∧ ((x ∈ a ∧ x ≠ l) ∨ (x ∈ b ∧ x ≠ -l)) := by
  unfold reso
  rw [mem_tid, List.mem_append, mem_wout, mem_wout, mem_tid, mem_tid]
  constructor
  · rintro ⟨h | h, hf⟩
    · exact ⟨hf, .inl ⟨h.1.1, h.2⟩⟩
    · exact ⟨hf, .inr ⟨h.1.1, h.2⟩⟩
  · rintro ⟨hf, h | h⟩
    · exact ⟨.inl ⟨⟨h.1, hf⟩, h.2⟩, hf⟩
    · exact ⟨.inr ⟨⟨h.1, hf⟩, h.2⟩, hf⟩
theorem reso_fmd (a b : List Int) (l : Int) : ∀ x ∈ reso a b l, fmd x = true := fun x h => (mem_reso.1 h).1
theorem reso8 (a b : List Int) (l : Int) : (reso a b l).length * 8 ≤ 140737488351232 := tid8 _
theorem varOf_neg {l : Int} (hf : fmd l = true) : varOf (-l) = varOf l := by
  have h := fmd_range hf
  have hg := fmd_neg hf
  by_cases hs : 0 < l
  · rw [(there_pos hf hs).2, (there_neg hg (by omega)).2]; omega
  · rw [(there_neg hf (by omega)).2, (there_pos hg (by omega)).2]
theorem tru_neg {ms : List Bool} {l : Int} (hf : fmd l = true) : tru ms (-l) = !tru ms l := by
  have h := fmd_range hf
  unfold tru
  rw [varOf_neg hf]
  by_cases hs : 0 < l
  · rw [decide_eq_false (by omega : ¬ 0 < -l), decide_eq_true (by omega : 0 < l), decide_eq_true (by omega : -l < 0), decide_eq_false (by omega : ¬ l < 0)]
    split
    · rfl
    · generalize ms.getD _ false = q; cases q <;> rfl
  · rw [decide_eq_true (by omega : 0 < -l), decide_eq_false (by omega : ¬ 0 < l), decide_eq_false (by omega : ¬ -l < 0), decide_eq_true (by omega : l < 0)]
    split
    · rfl
    · generalize ms.getD _ false = q; cases q <;> rfl
theorem reso_hol {ms : List Bool} {a b : List Int} {l : Int} (ha : a.all fmd = true) (hb : b.all fmd = true) (hf : fmd l = true) (h1 : hol ms a = true) (h2 : hol ms b = true) : hol ms (reso a b l) = true := by
  unfold hol at *
  rw [List.any_eq_true] at *
  rw [List.all_eq_true] at ha hb
  obtain ⟨x, hx, tx⟩ := h1
  obtain ⟨y, hy, ty⟩ := h2
  by_cases ex : x = l
  · by_cases ey : y = -l
    · rw [ey, tru_neg hf, ← ex, tx] at ty; cases ty
    · exact ⟨y, mem_reso.2 ⟨hb y hy, .inr ⟨hy, ey⟩⟩, ty⟩
  · exact ⟨x, mem_reso.2 ⟨ha x hx, .inl ⟨hx, ex⟩⟩, tx⟩
theorem resAll_mem {a b : List Int} {p : Int × List Int} (h : p ∈ resAll a b) : a.all fmd = true ∧ b.all fmd = true ∧ ∃ l, fmd l = true ∧ l ∈ a ∧ -l ∈ b ∧ p = (varOf l, reso a b l) := by
  unfold resAll at h
  split at h
  · rename_i hs
    rw [Bool.and_eq_true] at hs
    unfold resOn at h
    rw [List.mem_filterMap] at h
    obtain ⟨l, hl, he⟩ := h
    unfold resOne at he
    split at he
    · rename_i hc
      simp only [Bool.and_eq_true, List.contains_iff_mem] at hc
      exact ⟨hs.1, hs.2, l, hc.1.1, (mem_tid.1 hc.1.2).1, (mem_tid.1 hc.2.2).1, by cases he; rfl⟩
    · cases he
  · cases h
theorem resAll_pivot {a b : List Int} {v : Int} (ha : a.all fmd = true) (hb : b.all fmd = true) (hv : 0 < v) (h1 : a.contains v = true) (h2 : b.contains (-v) = true) : (v, reso a b v) ∈ resAll a b := by
  rw [List.contains_iff_mem] at h1 h2
  have fv : fmd v = true := List.all_eq_true.1 ha v h1
  have fw : fmd (-v) = true := List.all_eq_true.1 hb _ h2
  unfold resAll
  rw [ha, hb]
  unfold resOn
  rw [if_pos (by rfl), List.mem_filterMap]
  refine ⟨v, mem_tid.2 ⟨h1, fv⟩, ?_⟩
  unfold resOne
  have c1 : (tid a).contains v = true := List.contains_iff_mem.2 (mem_tid.2 ⟨h1, fv⟩)
  have c2 : (tid b).contains (-v) = true := List.contains_iff_mem.2 (mem_tid.2 ⟨h2, fw⟩)
  rw [fv, fw, c1, c2, (there_pos fv hv).2]
  rfl
theorem resAll_len (a b : List Int) : (resAll a b).length ≤ 2097152 := by
  unfold resAll
  split
  · unfold resOn
    exact Nat.le_trans (List.length_filterMap_le _ _) (tid_rises a).len
  · simp
theorem resAll_hol {ms : List Bool} {a b : List Int} {p : Int × List Int} (h : p ∈ resAll a b) (h1 : hol ms a = true) (h2 : hol ms b = true) : hol ms p.2 = true := by
  obtain ⟨ha, hb, l, hf, _, _, rfl⟩ := resAll_mem h
  exact reso_hol ha hb hf h1 h2
theorem resAll_fmd {a b : List Int} {p : Int × List Int} (h : p ∈ resAll a b) : ∀ x ∈ p.2, fmd x = true := by
  obtain ⟨ha, hb, l, hf, _, _, rfl⟩ := resAll_mem h
  exact reso_fmd a b l
theorem reso_at {a b : List Int} {l : Int} {k : Nat} (h : k < (reso a b l).length) :
    (a.contains ((reso a b l).getD k 0) = true ∧ (reso a b l).getD k 0 ≠ l) ∨ (b.contains ((reso a b l).getD k 0) = true ∧ (reso a b l).getD k 0 ≠ -l) := by
  have hm : (reso a b l).getD k 0 ∈ reso a b l := by rw [List.getD_eq_getElem?_getD, List.getElem?_eq_getElem h]; exact List.getElem_mem _
  rcases (mem_reso.1 hm).2 with h | h
  · exact .inl ⟨List.contains_iff_mem.2 h.1, h.2⟩
  · exact .inr ⟨List.contains_iff_mem.2 h.1, h.2⟩

/-- how many of the resolvents met so far are (v, L) -/
def hits (v : Int) (L : List Int) (R : List (Int × List Int)) : Nat := R.countP (fun p => p.1 == v && p.2 == L)
theorem hits_snoc (v : Int) (L : List Int) (R : List (Int × List Int)) (p : Int × List Int) : hits v L (R ++ [p]) = hits v L R + if (p.1 == v && p.2 == L) = true then 1 else 0 := by
  unfold hits
  rw [List.countP_append, List.countP_singleton]
theorem hits_le (v : Int) (L : List Int) (R : List (Int × List Int)) : hits v L R ≤ R.length := List.countP_le_length
theorem hits_pos {v : Int} {L : List Int} {R : List (Int × List Int)} (h : (v, L) ∈ R) : 0 < hits v L R := by
  unfold hits
  rw [List.countP_pos_iff]
  exact ⟨_, h, by simp⟩

end Go.Proofs.Ythplkllphpnaoab

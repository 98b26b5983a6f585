/-
  a tidy list holds a literal beside its opposite.
-/
import Derived.Test.YtkinilhapgagcabDoorUnP
import Derived.Test.YtkinilhapgagcabDoorTidy
import Derived.Test.YtkinilhapgagcabDoorForms
set_option linter.unusedSimpArgs false
set_option linter.unusedVariables false
namespace Go.Proofs.YtkinilhapgagcabDoor
open Go Go.RowKit

theorem adj_con8 {facts : List Int} (hf : facts.all fmd = true) : adj (tid facts) = false ↔ Con facts := by
  have hmem : ∀ x, x ∈ tid facts ↔ x ∈ facts := fun x => by rw [mem_tid]; exact ⟨fun h => h.1, fun h => ⟨h, List.all_eq_true.1 hf x h⟩⟩
  constructor
  · intro h l h1 h2
    have hfl : fmd l = true := List.all_eq_true.1 hf l h1
    -- the positive one and its opposite stand side by side
    have key : ∀ p : Int, 0 < p → p ∈ facts → -p ∈ facts → False := by
      intro p hp a b
      have hfp : fmd p = true := List.all_eq_true.1 hf p a
      obtain ⟨i, hi, ei⟩ := List.getElem_of_mem ((hmem p).2 a)
      obtain ⟨j, hj, ej⟩ := List.getElem_of_mem ((hmem (-p)).2 b)
      have ip : idx p = 2 * p - 2 := (there_pos hfp hp).1
      have jp : idx (-p) = 2 * p - 1 := by rw [(there_neg (fmd_neg hfp) (by omega)).1]; omega
      have hr := List.pairwise_iff_getElem.1 (tid_rising facts)
      have hij : j = i + 1 := by
        rcases Nat.lt_trichotomy i j with c | c | c
        · refine Classical.byContradiction fun hne => ?_
          have h3 := hr i (i + 1) hi (by omega) (by omega)
          have h4 := hr (i + 1) j (by omega) hj (by omega)
          rw [ei] at h3; rw [ej] at h4
          omega
        · subst c; rw [ei] at ej; omega
        · have h3 := hr j i hj hi c
          rw [ei, ej] at h3; omega
      subst hij
      have : adj (tid facts) = true := adj_true hj (by
        rw [List.getD_eq_getElem?_getD, List.getElem?_eq_getElem hj, List.getD_eq_getElem?_getD, List.getElem?_eq_getElem hi]
        show (tid facts)[i + 1] = -(tid facts)[i]
        rw [ei, ej])
      rw [h] at this; cases this
    have h0 := (fmd_range hfl).1
    rcases (show 0 < l ∨ l < 0 by omega) with c | c
    · exact key l c h1 h2
    · exact key (-l) (by omega) h2 (by rw [Int.neg_neg]; exact h1)
  · intro hc
    cases h : adj (tid facts)
    · rfl
    · exfalso
      obtain ⟨j, hj, e⟩ := (adj_iff _).1 h
      have m1 : (tid facts).getD j 0 ∈ facts := (hmem _).1 (getD_mem' (by omega))
      have m2 : (tid facts).getD (j + 1) 0 ∈ facts := (hmem _).1 (getD_mem' hj)
      rw [e] at m2
      exact hc _ m1 m2

theorem adj_or {a b : List Int} (ha : a.all fmd = true) (hb : b.all fmd = true) : adj (tid (a ++ b)) = (adj (tid a) || (adj (tid b) || b.any (fun l => a.contains (-l)))) := by
  have hab : (a ++ b).all fmd = true := by rw [List.all_append, ha, hb]; rfl
  have f : ∀ {z : List Int}, z.all fmd = true → (adj (tid z) = true ↔ ¬ Con z) := fun {z} hz => by
    cases h : adj (tid z)
    · simp [(adj_con8 hz).1 h]
    · simp
      intro hc
      rw [(adj_con8 hz).2 hc] at h; cases h
  rw [Bool.eq_iff_iff, Bool.or_eq_true, Bool.or_eq_true, f hab, f ha, f hb, List.any_eq_true]
  constructor
  · intro h
    refine Classical.byContradiction fun hn => h ?_
    have h1 : Con a := Classical.byContradiction fun h2 => hn (.inl h2)
    have h2 : Con b := Classical.byContradiction fun h3 => hn (.inr (.inl h3))
    have h3 : ∀ l ∈ b, -l ∉ a := fun l hl hc => hn (.inr (.inr ⟨l, hl, List.contains_iff_mem.2 hc⟩))
    intro l hl hm
    rcases List.mem_append.1 hl with x | x <;> rcases List.mem_append.1 hm with y | y
    · exact h1 l x y
    · exact h3 _ y (by simpa using x)
    · exact h3 _ x y
    · exact h2 l x y
  · rintro (h | h | ⟨l, hl, hc⟩) hab
    · exact h fun l x y => hab l (List.mem_append.2 (.inl x)) (List.mem_append.2 (.inl y))
    · exact h fun l x y => hab l (List.mem_append.2 (.inr x)) (List.mem_append.2 (.inr y))
    · exact hab l (List.mem_append.2 (.inr hl)) (List.mem_append.2 (.inl (List.contains_iff_mem.1 hc)))
end Go.Proofs.YtkinilhapgagcabDoor

/-
  The set of those that were seen; what Tidy keeps: in plain words.
-/
import Derived.Test.YtfklgfdkpmfdnaaDoorText
import Derived.Test.YtfklgfdkpmfdnaaDoorTidy
import Derived.Maps.OwnSet
set_option linter.unusedSimpArgs false
set_option linter.unusedVariables false
namespace Go.Proofs.YtfklgfdkpmfdnaaDoor
open Go.RowKit Go.Maps

/-- the set that holds just the texts of these lists -/
def setX (ts : List (List Int)) : DataW Unit := setOf (.agg []) (ts.map (fun t => Lit.string (textOf t)))
theorem setX_nil : setX [] = .map [] := by simp [setX, setOf]
theorem setX_snoc (ts : List (List Int)) (t : List Int) : setX (ts ++ [t]) = (setX ts).put (.string (textOf t)) (.agg []) := by
  unfold setX; rw [List.map_append, List.map_singleton, setOf_snoc]
theorem any_text (t : List Int) : ∀ ts : List (List Int), (ts.map (fun t => Lit.string (textOf t))).any (fun x => x.sameKey (.string (textOf t))) = ts.contains t
  | [] => rfl
  | a :: r => by
    rw [List.map_cons, List.any_cons, List.contains_cons, any_text t r]
    congr 1
    show (textOf a == textOf t) = (t == a)
    by_cases e : a = t
    · subst e; simp
    · have e' : ¬ t = a := fun h => e h.symm
      have e2 : ¬ textOf a = textOf t := fun h => e (textOf_inj h)
      rw [beq_eq_false_iff_ne.2 e2, beq_eq_false_iff_ne.2 e']
theorem has_setX (ts : List (List Int)) (t : List Int) : Maps.has (setX ts) (.string (textOf t)) = ts.contains t := by
  unfold setX
  rw [has_setOf _ _ _ (fun y hy => by obtain ⟨_, _, rfl⟩ := List.mem_map.1 hy; trivial)]
  exact any_text t ts

/-- what Tidy keeps of the first k clauses -/
def tdK (css : List (List Int)) : Nat → List (List Int)
  | 0 => []
  | k + 1 => if adj (tid (css.getD k [])) || (tdK css k).contains (tid (css.getD k [])) then tdK css k else tdK css k ++ [tid (css.getD k [])]
def tdF (n : Int) (css : List (List Int)) : Int × List (List Int) × Int := if frm n css then (n, tdK css css.length, 0) else (0, [], 1)
theorem tdK_len (css : List (List Int)) : ∀ k, (tdK css k).length ≤ k
  | 0 => by simp [tdK]
  | k + 1 => by
    have := tdK_len css k
    unfold tdK; split
    · omega
    · simp; omega
theorem tdK_mem (css : List (List Int)) (t : List Int) : ∀ k, t ∈ tdK css k ↔ adj t = false ∧ ∃ j, j < k ∧ tid (css.getD j []) = t
  | 0 => by simp [tdK]
  | k + 1 => by
    have ih := tdK_mem css t k
    unfold tdK
    cases ha : adj (tid (css.getD k []))
    · cases hc : (tdK css k).contains (tid (css.getD k []))
      · simp only [Bool.or_self, Bool.false_eq_true, if_false, List.mem_append, List.mem_singleton, ih]
        constructor
        · rintro (⟨h1, j, h2, h3⟩ | rfl)
          · exact ⟨h1, j, by omega, h3⟩
          · exact ⟨ha, k, by omega, rfl⟩
        · rintro ⟨h1, j, h2, h3⟩
          by_cases e : j = k
          · subst e; exact .inr h3.symm
          · exact .inl ⟨h1, j, by omega, h3⟩
      · simp only [Bool.or_true, if_true, ih]
        constructor
        · rintro ⟨h1, j, h2, h3⟩; exact ⟨h1, j, by omega, h3⟩
        · rintro ⟨h1, j, h2, h3⟩
          by_cases e : j = k
          · subst e
            have := (tdK_mem css _ j).1 (List.contains_iff_mem.1 hc)
            rw [h3] at this; exact this
          · exact ⟨h1, j, by omega, h3⟩
    · simp only [Bool.true_or, if_true, ih]
      constructor
      · rintro ⟨h1, j, h2, h3⟩; exact ⟨h1, j, by omega, h3⟩
      · rintro ⟨h1, j, h2, h3⟩
        by_cases e : j = k
        · subst e; rw [h3, h1] at ha; cases ha
        · exact ⟨h1, j, by omega, h3⟩
theorem tdK_tid (css : List (List Int)) (k : Nat) : ∀ t ∈ tdK css k, ∃ z, t = tid z := fun t h => by
  obtain ⟨_, j, _, e⟩ := (tdK_mem css t k).1 h; exact ⟨_, e.symm⟩

end Go.Proofs.YtfklgfdkpmfdnaaDoor

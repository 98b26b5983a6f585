/-
  lits.Tidy, Has, Taut, Same: out of Join and of the library's contracts.
-/
import Derived.Test.YtldolhllacbhjaaJoin
import Derived.Test.YtldolhllacbhjaaShelf
set_option linter.unusedSimpArgs false
set_option linter.unusedVariables false
namespace Go.Proofs.Ytldolhllacbhjaa
open Go.RowKit Go.Sort

theorem tid8 (zs : List Int) : (tid zs).length * 8 ≤ 140737488351232 := by have := tid_len zs; omega

/-- two neighbours are opposites -/
def adj : List Int → Bool
  | a :: b :: r => (b == -a) || adj (b :: r)
  | _ => false
theorem adj_iff : ∀ l : List Int, adj l = true ↔ ∃ j, j + 1 < l.length ∧ l.getD (j + 1) 0 = -l.getD j 0
  | [] => by simp [adj]
  | [a] => by simp [adj]
  | a :: b :: r => by
    rw [adj, Bool.or_eq_true, adj_iff (b :: r)]
    constructor
    · rintro (h | ⟨j, h1, h2⟩)
      · exact ⟨0, by simp, by simpa using h⟩
      · exact ⟨j + 1, by simpa using h1, by simpa using h2⟩
    · rintro ⟨j, h1, h2⟩
      cases j with
      | zero => exact .inl (by simpa using h2)
      | succ j => exact .inr ⟨j, by simpa using h1, by simpa using h2⟩
theorem adj_false {l : List Int} (h : ∀ j, j + 1 < l.length → l.getD (j + 1) 0 ≠ -l.getD j 0) : adj l = false := by
  cases hc : adj l with
  | false => rfl
  | true => obtain ⟨j, h1, h2⟩ := (adj_iff l).1 hc; exact absurd h2 (h j h1)
theorem adj_true {l : List Int} {j : Nat} (h1 : j + 1 < l.length) (h2 : l.getD (j + 1) 0 = -l.getD j 0) : adj l = true := (adj_iff l).2 ⟨j, h1, h2⟩

/-- the one ahead of place k; 0 ahead of the first -/
def ahead1 (t : List Int) : Nat → Int
  | 0 => 0
  | k + 1 => t.getD k 0

theorem getD_fmd {zs : List Int} {k : Nat} (h : k < (tid zs).length) : fmd ((tid zs).getD k 0) = true := by
  rw [List.getD_eq_getElem?_getD, List.getElem?_eq_getElem h]
  exact tid_fmd _ (List.getElem_mem h)
theorem ahead1_range {zs : List Int} {k : Nat} (h : k < (tid zs).length) : -1048576 ≤ ahead1 (tid zs) k ∧ ahead1 (tid zs) k ≤ 1048576 := by
  cases k with
  | zero => simp [ahead1]
  | succ k => have := fmd_range (getD_fmd (zs := zs) (k := k) (by omega)); exact this.2

theorem equal_any (va vb : Value) (a b : List Int) (w : World) (ha : Rd w va a) (hb : Rd w vb b) :
    Calls Try.prog 24 #[va, vb] w fun e w' => e = .returned (.bool (a == b)) ∧ Below w.heap.size w w' := by
  have hla := ha.len
  have hlb := hb.len
  rcases ha.cases with ⟨rfl, aa, ca, rfl, _, _⟩ | ⟨ba, oa, ca, rfl, pa, hca, hma, hba, cela⟩
  · obtain ⟨_, ab, cb, rfl, _⟩ := hb
    refine (Try.slices_Equal_int_empty aa ab ca b.length cb w (by omega)).mono ?_
    rintro e w' ⟨rfl, rfl⟩
    refine ⟨ret_bool ?_, Below.refl _ _⟩
    cases b <;> simp
  · rcases hb.cases with ⟨rfl, ab, cb, rfl, _, _⟩ | ⟨bb, ob, cb, rfl, pb, hcb, hmb, hbb, celb⟩
    · refine (Try.slices_Equal_int_lens _ ab a.length ca 0 cb w (by omega)).mono ?_
      rintro e w' ⟨rfl, rfl⟩
      refine ⟨ret_bool ?_, Below.refl _ _⟩
      cases a with
      | nil => simp at pa
      | cons x r => rfl
    · refine (Try.slices_Equal_int ba oa a.length ca bb ob b.length cb a b w (Nat.le_refl _) (Nat.le_refl _) (by omega) (by omega) cela celb).mono ?_
      rintro e w' ⟨rfl, q, rfl⟩
      rw [List.take_length, List.take_length]
      exact ⟨rfl, below_drewN _ _⟩

end Go.Proofs.Ytldolhllacbhjaa

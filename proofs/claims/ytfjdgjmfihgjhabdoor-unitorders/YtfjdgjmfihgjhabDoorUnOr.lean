/-
  UnitOrders, the pure part: clauses in another order, turned round, with one literal twice; facts turned round and twice.
  KEEP: set on app at below new trans refl start ap kept rd rds mono lt add none own nil put len pos setF setV putL putR other neV same_any
-/
import Derived.Test.YtfjdgjmfihgjhabDoorUnHi
set_option linter.unusedSimpArgs false
set_option linter.unusedVariables false
namespace Go.Proofs.YtfjdgjmfihgjhabDoor
open Go Go.RowKit
/-- turned round, and its first once more -/
def twist (c : List Int) : List Int := c.reverse ++ c.reverse.take 1
theorem mem_twist {c : List Int} {x : Int} : x ∈ twist c ↔ x ∈ c := by
  unfold twist
  rw [List.mem_append, List.mem_reverse]
  exact ⟨fun h => h.elim id fun h => List.mem_reverse.1 (List.mem_of_mem_take h), .inl⟩
theorem twist_len (c : List Int) : (twist c).length ≤ c.length + 1 := by
  unfold twist; simp; omega
/-- the clauses from f up to t are still to be taken; gs are those that were -/
structure Od (css gs : List (List Int)) (f t : Nat) : Prop where
  le : f ≤ t
  top : t ≤ css.length
  num : gs.length + (t - f) = css.length
  of : ∀ g ∈ gs, ∃ c ∈ css, ∀ x, x ∈ g ↔ x ∈ c
  all : ∀ i, i < css.length → (i < f ∨ t ≤ i) → ∃ g ∈ gs, ∀ x, x ∈ css.getD i [] ↔ x ∈ g
  sum : lsum gs + lsum ((css.drop f).take (t - f)) ≤ lsum css + gs.length
theorem lsum_app (a b : List (List Int)) : lsum (a ++ b) = lsum a + lsum b := by unfold lsum; simp
theorem lsum_cons1 (a : List Int) (b : List (List Int)) : lsum (a :: b) = a.length + lsum b := by unfold lsum; simp
theorem Od.start (css : List (List Int)) : Od css [] 0 css.length where
  le := Nat.zero_le _
  top := Nat.le_refl _
  num := by simp
  of := by simp
  all := fun i h1 h2 => by omega
  sum := by simp [lsum]
theorem Od.front {css gs : List (List Int)} {f t : Nat} (h : Od css gs f t) (hl : f < t) : Od css (gs ++ [twist (css.getD f [])]) (f + 1) t where
  le := hl
  top := h.top
  num := by have := h.num; simp; omega
  of := fun g hg => by
    rcases List.mem_append.1 hg with hg | hg
    · exact h.of g hg
    · rw [List.mem_singleton.1 hg]
      exact ⟨_, getD_mem' (Nat.lt_of_lt_of_le hl h.top), fun x => mem_twist⟩
  all := fun i h1 h2 => by
    by_cases e : i = f
    · exact ⟨_, List.mem_append.2 (.inr (List.mem_singleton.2 rfl)), fun x => by rw [e]; exact mem_twist.symm⟩
    · obtain ⟨g, a, b⟩ := h.all i h1 (by omega)
      exact ⟨g, List.mem_append.2 (.inl a), b⟩
  sum := by
    have h1 := h.sum
    have hf := Nat.lt_of_lt_of_le hl h.top
    have e : css.drop f = css.getD f [] :: css.drop (f + 1) := by
      rw [List.drop_eq_getElem_cons hf, List.getD_eq_getElem?_getD, List.getElem?_eq_getElem hf]; rfl
    rw [e, show t - f = (t - (f + 1)) + 1 by omega, List.take_succ_cons, lsum_cons1] at h1
    have := twist_len (css.getD f [])
    rw [lsum_app, lsum_cons1, List.length_append, List.length_singleton]
    have e0 : lsum [] = 0 := rfl
    (try rw [lsum_cons1] at h1)
    rw [e0] at *
    omega
theorem Od.back {css gs : List (List Int)} {f t : Nat} (h : Od css gs f t) (hl : f < t) : Od css (gs ++ [twist (css.getD (t - 1) [])]) f (t - 1) where
  le := by omega
  top := by have := h.top; omega
  num := by have := h.num; simp; omega
  of := fun g hg => by
    rcases List.mem_append.1 hg with hg | hg
    · exact h.of g hg
    · rw [List.mem_singleton.1 hg]
      exact ⟨_, getD_mem' (by have := h.top; omega), fun x => mem_twist⟩
  all := fun i h1 h2 => by
    by_cases e : i = t - 1
    · exact ⟨_, List.mem_append.2 (.inr (List.mem_singleton.2 rfl)), fun x => by rw [e]; exact mem_twist.symm⟩
    · obtain ⟨g, a, b⟩ := h.all i h1 (by omega)
      exact ⟨g, List.mem_append.2 (.inl a), b⟩
  sum := by
    have h1 := h.sum
    have hf : t - 1 < css.length := by have := h.top; omega
    have hk : t - 1 - f < (css.drop f).length := by rw [List.length_drop]; omega
    have e : (css.drop f).take (t - f) = (css.drop f).take (t - 1 - f) ++ [css.getD (t - 1) []] := by
      rw [show t - f = (t - 1 - f) + 1 by omega, List.take_succ_eq_append_getElem hk, List.getElem_drop, List.getD_eq_getElem?_getD, List.getElem?_eq_getElem hf]
      simp [show f + (t - 1 - f) = t - 1 by omega]
    rw [e, lsum_app] at h1
    have := twist_len (css.getD (t - 1) [])
    rw [lsum_app, lsum_cons1, List.length_append, List.length_singleton]
    have e0 : lsum [] = 0 := rfl
    (try rw [lsum_cons1] at h1)
    rw [e0] at *
    omega
/-- all taken: the same clauses, as sets of literals -/
structure Oe (css gs : List (List Int)) : Prop where
  of : ∀ g ∈ gs, ∃ c ∈ css, ∀ x, x ∈ g ↔ x ∈ c
  all : ∀ c ∈ css, ∃ g ∈ gs, ∀ x, x ∈ c ↔ x ∈ g
theorem Od.done {css gs : List (List Int)} {f t : Nat} (h : Od css gs f t) (hl : ¬ f < t) : Oe css gs where
  of := h.of
  all := fun c hc => by
    obtain ⟨i, hi, rfl⟩ := List.getElem_of_mem hc
    obtain ⟨g, a, b⟩ := h.all i hi (by have := h.le; omega)
    refine ⟨g, a, fun x => ?_⟩
    rw [← b x, List.getD_eq_getElem?_getD, List.getElem?_eq_getElem hi]; rfl
theorem Oe.more {css gs : List (List Int)} (h : Oe css gs) {c : List Int} (hc : c ∈ css) : Oe css (gs ++ [c]) where
  of := fun g hg => by
    rcases List.mem_append.1 hg with hg | hg
    · exact h.of g hg
    · rw [List.mem_singleton.1 hg]; exact ⟨c, hc, fun _ => Iff.rfl⟩
  all := fun d hd => by
    obtain ⟨g, a, b⟩ := h.all d hd
    exact ⟨g, List.mem_append.2 (.inl a), b⟩
theorem Oe.frm {n : Int} {css gs : List (List Int)} (h : Oe css gs) (hf : frm n css = true) : frm n gs = true := by
  unfold Go.Proofs.YtfjdgjmfihgjhabDoor.frm at hf ⊢
  rw [Bool.and_eq_true] at hf ⊢
  refine ⟨hf.1, List.all_eq_true.2 fun g hg => ?_⟩
  obtain ⟨c, hc, e⟩ := h.of g hg
  have := List.all_eq_true.1 (List.all_eq_true.1 hf.2 c hc)
  exact List.all_eq_true.2 fun x hx => this x ((e x).1 hx)
/-- the same answer -/
theorem Oe.says {css gs : List (List Int)} (h : Oe css gs) {L L' : List Int} (hL : ∀ x, x ∈ L' ↔ x ∈ L) {b b' : Bool} {D D' : List Int} (h1 : Says6 css L b D) (h2 : Says6 gs L' b' D') : b = b' ∧ D = D' := by
  have hc1 : ∀ c ∈ css, ∃ c' ∈ gs, ∀ x, x ∈ c ↔ x ∈ c' := h.all
  have hc2 : ∀ c ∈ gs, ∃ c' ∈ css, ∀ x, x ∈ c ↔ x ∈ c' := h.of
  have hl1 : ∀ x ∈ L, Der gs L' x := fun x hx => .fact ((hL x).2 hx)
  have hl2 : ∀ x ∈ L', Der css L x := fun x hx => .fact ((hL x).1 hx)
  exact Says6.unique (fun x => ⟨fun d => d.mono hc1 hl1, fun d => d.mono hc2 hl2⟩) ⟨fun d => d.mono hc1 hl1, fun d => d.mono hc2 hl2⟩ h1 h2
end Go.Proofs.YtfjdgjmfihgjhabDoor

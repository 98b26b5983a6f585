/-
  Formulas in memory: what a slice of lists reads; what is well shaped, what a model makes true, in plain words.
-/
import Derived.Test.YtmfcaoacklbkoaaDoorLists
import Derived.WalkSpells
import Derived.Deep.LoopGhost
set_option linter.unusedSimpArgs false
set_option linter.unusedVariables false
namespace Go.Proofs.YtmfcaoacklbkoaaDoor
open Go.RowKit

/-- the slice reads the lists css -/
def Rds (w : World) (v : Value) (css : List (List Int)) : Prop :=
  css.length * 24 ≤ 140737488351232 ∧ ∃ a c, v = .slice a css.length c ∧ css.length ≤ c ∧ c ≤ maxLen ∧ (a = none → c = 0) ∧
    (css ≠ [] → ∃ b off, a = some ⟨b, off, none⟩ ∧ b < w.heap.size ∧ ∀ j, j < css.length → ∃ u, w.cell? ⟨b, off + j, none⟩ = some u ∧ Rd w u (css.getD j []))

theorem Rds.len {w : World} {v : Value} {css : List (List Int)} (h : Rds w v css) : css.length * 24 ≤ 140737488351232 := h.1
theorem Rds.below {w w' : World} {v : Value} {css : List (List Int)} (h : Rds w v css) (hb : Below w.heap.size w w') : Rds w' v css := by
  obtain ⟨h1, a, c, rfl, hc, hm, hn, h2⟩ := h
  refine ⟨h1, a, c, rfl, hc, hm, hn, fun hne => ?_⟩
  obtain ⟨b, off, rfl, hlt, hcell⟩ := h2 hne
  refine ⟨b, off, rfl, Nat.lt_of_lt_of_le hlt hb.size, fun j hj => ?_⟩
  obtain ⟨u, hu, hr⟩ := hcell j hj
  exact ⟨u, (hb.cell (p := ⟨b, off + j, none⟩) hlt).trans hu, hr.below hb⟩
theorem Rds.cases {w : World} {v : Value} {css : List (List Int)} (h : Rds w v css) :
    (css = [] ∧ ∃ a c, v = .slice a 0 c ∧ c ≤ maxLen ∧ (a = none → c = 0)) ∨ ∃ b off c, v = .slice (some ⟨b, off, none⟩) css.length c ∧ 0 < css.length ∧ css.length ≤ c ∧ c ≤ maxLen ∧ b < w.heap.size ∧ ∀ j, j < css.length → ∃ u, w.cell? ⟨b, off + j, none⟩ = some u ∧ Rd w u (css.getD j []) := by
  obtain ⟨h1, a, c, rfl, hc, hm, hn, h2⟩ := h
  by_cases hz : css = []
  · subst hz; exact .inl ⟨rfl, a, c, rfl, hm, hn⟩
  · obtain ⟨b, off, rfl, hlt, hcell⟩ := h2 hz
    exact .inr ⟨b, off, c, rfl, List.length_pos_iff.2 hz, hc, hm, hlt, hcell⟩
theorem Rds.nil (w : World) : Rds w (.slice none 0 0) [] := ⟨by simp, none, 0, rfl, Nat.le_refl _, Nat.zero_le _, fun _ => rfl, fun h => absurd rfl h⟩

/-- a slice's form and where its elements lie, in one breath (no parting on the empty one) -/
theorem Rd.form {w : World} {v : Value} {zs : List Int} (h : Rd w v zs) : ∃ a c, v = .slice a zs.length c ∧ zs.length ≤ c ∧ c ≤ maxLen ∧ ∀ k, k < zs.length → ∃ b off, a = some ⟨b, off, none⟩ ∧ w.cell? ⟨b, off + k, none⟩ = some (.int .i64 (zs.getD k 0)) := by
  obtain ⟨h1, a, c, rfl, hc, hm, hn, h2⟩ := h
  refine ⟨a, c, rfl, hc, hm, fun k hk => ?_⟩
  obtain ⟨b, off, e, _, hcell⟩ := h2 (by intro e; subst e; simp at hk)
  exact ⟨b, off, e, hcell k hk⟩
theorem Rds.form {w : World} {v : Value} {css : List (List Int)} (h : Rds w v css) : ∃ a c, v = .slice a css.length c ∧ css.length ≤ c ∧ c ≤ maxLen ∧ ∀ k, k < css.length → ∃ b off u, a = some ⟨b, off, none⟩ ∧ w.cell? ⟨b, off + k, none⟩ = some u ∧ Rd w u (css.getD k []) := by
  obtain ⟨h1, a, c, rfl, hc, hm, hn, h2⟩ := h
  refine ⟨a, c, rfl, hc, hm, fun k hk => ?_⟩
  obtain ⟨b, off, e, _, hcell⟩ := h2 (by intro e; subst e; simp at hk)
  obtain ⟨u, hu, hr⟩ := hcell k hk
  exact ⟨b, off, u, e, hu, hr⟩

/-- the list's literals are literals of the variables 1 to n -/
def fitsP (n : Int) (c : List Int) : Bool := c.all (fun l => fmd l && decide (varOf l ≤ n))
/-- well shaped -/
def frm (n : Int) (css : List (List Int)) : Bool := decide (0 ≤ n ∧ n ≤ 1048576) && css.all (fitsP n)
/-- the lengths together, as the machine adds them -/
def szs : List (List Int) → Int
  | css => css.foldl (fun a c => wrap64 (a + c.length)) 0

theorem take_succ_getD {α : Type} (l : List α) (d : α) (k : Nat) (h : k < l.length) : l.take (k + 1) = l.take k ++ [l.getD k d] := by
  rw [List.take_succ_eq_append_getElem h]; simp [List.getD_eq_getElem?_getD, List.getElem?_eq_getElem h]
theorem all_take_getD {α : Type} (f : α → Bool) (l : List α) (d : α) (k : Nat) (h : k < l.length) : (l.take (k + 1)).all f = ((l.take k).all f && f (l.getD k d)) := by
  rw [take_succ_getD l d k h, List.all_append]; simp
theorem all_false_getD {α : Type} {f : α → Bool} {l : List α} {d : α} {k : Nat} (h : k < l.length) (hf : f (l.getD k d) = false) : l.all f = false := by
  rw [List.all_eq_false]
  refine ⟨l[k], List.getElem_mem h, ?_⟩
  simp [List.getD_eq_getElem?_getD, List.getElem?_eq_getElem h] at hf
  simp [hf]
theorem any_take_getD {α : Type} (f : α → Bool) (l : List α) (d : α) (k : Nat) (h : k < l.length) : (l.take (k + 1)).any f = ((l.take k).any f || f (l.getD k d)) := by
  rw [take_succ_getD l d k h, List.any_append]; simp
theorem any_true_getD {α : Type} {f : α → Bool} {l : List α} {d : α} {k : Nat} (h : k < l.length) (hf : f (l.getD k d) = true) : l.any f = true := by
  rw [List.any_eq_true]
  refine ⟨l[k], List.getElem_mem h, ?_⟩
  simp [List.getD_eq_getElem?_getD, List.getElem?_eq_getElem h] at hf
  simp [hf]
theorem getD_mem' {α : Type} {l : List α} {d : α} {k : Nat} (h : k < l.length) : l.getD k d ∈ l := by
  rw [List.getD_eq_getElem?_getD, List.getElem?_eq_getElem h]; exact List.getElem_mem h

end Go.Proofs.YtmfcaoacklbkoaaDoor

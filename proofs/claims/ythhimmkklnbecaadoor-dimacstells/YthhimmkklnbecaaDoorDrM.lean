/-
  Steps in memory: what a slice of steps reads; a row of steps of a call's own, its lists apart.
  KEEP: nil below mono grown app rdz form len row own ap cells
-/
import Derived.Test.YthhimmkklnbecaaDoorDrP
import Derived.Test.YthhimmkklnbecaaDoorGrow
import Derived.Test.YthhimmkklnbecaaDoorAppK
set_option linter.unusedSimpArgs false
set_option linter.unusedVariables false
namespace Go.Proofs.YthhimmkklnbecaaDoor
open Go.RowKit

/-- the slice reads the steps l -/
def RdZ (w : World) (v : Value) (l : List Stp) : Prop :=
  l.length * 32 ≤ 140737488351232 ∧ ∃ a c, v = .slice a l.length c ∧ l.length ≤ c ∧ c ≤ maxLen ∧
    (l ≠ [] → ∃ b off, a = some ⟨b, off, none⟩ ∧ b < w.heap.size ∧ ∀ j, j < l.length → ∃ u, w.cell? ⟨b, off + j * 2, none⟩ = some (.bool (l.getD j (false, [])).1) ∧ w.cell? ⟨b, off + j * 2 + 1, none⟩ = some u ∧ Rd w u (l.getD j (false, [])).2)
theorem RdZ.len {w : World} {v : Value} {l : List Stp} (h : RdZ w v l) : l.length * 32 ≤ 140737488351232 := h.1
theorem RdZ.below {w w' : World} {v : Value} {l : List Stp} (h : RdZ w v l) (hb : Below w.heap.size w w') : RdZ w' v l := by
  obtain ⟨h1, a, c, rfl, hc, hm, h2⟩ := h
  refine ⟨h1, a, c, rfl, hc, hm, fun hne => ?_⟩
  obtain ⟨b, off, rfl, hlt, hcell⟩ := h2 hne
  refine ⟨b, off, rfl, Nat.lt_of_lt_of_le hlt hb.size, fun j hj => ?_⟩
  obtain ⟨u, hd, hu, hr⟩ := hcell j hj
  exact ⟨u, (hb.cell (p := ⟨b, off + j * 2, none⟩) hlt).trans hd, (hb.cell (p := ⟨b, off + j * 2 + 1, none⟩) hlt).trans hu, hr.below hb⟩
theorem RdZ.nil (w : World) : RdZ w (.slice none 0 0) [] := ⟨by simp, none, 0, rfl, Nat.le_refl _, Nat.zero_le _, fun h => absurd rfl h⟩
theorem RdZ.form {w : World} {v : Value} {l : List Stp} (h : RdZ w v l) : ∃ a c, v = .slice a l.length c ∧ l.length ≤ c ∧ c ≤ maxLen ∧ ∀ k, k < l.length → ∃ b off u, a = some ⟨b, off, none⟩ ∧ b < w.heap.size ∧ w.cell? ⟨b, off + k * 2, none⟩ = some (.bool (l.getD k (false, [])).1) ∧ w.cell? ⟨b, off + k * 2 + 1, none⟩ = some u ∧ Rd w u (l.getD k (false, [])).2 := by
  obtain ⟨h1, a, c, rfl, hc, hm, h2⟩ := h
  refine ⟨a, c, rfl, hc, hm, fun k hk => ?_⟩
  obtain ⟨b, off, e, hb, hcell⟩ := h2 (by intro e; subst e; simp at hk)
  obtain ⟨u, hd, hu, hr⟩ := hcell k hk
  exact ⟨b, off, u, e, hb, hd, hu, hr⟩

/-- a step with the value of its list -/
abbrev SV := Bool × Cls
def svC (L : List SV) : List Value := L.flatMap (fun x => [.bool x.1, x.2.1])
def svS (L : List SV) : List Stp := L.map (fun x => (x.1, x.2.2))
theorem svC_len (L : List SV) : (svC L).length = L.length * 2 := by
  induction L with
  | nil => rfl
  | cons x r ih => simp only [svC, List.flatMap_cons, List.length_append, List.length_cons, List.length_nil] at ih ⊢; omega
theorem svC_snoc (L : List SV) (x : SV) : svC (L ++ [x]) = svC L ++ [.bool x.1, x.2.1] := by simp [svC]
theorem svS_snoc (L : List SV) (x : SV) : svS (L ++ [x]) = svS L ++ [(x.1, x.2.2)] := by simp [svS]
theorem svS_len (L : List SV) : (svS L).length = L.length := by simp [svS]
theorem svC_at : ∀ (L : List SV) (j : Nat) (h : j < L.length), (svC L)[j * 2]? = some (.bool L[j].1) ∧ (svC L)[j * 2 + 1]? = some L[j].2.1
  | x :: r, 0, _ => ⟨rfl, rfl⟩
  | x :: r, j + 1, h => by
    have := svC_at r j (by simpa using h)
    have e : svC (x :: r) = .bool x.1 :: x.2.1 :: svC r := rfl
    rw [e, show (j + 1) * 2 = j * 2 + 1 + 1 by omega, show j * 2 + 1 + 1 + 1 = (j * 2 + 1) + 1 + 1 by omega]
    simpa using this
theorem rdz_each {w : World} {v : Value} {l : List Stp} (h : RdZ w v l) : ∀ x ∈ l, x.2.length * 8 ≤ 140737488351232 := fun x hx => by
  obtain ⟨k, hk, rfl⟩ := List.getElem_of_mem hx
  obtain ⟨_, _, _, _, _, hc⟩ := h.form
  obtain ⟨_, _, u, _, _, _, _, hr⟩ := hc k hk
  have := hr.len
  simpa [List.getD_eq_getElem?_getD, hk] using this
end Go.Proofs.YthhimmkklnbecaaDoor

/-
  What a model makes true: the program's and the document's, walked.
-/
import Derived.Test.YtpebpnbikdahkaaDoorShape
import Derived.Maps.AppendAt
import Derived.OwnWalk
set_option linter.unusedSimpArgs false
set_option linter.unusedVariables false
namespace Go.Proofs.YtpebpnbikdahkaaDoor
open Go.RowKit

/-- the slice reads these truths -/
def RdB (w : World) (v : Value) (ms : List Bool) : Prop :=
  ms.length ≤ 140737488351232 ∧ ∃ a c, v = .slice a ms.length c ∧ (ms ≠ [] → ∃ b off, a = some ⟨b, off, none⟩ ∧ b < w.heap.size ∧ ∀ j, j < ms.length → w.cell? ⟨b, off + j, none⟩ = some (.bool (ms.getD j false)))
theorem RdB.below {w w' : World} {v : Value} {ms : List Bool} (h : RdB w v ms) (hb : Below w.heap.size w w') : RdB w' v ms := by
  obtain ⟨h1, a, c, rfl, h2⟩ := h
  refine ⟨h1, a, c, rfl, fun hne => ?_⟩
  obtain ⟨b, off, rfl, hlt, hcell⟩ := h2 hne
  exact ⟨b, off, rfl, Nat.lt_of_lt_of_le hlt hb.size, fun j hj => (hb.cell (p := ⟨b, off + j, none⟩) hlt).trans (hcell j hj)⟩
theorem RdB.nil (w : World) : RdB w (.slice none 0 0) [] := ⟨by simp, none, 0, rfl, fun h => absurd rfl h⟩
theorem RdB.len {w : World} {v : Value} {ms : List Bool} (h : RdB w v ms) : ms.length ≤ 140737488351232 := h.1
theorem RdB.form {w : World} {v : Value} {ms : List Bool} (h : RdB w v ms) : ∃ a c, v = .slice a ms.length c ∧ ∀ k, k < ms.length → ∃ b off, a = some ⟨b, off, none⟩ ∧ w.cell? ⟨b, off + k, none⟩ = some (.bool (ms.getD k false)) := by
  obtain ⟨h1, a, c, rfl, h2⟩ := h
  refine ⟨a, c, rfl, fun k hk => ?_⟩
  obtain ⟨b, off, e, _, hcell⟩ := h2 (by intro e; subst e; simp at hk)
  exact ⟨b, off, e, hcell k hk⟩

/-- does the model make the literal true -/
def trv (ms : List Bool) (l : Int) : Bool := ms.getD (varOf l - 1).toNat false == decide (0 < l)
/-- .. a literal of the clause -/
def mkT (ms : List Bool) (c : List Int) : Bool := c.any (trv ms)
/-- .. each clause -/
def satT (ms : List Bool) (css : List (List Int)) : Bool := css.all (mkT ms)
/-- a literal of the model's variables: its place -/
theorem trv_pos {ms : List Bool} {l : Int} (hf : fmd l = true) (hv : varOf l ≤ ms.length) (hs : 0 < l) : ∃ j : Nat, j < ms.length ∧ l = (j : Int) + 1 ∧ varOf l = (j : Int) + 1 ∧ trv ms l = ms.getD j false := by
  obtain ⟨_, e⟩ := there_pos hf hs
  refine ⟨(l - 1).toNat, by omega, by omega, by omega, ?_⟩
  unfold trv; rw [e]; simp [hs]
theorem trv_neg {ms : List Bool} {l : Int} (hf : fmd l = true) (hv : varOf l ≤ ms.length) (hs : l < 0) : ∃ j : Nat, j < ms.length ∧ l = -((j : Int) + 1) ∧ varOf l = (j : Int) + 1 ∧ trv ms l = !ms.getD j false := by
  obtain ⟨_, e⟩ := there_neg hf hs
  refine ⟨(-l - 1).toNat, by omega, by omega, by omega, ?_⟩
  unfold trv; rw [e, show decide (0 < l) = false from decide_eq_false (by omega)]
  cases ms.getD (-l - 1).toNat false <;> rfl
theorem fits_at {n : Int} {zs : List Int} {k : Nat} (h : fitsP n zs = true) (hk : k < zs.length) : fmd (zs.getD k 0) = true ∧ varOf (zs.getD k 0) ≤ n := by
  have := List.all_eq_true.1 h _ (getD_mem' (d := 0) hk)
  simpa using this

end Go.Proofs.YtpebpnbikdahkaaDoor

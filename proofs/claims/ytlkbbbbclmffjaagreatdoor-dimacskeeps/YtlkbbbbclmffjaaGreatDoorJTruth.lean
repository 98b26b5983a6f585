/-
  joined: Truth Bits
-/
import Derived.Test.YtlkbbbbclmffjaaGreatDoorJForms
import Derived.Maps.AppendAt
import Derived.OwnWalk
set_option linter.unusedSimpArgs false
set_option linter.unusedVariables false
namespace Go.Proofs.YtlkbbbbclmffjaaGreatDoor
open Go.RowKit

/-- the slice reads these truths -/
def RdB (w : World) (v : Value) (ms : List Bool) : Prop :=
  ms.length ≤ 140737488351232 ∧ ∃ a c, v = .slice a ms.length c ∧ (ms ≠ [] → ∃ b off, a = some ⟨b, off, none⟩ ∧ b < w.heap.size ∧ ∀ j, j < ms.length → w.cell? ⟨b, off + j, none⟩ = some (.bool (ms.getD j false)))
theorem RdB.below {w w' : World} {v : Value} {ms : List Bool} (h : RdB w v ms) (hb : Below w.heap.size w w') : RdB w' v ms := by
  obtain ⟨h1, a, c, rfl, h2⟩ := h
  refine ⟨h1, a, c, rfl, fun hne => ?_⟩
  obtain ⟨b, off, rfl, hlt, hcell⟩ := h2 hne
  exact ⟨b, off, rfl, Nat.lt_of_lt_of_le hlt hb.size, fun j hj => (hb.cell (p := ⟨b, off + j, none⟩) hlt).trans (hcell j hj)⟩
theorem RdB.nil (w : World) : RdB w (.slice none 0 0) [] := ⟨by simp, none, 0, rfl, fun h => absurd rfl h⟩
theorem RdB.len {w : World} {v : Value} {ms : List Bool} (h : RdB w v ms) : ms.length ≤ 140737488351232 := h.1
theorem RdB.form {w : World} {v : Value} {ms : List Bool} (h : RdB w v ms) : ∃ a c, v = .slice a ms.length c ∧ ∀ k, k < ms.length → ∃ b off, a = some ⟨b, off, none⟩ ∧ w.cell? ⟨b, off + k, none⟩ = some (.bool (ms.getD k false)) := by
  obtain ⟨h1, a, c, rfl, h2⟩ := h
  refine ⟨a, c, rfl, fun k hk => ?_⟩
  obtain ⟨b, off, e, _, hcell⟩ := h2 (by intro e; subst e; simp at hk)
  exact ⟨b, off, e, hcell k hk⟩

/-- does the model make the literal true -/
def trv (ms : List Bool) (l : Int) : Bool := ms.getD (varOf l - 1).toNat false == decide (0 < l)
/-- .. a literal of the clause -/
def mkT (ms : List Bool) (c : List Int) : Bool := c.any (trv ms)
/-- .. each clause -/
def satT (ms : List Bool) (css : List (List Int)) : Bool := css.all (mkT ms)
/-- a literal of the model's variables: its place -/
theorem trv_pos {ms : List Bool} {l : Int} (hf : fmd l = true) (hv : varOf l ≤ ms.length) (hs : 0 < l) : ∃ j : Nat, j < ms.length ∧ l = (j : Int) + 1 ∧ varOf l = (j : Int) + 1 ∧ trv ms l = ms.getD j false := by
  obtain ⟨_, e⟩ := there_pos hf hs
  refine ⟨(l - 1).toNat, by omega, by omega, by omega, ?_⟩
  unfold trv; rw [e]; simp [hs]
theorem trv_neg {ms : List Bool} {l : Int} (hf : fmd l = true) (hv : varOf l ≤ ms.length) (hs : l < 0) : ∃ j : Nat, j < ms.length ∧ l = -((j : Int) + 1) ∧ varOf l = (j : Int) + 1 ∧ trv ms l = !ms.getD j false := by
  obtain ⟨_, e⟩ := there_neg hf hs
  refine ⟨(-l - 1).toNat, by omega, by omega, by omega, ?_⟩
  unfold trv; rw [e, show decide (0 < l) = false from decide_eq_false (by omega)]
  cases ms.getD (-l - 1).toNat false <;> rfl
theorem fits_at {n : Int} {zs : List Int} {k : Nat} (h : fitsP n zs = true) (hk : k < zs.length) : fmd (zs.getD k 0) = true ∧ varOf (zs.getD k 0) ≤ n := by
  have := List.all_eq_true.1 h _ (getD_mem' (d := 0) hk)
  simpa using this

end Go.Proofs.YtlkbbbbclmffjaaGreatDoor
set_option linter.unusedSimpArgs false
set_option linter.unusedVariables false
namespace Go.Proofs.YtlkbbbbclmffjaaGreatDoor
open Go.RowKit

/-- the model behind this one, and whether there is one -/
def inc : List Bool → List Bool × Bool
  | [] => ([], false)
  | false :: r => (true :: r, true)
  | true :: r => (false :: (inc r).1, (inc r).2)
/-- the j-th model of n variables -/
def bt : Nat → Nat → List Bool
  | 0, _ => []
  | n + 1, j => (j % 2 == 1) :: bt n (j / 2)
theorem bt_len : ∀ n j, (bt n j).length = n
  | 0, _ => rfl
  | n + 1, j => by simp [bt, bt_len n]
theorem bt_zero : ∀ n, bt n 0 = List.replicate n false
  | 0 => rfl
  | n + 1 => by simp [bt, bt_zero n, List.replicate_succ]
theorem inc_len : ∀ l : List Bool, (inc l).1.length = l.length
  | [] => rfl
  | false :: r => rfl
  | true :: r => by simp [inc, inc_len r]
theorem inc_bt : ∀ n j, j < 2 ^ n → inc (bt n j) = (if j + 1 < 2 ^ n then bt n (j + 1) else bt n 0, decide (j + 1 < 2 ^ n))
  | 0, j, h => by
    have : j = 0 := by simpa using h
    subst this; rfl
  | n + 1, j, h => by
    have hp : 2 ^ (n + 1) = 2 * 2 ^ n := by rw [Nat.pow_succ]; omega
    rw [hp] at h ⊢
    rcases (show j % 2 = 0 ∨ j % 2 = 1 by omega) with e | e
    · have e1 : (j + 1) % 2 = 1 := by omega
      have e2 : (j + 1) / 2 = j / 2 := by omega
      have hlt : j + 1 < 2 * 2 ^ n := by omega
      simp only [bt, e, e1, e2, hlt, if_true, decide_true]
      rfl
    · have e1 : (j + 1) % 2 = 0 := by omega
      have e2 : (j + 1) / 2 = j / 2 + 1 := by omega
      have ih := inc_bt n (j / 2) (by omega)
      have hd : bt (n + 1) j = true :: bt n (j / 2) := by simp [bt, e]
      rw [hd]
      show (false :: (inc (bt n (j / 2))).1, (inc (bt n (j / 2))).2) = _
      rw [ih]
      by_cases hlt : j / 2 + 1 < 2 ^ n
      · have h2 : j + 1 < 2 * 2 ^ n := by omega
        simp [hlt, h2, bt, e1, e2]
      · have h2 : ¬ j + 1 < 2 * 2 ^ n := by omega
        simp [hlt, h2, bt]
/-- a carry through k places -/
theorem inc_carry : ∀ (k : Nat) (r : List Bool), inc (List.replicate k true ++ false :: r) = (List.replicate k false ++ true :: r, true)
  | 0, r => rfl
  | k + 1, r => by simp [List.replicate_succ, inc, inc_carry k r]
theorem inc_full : ∀ k : Nat, inc (List.replicate k true) = (List.replicate k false, false)
  | 0 => rfl
  | k + 1 => by simp [List.replicate_succ, inc, inc_full k]
/-- each list of n truths is one of them -/
def num : List Bool → Nat
  | [] => 0
  | b :: r => (if b then 1 else 0) + 2 * num r
theorem num_lt : ∀ l : List Bool, num l < 2 ^ l.length
  | [] => by simp [num]
  | b :: r => by
    have := num_lt r
    rw [List.length_cons, Nat.pow_succ]
    cases b <;> simp [num] <;> omega
theorem bt_num : ∀ l : List Bool, bt l.length (num l) = l
  | [] => rfl
  | b :: r => by
    have ih := bt_num r
    cases b
    · have e1 : (0 + 2 * num r) % 2 = 0 := by omega
      have e2 : (0 + 2 * num r) / 2 = num r := by omega
      simp only [List.length_cons, num, bt, Bool.false_eq_true, if_false, e1, e2, ih]; rfl
    · have e1 : (1 + 2 * num r) % 2 = 1 := by omega
      have e2 : (1 + 2 * num r) / 2 = num r := by omega
      simp only [List.length_cons, num, bt, if_true, e1, e2, ih]; rfl
theorem num_bt : ∀ n j, j < 2 ^ n → num (bt n j) = j
  | 0, j, h => by
    have : j = 0 := by simpa using h
    subst this; rfl
  | n + 1, j, h => by
    have hp : 2 ^ (n + 1) = 2 * 2 ^ n := by rw [Nat.pow_succ]; omega
    have ih := num_bt n (j / 2) (by omega)
    simp only [bt, num, ih]
    by_cases e : j % 2 = 1
    · simp [e]; omega
    · simp [e]; omega
/-- the models that satisfy, in the order of counting -/
def modsTo (n : Nat) (css : List (List Int)) (k : Nat) : List (List Bool) := ((List.range k).map (bt n)).filter (fun m => satT m css)
def mods (n : Nat) (css : List (List Int)) : List (List Bool) := modsTo n css (2 ^ n)
theorem modsTo_succ (n : Nat) (css : List (List Int)) (k : Nat) : modsTo n css (k + 1) = modsTo n css k ++ (if satT (bt n k) css then [bt n k] else []) := by
  unfold modsTo
  rw [List.range_succ, List.map_append, List.filter_append]
  simp only [List.map_cons, List.map_nil, List.filter_cons, List.filter_nil]
theorem mem_mods {n : Nat} {css : List (List Int)} {m : List Bool} : m ∈ mods n css ↔ m.length = n ∧ satT m css = true := by
  unfold mods modsTo
  rw [List.mem_filter, List.mem_map]
  constructor
  · rintro ⟨⟨j, _, rfl⟩, h⟩; exact ⟨bt_len n j, h⟩
  · rintro ⟨rfl, h⟩; exact ⟨⟨num m, List.mem_range.2 (num_lt m), bt_num m⟩, h⟩

end Go.Proofs.YtlkbbbbclmffjaaGreatDoor

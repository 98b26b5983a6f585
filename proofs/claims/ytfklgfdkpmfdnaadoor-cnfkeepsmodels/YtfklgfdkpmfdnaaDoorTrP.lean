/-
  trail, purely: a row of places; what is stored of it; what is asked of it.
  KEEP: set on app at below new trans refl start ap kept rd rds mono
-/
import Derived.Test.YtfklgfdkpmfdnaaDoorGrow
set_option linter.unusedSimpArgs false
set_option linter.unusedVariables false
namespace Go.Proofs.YtfklgfdkpmfdnaaDoor
open Go Go.RowKit

/-- a literal of the row: its level, its reason (-1: a decision) -/
structure Pl where
  lit : Int
  lev : Nat
  rea : Int
  deriving DecidableEq, Inhabited

def dcs (p : Pl) : Bool := decide (p.rea = -1)
def now (R : List Pl) : Nat := R.countP dcs
def vr (p : Pl) : Nat := p.lit.natAbs
def fnd (R : List Pl) (v : Nat) : Option Pl := R.find? (fun p => vr p == v)
def sg (l : Int) : Int := if l < 0 then -1 else 1
def valV (R : List Pl) (v : Nat) : Int := match fnd R v with | none => 0 | some p => sg p.lit
def levV (R : List Pl) (v : Nat) : Int := match fnd R v with | none => 0 | some p => p.lev
def rea0 (p : Pl) : Int := if p.rea = -1 then 0 else p.rea
def reaV (R : List Pl) (v : Nat) : Int := match fnd R v with | none => 0 | some p => rea0 p
def vals (n : Nat) (R : List Pl) : List Int := (List.range n).map fun i => valV R (i + 1)
def facts (n : Nat) (R : List Pl) : List Int := (List.range (n * 2)).map fun j => if j % 2 = 0 then levV R (j / 2 + 1) else reaV R (j / 2 + 1)
def decs : Nat → List Pl → List (Nat × Int)
  | _, [] => []
  | k, p :: R => if dcs p then (k, p.lit) :: decs (k + 1) R else decs (k + 1) R
def lvs (R : List Pl) : List (Nat × Int) := (0, 0) :: decs 0 R
def two (L : List (Nat × Int)) : List Value := L.flatMap fun q => [.int .i64 q.1, .int .i64 q.2]

structure okT (n : Nat) (R : List Pl) : Prop where
  nodup : (R.map vr).Nodup
  fit : ∀ p ∈ R, p.lit ≠ 0 ∧ vr p ≤ n
  rea : ∀ p ∈ R, -1 ≤ p.rea
  lev : ∀ i, (h : i < R.length) → R[i].lev = now (R.take (i + 1))
theorem okT.nil (n : Nat) : okT n [] := ⟨by simp, by simp, by simp, fun i h => by simp at h⟩
theorem okT.take {n : Nat} {R : List Pl} (h : okT n R) (m : Nat) : okT n (R.take m) :=
  ⟨by rw [List.map_take]; exact h.nodup.sublist (List.take_sublist _ _), fun p hp => h.fit p (List.mem_of_mem_take hp), fun p hp => h.rea p (List.mem_of_mem_take hp), fun i hi => by
    have h1 : i < m ∧ i < R.length := by rw [List.length_take] at hi; omega
    rw [List.getElem_take, h.lev i h1.2, List.take_take, Nat.min_eq_left (by omega)]⟩
theorem fnd_none {R : List Pl} {v : Nat} : fnd R v = none ↔ ∀ p ∈ R, vr p ≠ v := by
  unfold fnd; simp
theorem fnd_some {R : List Pl} {v : Nat} {p : Pl} (h : fnd R v = some p) : p ∈ R ∧ vr p = v := by
  unfold fnd at h
  exact ⟨List.mem_of_find?_eq_some h, by simpa using List.find?_some h⟩
theorem now_snoc (R : List Pl) (p : Pl) : now (R ++ [p]) = now R + (if dcs p then 1 else 0) := by
  simp [now, List.countP_append, List.countP_cons]
theorem okT.snoc {n : Nat} {R : List Pl} {p : Pl} (h : okT n R) (h0 : p.lit ≠ 0) (h1 : vr p ≤ n) (h2 : fnd R (vr p) = none) (h3 : -1 ≤ p.rea) (h4 : p.lev = now R + (if dcs p then 1 else 0)) : okT n (R ++ [p]) := by
  refine ⟨?_, ?_, ?_, ?_⟩
  · rw [List.map_append, List.nodup_append]
    refine ⟨h.nodup, by simp, ?_⟩
    intro a ha b hb
    obtain ⟨q, hq, rfl⟩ := List.mem_map.1 ha
    have : b = vr p := by simpa using hb
    subst this
    exact fnd_none.1 h2 q hq
  · intro q hq
    rcases List.mem_append.1 hq with hq | hq
    · exact h.fit q hq
    · have : q = p := by simpa using hq
      subst this; exact ⟨h0, h1⟩
  · intro q hq
    rcases List.mem_append.1 hq with hq | hq
    · exact h.rea q hq
    · have : q = p := by simpa using hq
      subst this; exact h3
  · intro i hi
    by_cases hlt : i < R.length
    · rw [List.getElem_append_left hlt, List.take_append_of_le_length (by omega)]
      exact h.lev i hlt
    · have : i = R.length := by simp at hi; omega
      subst this
      rw [List.getElem_append_right (Nat.le_refl _), List.take_of_length_le (by simp), now_snoc]
      simpa using h4

theorem fnd_snoc {R : List Pl} {p : Pl} {v : Nat} (h : fnd R (vr p) = none) : fnd (R ++ [p]) v = if v = vr p then some p else fnd R v := by
  unfold fnd at h ⊢
  rw [List.find?_append]
  by_cases hv : v = vr p
  · subst hv; rw [h]; simp
  · rw [if_neg hv]
    have : ([p].find? fun q => vr q == v) = none := by simp; exact fun e => hv e.symm
    rw [this]; simp
theorem vals_len (n : Nat) (R : List Pl) : (vals n R).length = n := by simp [vals]
theorem facts_len (n : Nat) (R : List Pl) : (facts n R).length = n * 2 := by simp [facts]
theorem vals_get {n : Nat} {R : List Pl} {i : Nat} (h : i < n) : (vals n R)[i]? = some (valV R (i + 1)) := by simp [vals, h]
theorem facts_get0 {n : Nat} {R : List Pl} {i : Nat} (h : i < n) : (facts n R)[i * 2]? = some (levV R (i + 1)) := by
  have h1 : i * 2 < n * 2 := by omega
  simp [facts, h1]
theorem facts_get1 {n : Nat} {R : List Pl} {i : Nat} (h : i < n) : (facts n R)[i * 2 + 1]? = some (reaV R (i + 1)) := by
  have h1 : i * 2 + 1 < n * 2 := by omega
  have h2 : (i * 2 + 1) % 2 = 1 := by omega
  have h3 : (i * 2 + 1) / 2 = i := by omega
  simp [facts, h1, h2, h3]
/-- behind a literal that is laid -/
theorem vals_snoc {n : Nat} {R : List Pl} {p : Pl} (h : fnd R (vr p) = none) (h0 : p.lit ≠ 0) : vals n (R ++ [p]) = (vals n R).set (vr p - 1) (sg p.lit) := by
  have hv : 0 < vr p := by unfold vr; omega
  refine List.ext_getElem (by simp [vals]) fun i h1 h2 => ?_
  rw [List.getElem_set]
  simp only [vals, List.getElem_map, List.getElem_range, valV]
  rw [fnd_snoc h]
  by_cases e : vr p - 1 = i
  · rw [if_pos (by omega), if_pos e]
  · rw [if_neg (by omega), if_neg e]
theorem facts_snoc {n : Nat} {R : List Pl} {p : Pl} (h : fnd R (vr p) = none) (h0 : p.lit ≠ 0) :
    facts n (R ++ [p]) = ((facts n R).set ((vr p - 1) * 2) p.lev).set ((vr p - 1) * 2 + 1) (rea0 p) := by
  have hv : 0 < vr p := by unfold vr; omega
  refine List.ext_getElem (by simp [facts]) fun i h1 h2 => ?_
  rw [List.getElem_set, List.getElem_set]
  simp only [facts, List.getElem_map, List.getElem_range, levV, reaV]
  rw [fnd_snoc h]
  by_cases e : (vr p - 1) * 2 + 1 = i
  · rw [if_pos e, if_neg (by omega), if_pos (by omega)]
  · rw [if_neg e]
    by_cases e2 : (vr p - 1) * 2 = i
    · rw [if_pos e2, if_pos (by omega), if_pos (by omega)]
    · rw [if_neg e2]
      by_cases e3 : i % 2 = 0
      · have e4 : ¬ i / 2 + 1 = vr p := by omega
        simp [e3, e4]
      · have e4 : ¬ i / 2 + 1 = vr p := by omega
        simp [e3, e4]
/-- behind one that is taken away -/
theorem vals_pop {n : Nat} {R : List Pl} {p : Pl} (h : fnd R (vr p) = none) (h0 : p.lit ≠ 0) : (vals n (R ++ [p])).set (vr p - 1) 0 = vals n R := by
  have hv : 0 < vr p := by unfold vr; omega
  refine List.ext_getElem (by simp [vals]) fun i h1 h2 => ?_
  rw [List.getElem_set]
  by_cases e : vr p - 1 = i
  · rw [if_pos e]
    have : i + 1 = vr p := by omega
    simp [vals, valV, this, h]
  · rw [if_neg e]
    simp only [vals, List.getElem_map, List.getElem_range, valV]
    rw [fnd_snoc h, if_neg (by omega)]
theorem facts_pop {n : Nat} {R : List Pl} {p : Pl} (h : fnd R (vr p) = none) (h0 : p.lit ≠ 0) :
    ((facts n (R ++ [p])).set ((vr p - 1) * 2) 0).set ((vr p - 1) * 2 + 1) 0 = facts n R := by
  have hv : 0 < vr p := by unfold vr; omega
  refine List.ext_getElem (by simp [facts]) fun i h1 h2 => ?_
  rw [List.getElem_set, List.getElem_set]
  by_cases e : (vr p - 1) * 2 + 1 = i
  · rw [if_pos e]
    have e1 : ¬ i % 2 = 0 := by omega
    have e2 : i / 2 + 1 = vr p := by omega
    simp [facts, e1, reaV, e2, h]
  · rw [if_neg e]
    by_cases e2 : (vr p - 1) * 2 = i
    · rw [if_pos e2]
      have e1 : i % 2 = 0 := by omega
      have e3 : i / 2 + 1 = vr p := by omega
      simp [facts, e1, levV, e3, h]
    · rw [if_neg e2]
      simp only [facts, List.getElem_map, List.getElem_range, levV, reaV]
      rw [fnd_snoc h]
      by_cases e3 : i % 2 = 0
      · have e4 : ¬ i / 2 + 1 = vr p := by omega
        simp [e3, e4]
      · have e4 : ¬ i / 2 + 1 = vr p := by omega
        simp [e3, e4]

theorem decs_append (k : Nat) (R S : List Pl) : decs k (R ++ S) = decs k R ++ decs (k + R.length) S := by
  induction R generalizing k with
  | nil => simp [decs]
  | cons p R ih =>
    simp only [List.cons_append, decs, ih, List.length_cons]
    split <;> simp [Nat.add_comm, Nat.add_left_comm]
theorem decs_len (k : Nat) (R : List Pl) : (decs k R).length = now R := by
  induction R generalizing k with
  | nil => rfl
  | cons p R ih =>
    simp only [decs, now, List.countP_cons] at ih ⊢
    split <;> simp_all
theorem lvs_len (R : List Pl) : (lvs R).length = now R + 1 := by simp [lvs, decs_len]
theorem lvs_snoc (R : List Pl) (p : Pl) : lvs (R ++ [p]) = lvs R ++ (if dcs p then [(R.length, p.lit)] else []) := by
  simp only [lvs, decs_append, decs, Nat.zero_add, List.cons_append]
theorem two_len (L : List (Nat × Int)) : (two L).length = L.length * 2 := by
  induction L with
  | nil => rfl
  | cons q L ih => simp only [two, List.flatMap_cons, List.length_append, List.length_cons, List.length_nil] at ih ⊢; omega
theorem two_append (L M : List (Nat × Int)) : two (L ++ M) = two L ++ two M := by simp [two]
theorem two_take (L : List (Nat × Int)) (k : Nat) : (two L).take (k * 2) = two (L.take k) := by
  induction L generalizing k with
  | nil => simp [two]
  | cons q L ih =>
    cases k with
    | zero => simp [two]
    | succ k =>
      have : (k + 1) * 2 = k * 2 + 1 + 1 := by omega
      rw [this]
      simp only [two, List.flatMap_cons, List.cons_append, List.nil_append, List.take_succ_cons] at ih ⊢
      rw [ih]
theorem two_get0 {L : List (Nat × Int)} {k : Nat} (h : k < L.length) : (two L)[k * 2]? = some (.int .i64 L[k].1) := by
  induction L generalizing k with
  | nil => simp at h
  | cons q L ih =>
    cases k with
    | zero => simp [two]
    | succ k =>
      have e : (k + 1) * 2 = k * 2 + 1 + 1 := by omega
      have := ih (k := k) (by simpa using h)
      rw [e]
      simp only [two, List.flatMap_cons, List.cons_append, List.nil_append, List.getElem?_cons_succ, List.getElem_cons_succ] at this ⊢
      exact this
theorem two_get1 {L : List (Nat × Int)} {k : Nat} (h : k < L.length) : (two L)[k * 2 + 1]? = some (.int .i64 L[k].2) := by
  induction L generalizing k with
  | nil => simp at h
  | cons q L ih =>
    cases k with
    | zero => simp [two]
    | succ k =>
      have e : (k + 1) * 2 = k * 2 + 1 + 1 := by omega
      have := ih (k := k) (by simpa using h)
      rw [e]
      simp only [two, List.flatMap_cons, List.cons_append, List.nil_append, List.getElem?_cons_succ, List.getElem_cons_succ] at this ⊢
      exact this

theorem two_at0 {L : List (Nat × Int)} {k a : Nat} {d : Int} (h : L[k]? = some (a, d)) : (two L)[k * 2]? = some (.int .i64 a) := by
  obtain ⟨h1, h2⟩ := List.getElem?_eq_some_iff.1 h
  rw [two_get0 h1, h2]
theorem two_at1 {L : List (Nat × Int)} {k a : Nat} {d : Int} (h : L[k]? = some (a, d)) : (two L)[k * 2 + 1]? = some (.int .i64 d) := by
  obtain ⟨h1, h2⟩ := List.getElem?_eq_some_iff.1 h
  rw [two_get1 h1, h2]
/-- where a level's decision stands -/
theorem decs_at {k : Nat} {R : List Pl} {j : Nat} (h : j < (decs k R).length) : ∃ i, ∃ hi : i < R.length, (decs k R)[j] = (k + i, R[i].lit) ∧ dcs R[i] = true ∧ now (R.take i) = j := by
  induction R generalizing k j with
  | nil => simp [decs] at h
  | cons p R ih =>
    by_cases hp : dcs p
    · simp only [decs, hp, if_true] at h ⊢
      cases j with
      | zero => exact ⟨0, by simp, by simp [hp, now]⟩
      | succ j =>
        obtain ⟨i, hi, h1, h2, h3⟩ := ih (k := k + 1) (j := j) (by simpa using h)
        refine ⟨i + 1, by simp; omega, ?_, by simpa using h2, ?_⟩
        · simp only [List.getElem_cons_succ]; rw [h1]; simp; omega
        · simp only [now, List.take_succ_cons, List.countP_cons, hp, if_true] at h3 ⊢; omega
    · simp only [decs, hp] at h ⊢
      obtain ⟨i, hi, h1, h2, h3⟩ := ih (k := k + 1) (j := j) (by simpa using h)
      refine ⟨i + 1, by simp; omega, ?_, by simpa using h2, ?_⟩
      · simp only [List.getElem_cons_succ]
        have : (if false = true then (k, p.lit) :: decs (k + 1) R else decs (k + 1) R) = decs (k + 1) R := by simp
        simp only [this, Bool.false_eq_true, if_false]
        rw [h1]; simp; omega
      · simp only [now, List.take_succ_cons, List.countP_cons, hp] at h3 ⊢; simpa using h3
theorem now_take_le {R : List Pl} (i j : Nat) (h : i ≤ j) : now (R.take i) ≤ now (R.take j) := by
  have : R.take i = (R.take j).take i := by rw [List.take_take, Nat.min_eq_left h]
  rw [this]; exact (List.take_sublist _ _).countP_le
/-- the row up to a level -/
def cutR (R : List Pl) (k : Nat) : List Pl := R.filter (fun p => decide (p.lev ≤ k))
theorem cut_take {n : Nat} {R : List Pl} (h : okT n R) {i : Nat} (hi : i < R.length) (hd : dcs R[i] = true) : cutR R (now (R.take i)) = R.take i := by
  have e : R.take i ++ R.drop i = R := List.take_append_drop i R
  have h1 : (R.take i).filter (fun p => decide (p.lev ≤ now (R.take i))) = R.take i := by
    rw [List.filter_eq_self]
    intro p hp
    obtain ⟨j, hj, rfl⟩ := List.getElem_of_mem hp
    have hj2 : j < i ∧ j < R.length := by rw [List.length_take] at hj; omega
    rw [List.getElem_take, h.lev j hj2.2]
    exact decide_eq_true (now_take_le _ _ (by omega))
  have h2 : (R.drop i).filter (fun p => decide (p.lev ≤ now (R.take i))) = [] := by
    rw [List.filter_eq_nil_iff]
    intro p hp
    obtain ⟨j, hj, rfl⟩ := List.getElem_of_mem hp
    have hj2 : i + j < R.length := by rw [List.length_drop] at hj; omega
    rw [List.getElem_drop, h.lev _ hj2]
    have h3 : now (R.take (i + 1)) ≤ now (R.take (i + j + 1)) := now_take_le _ _ (by omega)
    have h4 : now (R.take (i + 1)) = now (R.take i) + 1 := by
      rw [List.take_succ_eq_append_getElem hi, now_snoc, hd]; simp
    simp; omega
  have h5 : ∀ f : Pl → Bool, R.filter f = (R.take i).filter f ++ (R.drop i).filter f := fun f => by rw [← List.filter_append, e]
  unfold cutR
  rw [h5, h1, h2, List.append_nil]
theorem now_split (R : List Pl) (i : Nat) : now R = now (R.take i) + now (R.drop i) := by
  unfold now
  rw [← List.countP_append, List.take_append_drop]
theorem cut_full {n : Nat} {R : List Pl} (h : okT n R) {k : Nat} (hk : now R ≤ k) : cutR R k = R := by
  unfold cutR
  rw [List.filter_eq_self]
  intro p hp
  obtain ⟨j, hj, rfl⟩ := List.getElem_of_mem hp
  rw [h.lev j hj]
  have h1 : now (R.take (j + 1)) ≤ now R := (List.take_sublist _ _).countP_le
  exact decide_eq_true (by omega)
theorem lvs_take {R : List Pl} {i : Nat} : lvs (R.take i) = (lvs R).take (now (R.take i) + 1) := by
  have e : lvs R = lvs (R.take i) ++ decs (0 + (R.take i).length) (R.drop i) := by
    conv => lhs; rw [← List.take_append_drop i R]
    simp only [lvs, decs_append, List.cons_append]
  rw [e, List.take_append_of_le_length (by rw [lvs_len]; exact Nat.le_refl _), List.take_of_length_le (l := lvs (R.take i)) (by rw [lvs_len]; exact Nat.le_refl _)]
/-- where the level behind k begins -/
theorem lvs_next {n : Nat} {R : List Pl} (h : okT n R) {k : Nat} (hk : k < now R) : ∃ i, ∃ hi : i < R.length, ∃ hl : k + 1 < (lvs R).length, (lvs R)[k + 1] = (i, R[i].lit) ∧ cutR R k = R.take i ∧ now (R.take i) = k := by
  have hl : k + 1 < (lvs R).length := by rw [lvs_len]; omega
  obtain ⟨i, hi, h1, h2, h3⟩ := decs_at (k := 0) (R := R) (j := k) (by rw [decs_len]; exact hk)
  refine ⟨i, hi, hl, ?_, ?_, h3⟩
  · simp only [lvs, List.getElem_cons_succ]; rw [h1]; simp
  · rw [← h3]; exact cut_take h hi h2
theorem fnd_take {n : Nat} {R : List Pl} (h : okT n R) {i : Nat} (hi : i < R.length) : fnd (R.take i) (vr R[i]) = none := by
  rw [fnd_none]
  intro p hp e
  obtain ⟨j, hj, rfl⟩ := List.getElem_of_mem hp
  have hj2 : j < i ∧ j < R.length := by rw [List.length_take] at hj; omega
  rw [List.getElem_take] at e
  have := (List.nodup_iff_pairwise_ne.1 h.nodup)
  have h2 := List.pairwise_iff_getElem.1 this j i (by simpa using hj2.2) (by simpa using hi) hj2.1
  simp at h2
  exact h2 e
theorem nodup_len : ∀ (n : Nat) (l : List Nat), l.Nodup → (∀ v ∈ l, 0 < v ∧ v ≤ n) → l.length ≤ n
  | 0, l, _, h => by
    cases l with
    | nil => simp
    | cons a l => have := h a (by simp); omega
  | n + 1, l, hd, h => by
    have h1 := nodup_len n (l.filter (fun v => v != n + 1)) (hd.sublist List.filter_sublist) (fun v hv => by
      rw [List.mem_filter] at hv
      have := h v hv.1
      have h2 : v ≠ n + 1 := by simpa using hv.2
      omega)
    have h2 : l.length = (l.filter (fun v => v != n + 1)).length + l.count (n + 1) := by
      rw [← List.countP_eq_length_filter, List.count]
      have := List.length_eq_countP_add_countP (fun v => v != n + 1) (l := l)
      rw [this]
      congr 1
      apply List.countP_congr
      intro x _
      simp
    have h3 : l.count (n + 1) ≤ 1 := List.nodup_iff_count.1 hd (n + 1)
    omega
theorem okT.len {n : Nat} {R : List Pl} (h : okT n R) : R.length ≤ n := by
  have h1 := nodup_len n (R.map vr) h.nodup (fun v hv => by
    obtain ⟨p, hp, rfl⟩ := List.mem_map.1 hv
    have := h.fit p hp
    unfold vr at *; omega)
  simpa using h1
theorem now_le (R : List Pl) : now R ≤ R.length := List.countP_le_length
end Go.Proofs.YtfklgfdkpmfdnaaDoor

/-
  arena: clauses one behind the other in one row of words: places, what is live, what a Drop and a Sweep leave: in plain words.
  KEEP: set on app at below new trans refl start ap kept rd rds mono
-/
import Derived.Test.YtbhjpahieghepaaArNum
set_option linter.unusedSimpArgs false
set_option linter.unusedVariables false
namespace Go.Proofs.Ytbhjpahieghepaa
open Go Go.RowKit

/-- a clause in the memory -/
structure Seg where
  lits : List Int
  learnt : Bool
  live : Bool
def hd0 (n : Nat) (l : Bool) : Int := 1048577 + 2 * n + (if l then 1 else 0)
def hdOf (s : Seg) : Int := if s.live then hd0 s.lits.length s.learnt else -(hd0 s.lits.length s.learnt)
def flat : List Seg → List Int
  | [] => []
  | s :: r => hdOf s :: (s.lits ++ flat r)
def okS (S : List Seg) : Prop := ∀ s ∈ S, s.lits.all fmd = true
/-- the live clause at a place -/
def find : List Seg → Int → Option Seg
  | [], _ => none
  | s :: r, k => if k = 0 then (if s.live then some s else none) else if k < 0 then none else find r (k - 1 - s.lits.length)
/-- the live clauses and their places -/
def lv : Int → List Seg → List (Int × List Int × Bool)
  | _, [] => []
  | p, s :: r => (if s.live then [(p, s.lits, s.learnt)] else []) ++ lv (p + 1 + s.lits.length) r
def dropAt : List Seg → Int → List Seg
  | [], _ => []
  | s :: r, k => if k = 0 then ⟨s.lits, s.learnt, false⟩ :: r else s :: dropAt r (k - 1 - s.lits.length)
theorem hd0_pos (n : Nat) (l : Bool) : 1048577 ≤ hd0 n l := by unfold hd0; split <;> omega
theorem hdOf_live {s : Seg} : decide (1048577 ≤ hdOf s) = s.live := by
  have := hd0_pos s.lits.length s.learnt
  unfold hdOf
  cases s.live
  · simp; omega
  · simpa using this
theorem find_neg : ∀ {S : List Seg} {k : Int}, k < 0 → find S k = none
  | [], _, _ => rfl
  | s :: r, k, h => by unfold find; rw [if_neg (by omega), if_pos h]
theorem okS.tail {s : Seg} {r : List Seg} (h : okS (s :: r)) : okS r := fun x hx => h x (List.mem_cons_of_mem _ hx)
theorem flat_append : ∀ (S T : List Seg), flat (S ++ T) = flat S ++ flat T
  | [], T => rfl
  | s :: r, T => by simp [flat, flat_append r T]
theorem flat_len (s : Seg) (r : List Seg) : (flat (s :: r)).length = 1 + s.lits.length + (flat r).length := by simp [flat]; omega
/-- places in the midst of a clause have no clause -/
theorem has_find : ∀ {S : List Seg} {k : Int}, okS S → hasW (flat S) k = (find S k).isSome
  | [], k, _ => by simp [hasW, flat, find]
  | s :: r, k, h => by
    have hl := flat_len s r
    by_cases h0 : k < 0
    · rw [find_neg h0]; unfold hasW; simp; omega
    · by_cases h1 : k = 0
      · subst h1
        have e1 : hasW (flat (s :: r)) 0 = decide (1048577 ≤ hdOf s) := by
          unfold hasW
          rw [decide_eq_true (by omega : (0 : Int) < ((flat (s :: r)).length : Int))]
          simp [flat]
        rw [e1, hdOf_live]
        unfold find
        cases s.live <;> simp
      · obtain ⟨m, rfl⟩ : ∃ m : Nat, k = m + 1 := ⟨(k - 1).toNat, by omega⟩
        have e0 : ((m : Int) + 1).toNat = m + 1 := by omega
        have ef : find (s :: r) ((m : Int) + 1) = find r ((m : Int) - s.lits.length) := by
          conv => lhs; unfold find
          rw [if_neg h1, if_neg h0]; congr 1; omega
        rw [ef]
        by_cases h2 : m < s.lits.length
        · rw [find_neg (by omega)]
          unfold hasW
          rw [e0]
          have : (flat (s :: r)).getD (m + 1) 0 = s.lits[m] := by
            simp [flat, List.getD_eq_getElem?_getD, List.getElem?_append_left h2, h2]
          rw [this]
          have hf := fmd_range (List.all_eq_true.1 (h s List.mem_cons_self) s.lits[m] (List.getElem_mem h2))
          simp; omega
        · have ih := has_find (S := r) (k := (m : Int) - s.lits.length) h.tail
          rw [← ih]
          unfold hasW
          rw [e0]
          have e2 : ((m : Int) - s.lits.length).toNat = m - s.lits.length := by omega
          rw [e2]
          have : (flat (s :: r)).getD (m + 1) 0 = (flat r).getD (m - s.lits.length) 0 := by
            simp [flat, List.getD_eq_getElem?_getD, List.getElem?_append_right (by omega : s.lits.length ≤ m)]
          rw [this, hl]
          have d1 : decide ((0 : Int) ≤ (m : Int) + 1) = true := decide_eq_true (by omega)
          have d2 : decide ((0 : Int) ≤ (m : Int) - s.lits.length) = true := decide_eq_true (by omega)
          have d3 : decide ((m : Int) + 1 < ((1 + s.lits.length + (flat r).length : Nat) : Int)) = decide ((m : Int) - s.lits.length < ((flat r).length : Int)) := decide_eq_decide.2 (by omega)
          rw [d1, d2, d3]
/-- what lies at a live clause's place -/
theorem find_get : ∀ {S : List Seg} {k : Int} {s : Seg}, find S k = some s → 0 ≤ k ∧ s.live = true ∧ (flat S).getD k.toNat 0 = hdOf s ∧ ((flat S).drop (k.toNat + 1)).take s.lits.length = s.lits ∧ k + 1 + s.lits.length ≤ (flat S).length ∧ s ∈ S
  | [], k, s, h => by simp [find] at h
  | x :: r, k, s, h => by
    have hl := flat_len x r
    by_cases h0 : k < 0
    · rw [find_neg h0] at h; cases h
    · by_cases h1 : k = 0
      · subst h1
        unfold find at h
        rw [if_pos rfl] at h
        cases hx : x.live
        · rw [hx] at h; simp at h
        · rw [hx] at h; simp at h; subst h
          exact ⟨by omega, hx, by simp [flat], by simp [flat], by omega, List.mem_cons_self⟩
      · have ef : find r (k - 1 - x.lits.length) = some s := by
          conv at h => lhs; unfold find
          rw [if_neg h1, if_neg h0] at h; exact h
        obtain ⟨a1, a2, a3, a4, a5, a6⟩ := find_get ef
        have e2 : k.toNat = (x.lits.length + (k - 1 - x.lits.length).toNat) + 1 := by omega
        refine ⟨by omega, a2, ?_, ?_, by omega, List.mem_cons_of_mem _ a6⟩
        · rw [e2, ← a3]
          simp [flat, List.getD_eq_getElem?_getD, List.getElem?_append_right]
        · have e4 : (flat (x :: r)).drop (k.toNat + 1) = (flat r).drop ((k - 1 - x.lits.length).toNat + 1) := by
            rw [show k.toNat + 1 = (x.lits.length + ((k - 1 - x.lits.length).toNat + 1)) + 1 by omega]
            simp [flat, List.drop_append]
          rw [e4, a4]
theorem lv_ge : ∀ {S : List Seg} {p : Int} {x : Int × List Int × Bool}, x ∈ lv p S → p ≤ x.1
  | [], _, _, h => by simp [lv] at h
  | s :: r, p, x, h => by
    unfold lv at h
    rcases List.mem_append.1 h with h | h
    · cases hs : s.live <;> rw [hs] at h <;> simp at h
      subst h; simp
    · have := lv_ge h; omega
theorem lv_rises : ∀ (S : List Seg) (p : Int), (lv p S).Pairwise (fun x y => x.1 < y.1)
  | [], _ => List.Pairwise.nil
  | s :: r, p => by
    unfold lv
    cases hs : s.live
    · simpa using lv_rises r _
    · simp only [if_true, List.singleton_append]
      refine List.pairwise_cons.2 ⟨fun y hy => ?_, lv_rises r _⟩
      have := lv_ge hy
      simp; omega
/-- what is live is found -/
theorem lv_find : ∀ {S : List Seg} {p : Int} {x : Int × List Int × Bool}, x ∈ lv p S → find S (x.1 - p) = some ⟨x.2.1, x.2.2, true⟩
  | [], _, _, h => by simp [lv] at h
  | s :: r, p, x, h => by
    unfold lv at h
    rcases List.mem_append.1 h with h | h
    · cases hs : s.live <;> rw [hs] at h <;> simp at h
      subst h
      unfold find
      simp [hs]
      cases s; simp at hs ⊢; exact hs
    · have h1 := lv_ge h
      have := lv_find h
      unfold find
      rw [if_neg (by omega), if_neg (by omega), ← this]
      congr 1; omega
/-- what is found is live -/
theorem find_lv : ∀ {S : List Seg} {p k : Int} {s : Seg}, find S k = some s → (p + k, s.lits, s.learnt) ∈ lv p S
  | [], _, k, s, h => by simp [find] at h
  | x :: r, p, k, s, h => by
    by_cases h0 : k < 0
    · rw [find_neg h0] at h; cases h
    · by_cases h1 : k = 0
      · subst h1
        unfold find at h
        rw [if_pos rfl] at h
        cases hx : x.live
        · rw [hx] at h; simp at h
        · rw [hx] at h; simp at h; subst h
          unfold lv; simp [hx]
      · have ef : find r (k - 1 - x.lits.length) = some s := by
          conv at h => lhs; unfold find
          rw [if_neg h1, if_neg h0] at h; exact h
        unfold lv
        refine List.mem_append_right _ ?_
        have := find_lv (p := p + 1 + x.lits.length) ef
        rw [show p + k = p + 1 + x.lits.length + (k - 1 - x.lits.length) by omega]
        exact this
theorem lv_cons (s : Seg) (r : List Seg) (p : Int) : lv p (s :: r) = (if s.live then [(p, s.lits, s.learnt)] else []) ++ lv (p + 1 + s.lits.length) r := rfl
theorem lv_append : ∀ (S T : List Seg) (p : Int), lv p (S ++ T) = lv p S ++ lv (p + (flat S).length) T
  | [], T, p => by simp [lv, flat]
  | s :: r, T, p => by
    rw [List.cons_append, lv_cons, lv_cons, lv_append r T, flat_len, List.append_assoc, show p + 1 + (s.lits.length : Int) + ((flat r).length : Int) = p + ((1 + s.lits.length + (flat r).length : Nat) : Int) by omega]
theorem drop_flat : ∀ {S : List Seg} {k : Int} {s : Seg}, find S k = some s → flat (dropAt S k) = (flat S).set k.toNat (-(hdOf s))
  | [], k, s, h => by simp [find] at h
  | x :: r, k, s, h => by
    by_cases h0 : k < 0
    · rw [find_neg h0] at h; cases h
    · by_cases h1 : k = 0
      · subst h1
        unfold find at h
        rw [if_pos rfl] at h
        cases hx : x.live
        · rw [hx] at h; simp at h
        · rw [hx] at h; simp at h; subst h
          simp [dropAt, flat, hdOf, hx]
      · have ef : find r (k - 1 - x.lits.length) = some s := by
          conv at h => lhs; unfold find
          rw [if_neg h1, if_neg h0] at h; exact h
        have ih := drop_flat ef
        unfold dropAt
        rw [if_neg h1]
        simp only [flat, ih]
        have hg := (find_get ef).1
        have e2 : k.toNat = (x.lits.length + (k - 1 - x.lits.length).toNat) + 1 := by omega
        rw [e2, List.set_cons_succ, List.set_append_right _ _ (by omega)]
        congr 3; omega
theorem drop_lv : ∀ {S : List Seg} {p k : Int} {s : Seg}, find S k = some s → lv p (dropAt S k) = (lv p S).filter (fun x => decide (x.1 ≠ p + k))
  | [], _, k, s, h => by simp [find] at h
  | x :: r, p, k, s, h => by
    by_cases h0 : k < 0
    · rw [find_neg h0] at h; cases h
    · by_cases h1 : k = 0
      · subst h1
        unfold find at h
        rw [if_pos rfl] at h
        cases hx : x.live
        · rw [hx] at h; simp at h
        · have : (lv (p + 1 + x.lits.length) r).filter (fun x => decide (x.1 ≠ p + 0)) = lv (p + 1 + x.lits.length) r := by
            rw [List.filter_eq_self]
            intro y hy
            have := lv_ge hy
            simp; omega
          unfold dropAt
          rw [if_pos rfl]
          unfold lv
          rw [List.filter_append, this]
          simp [hx]
      · have ef : find r (k - 1 - x.lits.length) = some s := by
          conv at h => lhs; unfold find
          rw [if_neg h1, if_neg h0] at h; exact h
        have ih := drop_lv (p := p + 1 + x.lits.length) ef
        unfold dropAt
        rw [if_neg h1]
        unfold lv
        rw [List.filter_append, ih]
        congr 1
        · cases x.live
          · simp
          · rw [if_pos rfl, List.filter_cons_of_pos (by simpa using fun e : p = p + k => h1 (by omega)), List.filter_nil]
        · congr 1; funext y
          rw [show p + 1 + (x.lits.length : Int) + (k - 1 - (x.lits.length : Int)) = p + k by omega]
theorem drop_ok : ∀ {S : List Seg} {k : Int}, okS S → okS (dropAt S k)
  | [], k, h => h
  | x :: r, k, h => by
    unfold dropAt
    split
    · intro y hy
      rcases List.mem_cons.1 hy with rfl | hy
      · exact h x List.mem_cons_self
      · exact h y (List.mem_cons_of_mem _ hy)
    · intro y hy
      rcases List.mem_cons.1 hy with rfl | hy
      · exact h y List.mem_cons_self
      · exact drop_ok h.tail y hy
/-- a Sweep: the same clauses, moved together -/
def renum : Int → List (Int × List Int × Bool) → List (Int × List Int × Bool)
  | _, [] => []
  | q, x :: r => (q, x.2.1, x.2.2) :: renum (q + 1 + x.2.1.length) r
def swp (S : List Seg) : List Seg := S.filter (·.live)
theorem swp_lv : ∀ (S : List Seg) (p q : Int), lv q (swp S) = renum q (lv p S)
  | [], _, _ => rfl
  | s :: r, p, q => by
    cases hs : s.live
    · have : swp (s :: r) = swp r := by simp [swp, hs]
      rw [this]
      conv => rhs; unfold lv
      rw [hs]
      simpa using swp_lv r _ q
    · have : swp (s :: r) = s :: swp r := by simp [swp, hs]
      rw [this]
      conv => lhs; unfold lv
      conv => rhs; unfold lv
      rw [hs]
      simp only [if_true, List.singleton_append, renum]
      rw [swp_lv r (p + 1 + s.lits.length)]
theorem swp_ok {S : List Seg} (h : okS S) : okS (swp S) := fun s hs => h s (List.mem_filter.1 hs).1
theorem flat_swp : ∀ (S : List Seg) (p : Int), flat (swp S) = (lv p S).flatMap (fun x => hd0 x.2.1.length x.2.2 :: x.2.1)
  | [], _ => rfl
  | s :: r, p => by
    cases hs : s.live
    · have : swp (s :: r) = swp r := by simp [swp, hs]
      rw [this]
      conv => rhs; unfold lv
      rw [hs]
      simpa using flat_swp r _
    · have : swp (s :: r) = s :: swp r := by simp [swp, hs]
      rw [this]
      conv => rhs; unfold lv
      rw [hs]
      simp only [if_true, List.singleton_append, List.flatMap_cons, flat]
      rw [flat_swp r (p + 1 + s.lits.length)]
      simp [hdOf, hs]
/-- where each went -/
def went : Int → List (Int × List Int × Bool) → Int → Option Int
  | _, [], _ => none
  | q, x :: r, k => if x.1 = k then some q else went (q + 1 + x.2.1.length) r k

end Go.Proofs.Ytbhjpahieghepaa

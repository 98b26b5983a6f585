/-
  The document's arena (depotref04): the list of all clauses that have words, with their places. No program here.
  KEEP: set on app at below new trans refl start ap kept rd rds mono
-/
import Derived.Test.YtbhjpahieghepaaArP
set_option linter.unusedSimpArgs false
set_option linter.unusedVariables false
namespace Go.Proofs.Ytbhjpahieghepaa
open Go Go.RowKit

/-- a clause of the document's list -/
structure Mc where
  pl : Int
  lits : List Int
  learnt : Bool
  live : Bool
def plc : Int → List Seg → List Mc
  | _, [] => []
  | p, s :: r => ⟨p, s.lits, s.learnt, s.live⟩ :: plc (p + 1 + s.lits.length) r
theorem plc_len : ∀ (S : List Seg) (p : Int), (plc p S).length = S.length
  | [], _ => rfl
  | s :: r, p => by rw [plc, List.length_cons, List.length_cons, plc_len r]
def mwd : List Mc → Nat
  | [] => 0
  | x :: r => 1 + x.lits.length + mwd r
theorem mwd_flat : ∀ (S : List Seg) (p : Int), mwd (plc p S) = (flat S).length
  | [], _ => rfl
  | s :: r, p => by rw [plc, mwd, mwd_flat r, flat_len]
theorem mwd_app : ∀ (a b : List Mc), mwd (a ++ b) = mwd a + mwd b
  | [], b => by simp [mwd]
  | x :: r, b => by rw [List.cons_append, mwd, mwd, mwd_app r b]; omega
theorem mwd_take (L : List Mc) (k : Nat) (h : k < L.length) : mwd (L.take (k + 1)) = mwd (L.take k) + 1 + L[k].lits.length := by
  rw [List.take_succ_eq_append_getElem h, mwd_app]; simp [mwd]; omega
theorem mwd_le (L : List Mc) (k : Nat) : mwd (L.take k) ≤ mwd L := by
  conv => rhs; rw [← List.take_append_drop k L, mwd_app]
  omega
def mct (L : List Mc) : Nat := (L.filter (·.live)).length
theorem mct_lv : ∀ (S : List Seg) (p : Int), mct (plc p S) = (lv p S).length
  | [], _ => rfl
  | s :: r, p => by
    have ih := mct_lv r (p + 1 + s.lits.length)
    unfold mct at ih ⊢
    rw [plc, lv_cons, List.length_append, ← ih, List.filter_cons]
    cases s.live <;> simp; omega
theorem mct_take (L : List Mc) (k : Nat) (h : k < L.length) : mct (L.take (k + 1)) = mct (L.take k) + (if L[k].live then 1 else 0) := by
  unfold mct
  rw [List.take_succ_eq_append_getElem h, List.filter_append, List.length_append]
  cases hl : L[k].live <;> simp [hl]
theorem mct_le (L : List Mc) (k : Nat) : mct (L.take k) ≤ k := by
  unfold mct
  exact Nat.le_trans (List.length_filter_le _ _) (by rw [List.length_take]; omega)
theorem plc_app : ∀ (S T : List Seg) (p : Int), plc p (S ++ T) = plc p S ++ plc (p + (flat S).length) T
  | [], T, p => by simp [plc, flat]
  | s :: r, T, p => by
    rw [List.cons_append, plc, plc, List.cons_append, plc_app r T, flat_len, show p + 1 + (s.lits.length : Int) + ((flat r).length : Int) = p + ((1 + s.lits.length + (flat r).length : Nat) : Int) by omega]
/-- where the live clause at a place stands in the list -/
theorem plc_ge : ∀ {S : List Seg} {p : Int} {x : Mc}, x ∈ plc p S → p ≤ x.pl
  | [], _, _, h => by simp [plc] at h
  | s :: r, p, x, h => by
    rw [plc] at h
    rcases List.mem_cons.1 h with e | e
    · rw [e]; simp
    · have := plc_ge e; omega
theorem plc_find : ∀ (S : List Seg) (p r : Int), (find S (r - p) = none → ∀ x ∈ plc p S, ¬ (x.live = true ∧ x.pl = r)) ∧ ∀ s, find S (r - p) = some s → ∃ i, ∃ h : i < (plc p S).length, (plc p S)[i] = ⟨r, s.lits, s.learnt, true⟩ ∧ plc p (dropAt S (r - p)) = (plc p S).set i ⟨r, s.lits, s.learnt, false⟩ ∧ ∀ k (hk : k < i), ¬ ((plc p S)[k].live = true ∧ (plc p S)[k].pl = r)
  | [], p, r => ⟨fun _ x hx => by simp [plc] at hx, fun s h => by simp [find] at h⟩
  | s :: t, p, r => by
    have ih := plc_find t (p + 1 + s.lits.length) r
    have e0 : r - (p + 1 + (s.lits.length : Int)) = r - p - 1 - (s.lits.length : Int) := by omega
    rw [e0] at ih
    by_cases h0 : r - p < 0
    · rw [find_neg h0]
      refine ⟨fun _ x hx ⟨_, e⟩ => ?_, fun s h => absurd h (by simp)⟩
      have := plc_ge hx
      omega
    · by_cases h1 : r - p = 0
      · have hp : p = r := by omega
        subst hp
        rw [show p - p = 0 by omega]
        have nxt : ∀ x ∈ plc (p + 1 + s.lits.length) t, x.pl ≠ p := fun x hx e => by have := plc_ge hx; omega
        cases hl : s.live
        · have ef : find (s :: t) 0 = none := by unfold find; simp [hl]
          rw [ef]
          refine ⟨fun _ x hx ⟨a, b⟩ => ?_, fun s h => absurd h (by simp)⟩
          rw [plc] at hx
          rcases List.mem_cons.1 hx with e | e
          · rw [e] at a; simp [hl] at a
          · exact nxt x e b
        · have ef : find (s :: t) 0 = some s := by unfold find; simp [hl]
          rw [ef]
          refine ⟨fun h => absurd h (by simp), fun s' h => ?_⟩
          injection h with h
          subst h
          refine ⟨0, by simp [plc], ?_, ?_, fun k hk => absurd hk (Nat.not_lt_zero _)⟩
          · simp [plc, hl]
          · simp [plc, dropAt]
      · have ef : find (s :: t) (r - p) = find t (r - p - 1 - s.lits.length) := by
          conv => lhs; unfold find
          rw [if_neg h1, if_neg h0]
        rw [ef]
        have hne : p ≠ r := by omega
        refine ⟨fun h x hx => ?_, fun s' h => ?_⟩
        · rw [plc] at hx
          rcases List.mem_cons.1 hx with e | e
          · rintro ⟨_, b⟩; rw [e] at b; exact hne b
          · exact ih.1 h x e
        · obtain ⟨i, hi, h2, h3, h4⟩ := ih.2 s' h
          refine ⟨i + 1, by simpa [plc] using hi, by simpa [plc] using h2, ?_, fun k hk => ?_⟩
          · unfold dropAt
            rw [if_neg h1, plc, plc, List.set_cons_succ, h3]
          · cases k with
            | zero => rintro ⟨_, b⟩; exact hne (by simpa [plc] using b)
            | succ k => simpa [plc] using h4 k (by omega)
/-- what Sweep says -/
def mvd4 : Int → List Mc → List (Int × Int)
  | _, [] => []
  | q, x :: r => (x.pl, q) :: mvd4 (q + 1 + x.lits.length) r
def ren4 : Int → List Mc → List Mc
  | _, [] => []
  | q, x :: r => ⟨q, x.lits, x.learnt, x.live⟩ :: ren4 (q + 1 + x.lits.length) r
def live4 (L : List Mc) : List Mc := L.filter (·.live)
theorem swp_plc : ∀ (S : List Seg) (p q : Int), plc q (swp S) = ren4 q (live4 (plc p S))
  | [], _, _ => rfl
  | s :: r, p, q => by
    unfold swp live4
    rw [plc, List.filter_cons, List.filter_cons]
    cases hs : s.live
    · simp only [Bool.false_eq_true, if_false]
      exact swp_plc r _ q
    · simp only [if_true]
      rw [plc, ren4]
      congr 1
      · simp [hs]
      · exact swp_plc r _ _
theorem mvd4_went : ∀ (L : List Mc) (q k : Int), ((mvd4 q L).find? (fun m => m.1 == k)).map Prod.snd = went q (L.map fun x => (x.pl, x.lits, x.learnt)) k
  | [], _, _ => rfl
  | x :: r, q, k => by
    rw [mvd4, List.map_cons, went, List.find?_cons]
    by_cases h : x.pl = k
    · simp [h]
    · rw [if_neg h]
      have : (x.pl == k) = false := beq_eq_false_iff_ne.2 h
      simp only [this]
      exact mvd4_went r _ k
theorem live_lv : ∀ (S : List Seg) (p : Int), (live4 (plc p S)).map (fun x => (x.pl, x.lits, x.learnt)) = lv p S
  | [], _ => rfl
  | s :: r, p => by
    have ih := live_lv r (p + 1 + s.lits.length)
    unfold live4 at ih ⊢
    rw [plc, List.filter_cons, lv_cons]
    cases hs : s.live
    · simpa using ih
    · simpa using ih
end Go.Proofs.Ytbhjpahieghepaa

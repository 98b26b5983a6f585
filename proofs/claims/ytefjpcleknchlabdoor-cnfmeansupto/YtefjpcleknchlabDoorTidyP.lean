/-
  Texts of lists of literals, no two alike; the set of those that were seen; what Tidy keeps: in plain words.
-/
import Derived.Test.YtefjpcleknchlabDoorForms
import Derived.Test.YtefjpcleknchlabDoorTidy
import Derived.Lib.ItoaNum
import Derived.Lib.ItoaLen
import Derived.Maps.OwnSet
set_option linter.unusedSimpArgs false
set_option linter.unusedVariables false
namespace Go.Proofs.YtefjpcleknchlabDoor
open Go.RowKit Go.Maps

theorem dec_bytes (u : Nat) : ∀ b ∈ Lib.decDigits u, 48 ≤ b.toNat ∧ b.toNat ≤ 57 := by
  induction u using Nat.strongRecOn with
  | ind u ih =>
    intro b hb
    rw [Lib.decDigits] at hb
    split at hb
    · rename_i h
      obtain rfl : b = UInt8.ofNat (48 + u) := by simpa using hb
      have : (UInt8.ofNat (48 + u)).toNat = 48 + u := by simp [UInt8.toNat_ofNat']; omega
      omega
    · rename_i h
      rcases List.mem_append.1 hb with hb | hb
      · exact ih (u / 10) (by omega) b hb
      · obtain rfl : b = UInt8.ofNat (48 + u % 10) := by simpa using hb
        have : (UInt8.ofNat (48 + u % 10)).toNat = 48 + u % 10 := by simp [UInt8.toNat_ofNat']; omega
        omega
def decV (l : List UInt8) : Nat := l.foldl (fun a b => 10 * a + (b.toNat - 48)) 0
theorem dec_val (u : Nat) : decV (Lib.decDigits u) = u := by
  induction u using Nat.strongRecOn with
  | ind u ih =>
    rw [Lib.decDigits]
    split
    · rename_i h
      have : (UInt8.ofNat (48 + u)).toNat = 48 + u := by simp [UInt8.toNat_ofNat']; omega
      simp [decV, this]; omega
    · rename_i h
      have h1 := ih (u / 10) (by omega)
      have : (UInt8.ofNat (48 + u % 10)).toNat = 48 + u % 10 := by simp [UInt8.toNat_ofNat']; omega
      unfold decV at h1 ⊢
      rw [List.foldl_append, h1]
      simp [this]; omega
theorem itoa_bytes (n : Int) : ∀ b ∈ Lib.itoa n, b ≠ 32 := by
  intro b hb e
  subst e
  unfold Lib.itoa at hb
  split at hb
  · rcases List.mem_cons.1 hb with h | h
    · exact absurd h (by decide)
    · have := (dec_bytes _ _ h).1; simp at this
  · have := (dec_bytes _ _ hb).1; simp at this
theorem itoa_inj {a b : Int} (h : Lib.itoa a = Lib.itoa b) : a = b := by
  have no45 : ∀ (u : Nat) (r : List UInt8), Lib.decDigits u ≠ 45 :: r := fun u r e => by
    have := (dec_bytes u 45 (by rw [e]; simp)).1; simp at this
  unfold Lib.itoa at h
  split at h <;> split at h
  · have := congrArg decV (List.cons.inj h).2
    rw [dec_val, dec_val] at this; omega
  · exact absurd h.symm (no45 _ _)
  · exact absurd h (no45 _ _)
  · have := congrArg decV h
    rw [dec_val, dec_val] at this; omega
theorem split_at {p q r s : List UInt8} (hp : ∀ b ∈ p, b ≠ 32) (hq : ∀ b ∈ q, b ≠ 32) (h : p ++ 32 :: r = q ++ 32 :: s) : p = q ∧ r = s := by
  induction p generalizing q with
  | nil => cases q with
    | nil => exact ⟨rfl, (List.cons.inj h).2⟩
    | cons y q => exact absurd (List.cons.inj h).1.symm (hq y (List.mem_cons_self ..))
  | cons x p ih => cases q with
    | nil => exact absurd (List.cons.inj h).1 (hp x (List.mem_cons_self ..))
    | cons y q =>
      obtain ⟨h1, h2⟩ := List.cons.inj h
      obtain ⟨h3, h4⟩ := ih (fun b hb => hp b (List.mem_cons_of_mem _ hb)) (fun b hb => hq b (List.mem_cons_of_mem _ hb)) h2
      exact ⟨by rw [h1, h3], h4⟩
/-- the text of a list -/
def textOf (t : List Int) : List UInt8 := t.flatMap (fun l => Lib.itoa l ++ [32])
theorem textOf_inj : ∀ {t t' : List Int}, textOf t = textOf t' → t = t'
  | [], [], _ => rfl
  | [], y :: r', h => by simp [textOf] at h
  | x :: r, [], h => by simp [textOf] at h
  | x :: r, y :: r', h => by
    have e1 : textOf (x :: r) = Lib.itoa x ++ 32 :: textOf r := by simp [textOf]
    have e2 : textOf (y :: r') = Lib.itoa y ++ 32 :: textOf r' := by simp [textOf]
    rw [e1, e2] at h
    obtain ⟨h1, h2⟩ := split_at (itoa_bytes x) (itoa_bytes y) h
    rw [itoa_inj h1, textOf_inj h2]
theorem textOf_more (t : List Int) (k : Nat) (h : k < t.length) : textOf (t.take (k + 1)) = (textOf (t.take k) ++ Lib.itoa (t.getD k 0)) ++ [32] := by
  rw [take_succ_getD t 0 k h]; simp [textOf]
theorem textOf_len (t : List Int) (h : ∀ x ∈ t, fmd x = true) : (textOf t).length ≤ 22 * t.length := by
  induction t with
  | nil => simp [textOf]
  | cons x r ih =>
    have e1 : textOf (x :: r) = Lib.itoa x ++ 32 :: textOf r := by simp [textOf]
    have := ih (fun y hy => h y (List.mem_cons_of_mem _ hy))
    have hx := fmd_range (h x (List.mem_cons_self ..))
    have := Lib.itoa_length_le x (by omega) (by omega)
    rw [e1]; simp; omega

/-- the set that holds just the texts of these lists -/
def setX (ts : List (List Int)) : DataW Unit := setOf (.agg []) (ts.map (fun t => Lit.string (textOf t)))
theorem setX_nil : setX [] = .map [] := by simp [setX, setOf]
theorem setX_snoc (ts : List (List Int)) (t : List Int) : setX (ts ++ [t]) = (setX ts).put (.string (textOf t)) (.agg []) := by
  unfold setX; rw [List.map_append, List.map_singleton, setOf_snoc]
theorem any_text (t : List Int) : ∀ ts : List (List Int), (ts.map (fun t => Lit.string (textOf t))).any (fun x => x.sameKey (.string (textOf t))) = ts.contains t
  | [] => rfl
  | a :: r => by
    rw [List.map_cons, List.any_cons, List.contains_cons, any_text t r]
    congr 1
    show (textOf a == textOf t) = (t == a)
    by_cases e : a = t
    · subst e; simp
    · have e' : ¬ t = a := fun h => e h.symm
      have e2 : ¬ textOf a = textOf t := fun h => e (textOf_inj h)
      rw [beq_eq_false_iff_ne.2 e2, beq_eq_false_iff_ne.2 e']
theorem has_setX (ts : List (List Int)) (t : List Int) : Maps.has (setX ts) (.string (textOf t)) = ts.contains t := by
  unfold setX
  rw [has_setOf _ _ _ (fun y hy => by obtain ⟨_, _, rfl⟩ := List.mem_map.1 hy; trivial)]
  exact any_text t ts

/-- what Tidy keeps of the first k clauses -/
def tdK (css : List (List Int)) : Nat → List (List Int)
  | 0 => []
  | k + 1 => if adj (tid (css.getD k [])) || (tdK css k).contains (tid (css.getD k [])) then tdK css k else tdK css k ++ [tid (css.getD k [])]
def tdF (n : Int) (css : List (List Int)) : Int × List (List Int) × Int := if frm n css then (n, tdK css css.length, 0) else (0, [], 1)
theorem tdK_len (css : List (List Int)) : ∀ k, (tdK css k).length ≤ k
  | 0 => by simp [tdK]
  | k + 1 => by
    have := tdK_len css k
    unfold tdK; split
    · omega
    · simp; omega
theorem tdK_mem (css : List (List Int)) (t : List Int) : ∀ k, t ∈ tdK css k ↔ adj t = false ∧ ∃ j, j < k ∧ tid (css.getD j []) = t
  | 0 => by simp [tdK]
  | k + 1 => by
    have ih := tdK_mem css t k
    unfold tdK
    cases ha : adj (tid (css.getD k []))
    · cases hc : (tdK css k).contains (tid (css.getD k []))
      · simp only [Bool.or_self, Bool.false_eq_true, if_false, List.mem_append, List.mem_singleton, ih]
        constructor
        · rintro (⟨h1, j, h2, h3⟩ | rfl)
          · exact ⟨h1, j, by omega, h3⟩
          · exact ⟨ha, k, by omega, rfl⟩
        · rintro ⟨h1, j, h2, h3⟩
          by_cases e : j = k
          · subst e; exact .inr h3.symm
          · exact .inl ⟨h1, j, by omega, h3⟩
      · simp only [Bool.or_true, if_true, ih]
        constructor
        · rintro ⟨h1, j, h2, h3⟩; exact ⟨h1, j, by omega, h3⟩
        · rintro ⟨h1, j, h2, h3⟩
          by_cases e : j = k
          · subst e
            have := (tdK_mem css _ j).1 (List.contains_iff_mem.1 hc)
            rw [h3] at this; exact this
          · exact ⟨h1, j, by omega, h3⟩
    · simp only [Bool.true_or, if_true, ih]
      constructor
      · rintro ⟨h1, j, h2, h3⟩; exact ⟨h1, j, by omega, h3⟩
      · rintro ⟨h1, j, h2, h3⟩
        by_cases e : j = k
        · subst e; rw [h3, h1] at ha; cases ha
        · exact ⟨h1, j, by omega, h3⟩
theorem tdK_tid (css : List (List Int)) (k : Nat) : ∀ t ∈ tdK css k, ∃ z, t = tid z := fun t h => by
  obtain ⟨_, j, _, e⟩ := (tdK_mem css t k).1 h; exact ⟨_, e.symm⟩

end Go.Proofs.YtefjpcleknchlabDoor

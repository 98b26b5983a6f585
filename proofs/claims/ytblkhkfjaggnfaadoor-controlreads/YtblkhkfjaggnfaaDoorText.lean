/-
  Texts of numbers and of lists of literals, no two alike: in plain words.
-/
import Derived.Test.YtblkhkfjaggnfaaDoorForms
import Derived.Lib.ItoaNum
import Derived.Lib.ItoaLen
set_option linter.unusedSimpArgs false
set_option linter.unusedVariables false
namespace Go.Proofs.YtblkhkfjaggnfaaDoor
open Go.RowKit

theorem dec_bytes (u : Nat) : ∀ b ∈ Lib.decDigits u, 48 ≤ b.toNat ∧ b.toNat ≤ 57 := by
  induction u using Nat.strongRecOn with
  | ind u ih =>
    intro b hb
    rw [Lib.decDigits] at hb
    split at hb
    · rename_i h
      obtain rfl : b = UInt8.ofNat (48 + u) := by simpa using hb
      have : (UInt8.ofNat (48 + u)).toNat = 48 + u := by simp [UInt8.toNat_ofNat']; omega
      omega
    · rename_i h
      rcases List.mem_append.1 hb with hb | hb
      · exact ih (u / 10) (by omega) b hb
      · obtain rfl : b = UInt8.ofNat (48 + u % 10) := by simpa using hb
        have : (UInt8.ofNat (48 + u % 10)).toNat = 48 + u % 10 := by simp [UInt8.toNat_ofNat']; omega
        omega
def decV (l : List UInt8) : Nat := l.foldl (fun a b => 10 * a + (b.toNat - 48)) 0
theorem dec_val (u : Nat) : decV (Lib.decDigits u) = u := by
  induction u using Nat.strongRecOn with
  | ind u ih =>
    rw [Lib.decDigits]
    split
    · rename_i h
      have : (UInt8.ofNat (48 + u)).toNat = 48 + u := by simp [UInt8.toNat_ofNat']; omega
      simp [decV, this]; omega
    · rename_i h
      have h1 := ih (u / 10) (by omega)
      have : (UInt8.ofNat (48 + u % 10)).toNat = 48 + u % 10 := by simp [UInt8.toNat_ofNat']; omega
      unfold decV at h1 ⊢
      rw [List.foldl_append, h1]
      simp [this]; omega
theorem itoa_bytes (n : Int) : ∀ b ∈ Lib.itoa n, b ≠ 32 := by
  intro b hb e
  subst e
  unfold Lib.itoa at hb
  split at hb
  · rcases List.mem_cons.1 hb with h | h
    · exact absurd h (by decide)
    · have := (dec_bytes _ _ h).1; simp at this
  · have := (dec_bytes _ _ hb).1; simp at this
theorem itoa_inj {a b : Int} (h : Lib.itoa a = Lib.itoa b) : a = b := by
  have no45 : ∀ (u : Nat) (r : List UInt8), Lib.decDigits u ≠ 45 :: r := fun u r e => by
    have := (dec_bytes u 45 (by rw [e]; simp)).1; simp at this
  unfold Lib.itoa at h
  split at h <;> split at h
  · have := congrArg decV (List.cons.inj h).2
    rw [dec_val, dec_val] at this; omega
  · exact absurd h.symm (no45 _ _)
  · exact absurd h (no45 _ _)
  · have := congrArg decV h
    rw [dec_val, dec_val] at this; omega
theorem split_at {p q r s : List UInt8} (hp : ∀ b ∈ p, b ≠ 32) (hq : ∀ b ∈ q, b ≠ 32) (h : p ++ 32 :: r = q ++ 32 :: s) : p = q ∧ r = s := by
  induction p generalizing q with
  | nil => cases q with
    | nil => exact ⟨rfl, (List.cons.inj h).2⟩
    | cons y q => exact absurd (List.cons.inj h).1.symm (hq y (List.mem_cons_self ..))
  | cons x p ih => cases q with
    | nil => exact absurd (List.cons.inj h).1 (hp x (List.mem_cons_self ..))
    | cons y q =>
      obtain ⟨h1, h2⟩ := List.cons.inj h
      obtain ⟨h3, h4⟩ := ih (fun b hb => hp b (List.mem_cons_of_mem _ hb)) (fun b hb => hq b (List.mem_cons_of_mem _ hb)) h2
      exact ⟨by rw [h1, h3], h4⟩
/-- the text of a list -/
def textOf (t : List Int) : List UInt8 := t.flatMap (fun l => Lib.itoa l ++ [32])
theorem textOf_inj : ∀ {t t' : List Int}, textOf t = textOf t' → t = t'
  | [], [], _ => rfl
  | [], y :: r', h => by simp [textOf] at h
  | x :: r, [], h => by simp [textOf] at h
  | x :: r, y :: r', h => by
    have e1 : textOf (x :: r) = Lib.itoa x ++ 32 :: textOf r := by simp [textOf]
    have e2 : textOf (y :: r') = Lib.itoa y ++ 32 :: textOf r' := by simp [textOf]
    rw [e1, e2] at h
    obtain ⟨h1, h2⟩ := split_at (itoa_bytes x) (itoa_bytes y) h
    rw [itoa_inj h1, textOf_inj h2]
theorem textOf_more (t : List Int) (k : Nat) (h : k < t.length) : textOf (t.take (k + 1)) = (textOf (t.take k) ++ Lib.itoa (t.getD k 0)) ++ [32] := by
  rw [take_succ_getD t 0 k h]; simp [textOf]
theorem textOf_len (t : List Int) (h : ∀ x ∈ t, fmd x = true) : (textOf t).length ≤ 22 * t.length := by
  induction t with
  | nil => simp [textOf]
  | cons x r ih =>
    have e1 : textOf (x :: r) = Lib.itoa x ++ 32 :: textOf r := by simp [textOf]
    have := ih (fun y hy => h y (List.mem_cons_of_mem _ hy))
    have hx := fmd_range (h x (List.mem_cons_self ..))
    have := Lib.itoa_length_le x (by omega) (by omega)
    rw [e1]; simp; omega


end Go.Proofs.YtblkhkfjaggnfaaDoor

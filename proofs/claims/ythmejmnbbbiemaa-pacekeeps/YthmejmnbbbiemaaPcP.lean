/-
  Luby's sequence, in plain mathematics. No program here.
-/
import Derived.Lib.ItoaNum
set_option linter.unusedSimpArgs false
set_option linter.unusedVariables false
namespace Go.Proofs.Ythmejmnbbbiemaa

/-- the greatest power of two that is at most i (i at least 1) -/
def hlf (i : Nat) : Nat := 2 ^ Nat.log2 i
theorem hlf_le {i : Nat} (h : i ≠ 0) : hlf i ≤ i := Nat.log2_self_le h
theorem lt_hlf (i : Nat) : i < 2 * hlf i := by
  have := Nat.lt_log2_self (n := i); unfold hlf; rw [Nat.pow_succ] at this; omega
theorem hlf_pos (i : Nat) : 1 ≤ hlf i := Nat.one_le_two_pow
theorem hlf_of {i k : Nat} (h1 : 2 ^ k ≤ i) (h2 : i < 2 * 2 ^ k) : hlf i = 2 ^ k := by
  have h0 : i ≠ 0 := by have := Nat.one_le_two_pow (n := k); omega
  have : Nat.log2 i = k := by
    rw [Nat.log2_eq_iff h0]
    exact ⟨h1, by rw [Nat.pow_succ]; omega⟩
  unfold hlf; rw [this]
theorem hlf_two {i : Nat} (h : 2 ≤ i) : 2 ≤ hlf i := by
  rcases Nat.lt_or_ge (hlf i) 2 with h1 | h1
  · have := lt_hlf i; have := hlf_pos i; omega
  · exact h1

/-- Luby's number i; 0 for 0 -/
def lub (i : Nat) : Nat :=
  if h : i = 0 then 0 else if h2 : i + 1 = 2 * hlf i then hlf i else lub (i - (hlf i - 1))
termination_by i
decreasing_by
  have h3 := hlf_le h
  have h4 := hlf_pos i
  have h5 : 2 ≤ hlf i := by
    rcases Nat.lt_or_ge i 2 with h6 | h6
    · have e : i = 1 := by omega
      subst e; exact absurd (by decide) h2
    · exact hlf_two h6
  omega

theorem lub_zero : lub 0 = 0 := by rw [lub]; simp
theorem lub_top {i : Nat} (h : i ≠ 0) (h2 : i + 1 = 2 * hlf i) : lub i = hlf i := by rw [lub, dif_neg h, dif_pos h2]
theorem lub_down {i : Nat} (h : i ≠ 0) (h2 : i + 1 ≠ 2 * hlf i) : lub i = lub (i - (hlf i - 1)) := by rw [lub, dif_neg h, dif_neg h2]
theorem down_lt {i : Nat} (h : i ≠ 0) (h2 : i + 1 ≠ 2 * hlf i) : 2 ≤ hlf i ∧ 1 ≤ i - (hlf i - 1) ∧ i - (hlf i - 1) < i := by
  have h3 := hlf_le h
  have h4 := hlf_pos i
  have h5 : 2 ≤ hlf i := by
    rcases Nat.lt_or_ge i 2 with h6 | h6
    · have e : i = 1 := by omega
      subst e; exact absurd (by decide) h2
    · exact hlf_two h6
  omega
/-- it is a power of two, and at most i -/
theorem lub_pow : ∀ (n i : Nat), i ≤ n → i ≠ 0 → ∃ j, lub i = 2 ^ j ∧ 2 ^ j ≤ i
  | 0, i, h, h0 => absurd (by omega) h0
  | n + 1, i, h, h0 => by
    by_cases h2 : i + 1 = 2 * hlf i
    · exact ⟨Nat.log2 i, lub_top h0 h2, hlf_le h0⟩
    · have hd := down_lt h0 h2
      obtain ⟨j, e, hj⟩ := lub_pow n (i - (hlf i - 1)) (by omega) (by omega)
      exact ⟨j, by rw [lub_down h0 h2, e], by omega⟩
theorem lub_pos {i : Nat} (h : i ≠ 0) : 1 ≤ lub i := by
  obtain ⟨j, e, _⟩ := lub_pow i i (Nat.le_refl _) h
  rw [e]; exact Nat.one_le_two_pow
theorem lub_le (i : Nat) : lub i ≤ i := by
  by_cases h : i = 0
  · subst h; rw [lub_zero]; omega
  · obtain ⟨j, e, hj⟩ := lub_pow i i (Nat.le_refl _) h
    omega
/-- the doubling -/
theorem lub_last (k : Nat) : lub (2 * 2 ^ k - 1) = 2 ^ k := by
  have h := Nat.one_le_two_pow (n := k)
  have e := hlf_of (i := 2 * 2 ^ k - 1) (k := k) (by omega) (by omega)
  rw [lub_top (by omega) (by rw [e]; omega), e]
theorem lub_double {k i : Nat} (h1 : 1 ≤ i) (h2 : i ≤ 2 ^ k - 1) : lub (2 ^ k - 1 + i) = lub i := by
  have h := Nat.one_le_two_pow (n := k)
  have e := hlf_of (i := 2 ^ k - 1 + i) (k := k) (by omega) (by omega)
  rw [lub_down (by omega) (by rw [e]; omega), e]
  congr 1; omega

/-- of any int -/
def lubI (i : Int) : Int := if i < 1 then 0 else (lub i.toNat : Int)
theorem lubI_low {i : Int} (h : i < 1) : lubI i = 0 := by unfold lubI; rw [if_pos h]
theorem lubI_nat {n : Nat} (h : 1 ≤ n) : lubI (n : Int) = (lub n : Int) := by unfold lubI; rw [if_neg (by omega)]; simp
theorem hlf_bitLen {n : Nat} (h0 : n ≠ 0) (h : n < 9223372036854775808) : 1 ≤ Lib.bitLen n ∧ Lib.bitLen n ≤ 63 ∧ 2 ^ (Lib.bitLen n - 1) = hlf n := by
  obtain ⟨a, b, c⟩ := Lib.bitLenAux_bounds 64 n (by omega) h0
  have a2 : 1 ≤ Lib.bitLen n := a
  have b2 : 2 ^ (Lib.bitLen n - 1) ≤ n := b
  have c2 : n < 2 ^ Lib.bitLen n := c
  refine ⟨a2, Lib.bitLen_le n 63 (by omega) (by simpa using h), ?_⟩
  refine (hlf_of b2 ?_).symm
  obtain ⟨q, hq⟩ : ∃ q, Lib.bitLen n = q + 1 := ⟨Lib.bitLen n - 1, by omega⟩
  rw [hq, Nat.pow_succ] at c2
  rw [hq]; simp; omega
theorem hlf_bound {n : Nat} (h0 : n ≠ 0) (h : n < 9223372036854775808) : hlf n ≤ 4611686018427387904 := by
  have := (hlf_bitLen h0 h)
  have h1 : 2 ^ (Lib.bitLen n - 1) ≤ 2 ^ 62 := Nat.pow_le_pow_right (by omega) (by omega)
  have : (2 : Nat) ^ 62 = 4611686018427387904 := by decide
  omega
end Go.Proofs.Ythmejmnbbbiemaa

/-
  PaceDoubles, walked.
  KEEP: walk
-/
import Derived.Test.YthcbpdnaocpleabPcL
set_option linter.unusedSimpArgs false
set_option linter.unusedVariables false
namespace Go.Proofs.Ythcbpdnaocpleab.paceDoubles
open Go Go.RowKit

theorem and_pow : ∀ j : Fin 63, bits BinOp.and IntKind.i64 ((2 ^ j.val : Nat) : Int) (((2 ^ j.val : Nat) : Int) - 1) = 0 := by decide +kernel
theorem one_pow : ∀ k : Fin 62, wrap64 (2 ^ k.val) = ((2 ^ k.val : Nat) : Int) := by decide +kernel
theorem pow_62 (k : Nat) (h : k < 62) : 2 ^ k ≤ 2305843009213693952 := by
  have := Nat.pow_le_pow_right (n := 2) (by omega) (show k ≤ 61 by omega)
  have e : (2 : Nat) ^ 61 = 2305843009213693952 := by decide
  omega

set_option maxHeartbeats 1600000 in
theorem walk (i : Int) (w : World) (h1 : -9223372036854775808 ≤ i) (h2 : i ≤ 9223372036854775807) :
    Calls Try.prog 3 #[.int .i64 i] w fun e w' => e = .returned (.bool true) ∧ Below w.heap.size w w' := by
  by_cases h : i < 1
  · have hl := lubI_low h
    have h11 : lubI 1 = 1 := by
      have e : hlf 1 = 1 := hlf_of (k := 0) (by decide) (by decide)
      have := lubI_nat (n := 1) (by omega)
      rw [lub_top (by omega) (by rw [e]), e] at this
      exact this
    go_enter Try.func3, Try.ntmps3
    go_wp2_with (go_at_call 7; refine (luby_any _ _ (by omega) (by omega)).mono ?_; rintro e w' ⟨rfl, rfl⟩)
    go_ret
    exact ⟨rfl, Below.refl _ _⟩
  obtain ⟨n, rfl⟩ : ∃ n : Nat, i = n := ⟨i.toNat, by omega⟩
  have hn1 : 1 ≤ n := by omega
  obtain ⟨j, ej, hj⟩ := lub_pow n n (Nat.le_refl _) (by omega)
  have hj63 : j < 63 := by
    rcases Nat.lt_or_ge j 63 with q | q
    · exact q
    · have := Nat.pow_le_pow_right (n := 2) (by omega) q
      have e : (2 : Nat) ^ 63 = 9223372036854775808 := by decide
      omega
  have ha := and_pow ⟨j, hj63⟩
  have hx1 := Nat.one_le_two_pow (n := j)
  simp only at ha
  have HX : Hid (lub n = 2 ^ j) := ej
  have hL : lubI (n : Int) = ((2 ^ j : Nat) : Int) := by rw [lubI_nat hn1, ej]
  have HD : Hid (∀ k, n ≤ 2 ^ k - 1 → lub (2 ^ k - 1 + n) = 2 ^ j) := fun k hk => by rw [lub_double hn1 hk, ej]
  have HE : Hid (∀ k, n = 2 * 2 ^ k - 1 → 2 ^ j = 2 ^ k) := fun k hk => by rw [← ej, hk, lub_last]
  clear ej
  generalize 2 ^ j = X at *
  go_enter Try.func3, Try.ntmps3
  go_wp2_with (go_at_call 7; refine (luby_any _ _ (by omega) (by omega)).mono ?_; rintro e w' ⟨rfl, rfl⟩)
  go_loop [4] (fun t => ∃ k : Nat, k ≤ 62 ∧ t = .int .i64 k) (fun t => 62 - (intOf t).toNat)
  case atStart => exact ⟨0, by omega, rfl⟩
  case round =>
    obtain ⟨k, hk, rfl⟩ := hrel
    by_cases hlt : k < 62
    · have hp := one_pow ⟨k, hlt⟩
      have hp2 := pow_62 k hlt
      have hk1 := Nat.one_le_two_pow (n := k)
      have HE' : Hid (n = 2 * 2 ^ k - 1 → X = 2 ^ k) := HE.out k
      have HD' : Hid (n ≤ 2 ^ k - 1 → lub (2 ^ k - 1 + n) = X) := HD.out k
      simp only at hp
      clear HE HD
      generalize hK : 2 ^ k = K at *
      have HK : Hid (2 ^ k = K) := hK
      clear hK
      by_cases c1 : n = 2 * K - 1
      · have hXK : X = K := HE'.out c1
        have q1 : ((n : Int) == 2 * ((K : Int) - 1) + 1) = true := by simp; omega
        have q2 : ((X : Int) != (K : Int) - 1 + 1) = false := by simp; omega
        have q3 : ((X : Int) == (K : Int) - 1 + 1) = true := by simp; omega
        clear c1 hL HE' HD' HX
        subst hXK
        go_wp2_with fail
        go_round
        case rel => exact ⟨k + 1, by omega, by go_num⟩
        case measure => simp [intOf]; omega
      · have q1 : ((n : Int) == 2 * ((K : Int) - 1) + 1) = false := by simp; omega
        by_cases c2 : n ≤ K - 1
        · have hL2 : lubI ((K : Int) - 1 + (n : Int)) = (X : Int) := by
            have e : (K : Int) - 1 + (n : Int) = ((K - 1 + n : Nat) : Int) := by omega
            rw [e, lubI_nat (by omega), HD'.out c2]
          clear hL HE' HD' HX
          go_wp2_with (go_at_call 7; refine (luby_any _ _ (by omega) (by omega)).mono ?_; rintro e w' ⟨rfl, rfl⟩)
          go_round
          case rel => exact ⟨k + 1, by omega, by go_num⟩
          case measure => simp [intOf]; omega
        · clear hL HE' HD' HX
          go_wp2_with fail
          go_round
          case rel => exact ⟨k + 1, by omega, by go_num⟩
          case measure => simp [intOf]; omega
    · go_wp2
      go_ret
      exact ⟨rfl, Below.refl _ _⟩
end Go.Proofs.Ythcbpdnaocpleab.paceDoubles

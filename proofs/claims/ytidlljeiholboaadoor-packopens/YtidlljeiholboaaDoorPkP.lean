/-
  Numbers and steps as bytes: in plain words.
-/
import Derived.Test.YtidlljeiholboaaDoorDrB
set_option linter.unusedSimpArgs false
set_option linter.unusedVariables false
namespace Go.Proofs.YtidlljeiholboaaDoor
open Go.RowKit

/-- a number's bytes -/
def numB (n : Nat) : List UInt8 := if h : n < 128 then [UInt8.ofNat n] else UInt8.ofNat (n % 128 + 128) :: numB (n / 128)
termination_by n
decreasing_by omega
theorem numB_small {n : Nat} (h : n < 128) : numB n = [UInt8.ofNat n] := by rw [numB]; simp [h]
theorem numB_big {n : Nat} (h : 128 ≤ n) : numB n = UInt8.ofNat (n % 128 + 128) :: numB (n / 128) := by rw [numB]; simp [show ¬ n < 128 by omega]
theorem numB_pos (n : Nat) : 0 < (numB n).length := by rw [numB]; split <;> simp
theorem numB_ne (n : Nat) : numB n ≠ [] := fun e => by have := numB_pos n; rw [e] at this; simp at this
theorem pow128 (k : Nat) : 128 ^ (k + 1) = 128 * 128 ^ k := by rw [Nat.pow_succ, Nat.mul_comm]
theorem numB_lt : ∀ (k n : Nat), (numB n).length ≤ k → n < 128 ^ k
  | 0, n, h => by have := numB_pos n; omega
  | k + 1, n, h => by
    by_cases hn : n < 128
    · have : 128 ^ 1 ≤ 128 ^ (k + 1) := Nat.pow_le_pow_right (by omega) (by omega)
      omega
    · rw [numB_big (by omega)] at h
      have := numB_lt k (n / 128) (by simpa using h)
      rw [pow128]; omega
theorem numB_le : ∀ (k n : Nat), n < 128 ^ (k + 1) → (numB n).length ≤ k + 1
  | 0, n, h => by rw [numB_small (by omega)]; simp
  | k + 1, n, h => by
    by_cases hn : n < 128
    · rw [numB_small hn]; simp
    · rw [numB_big (by omega)]
      have := numB_le k (n / 128) (by rw [pow128 (k + 1)] at h; omega)
      simpa using this
theorem numB_10 {n : Nat} (h : n < 18446744073709551616) : (numB n).length ≤ 10 := numB_le 9 n (by omega)
theorem numB_ge {n : Nat} (h : 1 < (numB n).length) : 128 ^ ((numB n).length - 1) ≤ n := by
  rcases Nat.lt_or_ge n (128 ^ ((numB n).length - 1)) with h1 | h1
  · have := numB_le ((numB n).length - 2) n (by rw [show (numB n).length - 2 + 1 = (numB n).length - 1 by omega]; exact h1)
    omega
  · exact h1
/-- all but the last are 128 or more, the last is less -/
theorem numB_high : ∀ (n i : Nat), i + 1 < (numB n).length → 128 ≤ ((numB n).getD i 0).toNat := fun n => by
  induction n using Nat.strongRecOn with
  | _ n ih =>
    intro i h
    by_cases hn : n < 128
    · rw [numB_small hn] at h; simp at h
    · rw [numB_big (by omega)] at h ⊢
      cases i with
      | zero => simp [UInt8.toNat_ofNat']; omega
      | succ i => simpa using ih (n / 128) (by omega) i (by simpa using h)
theorem numB_last : ∀ (n : Nat), ((numB n).getD ((numB n).length - 1) 0).toNat < 128 := fun n => by
  induction n using Nat.strongRecOn with
  | _ n ih =>
    by_cases hn : n < 128
    · rw [numB_small hn]; simp [UInt8.toNat_ofNat']; omega
    · rw [numB_big (by omega)]
      have hp := numB_pos (n / 128)
      have := ih (n / 128) (by omega)
      simp only [List.length_cons, Nat.add_sub_cancel]
      rw [show (numB (n / 128)).length = (numB (n / 128)).length - 1 + 1 by omega]
      simpa using this

/-- the number at the beginning, from the piece k on with what is had: number, size, error -/
def tkB : Nat → Nat → List UInt8 → Nat × Nat × Int
  | _, _, [] => (0, 0, 33)
  | k, a, b :: r =>
    if (k = 9 ∧ 1 < b.toNat) ∨ (0 < k ∧ b.toNat = 0) then (0, 0, 101)
    else if b.toNat < 128 then (a + b.toNat * 128 ^ k, k + 1, 0)
    else tkB (k + 1) (a + (b.toNat - 128) * 128 ^ k) r
theorem pow_le_64 {k : Nat} (h : k ≤ 9) : 128 ^ k ≤ 9223372036854775808 := by
  have : 128 ^ k ≤ 128 ^ 9 := Nat.pow_le_pow_right (by omega) h
  omega
/-- a number that was written is taken, whatever stands behind -/
theorem tk_num : ∀ (n k a : Nat) (r : List UInt8), n * 128 ^ k < 18446744073709551616 → k ≤ 9 → (0 < k → 0 < n) → tkB k a (numB n ++ r) = (a + n * 128 ^ k, k + (numB n).length, 0) := fun n => by
  induction n using Nat.strongRecOn with
  | _ n ih =>
    intro k a r h hk h0
    by_cases hn : n < 128
    · rw [numB_small hn]
      have ht : (UInt8.ofNat n).toNat = n := by simp [UInt8.toNat_ofNat']; omega
      have h1 : ¬ ((k = 9 ∧ 1 < n) ∨ (0 < k ∧ n = 0)) := by
        rintro (⟨rfl, h1⟩ | ⟨h1, h2⟩)
        · have : (2 : Nat) * 128 ^ 9 ≤ n * 128 ^ 9 := Nat.mul_le_mul_right _ h1
          omega
        · have := h0 h1; omega
      simp only [List.cons_append, List.nil_append, tkB, ht, if_neg h1, if_pos hn, List.length_cons, List.length_nil]
    · rw [numB_big (by omega)]
      have ht : (UInt8.ofNat (n % 128 + 128)).toNat = n % 128 + 128 := by simp [UInt8.toNat_ofNat']; omega
      have hk9 : k ≠ 9 := by
        rintro rfl
        have : (128 : Nat) * 128 ^ 9 ≤ n * 128 ^ 9 := Nat.mul_le_mul_right _ (by omega)
        omega
      have h1 : ¬ ((k = 9 ∧ 1 < n % 128 + 128) ∨ (0 < k ∧ n % 128 + 128 = 0)) := by omega
      have e : n * 128 ^ k = (n % 128) * 128 ^ k + (n / 128) * 128 ^ (k + 1) := by
        rw [pow128, show n / 128 * (128 * 128 ^ k) = (128 * (n / 128)) * 128 ^ k by rw [Nat.mul_left_comm, Nat.mul_assoc], ← Nat.add_mul]
        congr 1; omega
      simp only [List.cons_append, tkB, ht, if_neg h1, if_neg (show ¬ n % 128 + 128 < 128 by omega), Nat.add_sub_cancel]
      rw [ih (n / 128) (by omega) (k + 1) _ r (by omega) (by omega) (fun _ => by omega), e]
      simp only [List.length_cons, Prod.mk.injEq, and_true]
      constructor <;> omega
theorem tk_back (n : Nat) (r : List UInt8) (h : n < 18446744073709551616) : tkB 0 0 (numB n ++ r) = (n, (numB n).length, 0) := by
  have := tk_num n 0 0 r (by simpa using h) (by omega) (fun h => absurd h (by omega))
  simpa using this
/-- what a taking answers -/
theorem tk_say : ∀ (b : List UInt8) (k a : Nat), k ≤ 9 → a < 128 ^ k → (tkB k a b = (0, 0, 33)) ∨ (tkB k a b = (0, 0, 101)) ∨ (∃ n, n * 128 ^ k < 18446744073709551616 ∧ (0 < k → 0 < n) ∧ tkB k a b = (a + n * 128 ^ k, k + (numB n).length, 0) ∧ b = numB n ++ b.drop (numB n).length)
  | [], k, a, _, _ => .inl rfl
  | b :: r, k, a, hk, ha => by
    have hb : b.toNat < 256 := b.toNat_lt
    by_cases h1 : (k = 9 ∧ 1 < b.toNat) ∨ (0 < k ∧ b.toNat = 0)
    · exact .inr (.inl (by rw [tkB, if_pos h1]))
    · by_cases h2 : b.toNat < 128
      · refine .inr (.inr ⟨b.toNat, ?_, fun h => by omega, ?_, ?_⟩)
        · have hp := pow_le_64 hk
          rcases Nat.lt_or_ge k 9 with h9 | h9
          · have : 128 ^ k ≤ 128 ^ 8 := Nat.pow_le_pow_right (by omega) (by omega)
            have : b.toNat * 128 ^ k ≤ 127 * 128 ^ 8 := Nat.mul_le_mul (by omega) this
            omega
          · obtain rfl : k = 9 := by omega
            have : b.toNat * 128 ^ 9 ≤ 1 * 128 ^ 9 := Nat.mul_le_mul_right _ (by omega)
            omega
        · rw [tkB, if_neg h1, if_pos h2, numB_small h2]; rfl
        · rw [numB_small h2]; simp
      · have hk9 : k ≠ 9 := by omega
        have hp : 0 < 128 ^ k := Nat.pos_of_ne_zero (by simp)
        have ha' : a + (b.toNat - 128) * 128 ^ k < 128 ^ (k + 1) := by
          have : (b.toNat - 128) * 128 ^ k ≤ 127 * 128 ^ k := Nat.mul_le_mul_right _ (by omega)
          rw [pow128]; omega
        have e : tkB k a (b :: r) = tkB (k + 1) (a + (b.toNat - 128) * 128 ^ k) r := by rw [tkB, if_neg h1, if_neg h2]
        rw [e]
        rcases tk_say r (k + 1) (a + (b.toNat - 128) * 128 ^ k) (by omega) ha' with h | h | ⟨n, h3, h4, h5, h6⟩
        · exact .inl h
        · exact .inr (.inl h)
        · have hn := h4 (by omega)
          have hm : (128 * n + (b.toNat - 128)) % 128 = b.toNat - 128 := by omega
          have hd : (128 * n + (b.toNat - 128)) / 128 = n := by omega
          have eb : numB (128 * n + (b.toNat - 128)) = b :: numB n := by
            rw [numB_big (by omega), hm, hd, show b.toNat - 128 + 128 = b.toNat by omega]; simp
          have em : (128 * n + (b.toNat - 128)) * 128 ^ k = (b.toNat - 128) * 128 ^ k + n * 128 ^ (k + 1) := by
            rw [pow128, Nat.add_mul, Nat.mul_right_comm, Nat.mul_comm (128 * 128 ^ k) n, Nat.add_comm]
          refine .inr (.inr ⟨128 * n + (b.toNat - 128), ?_, fun _ => by omega, ?_, ?_⟩)
          · rw [em]
            have : (b.toNat - 128) * 128 ^ k < 128 ^ (k + 1) := by
              have : (b.toNat - 128) * 128 ^ k ≤ 127 * 128 ^ k := Nat.mul_le_mul_right _ (by omega)
              rw [pow128]; omega
            have h9 : 128 ^ (k + 1) * 128 ^ (9 - (k + 1)) = 9223372036854775808 := by rw [← Nat.pow_add, show k + 1 + (9 - (k + 1)) = 9 by omega]
            have h10 : n * 128 ^ (k + 1) < (2 * 128 ^ (9 - (k + 1))) * 128 ^ (k + 1) := by
              rw [Nat.mul_assoc, Nat.mul_comm (128 ^ (9 - (k + 1))), h9]; omega
            have h11 : n < 2 * 128 ^ (9 - (k + 1)) := Nat.lt_of_mul_lt_mul_right h10
            have h12 : (n + 1) * 128 ^ (k + 1) ≤ (2 * 128 ^ (9 - (k + 1))) * 128 ^ (k + 1) := Nat.mul_le_mul_right _ h11
            rw [Nat.mul_assoc, Nat.mul_comm (128 ^ (9 - (k + 1))), h9, Nat.add_mul, Nat.one_mul] at h12
            omega
          · rw [h5, em, eb]
            simp only [List.length_cons, Prod.mk.injEq, and_true]
            constructor <;> omega
          · rw [eb]
            simp only [List.cons_append, List.length_cons, List.drop_succ_cons]
            rw [← h6]
theorem tk_all (b : List UInt8) : (tkB 0 0 b = (0, 0, 33)) ∨ (tkB 0 0 b = (0, 0, 101)) ∨ (∃ n, n < 18446744073709551616 ∧ tkB 0 0 b = (n, (numB n).length, 0) ∧ b = numB n ++ b.drop (numB n).length) := by
  rcases tk_say b 0 0 (by omega) (by simp) with h | h | ⟨n, h1, _, h2, h3⟩
  · exact .inl h
  · exact .inr (.inl h)
  · exact .inr (.inr ⟨n, by simpa using h1, by simpa using h2, h3⟩)

/-- a literal's number, and the literal of a number -/
def litN (l : Int) : Nat := (idx l + 2).toNat
def litO (n : Nat) : Int := if 2097153 < n then 0 else litAt ((n : Int) - 2)
theorem litN_range {l : Int} (h : fmd l = true) : 2 ≤ litN l ∧ litN l ≤ 2097153 := by
  have := idx_range h; unfold litN; omega
theorem litO_litN {l : Int} (h : fmd l = true) : litO (litN l) = l := by
  have h1 := litN_range h
  have h2 := idx_range h
  unfold litO
  rw [if_neg (by omega)]
  unfold litN
  rw [show (((idx l + 2).toNat : Nat) : Int) - 2 = idx l by omega, litAt_idx h]
theorem litO_some {n : Nat} (h : litO n ≠ 0) : fmd (litO n) = true ∧ litN (litO n) = n := by
  unfold litO at h ⊢
  by_cases h1 : 2097153 < n
  · rw [if_pos h1] at h; exact absurd rfl h
  · rw [if_neg h1] at h ⊢
    by_cases h2 : n < 2
    · exact absurd (litAt_none (by omega)) h
    · have hv : ∃ v : Int, litAt ((n : Int) - 2) = v ∧ fmd v = true ∧ idx v = (n : Int) - 2 := by
        rcases Int.emod_two_eq ((n : Int) - 2) with h3 | h3
        · refine ⟨_, litAt_even (by omega) (by omega) h3, fmd_true (by omega) (by omega) (by omega), ?_⟩
          rw [(there_pos (fmd_true (by omega) (by omega) (by omega)) (by omega)).1]; omega
        · refine ⟨_, litAt_odd (by omega) (by omega) h3, fmd_true (by omega) (by omega) (by omega), ?_⟩
          rw [(there_neg (fmd_true (by omega) (by omega) (by omega)) (by omega)).1]; omega
      obtain ⟨v, e1, e2, e3⟩ := hv
      rw [e1]
      refine ⟨e2, ?_⟩
      unfold litN; rw [e3]; omega

/-- a clause's numbers; a step's bytes -/
def litsB (c : List Int) : List UInt8 := c.flatMap (fun l => numB (litN l))
def kndB (d : Bool) : UInt8 := if d then 100 else 97
def stpB (x : Stp) : List UInt8 := kndB x.1 :: (litsB x.2 ++ [0])
def encB (l : List Stp) : List UInt8 := l.flatMap stpB
theorem litsB_snoc (c : List Int) (l : Int) : litsB (c ++ [l]) = litsB c ++ numB (litN l) := by simp [litsB]
theorem encB_snoc (l : List Stp) (x : Stp) : encB (l ++ [x]) = encB l ++ stpB x := by simp [encB]
theorem encB_append (a b : List Stp) : encB (a ++ b) = encB a ++ encB b := by simp [encB]
theorem encB_more (l : List Stp) (k : Nat) (h : k < l.length) : encB (l.take (k + 1)) = encB (l.take k) ++ stpB (l.getD k (false, [])) := by
  rw [take_succ_getD l (false, []) k h]; simp [encB]
theorem litsB_more (c : List Int) (k : Nat) (h : k < c.length) : litsB (c.take (k + 1)) = litsB (c.take k) ++ numB (litN (c.getD k 0)) := by
  rw [take_succ_getD c 0 k h]; simp [litsB]

/-- the literals at a place up to the 0: literals, error, place (f: how far it may go) -/
def clB (all : List UInt8) : Nat → Nat → List Int → List Int × Int × Nat
  | 0, _, _ => ([], 33, all.length)
  | f + 1, p, acc =>
    let t := tkB 0 0 (all.drop p)
    if t.2.2 = 33 then ([], 33, all.length)
    else if t.2.2 ≠ 0 then ([], t.2.2, p)
    else if t.1 = 0 then (acc, 0, p + t.2.1)
    else if litO t.1 = 0 then ([], 32, p)
    else clB all f (p + t.2.1) (acc ++ [litO t.1])
/-- the step at a place -/
def stB (all : List UInt8) (p : Nat) : Stp × Int × Nat :=
  if all.getD p 0 = 100 then ((true, (clB all (all.length + 1) (p + 1) []).1), (clB all (all.length + 1) (p + 1) []).2)
  else if all.getD p 0 = 97 then ((false, (clB all (all.length + 1) (p + 1) []).1), (clB all (all.length + 1) (p + 1) []).2)
  else ((false, []), 100, p)
/-- the steps from a place on -/
def dcB (all : List UInt8) : Nat → Nat → List Stp → List Stp × Int × Nat
  | 0, _, acc => (acc, 0, 0)
  | f + 1, p, acc =>
    if p < all.length then
      if (stB all p).2.1 = 0 then dcB all f (stB all p).2.2 (acc ++ [(stB all p).1]) else ([], (stB all p).2.1, (stB all p).2.2)
    else (acc, 0, 0)
def decB (all : List UInt8) : List Stp × Int × Nat := dcB all (all.length + 1) 0 []

end Go.Proofs.YtidlljeiholboaaDoor

/-
  Plain mathematics of layer 14: floats that are not below nought and no NaN: their words are their order; sums, products, quotients of such.
-/
import Ieee.Arith
import Derived.Laws.FloatBits
set_option linter.unusedSimpArgs false
set_option linter.unusedVariables false
namespace Go.Proofs.Ytbfjhgiifmhccaa
open Ieee

/-- the word of infinity -/
def infR : Nat := 9218868437227405312
def bnd : Nat := 4503599627370496
def lpl : Int := -1074
theorem inf_eq : double.infRung = infR := by decide
theorem bin_eq : double.binade = bnd := by decide
theorem lp_eq : double.leastPlace = lpl := by decide
theorem p52 : (2 : Nat) ^ 52 = bnd := by decide
theorem p53 : (2 : Nat) ^ 53 = 2 * bnd := by decide
theorem bnd_pos : 0 < bnd := by decide
theorem fb_eq : double.fractionBits = 52 := rfl
theorem sw_eq : double.signWeight = 9223372036854775808 := by decide

def mg (r : Nat) : Nat := if r < bnd then r else bnd + r % bnd
def ex (r : Nat) : Nat := if r < bnd then 0 else r / bnd - 1
theorem read_num {r : Nat} (h : r < infR) : double.read r = .number false (mg r) (lpl + (ex r : Nat)) := by
  unfold infR at h
  have h1 : r / 9223372036854775808 = 0 := by omega
  have h2 : r % 9223372036854775808 = r := by omega
  unfold Format.read mg ex
  simp only [sw_eq, bin_eq, lp_eq, inf_eq, h1, h2]
  by_cases hb : r < bnd
  · simp [hb]
  · simp [hb, infR, h]
theorem read_inf : double.read infR = .infinity false := by decide
def val (r : Nat) : Nat := mg r * 2 ^ ex r
theorem val_succ (r : Nat) : val r < val (r + 1) := by
  unfold val mg ex
  by_cases h : r + 1 < bnd
  · have h' : r < bnd := by omega
    simp [h, h']
  · by_cases h' : r < bnd
    · have e : r + 1 = bnd := by omega
      rw [if_neg h, if_neg h, if_pos h', if_pos h', e, Nat.mod_self, Nat.div_self bnd_pos]
      simp only [Nat.sub_self, Nat.pow_zero, Nat.mul_one, Nat.add_zero]
      omega
    · rw [if_neg h, if_neg h, if_neg h', if_neg h']
      have hb : 0 < bnd := bnd_pos
      by_cases hm : r % bnd + 1 = bnd
      · have e1 : (r + 1) / bnd = r / bnd + 1 := by
          have := Nat.div_add_mod r bnd
          rw [show r + 1 = bnd * (r / bnd + 1) by rw [Nat.mul_add, Nat.mul_one]; omega, Nat.mul_div_cancel_left _ hb]
        have e2 : (r + 1) % bnd = 0 := by
          have := Nat.div_add_mod r bnd
          rw [show r + 1 = bnd * (r / bnd + 1) by rw [Nat.mul_add, Nat.mul_one]; omega]; exact Nat.mul_mod_right _ _
        have e3 : 1 ≤ r / bnd := by have := Nat.div_le_div_right (c := bnd) (show bnd ≤ r by omega); rwa [Nat.div_self hb] at this
        rw [e1, e2]
        obtain ⟨q, hq⟩ : ∃ q, r / bnd = q + 1 := ⟨r / bnd - 1, by omega⟩
        rw [hq, show q + 1 + 1 - 1 = q + 1 by omega, show q + 1 - 1 = q by omega, Nat.pow_succ]
        have : 0 < 2 ^ q := Nat.two_pow_pos q
        generalize 2 ^ q = z at *
        generalize r % bnd = t at *
        rw [Nat.add_zero, ← Nat.mul_assoc, Nat.mul_right_comm]
        refine Nat.mul_lt_mul_of_pos_right ?_ this
        omega
      · have hlt := Nat.mod_lt r hb
        have e1 : (r + 1) / bnd = r / bnd := by
          have := Nat.div_add_mod r bnd
          refine Nat.div_eq_of_lt_le ?_ ?_
          · rw [Nat.mul_comm]; omega
          · rw [Nat.mul_comm, Nat.mul_add, Nat.mul_one]; omega
        have e2 : (r + 1) % bnd = r % bnd + 1 := by
          have := Nat.div_add_mod r bnd; have := Nat.div_add_mod (r + 1) bnd
          rw [e1] at this; omega
        rw [e1, e2]
        exact Nat.mul_lt_mul_of_pos_right (by omega) (Nat.two_pow_pos _)
theorem val_lt {r s : Nat} (h : r < s) : val r < val s := by
  obtain ⟨k, rfl⟩ : ∃ k, s = r + 1 + k := ⟨s - r - 1, by omega⟩
  clear h
  induction k with
  | zero => exact val_succ r
  | succ k ih => exact Nat.lt_trans ih (val_succ _)
theorem val_le {r s : Nat} (h : r ≤ s) : val r ≤ val s := by
  rcases Nat.lt_or_eq_of_le h with h | h
  · exact Nat.le_of_lt (val_lt h)
  · rw [h]; exact Nat.le_refl _
theorem cmp_shift (m n a b : Nat) : compare ((m <<< (a - min a b) : Nat) : Int) ((n <<< (b - min a b) : Nat) : Int) = compare (m * 2 ^ a) (n * 2 ^ b) := by
  have e1 : m * 2 ^ a = (m <<< (a - min a b)) * 2 ^ min a b := by rw [Nat.shiftLeft_eq, Nat.mul_assoc, ← Nat.pow_add]; congr 2; omega
  have e2 : n * 2 ^ b = (n <<< (b - min a b)) * 2 ^ min a b := by rw [Nat.shiftLeft_eq, Nat.mul_assoc, ← Nat.pow_add]; congr 2; omega
  rw [e1, e2]
  have hp : 0 < 2 ^ min a b := Nat.two_pow_pos _
  generalize m <<< (a - min a b) = x
  generalize n <<< (b - min a b) = y
  generalize 2 ^ min a b = z at *
  rcases Nat.lt_trichotomy x y with h | h | h
  · rw [Int.compare_eq_lt.2 (by omega), Nat.compare_eq_lt.2 (Nat.mul_lt_mul_of_pos_right h hp)]
  · subst h; rw [Int.compare_eq_eq.2 rfl, Nat.compare_eq_eq.2 rfl]
  · rw [Int.compare_eq_gt.2 (by omega), Nat.compare_eq_gt.2 (Nat.mul_lt_mul_of_pos_right h hp)]
/-- the order of two such floats is that of their words -/
theorem ord_word {x y : Nat} (hx : x ≤ infR) (hy : y ≤ infR) : double.order x y = some (compare x y) := by
  unfold Format.order
  rcases Nat.lt_or_eq_of_le hx with hx | hx
  · rcases Nat.lt_or_eq_of_le hy with hy | hy
    · rw [read_num hx, read_num hy]
      unfold Datum.order
      simp only [signed]
      have hb : min (lpl + (ex x : Nat)) (lpl + (ex y : Nat)) = lpl + (min (ex x) (ex y) : Nat) := by omega
      rw [hb, show (lpl + (ex x : Nat) - (lpl + (min (ex x) (ex y) : Nat))).toNat = ex x - min (ex x) (ex y) by omega, show (lpl + (ex y : Nat) - (lpl + (min (ex x) (ex y) : Nat))).toNat = ex y - min (ex x) (ex y) by omega]
      simp only [Bool.false_eq_true, if_false]
      rw [cmp_shift]
      congr 1
      show compare (val x) (val y) = compare x y
      rcases Nat.lt_trichotomy x y with h | h | h
      · rw [Nat.compare_eq_lt.2 h, Nat.compare_eq_lt.2 (val_lt h)]
      · subst h; rw [Nat.compare_eq_eq.2 rfl, Nat.compare_eq_eq.2 rfl]
      · rw [Nat.compare_eq_gt.2 h, Nat.compare_eq_gt.2 (val_lt h)]
    · subst hy
      rw [read_num hx, read_inf, Nat.compare_eq_lt.2 hx]; rfl
  · subst hx
    rcases Nat.lt_or_eq_of_le hy with hy | hy
    · rw [read_num hy, read_inf, Nat.compare_eq_gt.2 hy]; rfl
    · subst hy
      rw [read_inf, Nat.compare_eq_eq.2 rfl]; rfl

/-! rounding -/
theorem shift_le {m n x y A C : Nat} (h : m * 2 ^ x ≤ n * 2 ^ y) (e : A + y = C + x) : m * 2 ^ A ≤ n * 2 ^ C := by
  have h1 : m * 2 ^ x * 2 ^ A ≤ n * 2 ^ y * 2 ^ A := Nat.mul_le_mul_right _ h
  rw [Nat.mul_assoc, Nat.mul_assoc, ← Nat.pow_add, ← Nat.pow_add, show y + A = C + x by omega, show x + A = A + x by omega, Nat.pow_add, Nat.pow_add, ← Nat.mul_assoc, ← Nat.mul_assoc] at h1
  exact Nat.le_of_mul_le_mul_right h1 (Nat.two_pow_pos _)
/-- what rounding to the nearest, ties to even, gives -/
def Rne (n d r : Nat) : Prop := 2 * r * 2 ^ d ≤ 2 * n + 2 ^ d ∧ 2 * n ≤ 2 * r * 2 ^ d + 2 ^ d ∧ (2 * r * 2 ^ d = 2 * n + 2 ^ d → r % 2 = 0) ∧ (2 * n = 2 * r * 2 ^ d + 2 ^ d → r % 2 = 0)
theorem cut_rne (n d : Nat) : Rne n d (Toward.even.cut false n d) := by
  unfold Toward.cut
  dsimp only
  rw [Nat.shiftLeft_eq, Nat.one_mul]
  by_cases hd : d ≤ n.log2 + 2
  · rw [Nat.min_eq_left hd]
    have hp : 0 < 2 ^ d := Nat.two_pow_pos d
    have h1 := Nat.div_add_mod n (2 ^ d)
    have h2 := Nat.mod_lt n hp
    unfold Rne
    generalize 2 ^ d = g at *
    generalize n / g = q at *
    generalize n % g = t at *
    subst h1
    have e1 : 2 * q * g = 2 * (g * q) := by rw [Nat.mul_assoc, Nat.mul_comm q g]
    have e2 : 2 * (q + 1) * g = 2 * (g * q) + 2 * g := by rw [Nat.mul_assoc, Nat.add_mul, Nat.mul_comm q g]; omega
    by_cases hc : g < 2 * t
    · simp only [hc, decide_true, Bool.true_or, Bool.toNat_true]
      rw [e2]; refine ⟨by omega, by omega, fun h => by omega, fun h => by omega⟩
    · by_cases hc2 : g = 2 * t
      · by_cases ho : q % 2 = 1
        · have e : (decide (g < 2 * t) || (g == 2 * t) && q % 2 == 1) = true := by simp [hc2, ho]
          rw [e, Bool.toNat_true, e2]; refine ⟨by omega, by omega, fun h => by omega, fun h => by omega⟩
        · have e : (decide (g < 2 * t) || (g == 2 * t) && q % 2 == 1) = false := by simp [hc2, ho]
          rw [e, Bool.toNat_false, Nat.add_zero, e1]; refine ⟨by omega, by omega, fun h => by omega, fun h => by omega⟩
      · have e : (decide (g < 2 * t) || (g == 2 * t) && q % 2 == 1) = false := by simp [hc, hc2]
        rw [e, Bool.toNat_false, Nat.add_zero, e1]; refine ⟨by omega, by omega, fun h => by omega, fun h => by omega⟩
  · rw [Nat.min_eq_right (by omega)]
    have hl : n < 2 ^ (n.log2 + 1) := Nat.lt_log2_self
    have hg : 2 ^ (n.log2 + 2) = 2 * 2 ^ (n.log2 + 1) := by rw [Nat.pow_succ, Nat.mul_comm]
    have hG : 2 ^ (n.log2 + 2) ≤ 2 ^ d := Nat.pow_le_pow_right (by omega) (by omega)
    have e0 : n / 2 ^ (n.log2 + 2) = 0 := Nat.div_eq_of_lt (by omega)
    have e1 : n % 2 ^ (n.log2 + 2) = n := Nat.mod_eq_of_lt (by omega)
    rw [e0, e1]
    have e : (decide (2 ^ (n.log2 + 2) < 2 * n) || (2 ^ (n.log2 + 2) == 2 * n) && 0 % 2 == 1) = false := by simp; omega
    rw [e]
    unfold Rne
    simp
    omega
theorem rne_mono {n d r n' d' r' : Nat} (h : Rne n d r) (h' : Rne n' d' r') (hl : n * 2 ^ d' ≤ n' * 2 ^ d) : r ≤ r' := by
  refine Classical.byContradiction fun hn => ?_
  obtain ⟨a1, a2, a3, a4⟩ := h
  obtain ⟨b1, b2, b3, b4⟩ := h'
  have hp : 0 < 2 ^ d := Nat.two_pow_pos d
  have hp' : 0 < 2 ^ d' := Nat.two_pow_pos d'
  generalize 2 ^ d = g at *
  generalize 2 ^ d' = g' at *
  -- (2 r - 1) g ≤ 2 n, 2 n' ≤ (2 r' + 1) g'
  obtain ⟨k, rfl⟩ : ∃ k, r = r' + 1 + k := ⟨r - r' - 1, by omega⟩
  have c1 : 2 * (r' + 1 + k) * g * g' ≤ 2 * (n * g') + g * g' := by
    have := Nat.mul_le_mul_right g' a1
    rw [Nat.add_mul, Nat.mul_assoc 2 n g'] at this; exact this
  have c2 : 2 * (n' * g) ≤ 2 * r' * g' * g + g' * g := by
    have := Nat.mul_le_mul_right g b2
    rw [Nat.add_mul, Nat.mul_assoc 2 n' g] at this; exact this
  have e1 : 2 * (r' + 1 + k) * g * g' = 2 * (r' * (g * g')) + 2 * (g * g') + 2 * (k * (g * g')) := by
    rw [Nat.mul_assoc, Nat.mul_assoc, Nat.add_mul, Nat.add_mul]; omega
  have e2 : 2 * r' * g' * g = 2 * (r' * (g * g')) := by rw [Nat.mul_assoc, Nat.mul_assoc, Nat.mul_comm g' g]
  have hz : 0 < g * g' := Nat.mul_pos hp hp'
  rw [e1] at c1; rw [e2, Nat.mul_comm g' g] at c2
  generalize hzz : g * g' = z at *
  have hk : k = 0 := by
    refine Classical.byContradiction fun hk => ?_
    have : z ≤ k * z := Nat.le_mul_of_pos_left z (by omega)
    omega
  subst hk
  rw [Nat.zero_mul] at *
  have d1 : 2 * (n * g') + z = 2 * (r' * z) + 2 * z := by omega
  have d2 : 2 * (n' * g) = 2 * (r' * z) + z := by omega
  have f1 : 2 * (r' + 1 + 0) * g = 2 * n + g := by
    refine Nat.eq_of_mul_eq_mul_right hp' ?_
    rw [Nat.add_mul, Nat.mul_assoc 2 n g', Nat.mul_assoc _ g g', hzz, d1, Nat.mul_assoc, Nat.add_zero, Nat.add_mul, Nat.one_mul]; omega
  have f2 : 2 * n' = 2 * r' * g' + g' := by
    refine Nat.eq_of_mul_eq_mul_right hp ?_
    rw [Nat.add_mul, Nat.mul_assoc 2 n' g, Nat.mul_assoc _ g' g, Nat.mul_comm g' g, hzz, d2, Nat.mul_assoc]
  have := a3 f1; have := b4 f2; omega
theorem cut_mono {n d n' d' : Nat} (hl : n * 2 ^ d' ≤ n' * 2 ^ d) : Toward.even.cut false n d ≤ Toward.even.cut false n' d' := rne_mono (cut_rne _ _) (cut_rne _ _) hl
theorem cut_zero (n : Nat) : Toward.even.cut false n 0 = n := by
  unfold Toward.cut
  simp [Nat.mod_one]

/-- one number is not above another -/
def Le2 (m : Nat) (i : Int) (n : Nat) (j : Int) : Prop := ∃ x y : Nat, (x : Int) - y = i - j ∧ m * 2 ^ x ≤ n * 2 ^ y
theorem Le2.trans {m n p : Nat} {i j k : Int} (h : Le2 m i n j) (h' : Le2 n j p k) : Le2 m i p k := by
  obtain ⟨x, y, e, h⟩ := h
  obtain ⟨x', y', e', h'⟩ := h'
  refine ⟨x + x', y + y', by omega, ?_⟩
  rw [Nat.pow_add, Nat.pow_add, ← Nat.mul_assoc, ← Nat.mul_assoc]
  calc m * 2 ^ x * 2 ^ x' ≤ n * 2 ^ y * 2 ^ x' := Nat.mul_le_mul_right _ h
    _ = n * 2 ^ x' * 2 ^ y := Nat.mul_right_comm _ _ _
    _ ≤ p * 2 ^ y' * 2 ^ y := Nat.mul_le_mul_right _ h'
    _ = p * 2 ^ y * 2 ^ y' := Nat.mul_right_comm _ _ _
theorem Le2.at {m n : Nat} {i j : Int} (h : Le2 m i n j) {A C : Nat} (e : (A : Int) - C = i - j) : m * 2 ^ A ≤ n * 2 ^ C := by
  obtain ⟨x, y, e', h⟩ := h
  exact shift_le h (by omega)
theorem Le2.same {m n : Nat} (i : Int) (h : m ≤ n) : Le2 m i n i := ⟨0, 0, by omega, by simpa using h⟩
theorem Le2.log {m n : Nat} {i j : Int} (h : Le2 m i n j) (hm : m ≠ 0) : i + m.log2 ≤ j + n.log2 := by
  obtain ⟨x, y, e, h⟩ := h
  have h1 : 2 ^ (m.log2 + x) ≤ m * 2 ^ x := by rw [Nat.pow_add]; exact Nat.mul_le_mul_right _ (Nat.log2_self_le hm)
  have h2 : n * 2 ^ y < 2 ^ (n.log2 + 1 + y) := by rw [Nat.pow_add]; exact Nat.mul_lt_mul_of_pos_right Nat.lt_log2_self (Nat.two_pow_pos _)
  have h3 : 2 ^ (m.log2 + x) < 2 ^ (n.log2 + 1 + y) := by omega
  have := (Nat.pow_lt_pow_iff_right (by omega)).1 h3
  omega
def lst (m : Nat) (i : Int) : Int := max (i + m.log2 - 52) lpl
def kpt (m : Nat) (i : Int) (l : Int) : Nat := Toward.even.cut false (m <<< (i - l).toNat) (l - i).toNat
theorem near_eq {m : Nat} (hm : m ≠ 0) (i : Int) : double.nearest false m i = min ((lst m i - lpl).toNat * bnd + kpt m i (lst m i)) infR := by
  unfold Format.nearest
  rw [if_neg hm]
  unfold lst kpt Format.word
  simp only [lp_eq, bin_eq, inf_eq, fb_eq, Bool.false_eq_true, if_false]
  norm_cast
theorem kpt_mono {m n : Nat} {i j : Int} (h : Le2 m i n j) (l : Int) : kpt m i l ≤ kpt n j l := by
  unfold kpt
  refine cut_mono ?_
  rw [Nat.shiftLeft_eq, Nat.shiftLeft_eq, Nat.mul_assoc, Nat.mul_assoc, ← Nat.pow_add, ← Nat.pow_add]
  exact h.at (by omega)
theorem kpt_top {m : Nat} {i l : Int} (h : i + m.log2 - 52 ≤ l) : kpt m i l ≤ 2 * bnd := by
  have h1 : m * 2 ^ (i - l).toNat ≤ 2 ^ 53 * 2 ^ (l - i).toNat := by
    have a : m * 2 ^ (i - l).toNat ≤ 2 ^ (m.log2 + 1 + (i - l).toNat) := by rw [Nat.pow_add]; exact Nat.mul_le_mul_right _ (Nat.le_of_lt Nat.lt_log2_self)
    refine Nat.le_trans a ?_
    rw [← Nat.pow_add]
    exact Nat.pow_le_pow_right (by omega) (by omega)
  rw [p53] at h1
  have := @cut_mono (m <<< (i - l).toNat) (l - i).toNat (2 * bnd) 0 (by rw [Nat.shiftLeft_eq, Nat.pow_zero, Nat.mul_one]; exact h1)
  rw [cut_zero] at this
  exact this
theorem kpt_low {m : Nat} (hm : m ≠ 0) {i l : Int} (h : l = i + m.log2 - 52) : bnd ≤ kpt m i l := by
  have h1 : 2 ^ 52 * 2 ^ (l - i).toNat ≤ m * 2 ^ (i - l).toNat := by
    have a : 2 ^ (m.log2 + (i - l).toNat) ≤ m * 2 ^ (i - l).toNat := by rw [Nat.pow_add]; exact Nat.mul_le_mul_right _ (Nat.log2_self_le hm)
    refine Nat.le_trans ?_ a
    rw [← Nat.pow_add]
    exact Nat.pow_le_pow_right (by omega) (by omega)
  rw [p52] at h1
  have := @cut_mono bnd 0 (m <<< (i - l).toNat) (l - i).toNat (by rw [Nat.shiftLeft_eq, Nat.pow_zero, Nat.mul_one]; exact h1)
  rw [cut_zero] at this
  exact this
theorem near_mono {m n : Nat} {i j : Int} (h : Le2 m i n j) : double.nearest false m i ≤ double.nearest false n j := by
  by_cases hm : m = 0
  · subst hm; unfold Format.nearest; simp [Format.word]
  have hn : n ≠ 0 := by
    rintro rfl
    obtain ⟨x, y, e, h⟩ := h
    rw [Nat.zero_mul] at h
    have : 0 < m * 2 ^ x := Nat.mul_pos (by omega) (Nat.two_pow_pos _)
    omega
  have hl := h.log hm
  rw [near_eq hm, near_eq hn]
  have hll : lst m i ≤ lst n j := by unfold lst; omega
  have hlp : lpl ≤ lst m i := by unfold lst; omega
  have key : (lst m i - lpl).toNat * bnd + kpt m i (lst m i) ≤ (lst n j - lpl).toNat * bnd + kpt n j (lst n j) := by
    by_cases e : lst m i = lst n j
    · rw [e]; exact Nat.add_le_add_left (kpt_mono h _) _
    · have t := @kpt_top m i (lst m i) (by unfold lst; omega)
      have b := @kpt_low n hn j (lst n j) (by unfold lst at *; omega)
      have c : (lst m i - lpl).toNat + 1 ≤ (lst n j - lpl).toNat := by omega
      have := Nat.mul_le_mul_right bnd c
      rw [Nat.add_mul, Nat.one_mul] at this
      clear c hll hlp hl h
      generalize (lst m i - lpl).toNat * bnd = A at *
      generalize (lst n j - lpl).toNat * bnd = C at *
      generalize kpt m i (lst m i) = D at *
      generalize kpt n j (lst n j) = E at *
      generalize bnd = G at *
      clear e
      omega
  exact Nat.le_min.2 ⟨Nat.le_trans (Nat.min_le_left _ _) key, Nat.min_le_right _ _⟩
theorem near_le (m : Nat) (i : Int) : double.nearest false m i ≤ infR := by
  by_cases hm : m = 0
  · subst hm; unfold Format.nearest; simp [Format.word]
  · rw [near_eq hm]; exact Nat.min_le_right _ _
/-- a number of the format is its own nearest -/
theorem near_self {r : Nat} (h : r < infR) : double.nearest false (mg r) (lpl + (ex r : Nat)) = r := by
  by_cases h0 : r = 0
  · subst h0; unfold Format.nearest; rw [if_pos (by simp [mg, bnd])]; rfl
  by_cases hb : r < bnd
  · have e1 : mg r = r := by simp [mg, hb]
    have e2 : ex r = 0 := by simp [ex, hb]
    rw [e1, e2, near_eq h0]
    have hlog : r.log2 < 52 := (Nat.log2_lt h0).2 (by rw [p52]; exact hb)
    have el : lst r (lpl + (0 : Nat)) = lpl := by unfold lst; omega
    rw [el]
    unfold kpt
    rw [show (lpl + (0 : Nat) - lpl).toNat = 0 by omega, show (lpl - (lpl + (0 : Nat))).toNat = 0 by omega, show (lpl - lpl).toNat = 0 by omega, cut_zero, Nat.shiftLeft_zero, Nat.zero_mul, Nat.zero_add]
    exact Nat.min_eq_left (Nat.le_of_lt h)
  · have e1 : mg r = bnd + r % bnd := by simp [mg, hb]
    have e2 : ex r = r / bnd - 1 := by simp [ex, hb]
    have hbp : 0 < bnd := bnd_pos
    have hmod := Nat.mod_lt r hbp
    have e3 : 1 ≤ r / bnd := by have := Nat.div_le_div_right (c := bnd) (show bnd ≤ r by omega); rwa [Nat.div_self hbp] at this
    have hdm := Nat.div_add_mod r bnd
    have hm0 : mg r ≠ 0 := by rw [e1]; omega
    have hlog : (mg r).log2 = 52 := by
      rw [Nat.log2_eq_iff hm0, e1]
      exact ⟨by rw [p52]; omega, by rw [show 52 + 1 = 53 from rfl, p53]; omega⟩
    rw [near_eq hm0]
    have el : lst (mg r) (lpl + (ex r : Nat)) = lpl + (ex r : Nat) := by unfold lst; rw [hlog]; omega
    rw [el]
    unfold kpt
    rw [show (lpl + (ex r : Nat) - (lpl + (ex r : Nat))).toNat = 0 by omega, cut_zero, show (lpl + (ex r : Nat) - lpl).toNat = ex r by omega, e1, e2]
    rw [Nat.shiftLeft_zero]
    have : (r / bnd - 1) * bnd + (bnd + r % bnd) = r := by
      rw [Nat.sub_mul, Nat.one_mul, Nat.mul_comm]
      have := Nat.mul_le_mul_left bnd e3
      rw [Nat.mul_one] at this
      clear hlog el hm0 e1 e2 h hb h0
      generalize bnd * (r / bnd) = A at *
      generalize r % bnd = C at *
      generalize bnd = G at *
      omega
    rw [this]
    exact Nat.min_eq_left (Nat.le_of_lt h)
end Go.Proofs.Ytbfjhgiifmhccaa

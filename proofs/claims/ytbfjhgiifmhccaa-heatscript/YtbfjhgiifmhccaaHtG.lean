/-
  Plain mathematics of layer 14: sums, products and quotients of such floats, and their bounds.
-/
import Derived.Test.YtbfjhgiifmhccaaHtF
set_option linter.unusedSimpArgs false
set_option linter.unusedVariables false
namespace Go.Proofs.Ytbfjhgiifmhccaa
open Ieee

/-- the nearest of so many units -/
def nr (v : Nat) : Nat := double.nearest false v lpl
theorem near_nr (m k : Nat) : double.nearest false m (lpl + (k : Nat)) = nr (m * 2 ^ k) := by
  unfold nr
  exact Nat.le_antisymm (near_mono ⟨k, 0, by omega, by simp⟩) (near_mono ⟨0, k, by omega, by simp⟩)
theorem nr_mono {a b : Nat} (h : a ≤ b) : nr a ≤ nr b := near_mono (Le2.same _ h)
theorem nr_le (a : Nat) : nr a ≤ infR := near_le _ _
theorem nr_val {r : Nat} (h : r < infR) : nr (val r) = r := by
  have := near_self h
  rw [near_nr] at this
  exact this
def fadd (x y : Nat) : Nat := (double.add x y).getD 0
def fmul (x y : Nat) : Nat := (double.mul x y).getD 0
def fdiv (x y : Nat) : Nat := (double.div x y).getD 0
theorem add_num {x y : Nat} (hx : x < infR) (hy : y < infR) : double.add x y = some (nr (val x + val y)) := by
  unfold Format.add
  rw [read_num hx, read_num hy]
  unfold Datum.sum
  simp only [signed, Bool.false_eq_true, if_false, Bool.and_self]
  have hb : min (lpl + (ex x : Nat)) (lpl + (ex y : Nat)) = lpl + (min (ex x) (ex y) : Nat) := by omega
  rw [hb, show (lpl + (ex x : Nat) - (lpl + (min (ex x) (ex y) : Nat))).toNat = ex x - min (ex x) (ex y) by omega, show (lpl + (ex y : Nat) - (lpl + (min (ex x) (ex y) : Nat))).toNat = ex y - min (ex x) (ex y) by omega]
  have e : ((mg x <<< (ex x - min (ex x) (ex y)) : Nat) : Int) + ((mg y <<< (ex y - min (ex x) (ex y)) : Nat) : Int) = ((mg x <<< (ex x - min (ex x) (ex y)) + mg y <<< (ex y - min (ex x) (ex y)) : Nat) : Int) := by omega
  rw [e]
  have hs : (if ((mg x <<< (ex x - min (ex x) (ex y)) + mg y <<< (ex y - min (ex x) (ex y)) : Nat) : Int) = 0 then false else decide (((mg x <<< (ex x - min (ex x) (ex y)) + mg y <<< (ex y - min (ex x) (ex y)) : Nat) : Int) < 0)) = false := by
    generalize mg x <<< (ex x - min (ex x) (ex y)) + mg y <<< (ex y - min (ex x) (ex y)) = T
    split
    · rfl
    · simp
  rw [hs]
  simp only [Option.map_some, Format.write, Int.natAbs_natCast]
  rw [near_nr, Nat.add_mul, Nat.shiftLeft_eq, Nat.shiftLeft_eq, Nat.mul_assoc, Nat.mul_assoc, ← Nat.pow_add, ← Nat.pow_add, Nat.sub_add_cancel (Nat.min_le_left _ _), Nat.sub_add_cancel (Nat.min_le_right _ _)]
  rfl
theorem add_inf {x y : Nat} (hx : x ≤ infR) (hy : y ≤ infR) (h : x = infR ∨ y = infR) : double.add x y = some infR := by
  have hw : double.write (.infinity false) = infR := by decide
  unfold Format.add
  rcases Nat.lt_or_eq_of_le hx with hx | hx
  · rcases Nat.lt_or_eq_of_le hy with hy | hy
    · omega
    · subst hy; rw [read_num hx, read_inf]; show some (double.write (.infinity false)) = _; rw [hw]
  · subst hx
    rcases Nat.lt_or_eq_of_le hy with hy | hy
    · rw [read_num hy, read_inf]; show some (double.write (.infinity false)) = _; rw [hw]
    · subst hy; rw [read_inf]; show some (double.write (.infinity false)) = _; rw [hw]
theorem add_ok {x y : Nat} (hx : x ≤ infR) (hy : y ≤ infR) : double.add x y = some (fadd x y) ∧ fadd x y ≤ infR ∧ x ≤ fadd x y := by
  unfold fadd
  by_cases h : x = infR ∨ y = infR
  · rw [add_inf hx hy h]; exact ⟨rfl, Nat.le_refl _, hx⟩
  · have hx' : x < infR := by omega
    have hy' : y < infR := by omega
    rw [add_num hx' hy']
    refine ⟨rfl, nr_le _, ?_⟩
    have := nr_mono (Nat.le_add_right (val x) (val y))
    rw [nr_val hx'] at this
    exact this
theorem add_mono {x y x' y' : Nat} (hx : x ≤ x') (hy : y ≤ y') (hx' : x' ≤ infR) (hy' : y' ≤ infR) : fadd x y ≤ fadd x' y' := by
  by_cases h : x' = infR ∨ y' = infR
  · have := (add_ok (Nat.le_trans hx hx') (Nat.le_trans hy hy')).2.1
    have e : fadd x' y' = infR := by unfold fadd; rw [add_inf hx' hy' h]; rfl
    rw [e]; exact this
  · unfold fadd
    rw [add_num (by omega) (by omega), add_num (by omega) (by omega)]
    exact nr_mono (Nat.add_le_add (val_le hx) (val_le hy))
theorem mul_num {x y : Nat} (hx : x < infR) (hy : y < infR) : double.mul x y = some (double.nearest false (mg x * mg y) (lpl + (ex x : Nat) + (lpl + (ex y : Nat)))) := by
  unfold Format.mul
  rw [read_num hx, read_num hy]
  rfl
theorem mul_ok {x y : Nat} (hx : x ≤ infR) (hy : y < infR) (h0 : mg y ≠ 0) : double.mul x y = some (fmul x y) ∧ fmul x y ≤ infR := by
  have hw : double.write (.infinity false) = infR := by decide
  unfold fmul
  rcases Nat.lt_or_eq_of_le hx with hx | hx
  · rw [mul_num hx hy]; exact ⟨rfl, near_le _ _⟩
  · subst hx
    have : double.mul infR y = some infR := by
      unfold Format.mul
      rw [read_num hy, read_inf]
      show ((if mg y = 0 then none else some (Datum.infinity false)).map double.write) = _
      rw [if_neg h0]; show some (double.write (.infinity false)) = _; rw [hw]
    rw [this]; exact ⟨rfl, Nat.le_refl _⟩
theorem mul_mono {x x' y : Nat} (hx : x ≤ x') (hx' : x' < infR) (hy : y < infR) : fmul x y ≤ fmul x' y := by
  unfold fmul
  rw [mul_num (by omega) hy, mul_num hx' hy]
  refine near_mono ⟨ex x, ex x', by omega, ?_⟩
  have := Nat.mul_le_mul_right (mg y) (val_le hx)
  unfold val at this
  rw [Nat.mul_right_comm, Nat.mul_right_comm (mg x')]
  exact this
theorem div_num {x y : Nat} (hx : x < infR) (hy : y < infR) (h0 : mg y ≠ 0) : double.div x y = some (double.nearest false (2 * ((mg x <<< (54 + (mg y).log2 - (mg x).log2)) / mg y) + ((mg x <<< (54 + (mg y).log2 - (mg x).log2)) % mg y != 0).toNat) (lpl + (ex x : Nat) - (lpl + (ex y : Nat)) - (54 + (mg y).log2 - (mg x).log2 : Nat) - 1)) := by
  unfold Format.div
  rw [read_num hx, read_num hy]
  unfold Datum.quotient
  simp only [fb_eq, h0, if_false]
  rfl
theorem div_ok {x y : Nat} (hx : x ≤ infR) (hy : y < infR) (h0 : mg y ≠ 0) : double.div x y = some (fdiv x y) ∧ fdiv x y ≤ infR := by
  have hw : double.write (.infinity false) = infR := by decide
  unfold fdiv
  rcases Nat.lt_or_eq_of_le hx with hx | hx
  · rw [div_num hx hy h0]; exact ⟨rfl, near_le _ _⟩
  · subst hx
    have : double.div infR y = some infR := by
      unfold Format.div
      rw [read_num hy, read_inf]
      show some (double.write (.infinity false)) = _; rw [hw]
    rw [this]; exact ⟨rfl, Nat.le_refl _⟩
/-- a quotient by what is at least a half -/
theorem div_top {x x' y : Nat} (hx : x ≤ x') (hx' : x' < infR) (hy : y < infR) (hh : 4602678819172646912 ≤ y) : fdiv x y ≤ nr (4 * val x') := by
  have hv : val 4602678819172646912 ≤ val y := val_le hh
  obtain ⟨z73, hz⟩ : ∃ z : Nat, z = 1073 := ⟨_, rfl⟩
  have hhalf : val 4602678819172646912 = 2 ^ z73 := by subst hz; decide +kernel
  have h0 : mg y ≠ 0 := by
    intro e
    rw [hhalf] at hv; unfold val at hv; rw [e, Nat.zero_mul] at hv
    exact absurd hv (Nat.not_le.2 (Nat.two_pow_pos _))
  refine Nat.le_trans ?_ (nr_mono (Nat.mul_le_mul_left 4 (val_le hx)))
  unfold fdiv
  rw [div_num (by omega) hy h0, Option.getD_some]
  by_cases hm : mg x = 0
  · rw [hm]; simp [Nat.shiftLeft_eq, Format.nearest, Format.word]
  unfold nr
  generalize hmore : 54 + (mg y).log2 - (mg x).log2 = more
  refine near_mono ?_
  -- q * n ≤ 4 * m * 2^more
  have hge : mg y ≤ mg x <<< more := by
    rw [Nat.shiftLeft_eq]
    have a : mg y < 2 ^ ((mg y).log2 + 1) := Nat.lt_log2_self
    have c : 2 ^ ((mg x).log2 + more) ≤ mg x * 2 ^ more := by rw [Nat.pow_add]; exact Nat.mul_le_mul_right _ (Nat.log2_self_le hm)
    have d : 2 ^ ((mg y).log2 + 1) ≤ 2 ^ ((mg x).log2 + more) := Nat.pow_le_pow_right (by omega) (by omega)
    omega
  have hq : (2 * ((mg x <<< more) / mg y) + ((mg x <<< more) % mg y != 0).toNat) * mg y ≤ 4 * (mg x * 2 ^ more) := by
    rw [Nat.shiftLeft_eq] at *
    have b : ((mg x * 2 ^ more) % mg y != 0).toNat ≤ 1 := by cases ((mg x * 2 ^ more) % mg y != 0) <;> simp
    have c := Nat.div_mul_le_self (mg x * 2 ^ more) (mg y)
    generalize ((mg x * 2 ^ more) % mg y != 0).toNat = s at *
    have e : (2 * ((mg x * 2 ^ more) / mg y) + s) * mg y = 2 * ((mg x * 2 ^ more) / mg y * mg y) + s * mg y := by rw [Nat.add_mul, Nat.mul_assoc]
    have f : s * mg y ≤ mg y := by have := Nat.mul_le_mul_right (mg y) b; rwa [Nat.one_mul] at this
    rw [e]
    generalize (mg x * 2 ^ more) / mg y * mg y = u at *
    generalize mg x * 2 ^ more = v at *
    generalize s * mg y = t at *
    omega
  generalize 2 * ((mg x <<< more) / mg y) + ((mg x <<< more) % mg y != 0).toNat = q at *
  -- q * 2^1073 ≤ q * val y = q * n * 2^ey ≤ 4 m 2^more 2^ey
  have hfin : q * 2 ^ z73 ≤ 4 * (mg x * 2 ^ more) * 2 ^ ex y := by
    rw [hhalf] at hv
    calc q * 2 ^ z73 ≤ q * val y := Nat.mul_le_mul_left _ hv
      _ = q * mg y * 2 ^ ex y := by unfold val; rw [Nat.mul_assoc]
      _ ≤ 4 * (mg x * 2 ^ more) * 2 ^ ex y := Nat.mul_le_mul_right _ hq
  refine ⟨z73 + ex x, more + ex y, by unfold lpl; omega, ?_⟩
  have := Nat.mul_le_mul_right (2 ^ ex x) hfin
  rw [Nat.mul_assoc, ← Nat.pow_add] at this
  refine Nat.le_trans this (Nat.le_of_eq ?_)
  unfold val
  rw [Nat.pow_add]
  ac_rfl

/-- 1e100 and 1e-100 -/
def top : Nat := 6103021453049119613
def tny : Nat := 3110860544497550640
theorem top_lt : top < infR := by decide
theorem tny_lt : tny < infR := by decide
theorem tny_ne : mg tny ≠ 0 := by decide
theorem lim1 : fmul (fadd top top) tny ≤ top := by decide +kernel
theorem lim2 : fmul top tny ≤ top := by decide +kernel
theorem lim3 : fmul (nr (4 * val top)) tny ≤ top := by decide +kernel
theorem lim4 : fadd top top < infR ∧ nr (4 * val top) < infR := by decide +kernel
end Go.Proofs.Ytbfjhgiifmhccaa

/-
  A pace's counts, and plans, in plain mathematics. No program here.
-/
import Derived.Test.YthmejmnbbbiemaaPcP
set_option linter.unusedSimpArgs false
set_option linter.unusedVariables false
namespace Go.Proofs.Ythmejmnbbbiemaa

/-- all conflicts; how often Restart was true, and at which conflict last; likewise Clear -/
structure Ps where
  k : Int
  t1 : Int
  l1 : Int
  t2 : Int
  l2 : Int
def ps0 : Ps := ⟨0, 0, 0, 0, 0⟩
def Ps.conf (s : Ps) : Ps := { s with k := s.k + 1 }
/-- what Restart wants -/
def Ps.w1 (s : Ps) (b : Int) : Int := b * lubI (s.t1 + 1)
/-- what Clear wants -/
def Ps.w2 (s : Ps) (f g : Int) : Int := f + s.t2 * g
def Ps.r (s : Ps) (b : Int) : Bool := decide (s.w1 b ≤ s.k - s.l1)
def Ps.c (s : Ps) (f g : Int) : Bool := decide (s.w2 f g ≤ s.k - s.l2)
def Ps.rest (s : Ps) (b : Int) : Ps := if s.r b then { s with t1 := s.t1 + 1, l1 := s.k } else s
def Ps.clr (s : Ps) (f g : Int) : Ps := if s.c f g then { s with t2 := s.t2 + 1, l2 := s.k } else s

/-- counts as they can be -/
structure Pn (b f g : Int) (s : Ps) : Prop where
  b1 : 1 ≤ b
  b2 : b ≤ 1048576
  f1 : 1 ≤ f
  f2 : f ≤ 1048576
  g1 : 1 ≤ g
  g2 : g ≤ 1048576
  kx : s.k ≤ 1152921504606846976
  t1 : 0 ≤ s.t1
  t2 : 0 ≤ s.t2
  l1 : 0 ≤ s.l1
  l1k : s.l1 ≤ s.k
  l2 : 0 ≤ s.l2
  l2k : s.l2 ≤ s.k
  i1 : b * s.t1 ≤ s.l1
  i2 : s.t2 * g ≤ s.l2 + g
theorem lubI_pos {i : Int} (h : 1 ≤ i) : 1 ≤ lubI i := by
  obtain ⟨n, rfl⟩ : ∃ n : Nat, i = n := ⟨i.toNat, by omega⟩
  rw [lubI_nat (by omega)]
  have := lub_pos (i := n) (by omega)
  omega
theorem lubI_le {i : Int} (h : 1 ≤ i) : lubI i ≤ i := by
  obtain ⟨n, rfl⟩ : ∃ n : Nat, i = n := ⟨i.toNat, by omega⟩
  rw [lubI_nat (by omega)]
  have := lub_le n
  omega
theorem Pn.zero {b f g : Int} (h1 : 1 ≤ b) (h2 : b ≤ 1048576) (h3 : 1 ≤ f) (h4 : f ≤ 1048576) (h5 : 1 ≤ g) (h6 : g ≤ 1048576) : Pn b f g ps0 :=
  ⟨h1, h2, h3, h4, h5, h6, by decide, by decide, by decide, by decide, by decide, by decide, by decide, by simp [ps0], by simp [ps0]; omega⟩
theorem Pn.w1r {b f g : Int} {s : Ps} (h : Pn b f g s) : b ≤ s.w1 b ∧ s.w1 b ≤ 1152921504606846976 + 1048576 := by
  have h1 := lubI_pos (i := s.t1 + 1) (by have := h.t1; omega)
  have h2 := lubI_le (i := s.t1 + 1) (by have := h.t1; omega)
  have hb := h.b1
  have h3 : b * 1 ≤ b * lubI (s.t1 + 1) := Int.mul_le_mul_of_nonneg_left h1 (by omega)
  have h4 : b * lubI (s.t1 + 1) ≤ b * (s.t1 + 1) := Int.mul_le_mul_of_nonneg_left h2 (by omega)
  have h5 : b * (s.t1 + 1) = b * s.t1 + b := by rw [Int.mul_add]; omega
  have := h.i1; have := h.l1k; have := h.kx; have := h.b2
  unfold Ps.w1
  omega
theorem Pn.w2r {b f g : Int} {s : Ps} (h : Pn b f g s) : f ≤ s.w2 f g ∧ 0 ≤ s.t2 * g ∧ s.t2 * g ≤ 1152921504606846976 + 1048576 ∧ s.w2 f g ≤ 1152921504606846976 + 2097152 := by
  have h0 : 0 ≤ s.t2 * g := Int.mul_nonneg h.t2 (by have := h.g1; omega)
  have := h.i2; have := h.l2k; have := h.kx; have := h.g2; have := h.f2
  unfold Ps.w2
  omega
theorem Pn.t1r {b f g : Int} {s : Ps} (h : Pn b f g s) : s.t1 ≤ 1152921504606846976 := by
  have h1 : 1 * s.t1 ≤ b * s.t1 := Int.mul_le_mul_of_nonneg_right h.b1 h.t1
  have := h.i1; have := h.l1k; have := h.kx
  omega
theorem Pn.t2r {b f g : Int} {s : Ps} (h : Pn b f g s) : s.t2 ≤ 1152921504606846976 + 1048576 := by
  have h1 : s.t2 * 1 ≤ s.t2 * g := Int.mul_le_mul_of_nonneg_left h.g1 h.t2
  have := h.i2; have := h.l2k; have := h.kx; have := h.g2
  omega
theorem Pn.conf {b f g : Int} {s : Ps} (h : Pn b f g s) (hk : s.k < 1152921504606846976) : Pn b f g s.conf :=
  ⟨h.b1, h.b2, h.f1, h.f2, h.g1, h.g2, by show s.k + 1 ≤ _; omega, h.t1, h.t2, h.l1, by show s.l1 ≤ s.k + 1; have := h.l1k; omega, h.l2, by show s.l2 ≤ s.k + 1; have := h.l2k; omega, h.i1, h.i2⟩
theorem Pn.rest {b f g : Int} {s : Ps} (h : Pn b f g s) : Pn b f g (s.rest b) := by
  unfold Ps.rest
  by_cases hr : s.r b = true
  · rw [if_pos hr]
    have hr' : s.w1 b ≤ s.k - s.l1 := of_decide_eq_true hr
    have hw := h.w1r
    have h5 : b * (s.t1 + 1) = b * s.t1 + b := by rw [Int.mul_add]; omega
    have := h.i1; have := h.l1k; have := h.kx; have := h.b2; have := h.l1; have := h.t1; have := h.b1
    exact ⟨h.b1, h.b2, h.f1, h.f2, h.g1, h.g2, h.kx, by show 0 ≤ s.t1 + 1; omega, h.t2, by show 0 ≤ s.k; omega, Int.le_refl _, h.l2, h.l2k, by show b * (s.t1 + 1) ≤ s.k; omega, h.i2⟩
  · rw [if_neg hr]; exact h
theorem Pn.clr {b f g : Int} {s : Ps} (h : Pn b f g s) : Pn b f g (s.clr f g) := by
  unfold Ps.clr
  by_cases hr : s.c f g = true
  · rw [if_pos hr]
    have hr' : s.w2 f g ≤ s.k - s.l2 := of_decide_eq_true hr
    unfold Ps.w2 at hr'
    have h5 : (s.t2 + 1) * g = s.t2 * g + g := by rw [Int.add_mul]; omega
    have := h.l2k; have := h.kx; have := h.l2; have := h.t2; have := h.f1
    exact ⟨h.b1, h.b2, h.f1, h.f2, h.g1, h.g2, h.kx, h.t1, by show 0 ≤ s.t2 + 1; omega, h.l1, h.l1k, by show 0 ≤ s.k; omega, Int.le_refl _, h.i1, by show (s.t2 + 1) * g ≤ s.k + g; omega⟩
  · rw [if_neg hr]; exact h
theorem Ps.rest_yes {s : Ps} {b : Int} (h : s.r b = true) : s.rest b = ⟨s.k, s.t1 + 1, s.k, s.t2, s.l2⟩ := by unfold Ps.rest; rw [if_pos h]
theorem Ps.rest_no {s : Ps} {b : Int} (h : s.r b = false) : s.rest b = s := by unfold Ps.rest; rw [if_neg (by rw [h]; simp)]
theorem Ps.clr_yes {s : Ps} {f g : Int} (h : s.c f g = true) : s.clr f g = ⟨s.k, s.t1, s.l1, s.t2 + 1, s.k⟩ := by unfold Ps.clr; rw [if_pos h]
theorem Ps.clr_no {s : Ps} {f g : Int} (h : s.c f g = false) : s.clr f g = s := by unfold Ps.clr; rw [if_neg (by rw [h]; simp)]
end Go.Proofs.Ythmejmnbbbiemaa

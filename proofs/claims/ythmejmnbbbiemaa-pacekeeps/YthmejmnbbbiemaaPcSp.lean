/-
  Luby's numbers by doubling, and what a plan's Beats say one by one. No program here.
-/
import Derived.Test.YthmejmnbbbiemaaPcT
set_option linter.unusedSimpArgs false
set_option linter.unusedVariables false
namespace Go.Proofs.Ythmejmnbbbiemaa

/-- the first n of Luby's numbers -/
def lubs (n : Nat) : List Int := (List.range n).map fun i => (lub (i + 1) : Int)
theorem lubs_len (n : Nat) : (lubs n).length = n := by simp [lubs]
theorem lubs_get {n i : Nat} (h : i < n) : (lubs n).getD i 0 = (lub (i + 1) : Int) := by simp [lubs, List.getD_eq_getElem?_getD, h]
theorem lubs_succ (n : Nat) : lubs (n + 1) = lubs n ++ [(lub (n + 1) : Int)] := by simp [lubs, List.range_succ]
/-- the doubling, number by number -/
theorem lubs_dbl {k i : Nat} (h : i < 2 ^ k - 1) : lubs (2 ^ k - 1 + i) ++ [(lubs (2 ^ k - 1 + i)).getD i 0] = lubs (2 ^ k - 1 + (i + 1)) := by
  rw [lubs_get (by omega), show 2 ^ k - 1 + (i + 1) = (2 ^ k - 1 + i) + 1 by omega, lubs_succ]
  congr 2
  have := lub_double (k := k) (i := i + 1) (by omega) (by omega)
  rw [show 2 ^ k - 1 + i + 1 = 2 ^ k - 1 + (i + 1) by omega, this]
theorem lubs_top (k : Nat) : lubs (2 ^ k - 1 + (2 ^ k - 1)) ++ [((2 ^ k : Nat) : Int)] = lubs (2 ^ (k + 1) - 1) := by
  have h1 := Nat.one_le_two_pow (n := k)
  rw [show 2 ^ (k + 1) - 1 = (2 ^ k - 1 + (2 ^ k - 1)) + 1 by rw [Nat.pow_succ]; omega, lubs_succ]
  congr 2
  have := lub_last k
  rw [show 2 ^ k - 1 + (2 ^ k - 1) + 1 = 2 * 2 ^ k - 1 by omega, this]

/-- the Beats one by one: each Base times the next number behind the one ahead -/
structure Spn (b f g C : Int) (L : List (Int × Bool)) (i : Nat) (k t l : Int) : Prop where
  rest : L.drop i = pl b f g C (C.toNat + 1 - i) i k t l
  ik : (i : Int) ≤ k
  kC : k ≤ C
  t0 : 0 ≤ t
  l0 : 0 ≤ l
  lk : l ≤ k
  ti : t ≤ i
theorem Spn.start {b f g C : Int} (hC : 0 ≤ C) : Spn b f g C (plF b f g C) 0 0 0 0 := ⟨rfl, by simp, hC, by omega, by omega, by omega, by simp⟩
theorem Spn.step {b f g C : Int} {L : List (Int × Bool)} {i : Nat} {k t l : Int} (h : Spn b f g C L i k t l) (hb : 1 ≤ b) (hi : i < L.length) :
    b * (lub (i + 1) : Int) ≤ C - k ∧ L.getD i (0, false) = (k + b * (lub (i + 1) : Int), decide (f + t * g ≤ k + b * (lub (i + 1) : Int) - l)) ∧
      Spn b f g C L (i + 1) (k + b * (lub (i + 1) : Int)) (if f + t * g ≤ k + b * (lub (i + 1) : Int) - l then t + 1 else t) (if f + t * g ≤ k + b * (lub (i + 1) : Int) - l then k + b * (lub (i + 1) : Int) else l) := by
  have hr := h.rest
  have hd : L.drop i = L.getD i (0, false) :: L.drop (i + 1) := by rw [List.drop_eq_getElem_cons hi]; simp [List.getD_eq_getElem?_getD, hi]
  have hik := h.ik
  have hkC := h.kC
  rw [show C.toNat + 1 - i = (C.toNat - i) + 1 by omega] at hr
  have hl1 := lub_pos (i := i + 1) (by omega)
  have hy : (1 : Int) * 1 ≤ b * (lub (i + 1) : Int) := Int.mul_le_mul hb (by omega) (by omega) (by omega)
  by_cases hs : C - k < b * (lub (i + 1) : Int)
  · rw [pl_stop hs, hd] at hr; cases hr
  · have h0 := h.t0; have h1 := h.l0; have h2 := h.lk; have h3 := h.ti
    by_cases hc : f + t * g ≤ k + b * (lub (i + 1) : Int) - l
    · rw [pl_yes hs hc, hd] at hr
      injection hr with e1 e2
      rw [if_pos hc, if_pos hc, decide_eq_true hc]
      refine ⟨by omega, e1, ⟨?_, by omega, by omega, by omega, by omega, by omega, by omega⟩⟩
      rw [show C.toNat + 1 - (i + 1) = C.toNat - i by omega]; exact e2
    · rw [pl_no hs hc, hd] at hr
      injection hr with e1 e2
      rw [if_neg hc, if_neg hc, decide_eq_false hc]
      refine ⟨by omega, e1, ⟨?_, by omega, by omega, by omega, by omega, by omega, by omega⟩⟩
      rw [show C.toNat + 1 - (i + 1) = C.toNat - i by omega]; exact e2
theorem Spn.done {b f g C : Int} {L : List (Int × Bool)} {i : Nat} {k t l : Int} (h : Spn b f g C L i k t l) (hi : i = L.length) : C < k + b * (lub (i + 1) : Int) := by
  have hr := h.rest
  have hik := h.ik
  have hkC := h.kC
  rw [hi, List.drop_length] at hr
  rw [← hi, show C.toNat + 1 - i = (C.toNat - i) + 1 by omega] at hr
  by_cases hs : C - k < b * (lub (i + 1) : Int)
  · omega
  · rw [pl, if_neg hs] at hr; cases hr
theorem plF_len {b f g C : Int} (hb : 1 ≤ b) (hC : 0 ≤ C) : ((plF b f g C).length : Int) ≤ C := by
  have key : ∀ (j i : Nat) (k t l : Int), Spn b f g C (plF b f g C) i k t l → i + j = (plF b f g C).length → ((plF b f g C).length : Int) ≤ C := by
    intro j
    induction j with
    | zero => intro i k t l h hi; have := h.ik; have := h.kC; omega
    | succ j ih => intro i k t l h hi; exact ih (i + 1) _ _ _ (h.step hb (by omega)).2.2 (by omega)
  exact key (plF b f g C).length 0 0 0 0 (Spn.start hC) (by omega)
/-- a plan of fewer conflicts is the beginning -/
theorem Spn.both {b f g C C' : Int} {L L' : List (Int × Bool)} {i : Nat} {k t l : Int} (hb : 1 ≤ b) (hCC : C ≤ C') : ∀ (j i : Nat) (k t l : Int), i + j = L.length → Spn b f g C L i k t l → Spn b f g C' L' i k t l → i ≤ L'.length → L.length ≤ L'.length ∧ ∀ q, i ≤ q → q < L.length → L.getD q (0, false) = L'.getD q (0, false) := by
  intro j
  induction j with
  | zero => intro i k t l hi h h' hl; exact ⟨by omega, fun q h1 h2 => by omega⟩
  | succ j ih =>
    intro i k t l hi h h' hl
    have s1 := h.step hb (by omega)
    by_cases hlt : i < L'.length
    · have s2 := h'.step hb hlt
      obtain ⟨a1, a2⟩ := ih (i + 1) _ _ _ (by omega) s1.2.2 s2.2.2 (by omega)
      refine ⟨a1, fun q h1 h2 => ?_⟩
      by_cases hq : q = i
      · subst hq; rw [s1.2.1, s2.2.1]
      · exact a2 q (by omega) h2
    · have := h'.done (by omega)
      have := s1.1
      omega
theorem Spn.rise {b f g C : Int} {L : List (Int × Bool)} (hb : 1 ≤ b) : ∀ (j i : Nat) (k t l : Int), i + j = L.length → Spn b f g C L i k t l → ∀ q, i ≤ q → q < L.length → k < (L.getD q (0, false)).1 ∧ (L.getD q (0, false)).1 ≤ C := by
  intro j
  induction j with
  | zero => intro i k t l hi h q h1 h2; omega
  | succ j ih =>
    intro i k t l hi h q h1 h2
    have s1 := h.step hb (by omega)
    have hl1 := lub_pos (i := i + 1) (by omega)
    have hy : (1 : Int) * 1 ≤ b * (lub (i + 1) : Int) := Int.mul_le_mul hb (by omega) (by omega) (by omega)
    by_cases hq : q = i
    · subst hq
      rw [s1.2.1]
      dsimp only
      omega
    · have := ih (i + 1) _ _ _ (by omega) s1.2.2 q (by omega) h2
      omega
/-- at the end of the shorter: what is behind lies beyond it -/
theorem Spn.end_ {b f g C C' : Int} {L L' : List (Int × Bool)} (hb : 1 ≤ b) (hCC : C ≤ C') : ∀ (j i : Nat) (k t l : Int), i + j = L.length → Spn b f g C L i k t l → Spn b f g C' L' i k t l → i ≤ L'.length → ∀ q, L.length ≤ q → q < L'.length → C < (L'.getD q (0, false)).1 := by
  intro j
  induction j with
  | zero =>
    intro i k t l hi h h' hl q h1 h2
    have hd := h.done (by omega)
    have hlt : i < L'.length := by omega
    have s2 := h'.step hb hlt
    by_cases hq : q = i
    · subst hq; rw [s2.2.1]; dsimp only; omega
    · have := Spn.rise hb (L'.length - (i + 1)) (i + 1) _ _ _ (by omega) s2.2.2 q (by omega) h2
      omega
  | succ j ih =>
    intro i k t l hi h h' hl q h1 h2
    have s1 := h.step hb (by omega)
    have s2 := h'.step hb (by omega)
    exact ih (i + 1) _ _ _ (by omega) s1.2.2 s2.2.2 (by omega) q h1 h2
theorem list_ext_getD {A B : List (Int × Bool)} (h : A.length = B.length) (he : ∀ q, q < A.length → A.getD q (0, false) = B.getD q (0, false)) : A = B := by
  refine List.ext_getElem h fun q h1 h2 => ?_
  have := he q h1
  simpa [List.getD_eq_getElem?_getD, h1, h2] using this
/-- what PaceBegins asks, of plans -/
theorem begins {b f g C C' : Int} (hb : 1 ≤ b) (hC : 0 ≤ C) (hCC : C ≤ C') : (plF b f g C).length ≤ (plF b f g C').length ∧ (plF b f g C').take (plF b f g C).length = plF b f g C ∧
    ∀ q, q < (plF b f g C').length → (q < (plF b f g C).length ↔ ((plF b f g C').getD q (0, false)).1 ≤ C) := by
  have s := Spn.start (b := b) (f := f) (g := g) hC
  have s' := Spn.start (b := b) (f := f) (g := g) (C := C') (by omega)
  obtain ⟨h1, h2⟩ := Spn.both (i := 0) (k := 0) (t := 0) (l := 0) hb hCC (plF b f g C).length 0 0 0 0 (by omega) s s' (by omega)
  refine ⟨h1, ?_, fun q hq => ⟨fun h => ?_, fun h => ?_⟩⟩
  · refine list_ext_getD (by simp; omega) fun q hq => ?_
    have hq' : q < (plF b f g C).length := by simp at hq; omega
    rw [h2 q (by omega) hq']
    simp [List.getD_eq_getElem?_getD, List.getElem?_take, hq']
  · rw [← h2 q (by omega) h]
    exact (Spn.rise hb (plF b f g C).length 0 0 0 0 (by omega) s q (by omega) h).2
  · rcases Nat.lt_or_ge q (plF b f g C).length with h3 | h3
    · exact h3
    · have := Spn.end_ hb hCC (plF b f g C).length 0 0 0 0 (by omega) s s' (by omega) q h3 hq
      omega
end Go.Proofs.Ythmejmnbbbiemaa

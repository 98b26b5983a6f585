/-
  forward: a clause comes into the closing, one goes out of it; which is needed. No program here.
  KEEP: nil cons set len app mem lit one two move strike enlist put stay unit cla fin start pre nd con f qt qb tt der wa pm rk c grow push back rest calm clos enter gone add0 add2
-/
import Derived.Test.YtcblejbdoegckaaDoorFwR
set_option linter.unusedSimpArgs false
set_option linter.unusedVariables false
namespace Go.Proofs.YtcblejbdoegckaaDoor

section
variable {n : Nat} {cl : Fcl} {lk lk' : List (Nat × Nat)} {fs fs' : List Nat} {ch ch' : Nat → List Nat} {R c : List Int} {k fr m : Nat}
theorem mem_css_add (h0 : lts cl k = []) (hkl : k < cl.length) {d : List Int} : d ∈ cssOf (cl.set k (c, fr)) ↔ d ∈ cssOf cl ∨ (d = c ∧ c ≠ []) := by
  rw [mem_cssOf, mem_cssOf]
  constructor
  · rintro ⟨h1, j, hj, e⟩
    by_cases ej : j = k
    · subst ej; rw [lts_set_self hkl] at e; exact .inr ⟨e.symm, by rw [show c = d from e]; exact h1⟩
    · rw [lts_set_ne ej] at e; exact .inl ⟨h1, j, by simpa using hj, e⟩
  · rintro (⟨h1, j, hj, e⟩ | ⟨e, h1⟩)
    · have ej : j ≠ k := fun ej => h1 (by rw [← e, ej]; exact h0)
      exact ⟨h1, j, by simpa using hj, by rw [lts_set_ne ej]; exact e⟩
    · exact ⟨by rw [e]; exact h1, k, by simpa using hkl, by rw [lts_set_self hkl, e]⟩
theorem Der.add (h0 : lts cl k = []) (hkl : k < cl.length) {L : List Int} {x : Int} (h : Der (cssOf cl) L x) : Der (cssOf (cl.set k (c, fr))) L x :=
  h.mono (fun d hd => ⟨d, (mem_css_add h0 hkl).2 (.inl hd), fun _ => Iff.rfl⟩) fun x hx => .fact hx
/-- what is known ahead of the telling -/
def ahd (R c : List Int) (m : Nat) : List Int := if m = 1 ∧ c.getD 0 0 ∉ R then R ++ [c.getD 0 0] else R
/-- so many literals that aren't false stand ahead -/
structure Fwd (R c : List Int) (m : Nat) : Prop where
  two : m ≤ 2
  len : m ≤ c.length
  non : ∀ j, j < m → -(c.getD j 0) ∉ R
  rst : m < 2 → ∀ j, m ≤ j → j < c.length → -(c.getD j 0) ∈ R
theorem Fwd.none (h : Fwd R c 0) : ∀ l ∈ c, -l ∈ R := fun l hl => by
  obtain ⟨j, hj, e⟩ := List.getElem_of_mem hl
  have := h.rst (by omega) j (by omega) hj
  rw [List.getD_eq_getElem?_getD, List.getElem?_eq_getElem hj] at this
  rw [← e]; exact this
theorem Fwd.ones (h : Fwd R c 1) : ∀ l ∈ c, l ≠ c.getD 0 0 → -l ∈ R := fun l hl hne => by
  obtain ⟨j, hj, e⟩ := List.getElem_of_mem hl
  have e : c.getD j 0 = l := by rw [List.getD_eq_getElem?_getD, List.getElem?_eq_getElem hj]; exact e
  have hj0 : j ≠ 0 := fun ej => hne (by rw [← e, ej])
  have := h.rst (by omega) j (by omega) hj
  rw [e] at this; exact this
theorem Rs.enter (h : Rs n cl lk fs ch R) (h0 : lts cl k = []) (hkl : k < cl.length) (hw : Wa n (cl.set k (c, fr)) lk' fs' ch') (hm : Fwd R c m) (h1 : 1 ≤ m) :
    To n (cl.set k (c, fr)) (cl.set k (c, fr)) lk' fs' ch' (ahd R c m) (ahd R c m) R.length [] ∧ (∀ j l, lts (cl.set k (c, fr)) j = [l] → l ∈ ahd R c m) ∧ ∀ x ∈ ahd R c m, Der (cssOf (cl.set k (c, fr))) [] x := by
  have hlen := hm.len
  have m0 : c.getD 0 0 ∈ c := getD_mem0 (by omega)
  have hl0 := hw.lit k (c.getD 0 0) (by rw [lts_set_self hkl]; exact m0)
  have hcin : c ∈ cssOf (cl.set k (c, fr)) := (mem_css_add h0 hkl).2 (.inr ⟨rfl, by intro e; rw [e] at m0; simp at m0⟩)
  have hsub : ∀ x ∈ R, x ∈ ahd R c m := fun x hx => by
    unfold ahd; split
    · exact List.mem_append.2 (.inl hx)
    · exact hx
  have hin : m = 1 → c.getD 0 0 ∈ ahd R c m := fun e => by
    unfold ahd
    by_cases hc : c.getD 0 0 ∈ R
    · rw [if_neg (fun q => q.2 hc)]; exact hc
    · rw [if_pos ⟨e, hc⟩]; simp
  have hrk : Frk n (ahd R c m) := by
    unfold ahd; split
    · rename_i e; exact h.rk.put e.2 (hm.non 0 (by omega)) hl0.1 hl0.2
    · exact h.rk
  have htk : (ahd R c m).take R.length = R := by unfold ahd; split <;> simp
  refine ⟨⟨hw, .refl _, hrk, List.prefix_refl _, ?_, ?_, ?_, by simp, fun x hx => .fact hx⟩, fun j l e => ?_, fun x hx => ?_⟩
  · unfold ahd; split <;> simp
  · rw [htk]
    intro j hj e he hq
    by_cases ej : j = k
    · subst ej
      rw [lts_set_self hkl] at hj hq ⊢
      by_cases em : m = 2
      · exact absurd hq (hm.non e (by omega))
      · have em1 : m = 1 := by have := hm.two; omega
        by_cases ee : e = 0
        · exact absurd hq (hm.non e (by omega))
        · rw [show 1 - e = 0 by omega]; exact hin em1
    · rw [lts_set_ne ej] at hj hq ⊢
      exact hsub _ (h.qt j hj e he hq)
  · intro j hj e he hq; simp at hq
  · by_cases ej : j = k
    · subst ej
      rw [lts_set_self hkl] at e
      have e2 : c = [l] := e
      have em : m = 1 := by rw [e2] at hlen; simp at hlen; omega
      have := hin em
      rw [e2] at this ⊢
      simpa using this
    · rw [lts_set_ne ej] at e; exact hsub _ (h.one j l e)
  · have old : ∀ y ∈ R, Der (cssOf (cl.set k (c, fr))) [] y := fun y hy => (h.der y hy).add h0 hkl
    unfold ahd at hx
    split at hx
    · rename_i e
      rcases List.mem_append.1 hx with a | a
      · exact old x a
      · rw [show x = c.getD 0 0 by simpa using a]
        have hm1 := hm
        rw [e.1] at hm1
        exact .unit hcin m0 fun l hl hne => old _ (hm1.ones l hl hne)
    · exact old x hx
/-- all false: a clash -/
theorem Rs.fals (h : Rs n cl lk fs ch R) (h0 : lts cl k = []) (hkl : k < cl.length) (hm : ∀ l ∈ c, -l ∈ R) (A : List (List Int)) (hA : ∀ d ∈ cssOf cl, ∃ d' ∈ A, ∀ x, x ∈ d ↔ x ∈ d') (hc : ∃ d ∈ A, ∀ x, x ∈ d ↔ x ∈ c) : Cla A [] := by
  obtain ⟨d, hd, hx⟩ := hc
  exact .inr ⟨d, hd, fun l hl => (h.der _ (hm l ((hx l).1 hl))).mono hA (by simp)⟩
/-- a clause by which something is known -/
def Need (R c : List Int) : Prop := ∃ l ∈ c, l ∈ R ∧ ∀ m ∈ c, m ≠ l → -m ∈ R
theorem Need.congr {R c d : List Int} (h : ∀ x, x ∈ c ↔ x ∈ d) : Need R c ↔ Need R d := by
  constructor
  · rintro ⟨l, a, b, e⟩; exact ⟨l, (h l).1 a, b, fun m hm hne => e m ((h m).2 hm) hne⟩
  · rintro ⟨l, a, b, e⟩; exact ⟨l, (h l).2 a, b, fun m hm hne => e m ((h m).1 hm) hne⟩
theorem Rs.gone (h : Rs n cl lk fs ch R) (hw : Wa n (cl.set k ([], 0)) lk' fs' ch') (hkl : k < cl.length) (hn : ¬ Need R (lts cl k)) : Rs n (cl.set k ([], 0)) lk' fs' ch' R := by
  have hl : ∀ j, j ≠ k → lts (cl.set k ([], 0)) j = lts cl j := fun j hj => lts_set_ne hj
  have hs : lts (cl.set k ([], 0)) k = [] := lts_set_self hkl
  have hd : ∀ x, Der (cssOf cl) [] x → Der (cssOf (cl.set k ([], 0))) [] x := by
    intro x hx
    induction hx with
    | fact hh => simp at hh
    | @unit d l h1 h2 h3 ih =>
      obtain ⟨d0, j, hj, e⟩ := mem_cssOf.1 h1
      by_cases ej : j = k
      · subst ej
        exfalso
        refine hn ⟨l, by rw [e]; exact h2, (h.clos.1 l).2 (.unit h1 h2 h3), fun m hm hne => (h.clos.1 _).2 (h3 m (by rw [← e]; exact hm) hne)⟩
      · exact .unit (mem_cssOf.2 ⟨d0, j, by simpa using hj, by rw [hl j ej]; exact e⟩) h2 ih
  refine ⟨hw, h.rk, fun j hj e he hq => ?_, fun j l e => ?_, fun x hx => hd x (h.der x hx)⟩
  · by_cases ej : j = k
    · subst ej; rw [hs] at hj; simp at hj
    · rw [hl j ej] at hj hq ⊢; exact h.qt j hj e he hq
  · by_cases ej : j = k
    · subst ej; rw [hs] at e; simp at e
    · rw [hl j ej] at e; exact h.one j l e
/-- how many of them are false -/
def fls (R c : List Int) : Nat := (c.filter fun l => decide (-l ∈ R)).length
theorem filter_split {p : Int → Bool} : ∀ c : List Int, (c.filter p).length + (c.filter fun x => !p x).length = c.length
  | [] => rfl
  | a :: c => by
    have := filter_split (p := p) c
    cases h : p a <;> simp [List.filter_cons, h] <;> omega
theorem fls_need (hd : c.Nodup) (hc : Con R) (hk : kd R c = none) (h0 : c ≠ []) : fls R c + 1 = c.length ↔ Need R c := by
  have hsp := filter_split (p := fun l => decide (-l ∈ R)) c
  have hfl : fls R c = (c.filter fun l => decide (-l ∈ R)).length := rfl
  constructor
  · intro h
    have h1 : (c.filter fun x => !decide (-x ∈ R)).length = 1 := by omega
    obtain ⟨l, e⟩ := List.length_eq_one_iff.1 h1
    have hl : l ∈ c.filter fun x => !decide (-x ∈ R) := by rw [e]; simp
    obtain ⟨a, b⟩ := List.mem_filter.1 hl
    have b : -l ∉ R := by simpa using b
    have oth : ∀ m ∈ c, m ≠ l → -m ∈ R := fun m hm hne => Classical.byContradiction fun hq => by
      have : m ∈ c.filter fun x => !decide (-x ∈ R) := List.mem_filter.2 ⟨hm, by simpa using hq⟩
      rw [e] at this
      exact hne (by simpa using this)
    refine ⟨l, a, Classical.byContradiction fun hq => ?_, oth⟩
    have := kd_unit (L := R) a b oth fun m hm hmR => by
      by_cases e2 : m = l
      · subst e2; exact hq hmR
      · exact hc m hmR (oth m hm e2)
    rw [hk] at this; cases this
  · rintro ⟨l, a, b, oth⟩
    have hlR : -l ∉ R := hc l b
    have h1 : (c.filter fun x => !decide (-x ∈ R)) = [l] := by
      have nd := hd.filter (fun x => !decide (-x ∈ R))
      have hm : ∀ x, x ∈ (c.filter fun x => !decide (-x ∈ R)) ↔ x = l := fun x => by
        rw [List.mem_filter]
        constructor
        · rintro ⟨p, q⟩
          have q : -x ∉ R := by simpa using q
          exact Classical.byContradiction fun hne => q (oth x p hne)
        · intro e; subst e; exact ⟨a, by simpa using hlR⟩
      exact List.perm_singleton.1 ((List.perm_ext_iff_of_nodup nd (by simp)).2 fun x => by rw [hm x]; simp)
    rw [h1] at hsp
    simp at hsp
    rw [hfl]
    exact hsp
theorem fls_take {j : Nat} (h : j < c.length) : fls R (c.take (j + 1)) = fls R (c.take j) + if -(c.getD j 0) ∈ R then 1 else 0 := by
  unfold fls
  rw [List.take_succ_eq_append_getElem h, List.filter_append, List.length_append, List.getD_eq_getElem?_getD, List.getElem?_eq_getElem h]
  congr 1
  by_cases e : -c[j] ∈ R <;> simp [List.filter_cons, e]
theorem Rs.kd (h : Rs n cl lk fs ch R) {d : List Int} (hd : d ∈ cssOf cl) : kd R d = none := by
  obtain ⟨j, hj, e⟩ := in_getD hd
  rw [← e]; exact h.calm j hj
end
/-- every place is come to -/
theorem round_all {N f j : Nat} (hj : j < N) : ∃ k, k < N ∧ (f + k) % N = j := by
  refine ⟨(j + (N - f % N)) % N, Nat.mod_lt _ (by omega), ?_⟩
  have hf : f % N < N := Nat.mod_lt _ (by omega)
  rw [Nat.add_mod, Nat.mod_mod]
  by_cases e : f % N = 0
  · rw [e, Nat.sub_zero, Nat.zero_add, Nat.mod_mod, Nat.add_mod_right]; exact Nat.mod_eq_of_lt hj
  · by_cases e2 : j < f % N
    · rw [Nat.mod_eq_of_lt (show j + (N - f % N) < N by omega), show f % N + (j + (N - f % N)) = j + N by omega, Nat.add_mod_right]; exact Nat.mod_eq_of_lt hj
    · rw [show j + (N - f % N) = (j - f % N) + N by omega, Nat.add_mod_right, Nat.mod_eq_of_lt (show j - f % N < N by omega), show f % N + (j - f % N) = j by omega]; exact Nat.mod_eq_of_lt hj
end Go.Proofs.YtcblejbdoegckaaDoor

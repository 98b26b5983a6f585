/-
  learn, pure: a set of places gone through in whatever order.
  KEEP: len below nil form rd mono one more grown lt size cell some none of ofNat add out step row get at mk new made look put del kept drew alloc has same other map rde take lit lev lstB pre ws cells bnd on start app set box bel rz tidy ms reason c f
-/
import Derived.Test.YtkchabdlpeifjaaLnI
import Derived.Maps.RangeWalk
set_option linter.unusedSimpArgs false
set_option linter.unusedVariables false
namespace Go.Proofs.Ytkchabdlpeifjaa
open Go
theorem Ws.lvl_opP {t : List Ent} (h : Ws t) {p : Nat} (hp : p < t.length) : lvl t (opP t p) = lvP t p := by
  obtain ⟨h1, h2, h3⟩ := h.opP_at hp
  have := (h.isF_at h2).2.2.2.1
  rw [h3] at this
  exact this
theorem Ws.opP_inj {t : List Ent} (h : Ws t) {p q : Nat} (hp : p < t.length) (hq : q < t.length) (e : opP t p = opP t q) : p = q := by
  have h1 := (h.opP_at hp).2.2
  have h2 := (h.opP_at hq).2.2
  rw [e] at h1
  omega
/-- what has been put aside so far: O the others, C the one of level L -/
structure Pr (t : List Ent) (L : Int) (T left : Int → Bool) (O C : List Int) : Prop where
  sub : ∀ q, left q = true → T q = true
  inO : ∀ x, x ∈ O ↔ ∃ p : Nat, p < t.length ∧ T (p : Int) = true ∧ left (p : Int) = false ∧ lvP t p ≠ 0 ∧ lvP t p ≠ L ∧ opP t p = x
  inC : ∀ x, x ∈ C ↔ ∃ p : Nat, p < t.length ∧ T (p : Int) = true ∧ left (p : Int) = false ∧ lvP t p = L ∧ opP t p = x
  few : C.length ≤ 1
theorem Pr.start (t : List Ent) (L : Int) (T : Int → Bool) : Pr t L T T [] [] := by
  refine ⟨fun q h => h, fun x => ⟨fun h => (by cases h), ?_⟩, fun x => ⟨fun h => (by cases h), ?_⟩, by simp⟩
  · rintro ⟨p, _, h1, h2, _⟩; rw [h1] at h2; cases h2
  · rintro ⟨p, _, h1, h2, _⟩; rw [h1] at h2; cases h2
section
variable {t : List Ent} {L : Int} {T left left' : Int → Bool} {O C : List Int} {p : Nat}
theorem lf_iff (hl : ∀ q, left' q = (left q && q != (p : Int))) (hp : left (p : Int) = true) (q : Nat) : left' (q : Int) = false ↔ left (q : Int) = false ∨ q = p := by
  rw [hl]
  by_cases e : q = p
  · subst e; simp
  · rw [show ((q : Int) != (p : Int)) = true by simp; omega]; simp [e]
theorem Pr.sub' (h : Pr t L T left O C) (hl : ∀ q, left' q = (left q && q != (p : Int))) : ∀ q, left' q = true → T q = true := fun q hq => by
  rw [hl, Bool.and_eq_true] at hq; exact h.sub q hq.1
theorem Pr.zero (h : Pr t L T left O C) (hl : ∀ q, left' q = (left q && q != (p : Int))) (hp : left (p : Int) = true) (h0 : lvP t p = 0) (hL : L ≠ 0) : Pr t L T left' O C := by
  refine ⟨h.sub' hl, fun x => ?_, fun x => ?_, h.few⟩
  · rw [h.inO]
    constructor
    · rintro ⟨q, a1, a2, a3, a4⟩; exact ⟨q, a1, a2, (lf_iff hl hp q).2 (.inl a3), a4⟩
    · rintro ⟨q, a1, a2, a3, a4, a5⟩
      rcases (lf_iff hl hp q).1 a3 with e | e
      · exact ⟨q, a1, a2, e, a4, a5⟩
      · subst e; exact absurd h0 a4
  · rw [h.inC]
    constructor
    · rintro ⟨q, a1, a2, a3, a4⟩; exact ⟨q, a1, a2, (lf_iff hl hp q).2 (.inl a3), a4⟩
    · rintro ⟨q, a1, a2, a3, a4, a5⟩
      rcases (lf_iff hl hp q).1 a3 with e | e
      · exact ⟨q, a1, a2, e, a4, a5⟩
      · subst e; omega
theorem Pr.other (h : Pr t L T left O C) (hl : ∀ q, left' q = (left q && q != (p : Int))) (hp : left (p : Int) = true) (hpl : p < t.length) (h0 : lvP t p ≠ 0) (h1 : lvP t p ≠ L) : Pr t L T left' (O ++ [opP t p]) C := by
  refine ⟨h.sub' hl, fun x => ?_, fun x => ?_, h.few⟩
  · rw [List.mem_append, h.inO]
    constructor
    · rintro (⟨q, a1, a2, a3, a4⟩ | e)
      · exact ⟨q, a1, a2, (lf_iff hl hp q).2 (.inl a3), a4⟩
      · exact ⟨p, hpl, h.sub _ hp, (lf_iff hl hp p).2 (.inr rfl), h0, h1, (List.mem_singleton.1 e).symm⟩
    · rintro ⟨q, a1, a2, a3, a4, a5, a6⟩
      rcases (lf_iff hl hp q).1 a3 with e | e
      · exact .inl ⟨q, a1, a2, e, a4, a5, a6⟩
      · subst e; right; simpa using a6.symm
  · rw [h.inC]
    constructor
    · rintro ⟨q, a1, a2, a3, a4⟩; exact ⟨q, a1, a2, (lf_iff hl hp q).2 (.inl a3), a4⟩
    · rintro ⟨q, a1, a2, a3, a4, a5⟩
      rcases (lf_iff hl hp q).1 a3 with e | e
      · exact ⟨q, a1, a2, e, a4, a5⟩
      · subst e; exact absurd a4 h1
theorem Pr.one (h : Pr t L T left O C) (hl : ∀ q, left' q = (left q && q != (p : Int))) (hp : left (p : Int) = true) (hpl : p < t.length) (h1 : lvP t p = L) (hc : cn t L T t.length = 1) : Pr t L T left' O [opP t p] := by
  refine ⟨h.sub' hl, fun x => ?_, fun x => ?_, by simp⟩
  · rw [h.inO]
    constructor
    · rintro ⟨q, a1, a2, a3, a4⟩; exact ⟨q, a1, a2, (lf_iff hl hp q).2 (.inl a3), a4⟩
    · rintro ⟨q, a1, a2, a3, a4, a5, a6⟩
      rcases (lf_iff hl hp q).1 a3 with e | e
      · exact ⟨q, a1, a2, e, a4, a5, a6⟩
      · subst e; exact absurd h1 a5
  · constructor
    · intro hx
      exact ⟨p, hpl, h.sub _ hp, (lf_iff hl hp p).2 (.inr rfl), h1, (List.mem_singleton.1 hx).symm⟩
    · rintro ⟨q, a1, a2, a3, a4, a5⟩
      have : q = p := cn_one t L T t.length hc a1 hpl a2 (h.sub _ hp) a4 h1
      subst this
      simp [a5]
/-- in the end -/
theorem Pr.fin (h : Pr t L T left O C) (hw : Ws t) (hn : ∀ q, left q = false) (hc : cn t L T t.length = 1) : C = [oneL t L T] ∧ (∀ x, x ∈ O ↔ x ∈ othL t L T) := by
  obtain ⟨p, h1, h2, h3⟩ := cn_pos t L T t.length (by omega)
  have hmem : opP t p ∈ C := (h.inC _).2 ⟨p, h1, h2, hn _, h3, rfl⟩
  have hC : C = [opP t p] := by
    match C, hmem, h.few with
    | [y], hm, _ => rw [List.mem_singleton.1 hm]
  have hone : oneL t L T = opP t p := by
    have hl : opP t p ∈ (ltS t T).filter fun x => lvl t x == L := List.mem_filter.2 ⟨ltS_mem.2 ⟨p, h1, h2, rfl⟩, by rw [hw.lvl_opP h1, h3]; simp⟩
    have hall : ∀ x ∈ (ltS t T).filter (fun x => lvl t x == L), x = opP t p := fun x hx => by
      obtain ⟨k1, k2⟩ := List.mem_filter.1 hx
      obtain ⟨q, q1, q2, rfl⟩ := ltS_mem.1 k1
      rw [hw.lvl_opP q1] at k2
      rw [cn_one t L T t.length hc q1 h1 q2 h2 (by simpa using k2) h3]
    unfold oneL
    generalize (ltS t T).filter (fun x => lvl t x == L) = l at hl hall
    match l, hl with
    | y :: r, _ => exact hall y (by simp)
  refine ⟨by rw [hC, hone], fun x => ?_⟩
  rw [h.inO]
  unfold othL
  rw [List.mem_filter, ltS_mem]
  constructor
  · rintro ⟨q, a1, a2, _, a4, a5, rfl⟩
    refine ⟨⟨q, a1, a2, rfl⟩, ?_⟩
    rw [hw.lvl_opP a1]
    simp [a4, a5]
  · rintro ⟨⟨q, a1, a2, rfl⟩, a3⟩
    rw [hw.lvl_opP a1] at a3
    simp at a3
    exact ⟨q, a1, a2, hn _, a3.1, a3.2, rfl⟩
end
end Go.Proofs.Ytkchabdlpeifjaa

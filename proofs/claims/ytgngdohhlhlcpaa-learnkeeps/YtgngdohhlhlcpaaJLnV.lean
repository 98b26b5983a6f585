/-
  joined: LnV LnX LnY LnK LnT LnU LnW LnZ LnCv LnCf LnCh
-/
import Derived.Test.YtgngdohhlhlcpaaJLnF
import Derived.Maps.RangeWalk
import Derived.Test.YtgngdohhlhlcpaaLnRc
import Derived.Test.YtgngdohhlhlcpaaRefW
import Derived.Test.YtgngdohhlhlcpaaApp2
set_option linter.unusedSimpArgs false
set_option linter.unusedVariables false
namespace Go.Proofs.Ytgngdohhlhlcpaa
open Go
theorem Ws.lvl_opP {t : List Ent} (h : Ws t) {p : Nat} (hp : p < t.length) : lvl t (opP t p) = lvP t p := by
  obtain ⟨h1, h2, h3⟩ := h.opP_at hp
  have := (h.isF_at h2).2.2.2.1
  rw [h3] at this
  exact this
theorem Ws.opP_inj {t : List Ent} (h : Ws t) {p q : Nat} (hp : p < t.length) (hq : q < t.length) (e : opP t p = opP t q) : p = q := by
  have h1 := (h.opP_at hp).2.2
  have h2 := (h.opP_at hq).2.2
  rw [e] at h1
  omega
/-- what has been put aside so far: O the others, C the one of level L -/
structure Pr (t : List Ent) (L : Int) (T left : Int → Bool) (O C : List Int) : Prop where
  sub : ∀ q, left q = true → T q = true
  inO : ∀ x, x ∈ O ↔ ∃ p : Nat, p < t.length ∧ T (p : Int) = true ∧ left (p : Int) = false ∧ lvP t p ≠ 0 ∧ lvP t p ≠ L ∧ opP t p = x
  inC : ∀ x, x ∈ C ↔ ∃ p : Nat, p < t.length ∧ T (p : Int) = true ∧ left (p : Int) = false ∧ lvP t p = L ∧ opP t p = x
  few : C.length ≤ 1
theorem Pr.start (t : List Ent) (L : Int) (T : Int → Bool) : Pr t L T T [] [] := by
  refine ⟨fun q h => h, fun x => ⟨fun h => (by cases h), ?_⟩, fun x => ⟨fun h => (by cases h), ?_⟩, by simp⟩
  · rintro ⟨p, _, h1, h2, _⟩; rw [h1] at h2; cases h2
  · rintro ⟨p, _, h1, h2, _⟩; rw [h1] at h2; cases h2
section
variable {t : List Ent} {L : Int} {T left left' : Int → Bool} {O C : List Int} {p : Nat}
theorem lf_iff (hl : ∀ q, left' q = (left q && q != (p : Int))) (hp : left (p : Int) = true) (q : Nat) : left' (q : Int) = false ↔ left (q : Int) = false ∨ q = p := by
  rw [hl]
  by_cases e : q = p
  · subst e; simp
  · rw [show ((q : Int) != (p : Int)) = true by simp; omega]; simp [e]
theorem Pr.sub' (h : Pr t L T left O C) (hl : ∀ q, left' q = (left q && q != (p : Int))) : ∀ q, left' q = true → T q = true := fun q hq => by
  rw [hl, Bool.and_eq_true] at hq; exact h.sub q hq.1
theorem Pr.zero (h : Pr t L T left O C) (hl : ∀ q, left' q = (left q && q != (p : Int))) (hp : left (p : Int) = true) (h0 : lvP t p = 0) (hL : L ≠ 0) : Pr t L T left' O C := by
  refine ⟨h.sub' hl, fun x => ?_, fun x => ?_, h.few⟩
  · rw [h.inO]
    constructor
    · rintro ⟨q, a1, a2, a3, a4⟩; exact ⟨q, a1, a2, (lf_iff hl hp q).2 (.inl a3), a4⟩
    · rintro ⟨q, a1, a2, a3, a4, a5⟩
      rcases (lf_iff hl hp q).1 a3 with e | e
      · exact ⟨q, a1, a2, e, a4, a5⟩
      · subst e; exact absurd h0 a4
  · rw [h.inC]
    constructor
    · rintro ⟨q, a1, a2, a3, a4⟩; exact ⟨q, a1, a2, (lf_iff hl hp q).2 (.inl a3), a4⟩
    · rintro ⟨q, a1, a2, a3, a4, a5⟩
      rcases (lf_iff hl hp q).1 a3 with e | e
      · exact ⟨q, a1, a2, e, a4, a5⟩
      · subst e; omega
theorem Pr.other (h : Pr t L T left O C) (hl : ∀ q, left' q = (left q && q != (p : Int))) (hp : left (p : Int) = true) (hpl : p < t.length) (h0 : lvP t p ≠ 0) (h1 : lvP t p ≠ L) : Pr t L T left' (O ++ [opP t p]) C := by
  refine ⟨h.sub' hl, fun x => ?_, fun x => ?_, h.few⟩
  · rw [List.mem_append, h.inO]
    constructor
    · rintro (⟨q, a1, a2, a3, a4⟩ | e)
      · exact ⟨q, a1, a2, (lf_iff hl hp q).2 (.inl a3), a4⟩
      · exact ⟨p, hpl, h.sub _ hp, (lf_iff hl hp p).2 (.inr rfl), h0, h1, (List.mem_singleton.1 e).symm⟩
    · rintro ⟨q, a1, a2, a3, a4, a5, a6⟩
      rcases (lf_iff hl hp q).1 a3 with e | e
      · exact .inl ⟨q, a1, a2, e, a4, a5, a6⟩
      · subst e; right; simpa using a6.symm
  · rw [h.inC]
    constructor
    · rintro ⟨q, a1, a2, a3, a4⟩; exact ⟨q, a1, a2, (lf_iff hl hp q).2 (.inl a3), a4⟩
    · rintro ⟨q, a1, a2, a3, a4, a5⟩
      rcases (lf_iff hl hp q).1 a3 with e | e
      · exact ⟨q, a1, a2, e, a4, a5⟩
      · subst e; exact absurd a4 h1
theorem Pr.one (h : Pr t L T left O C) (hl : ∀ q, left' q = (left q && q != (p : Int))) (hp : left (p : Int) = true) (hpl : p < t.length) (h1 : lvP t p = L) (hc : cn t L T t.length = 1) : Pr t L T left' O [opP t p] := by
  refine ⟨h.sub' hl, fun x => ?_, fun x => ?_, by simp⟩
  · rw [h.inO]
    constructor
    · rintro ⟨q, a1, a2, a3, a4⟩; exact ⟨q, a1, a2, (lf_iff hl hp q).2 (.inl a3), a4⟩
    · rintro ⟨q, a1, a2, a3, a4, a5, a6⟩
      rcases (lf_iff hl hp q).1 a3 with e | e
      · exact ⟨q, a1, a2, e, a4, a5, a6⟩
      · subst e; exact absurd h1 a5
  · constructor
    · intro hx
      exact ⟨p, hpl, h.sub _ hp, (lf_iff hl hp p).2 (.inr rfl), h1, (List.mem_singleton.1 hx).symm⟩
    · rintro ⟨q, a1, a2, a3, a4, a5⟩
      have : q = p := cn_one t L T t.length hc a1 hpl a2 (h.sub _ hp) a4 h1
      subst this
      simp [a5]
/-- in the end -/
theorem Pr.fin (h : Pr t L T left O C) (hw : Ws t) (hn : ∀ q, left q = false) (hc : cn t L T t.length = 1) : C = [oneL t L T] ∧ (∀ x, x ∈ O ↔ x ∈ othL t L T) := by
  obtain ⟨p, h1, h2, h3⟩ := cn_pos t L T t.length (by omega)
  have hmem : opP t p ∈ C := (h.inC _).2 ⟨p, h1, h2, hn _, h3, rfl⟩
  have hC : C = [opP t p] := by
    match C, hmem, h.few with
    | [y], hm, _ => rw [List.mem_singleton.1 hm]
  have hone : oneL t L T = opP t p := by
    have hl : opP t p ∈ (ltS t T).filter fun x => lvl t x == L := List.mem_filter.2 ⟨ltS_mem.2 ⟨p, h1, h2, rfl⟩, by rw [hw.lvl_opP h1, h3]; simp⟩
    have hall : ∀ x ∈ (ltS t T).filter (fun x => lvl t x == L), x = opP t p := fun x hx => by
      obtain ⟨k1, k2⟩ := List.mem_filter.1 hx
      obtain ⟨q, q1, q2, rfl⟩ := ltS_mem.1 k1
      rw [hw.lvl_opP q1] at k2
      rw [cn_one t L T t.length hc q1 h1 q2 h2 (by simpa using k2) h3]
    unfold oneL
    generalize (ltS t T).filter (fun x => lvl t x == L) = l at hl hall
    match l, hl with
    | y :: r, _ => exact hall y (by simp)
  refine ⟨by rw [hC, hone], fun x => ?_⟩
  rw [h.inO]
  unfold othL
  rw [List.mem_filter, ltS_mem]
  constructor
  · rintro ⟨q, a1, a2, _, a4, a5, rfl⟩
    refine ⟨⟨q, a1, a2, rfl⟩, ?_⟩
    rw [hw.lvl_opP a1]
    simp [a4, a5]
  · rintro ⟨⟨q, a1, a2, rfl⟩, a3⟩
    rw [hw.lvl_opP a1] at a3
    simp at a3
    exact ⟨q, a1, a2, hn _, a3.1, a3.2, rfl⟩
end
end Go.Proofs.Ytgngdohhlhlcpaa
set_option linter.unusedSimpArgs false
set_option linter.unusedVariables false
namespace Go.Proofs.Ytgngdohhlhlcpaa
open Go
theorem cn_filter (t : List Ent) (L : Int) (T : Int → Bool) : ∀ n, cn t L T n = ((List.range n).filter fun (p : Nat) => T (p : Int) && lvP t p == L).length
  | 0 => rfl
  | n + 1 => by
    unfold cn
    rw [List.range_succ, List.filter_append, List.length_append, cn_filter t L T n]
    congr 1
    rw [List.filter_cons, List.filter_nil]
    by_cases e : (T (n : Int) && lvP t n == L) = true
    · rw [if_pos e, if_pos e]; rfl
    · rw [if_neg e, if_neg e]; rfl
section
variable {t : List Ent} {L : Int} {T : Int → Bool}
theorem Ws.ltS_nodup (h : Ws t) (T : Int → Bool) : (ltS t T).Nodup := by
  unfold ltS
  have hn : ((List.range t.length).filter fun (p : Nat) => T (p : Int)).Nodup := List.nodup_range.filter _
  unfold List.Nodup
  rw [List.pairwise_map]
  refine List.Pairwise.imp_of_mem ?_ hn
  intro p q hp hq hne e
  have h1 := List.mem_range.1 (List.mem_filter.1 hp).1
  have h2 := List.mem_range.1 (List.mem_filter.1 hq).1
  exact hne (h.opP_inj h1 h2 e)
theorem Ws.ltS_fmd (h : Ws t) {x : Int} (hx : x ∈ ltS t T) : fmd x = true := by
  obtain ⟨p, h1, _, rfl⟩ := ltS_mem.1 hx
  exact (h.opP_at h1).1
theorem tid_nodup (zs : List Int) : (tid zs).Nodup := (tid_rising zs).imp fun {a b} h e => by subst e; omega
theorem Ws.tid_ltS (h : Ws t) {x : Int} : x ∈ tid (ltS t T) ↔ ∃ p : Nat, p < t.length ∧ T (p : Int) = true ∧ opP t p = x := by
  rw [mem_tid]
  constructor
  · rintro ⟨h1, _⟩; exact ltS_mem.1 h1
  · intro h1; exact ⟨ltS_mem.2 h1, h.ltS_fmd (ltS_mem.2 h1)⟩
/-- how many of level L -/
theorem Ws.tid_cn (h : Ws t) : ((tid (ltS t T)).filter fun x => lvl t x == L).length = cn t L T t.length := by
  have hp : (tid (ltS t T)).Perm (ltS t T) := (List.perm_ext_iff_of_nodup (tid_nodup _) (h.ltS_nodup T)).2 fun x => by
    rw [mem_tid]; exact ⟨fun q => q.1, fun q => ⟨q, h.ltS_fmd q⟩⟩
  rw [(hp.filter _).length_eq, cn_filter]
  unfold ltS
  rw [List.filter_map, List.length_map, List.filter_filter]
  congr 1
  refine List.filter_congr fun p hpr => ?_
  show (lvl t (opP t p) == L && T (p : Int)) = _
  rw [h.lvl_opP (List.mem_range.1 hpr), Bool.and_comm]
/-- the last of level L -/
structure LastP (t : List Ent) (L : Int) (c : List Int) (one : Int) : Prop where
  has : one ∈ c
  lv : lvl t one = L
  max : ∀ y ∈ c, lvl t y = L → plN t y ≤ plN t one
theorem Ws.last_at (h : Ws t) {one : Int} {k : Nat} (hi : Iv t L k T) (hl : LastP t L (tid (ltS t T)) one) : ∃ p : Nat, p < k ∧ p < t.length ∧ T (p : Int) = true ∧ opP t p = one ∧ plN t one = p ∧ lvP t p = L ∧ ∀ q : Nat, p < q → q < k → T (q : Int) = false := by
  obtain ⟨p, h1, h2, h3⟩ := h.tid_ltS.1 hl.has
  have h4 := (h.opP_at h1).2.2
  rw [h3] at h4
  have h5 : lvP t p = L := by rw [← h.lvl_opP h1, h3]; exact hl.lv
  refine ⟨p, by have := hi.bnd _ h2; omega, h1, h2, h3, h4, h5, fun q hq hqk => ?_⟩
  cases e : T (q : Int) with
  | false => rfl
  | true =>
    have hql : q < t.length := by have := hi.le; omega
    have h6 := lvP_rise h hql (Nat.le_of_lt hq)
    have h7 := hi.lev q e
    have h8 := hl.max (opP t q) (h.tid_ltS.2 ⟨q, hql, e, rfl⟩) (by rw [h.lvl_opP hql]; omega)
    rw [(h.opP_at hql).2.2, h4] at h8
    omega
/-- one step, in lists -/
theorem Ws.step_tid (h : Ws t) {p : Nat} (hp : p < t.length) (hT : ∀ q, T q = true → 0 ≤ q ∧ q < (t.length : Int)) : tid ((tid (ltS t T)).filter (fun x => x != opP t p) ++ (tid (t.getD p e0).2.2).filter (fun x => x != (t.getD p e0).1)) = tid (ltS t (adS t (outS T (p : Int)) (rOth t p))) := by
  refine tid_congr fun x hx => ?_
  rw [List.mem_append, List.mem_filter, List.mem_filter, h.tid_ltS, mem_tid, ltS_mem]
  constructor
  · rintro (⟨⟨q, q1, q2, rfl⟩, q3⟩ | ⟨⟨q1, _⟩, q3⟩)
    · have hne : q ≠ p := fun e => by subst e; simp at q3
      refine ⟨q, q1, (adS_mem t _ _ _).2 (.inl ?_), rfl⟩
      unfold outS
      rw [q2, show ((q : Int) != (p : Int)) = true by simp; omega]; rfl
    · have hm : x ∈ rOth t p := List.mem_filter.2 ⟨q1, q3⟩
      obtain ⟨h1, h2⟩ := h.rOth_at hp hm
      obtain ⟨_, h4, h5, _⟩ := h.isF_at h1
      exact ⟨plN t x, h4, (adS_mem t _ _ _).2 (.inr ⟨x, hm, rfl⟩), h5⟩
  · rintro ⟨q, q1, q2, q3⟩
    rcases (adS_mem t _ _ _).1 q2 with q4 | ⟨y, q4, q5⟩
    · unfold outS at q4
      rw [Bool.and_eq_true, bne_iff_ne] at q4
      refine .inl ⟨⟨q, q1, q4.2, q3⟩, ?_⟩
      rw [← q3, bne_iff_ne]
      exact fun e => q4.1 (by rw [h.opP_inj q1 hp e])
    · obtain ⟨h1, h2⟩ := h.rOth_at hp q4
      obtain ⟨_, h4, h5, _⟩ := h.isF_at h1
      have : plN t y = q := by omega
      rw [this, q3] at h5
      subst h5
      have := List.mem_filter.1 q4
      exact .inr ⟨⟨this.1, hx⟩, this.2⟩
theorem T0_tid (h : Ws t) {zs : List Int} (hf : falB t zs = true) : tid zs = tid (ltS t (T0 t zs)) := by
  unfold falB at hf
  rw [List.all_eq_true] at hf
  refine tid_congr fun x hx => ?_
  rw [ltS_mem]
  constructor
  · intro hm
    obtain ⟨_, h4, h5, _⟩ := h.isF_at (hf x hm)
    exact ⟨plN t x, h4, (adS_mem t _ _ _).2 (.inr ⟨x, hm, rfl⟩), h5⟩
  · rintro ⟨p, h1, h2, rfl⟩
    rcases (adS_mem t _ _ _).1 h2 with q | ⟨y, q1, q2⟩
    · cases q
    · obtain ⟨_, _, h5, _⟩ := h.isF_at (hf y q1)
      have : plN t y = p := by omega
      rw [this] at h5
      rw [h5]; exact q1
/-- the end, in lists -/
theorem Ws.end_tid (h : Ws t) (hi : Iv t L t.length T) (hc : cn t L T t.length = 1) (hL : L ≠ 0) {one : Int} (hl : LastP t L (tid (ltS t T)) one) : one = oneL t L T ∧ (tid (ltS t T)).filter (fun x => x != one && decide (0 < lvl t x)) = tid (othL t L T) := by
  have e1 := (Pr.fin (left := fun _ => false) (O := othL t L T) (C := [one]) ⟨fun q hq => (by cases hq), fun x => ?_, fun x => ?_, (by simp)⟩ h (fun _ => rfl) hc).1
  · have e2 : one = oneL t L T := by simpa using e1
    refine ⟨e2, ?_⟩
    refine rising_unique ((tid_rising _).filter _) (tid_rising _) fun x => ?_
    rw [List.mem_filter, h.tid_ltS, mem_tid]
    unfold othL
    rw [List.mem_filter, ltS_mem]
    constructor
    · rintro ⟨⟨p, h1, h2, rfl⟩, h3⟩
      rw [h.lvl_opP h1] at h3 ⊢
      rw [Bool.and_eq_true, bne_iff_ne, decide_eq_true_eq] at h3
      refine ⟨⟨⟨p, h1, h2, rfl⟩, ?_⟩, (h.opP_at h1).1⟩
      rw [Bool.and_eq_true, bne_iff_ne, bne_iff_ne]
      refine ⟨by omega, fun e => h3.1 ?_⟩
      obtain ⟨q, _, q1, q2, q3, _, q5, _⟩ := h.last_at hi hl
      rw [← q3, cn_one t L T t.length hc h1 q1 h2 q2 e q5]
    · rintro ⟨⟨⟨p, h1, h2, rfl⟩, h3⟩, _⟩
      rw [h.lvl_opP h1] at h3 ⊢
      rw [Bool.and_eq_true, bne_iff_ne, bne_iff_ne] at h3
      refine ⟨⟨p, h1, h2, rfl⟩, ?_⟩
      rw [Bool.and_eq_true, bne_iff_ne, decide_eq_true_eq]
      refine ⟨fun e => h3.2 ?_, ?_⟩
      · rw [← h.lvl_opP h1, e]; exact hl.lv
      · have := (h.lev p h1).1
        have e : lvP t p = (t.getD p e0).2.1 := rfl
        omega
  · unfold othL
    rw [List.mem_filter, ltS_mem]
    constructor
    · rintro ⟨⟨p, h1, h2, rfl⟩, h3⟩
      rw [h.lvl_opP h1] at h3
      simp at h3
      exact ⟨p, h1, h2, rfl, h3.1, h3.2, rfl⟩
    · rintro ⟨p, h1, h2, _, h3, h4, rfl⟩
      refine ⟨⟨p, h1, h2, rfl⟩, ?_⟩
      rw [h.lvl_opP h1]; simp [h3, h4]
  · obtain ⟨q, _, q1, q2, q3, _, q5, _⟩ := h.last_at hi hl
    constructor
    · intro hx
      rw [List.mem_singleton.1 hx]
      exact ⟨q, q1, q2, rfl, q5, q3⟩
    · rintro ⟨p, h1, h2, _, h3, rfl⟩
      rw [cn_one t L T t.length hc h1 q1 h2 q2 h3 q5, q3]; simp
end
end Go.Proofs.Ytgngdohhlhlcpaa
set_option linter.unusedSimpArgs false
set_option linter.unusedVariables false
namespace Go.Proofs.Ytgngdohhlhlcpaa
open Go Go.RowKit
theorem filter_yes {zs : List Int} {q : Int → Bool} {k : Nat} (h : k < zs.length) (hq : q (zs.getD k 0) = true) : (zs.take (k + 1)).filter q = (zs.take k).filter q ++ [zs.getD k 0] := by
  rw [take_succ_getD zs 0 k h, List.filter_append, List.filter_cons, if_pos hq]; rfl
theorem filter_no {zs : List Int} {q : Int → Bool} {k : Nat} (h : k < zs.length) (hq : q (zs.getD k 0) = false) : (zs.take (k + 1)).filter q = (zs.take k).filter q := by
  rw [take_succ_getD zs 0 k h, List.filter_append, List.filter_cons, if_neg (by rw [hq]; simp)]; simp
/-- the last one so far -/
def LaS (t : List Ent) (L : Int) (c : List Int) (one : Int) : Prop := ((c.filter fun x => lvl t x == L).length = 0 ∧ one = 0) ∨ (0 < (c.filter fun x => lvl t x == L).length ∧ LastP t L c one)
theorem LaS.skip {t : List Ent} {L : Int} {c : List Int} {one : Int} {k : Nat} (hk : k < c.length) (h : LaS t L (c.take k) one) (hn : lvl t (c.getD k 0) ≠ L) : LaS t L (c.take (k + 1)) one := by
  have e := filter_no (q := fun x => lvl t x == L) hk (by simpa using hn)
  unfold LaS at h ⊢
  rw [e]
  rcases h with h | ⟨h1, h2⟩
  · exact .inl h
  · refine .inr ⟨h1, ?_, h2.lv, ?_⟩
    · rw [take_succ_getD c 0 k hk]; exact List.mem_append_left _ h2.has
    · intro y hy hl
      rw [take_succ_getD c 0 k hk] at hy
      rcases List.mem_append.1 hy with q | q
      · exact h2.max y q hl
      · rw [List.mem_singleton.1 q] at hl; exact absurd hl hn
theorem LaS.take' {t : List Ent} {L : Int} {c : List Int} {one : Int} {k : Nat} (hk : k < c.length) (h : LaS t L (c.take k) one) (hl : lvl t (c.getD k 0) = L) (hp : one = 0 ∨ plN t one < plN t (c.getD k 0)) (hne : ∀ x ∈ c, x ≠ 0) : LaS t L (c.take (k + 1)) (c.getD k 0) := by
  have e := filter_yes (q := fun x => lvl t x == L) hk (by simpa using hl)
  unfold LaS at h ⊢
  rw [e]
  refine .inr ⟨by simp, ?_, hl, ?_⟩
  · rw [take_succ_getD c 0 k hk]; simp
  · intro y hy hly
    rw [take_succ_getD c 0 k hk] at hy
    rcases List.mem_append.1 hy with q | q
    · rcases h with h | ⟨h1, h2⟩
      · have : y ∈ (c.take k).filter fun x => lvl t x == L := List.mem_filter.2 ⟨q, by simpa using hly⟩
        rw [List.length_eq_zero_iff.1 h.1] at this
        cases this
      · have := h2.max y q hly
        rcases hp with hp | hp
        · exact absurd hp (hne one (List.mem_of_mem_take h2.has))
        · omega
    · rw [List.mem_singleton.1 q]; exact Nat.le_refl _
theorem LaS.keep {t : List Ent} {L : Int} {c : List Int} {one : Int} {k : Nat} (hk : k < c.length) (h : LaS t L (c.take k) one) (hl : lvl t (c.getD k 0) = L) (h0 : one ≠ 0) (hp : plN t (c.getD k 0) ≤ plN t one) : LaS t L (c.take (k + 1)) one := by
  have e := filter_yes (q := fun x => lvl t x == L) hk (by simpa using hl)
  unfold LaS at h ⊢
  rw [e]
  rcases h with h | ⟨h1, h2⟩
  · exact absurd h.2 h0
  · refine .inr ⟨by simp, ?_, h2.lv, ?_⟩
    · rw [take_succ_getD c 0 k hk]; exact List.mem_append_left _ h2.has
    · intro y hy hly
      rw [take_succ_getD c 0 k hk] at hy
      rcases List.mem_append.1 hy with q | q
      · exact h2.max y q hly
      · rw [List.mem_singleton.1 q]; exact hp
theorem plI_plN {t : List Ent} (h : Ws t) {x : Int} (hx : isF t x = true) : plI t x = (plN t x : Int) := plI_some (h.isF_at hx).2.2.2.2
set_option maxRecDepth 100000 in
set_option maxHeartbeats 3200000 in
theorem rLast_any (v vc : Value) (t : List Ent) (zs : List Int) (L : Int) (w : World) (hr : RdE w v t) (hz : Rd w vc zs) (hw : Ws t) (hf : ∀ x ∈ zs, isF t x = true) :
    Calls Try.prog 36 #[v, vc, .int .i64 L] w fun e w' => ∃ one, e = .returned (.tuple #[.int .i64 ((zs.filter fun x => lvl t x == L).length : Int), .int .i64 one]) ∧ LaS t L zs one ∧ w' = w := by
  have hl := hz.len
  have hl2 := hr.len
  have HR : Hid (RdE w v t) := hr
  have HWs : Hid (Ws t) := hw
  have HFl : Hid (∀ x ∈ zs, isF t x = true) := hf
  have HNz : Hid (∀ x ∈ zs, x ≠ 0) := fun x hx => (fmd_range (hw.isF_at (hf x hx)).1).1
  obtain ⟨a, c, rfl, hc, hm, _⟩ := hr.form
  obtain ⟨ua, uc, rfl, huc, hum, hcell⟩ := hz.form
  have HC : Hid (∀ k, k < zs.length → ∃ b off, ua = some ⟨b, off, none⟩ ∧ w.cell? ⟨b, off + k, none⟩ = some (.int .i64 (zs.getD k 0))) := hcell
  clear hcell hz hr hw hf
  go_enter Try.func36, Try.ntmps36
  go_wp2
  go_loopg [8, 9, 10] zs.length (fun g n o i wr => ∃ (k : Nat) (one : Int), k + g = zs.length ∧ n = .int .i64 (((zs.take k).filter fun x => lvl t x == L).length : Int) ∧ o = .int .i64 one ∧ i = .int .i64 k ∧ Hid (LaS t L (zs.take k) one) ∧ wr = w)
  case atStart => exact ⟨0, 0, by omega, rfl, rfl, rfl, .inl ⟨rfl, rfl⟩, rfl⟩
  case round =>
    obtain ⟨k, one, hk, rfl, rfl, rfl, HL, rfl⟩ := hrel
    have HK : Hid (k + gk = zs.length) := hk
    by_cases hlt : k < zs.length
    · obtain ⟨b, off, rfl, hck⟩ := HC.out k hlt
      have hmem := getD_mem' (l := zs) (k := k) (d := 0) hlt
      obtain ⟨hfm, _, _, _, _⟩ := HWs.out.isF_at (HFl.out _ hmem)
      have HLv : Hid (Calls Try.prog 35 #[.slice a t.length c, .int .i64 (zs.getD k 0)] wr fun e w' => e = .returned (.int .i64 (lvl t (zs.getD k 0))) ∧ w' = wr) := by
        rw [← HWs.out.lvR_lvl (HFl.out _ hmem)]; exact rLevel_any _ t _ wr HR.out hfm
      have hflen := List.length_filter_le (fun x => lvl t x == L) (zs.take k)
      rw [List.length_take] at hflen
      by_cases hlv : lvl t (zs.getD k 0) = L
      · have hFy := filter_yes (q := fun x => lvl t x == L) hlt (by simpa using hlv)
        have hFl : (((zs.take (k + 1)).filter fun x => lvl t x == L).length : Int) = (((zs.take k).filter fun x => lvl t x == L).length : Int) + 1 := by rw [hFy]; simp
        have HFy : Hid ((((zs.take (k + 1)).filter fun x => lvl t x == L).length : Int) = (((zs.take k).filter fun x => lvl t x == L).length : Int) + 1) := hFl
        rw [hlv] at HLv
        have HPP : Hid (∀ x, (fmd x = true) → Calls Try.prog 37 #[.slice a t.length c, .int .i64 x] wr fun e w' => e = .returned (.int .i64 (plI t x)) ∧ w' = wr) := fun x hx => rPlace_any _ t x wr HR.out hx
        have hpy := plI_plN HWs.out (HFl.out _ hmem)
        by_cases h0 : one = 0
        · have HN : Hid (LaS t L (zs.take (k + 1)) (zs.getD k 0)) := HL.out.take' hlt hlv (.inl h0) HNz.out
          subst h0
          clear hk hmem hFy hFl hlv HPP hpy
          generalize ((zs.take k).filter fun x => lvl t x == L).length = n at *
          generalize hy : zs.getD k 0 = y at *
          have hwn : IntKind.i64.wrap ((n : Int) + 1) = (n : Int) + 1 := by rw [IntKind.wrap_i64]; omega
          go_wp2_with (first | (go_at_call 35; refine HLv.out.mono ?_; rintro e w' ⟨rfl, hw⟩; obtain rfl := hw.symm))
          go_roundg (gk - 1)
          case measure => have := HK.out; omega
          case rel => exact ⟨k + 1, y, by have := HK.out; omega, by rw [HFy.out], rfl, by go_num, HN.out, rfl⟩
        · have hone : isF t one = true := by
            rcases HL.out with q | ⟨_, q⟩
            · exact absurd q.2 h0
            · exact HFl.out _ (List.mem_of_mem_take q.has)
          have hpo := plI_plN HWs.out hone
          obtain ⟨hfo, _, _, _, _⟩ := HWs.out.isF_at hone
          have h0b : (one == 0) = false := by simpa using h0
          by_cases hgt : plN t one < plN t (zs.getD k 0)
          · have HN : Hid (LaS t L (zs.take (k + 1)) (zs.getD k 0)) := HL.out.take' hlt hlv (.inr hgt) HNz.out
            have hgi : plI t one < plI t (zs.getD k 0) := by rw [hpy, hpo]; omega
            clear hk hmem hFy hFl hlv hpy hpo hone
            generalize ((zs.take k).filter fun x => lvl t x == L).length = n at *
            generalize hy : zs.getD k 0 = y at *
            generalize plI t = pv at *
            have hwn : IntKind.i64.wrap ((n : Int) + 1) = (n : Int) + 1 := by rw [IntKind.wrap_i64]; omega
            go_wp2_with (first | (go_at_call 35; refine HLv.out.mono ?_; rintro e w' ⟨rfl, hw⟩; obtain rfl := hw.symm) | (go_at_call 37; refine (HPP.out _ (by first | exact hfm | exact hfo)).mono ?_; rintro e w' ⟨rfl, hw⟩; obtain rfl := hw.symm))
            go_roundg (gk - 1)
            case measure => have := HK.out; omega
            case rel => exact ⟨k + 1, y, by have := HK.out; omega, by rw [HFy.out], rfl, by go_num, HN.out, rfl⟩
          · have HN : Hid (LaS t L (zs.take (k + 1)) one) := HL.out.keep hlt hlv h0 (by omega)
            have hgi : ¬ plI t one < plI t (zs.getD k 0) := by rw [hpy, hpo]; omega
            clear hk hmem hFy hFl hlv hpy hpo hone
            generalize ((zs.take k).filter fun x => lvl t x == L).length = n at *
            generalize hy : zs.getD k 0 = y at *
            generalize plI t = pv at *
            have hwn : IntKind.i64.wrap ((n : Int) + 1) = (n : Int) + 1 := by rw [IntKind.wrap_i64]; omega
            go_wp2_with (first | (go_at_call 35; refine HLv.out.mono ?_; rintro e w' ⟨rfl, hw⟩; obtain rfl := hw.symm) | (go_at_call 37; refine (HPP.out _ (by first | exact hfm | exact hfo)).mono ?_; rintro e w' ⟨rfl, hw⟩; obtain rfl := hw.symm))
            go_roundg (gk - 1)
            case measure => have := HK.out; omega
            case rel => exact ⟨k + 1, one, by have := HK.out; omega, by rw [HFy.out], rfl, by go_num, HN.out, rfl⟩
      · have HFn : Hid (((zs.take (k + 1)).filter fun x => lvl t x == L).length = ((zs.take k).filter fun x => lvl t x == L).length) := congrArg List.length (filter_no (q := fun x => lvl t x == L) hlt (by simpa using hlv))
        have HN : Hid (LaS t L (zs.take (k + 1)) one) := HL.out.skip hlt hlv
        have hlb : (lvl t (zs.getD k 0) == L) = false := by simpa using hlv
        clear hk hmem
        generalize ((zs.take k).filter fun x => lvl t x == L).length = n at *
        generalize zs.getD k 0 = y at *
        generalize lvl t y = ly at *
        go_wp2_with (first | (go_at_call 35; refine HLv.out.mono ?_; rintro e w' ⟨rfl, hw⟩; obtain rfl := hw.symm))
        go_roundg (gk - 1)
        case measure => have := HK.out; omega
        case rel => exact ⟨k + 1, one, by have := HK.out; omega, by rw [HFn.out], rfl, by go_num, HN.out, rfl⟩
    · obtain rfl : k = zs.length := by omega
      have HE : Hid (LaS t L zs one) := by have := HL.out; rw [List.take_length] at this; exact this
      rw [List.take_length]
      clear hk
      go_wp2
      go_ret2
      exact ⟨one, rfl, HE.out, rfl⟩
end Go.Proofs.Ytgngdohhlhlcpaa
set_option linter.unusedSimpArgs false
set_option linter.unusedVariables false
namespace Go.Proofs.Ytgngdohhlhlcpaa
open Go Go.RowKit
/-- a set of places is no greater than there are places -/
theorem Ms.fit {W : World} {g n s N : Nat} {T : Int → Bool} (h : Ms W g n s T) (hT : ∀ q, T q = true → 0 ≤ q ∧ q < (N : Int)) : Ms W g N s T := by
  obtain ⟨D, ⟨es, clock, hb, F, hs, hD⟩, td, sz, hh⟩ := h
  refine ⟨D, ⟨es, clock, hb, F, ?_, hD⟩, td, sz, hh⟩
  have hp := Maps.fit_apart lawI F
  have hk := Maps.fit_keys F
  have key : ∀ p ∈ es.toList.map (WideElems.rg Try.prog 3 (unitElem (H := Unit))), ∃ x : Int, p.1 = .int .i64 x ∧ 0 ≤ x ∧ x < (N : Int) := fun p hpm => by
    obtain ⟨v, hv⟩ := hk p hpm
    obtain ⟨x, _, hx, _⟩ := Maps.keyOf_int_inv Try.underlying3 hv
    refine ⟨x, hx, hT x ?_⟩
    rw [← hh x, hD, Maps.has_eq, List.any_eq_true]
    exact ⟨p, mem_sorted.2 hpm, by rw [hx]; simp [Lit.sameKey]⟩
  let f : Lit × DataW Unit → Int := fun p => match p.1 with | .int _ x => x + 1 | _ => 0
  have h1 : ((es.toList.map (WideElems.rg Try.prog 3 (unitElem (H := Unit)))).map f).Pairwise (fun a b => a ≠ b) := by
    rw [List.pairwise_map]
    refine List.Pairwise.imp_of_mem ?_ hp
    intro a b ha hb' hne e
    obtain ⟨x, hx, _⟩ := key a ha
    obtain ⟨y, hy, _⟩ := key b hb'
    apply hne
    rw [hx, hy]
    have e' : x + 1 = y + 1 := by
      have : f a = f b := e
      simp only [f, hx, hy] at this
      exact this
    rw [show x = y by omega]
  have h2 := len_of_apart N _ h1 (fun x hx => by
    obtain ⟨p, hpm, rfl⟩ := List.mem_map.1 hx
    obtain ⟨y, hy, h3, h4⟩ := key p hpm
    show 1 ≤ f p ∧ f p ≤ _
    simp only [f, hy]
    omega)
  simpa using h2
theorem Rv.fit {w0 W : World} {X : Nat} {a : Option Addr} {t : List Ent} {c g : Nat} {L : Int} {n : Nat} {T : Int → Bool} (h : Rv w0 W X a t c g L n T) (hT : ∀ q, T q = true → 0 ≤ q ∧ q < (t.length : Int)) : Rv w0 W X a t c g L t.length T := by
  obtain ⟨s, hs⟩ := h.ms
  exact ⟨h.rz0, h.eX, h.bel, h.box, h.lvb, ⟨s, hs.fit hT⟩, h.stb, h.lf⟩
/-- how resolved begins -/
theorem Rv.start {w : World} {a : Option Addr} {t : List Ent} {c g : Nat} (L : Int) (h : Rz w a t c g t) :
    ∃ w1, (((((w.alloc (.cells #[.slice a t.length c, .map (some g)] 51)).alloc (.cells #[.int .i64 L] 3)).alloc (.map #[] 0)).alloc (.cells #[.map (some (w.heap.size + 2))] 58)).alloc (.cells #[.int .i64 0] 3)) = w1 ∧ Rv w w1 w.heap.size a t c g L 0 (fun _ => false) := by
  refine ⟨_, rfl, ?_⟩
  have s1 : (w.alloc (.cells #[.slice a t.length c, .map (some g)] 51)).heap.size = w.heap.size + 1 := by simp
  generalize hw1 : w.alloc (.cells #[.slice a t.length c, .map (some g)] 51) = w1 at *
  have s2 : (w1.alloc (.cells #[.int .i64 L] 3)).heap.size = w.heap.size + 2 := by simp [s1]
  have o1 : Bx2 w1 w.heap.size 51 (.slice a t.length c) (.map (some g)) := by rw [← hw1]; exact Bx2.new _ _ _ _
  have o2 := Bo1.new w1 3 (.int .i64 L)
  rw [s1] at o2
  have k1 : Below w.heap.size w w1 := by rw [← hw1]; exact below_box _ _
  have k2 := below_box w1 (.cells #[.int .i64 L] 3)
  generalize hw2 : w1.alloc (.cells #[.int .i64 L] 3) = w2 at *
  have s3 : (w2.alloc (.map #[] 0)).heap.size = w.heap.size + 3 := by simp [s2]
  have o3 := Ms.made w2
  rw [s2] at o3
  have k3 := below_box w2 (.map #[] 0)
  generalize hw3 : w2.alloc (.map #[] 0) = w3 at *
  have s4 : (w3.alloc (.cells #[.map (some (w.heap.size + 2))] 58)).heap.size = w.heap.size + 4 := by simp [s3]
  have o4 := Bo1.new w3 58 (.map (some (w.heap.size + 2)))
  rw [s3] at o4
  have k4 := below_box w3 (.cells #[.map (some (w.heap.size + 2))] 58)
  generalize hw4 : w3.alloc (.cells #[.map (some (w.heap.size + 2))] 58) = w4 at *
  have o5 := Bo1.new w4 3 (.int .i64 0)
  rw [s4] at o5
  have k5 := below_box w4 (.cells #[.int .i64 0] 3)
  have c0 : cn t L (fun _ => false) t.length = 0 := by
    have := cn_none t L (fun _ => false) t.length 0 (by omega) (fun _ _ => rfl)
    rw [this]; rfl
  refine ⟨h, rfl, Below.step k1 (Below.step k2 (Below.step k3 (Below.step k4 k5))), o1.below (Below.step k2 (Below.step k3 (Below.step k4 k5))), o2.below (Below.step k3 (Below.step k4 k5)), ⟨0, o3.below (Below.step k4 k5)⟩, o4.below k5, ?_⟩
  rw [c0]; exact o5
set_option maxRecDepth 100000 in
set_option maxHeartbeats 3200000 in
theorem resolved_any (w : World) (a : Option Addr) (t : List Ent) (c g : Nat) (L : Int) (vc : Value) (zs : List Int) (h : Rz w a t c g t) (hz : Rd w vc zs) (hf : falB t zs = true) (hL : L = topI t zs) :
    Calls Try.prog 26 #[rV a t.length c g, vc, .int .i64 L] w fun e w' => e = .returned (.map (some (w.heap.size + 2))) ∧ Rv w w' w.heap.size a t c g L t.length (RS t zs) := by
  have hl := hz.len
  obtain ⟨w1, hw1, hS⟩ := Rv.start L h
  obtain ⟨X, hX⟩ : ∃ X, w.heap.size = X := ⟨_, rfl⟩
  rw [hX] at hw1 hS ⊢
  have HS : Hid (Rv w w1 X a t c g L 0 (fun _ => false)) := hS
  have HZ : Hid (Rd w vc zs) := hz
  obtain ⟨ua, uc, rfl, huc, hum, _⟩ := hz.form
  have hmake : ∀ W : World, (Instr.makeMap 58 none).run Try.prog W = .ok (.map (some W.heap.size)) (W.alloc (.map #[] 0)) := fun W => rfl
  go_enter Try.func26, Try.ntmps26
  have HL : Hid (L = topI t zs) := hL
  have HWs : Hid (Ws t) := h.ws
  have HIv0 : Hid (Iv t L t.length (T0 t zs)) := by rw [hL]; exact T0_iv h.ws hf
  have HFl : Hid (∀ x ∈ zs, isF t x = true) := by unfold falB at hf; exact List.all_eq_true.1 hf
  have hbn := h.bnd
  have htl := h.ws.len
  have HCl : Hid (∀ x ∈ zs, plN t x < t.length) := fun x hx => (h.ws.isF_at (HFl.out x hx)).2.1
  have HW1 : Hid (((((w.alloc (.cells #[.slice a t.length c, .map (some g)] 51)).alloc (.cells #[.int .i64 L] 3)).alloc (.map #[] 0)).alloc (.cells #[.map (some (X + 2))] 58)).alloc (.cells #[.int .i64 0] 3) = w1) := hw1
  clear hL hf h hz hS hw1
  go_upto_region 3 with fail
  simp only [Nat.add_assoc, Nat.reduceAdd]
  rw [HW1.out]
  clear HW1 hmake
  have HBd : Hid (∀ k, k ≤ zs.length → ∀ q, adS t (fun _ => false) (zs.take k) q = true → 0 ≤ q ∧ q < (t.length : Int)) := fun k hk q hq => by
    rcases (adS_mem t _ _ q).1 hq with h1 | ⟨x, hx, rfl⟩
    · cases h1
    · have := HCl.out x (List.mem_of_mem_take hx); omega
  go_wp2_with fail
  go_loopg [21] zs.length (fun g' j wr => ∃ k : Nat, k + g' = zs.length ∧ j = .int .i64 k ∧ Hid (Rv w wr X a t c g L t.length (adS t (fun _ => false) (zs.take k))))
  case atStart => exact ⟨0, by omega, rfl, HS.out.wide (by omega)⟩
  case round =>
    obtain ⟨k, hk, rfl, HR⟩ := hrel
    have HK : Hid (k + gk = zs.length) := hk
    by_cases hlt : k < zs.length
    · obtain ⟨ua', uc', e', _, _, hcell⟩ := (HZ.out.below (by rw [hX]; exact HR.out.bel)).form
      injection e' with q1 q2 q3
      subst q1 q3
      obtain ⟨b2, off2, rfl, hck⟩ := hcell k hlt
      have HP : Hid (Calls Try.prog 49 #[.int .i64 (zs.getD k 0), .pointer (some ⟨X, 0, none⟩), .pointer (some ⟨X + 3, 0, none⟩), .pointer (some ⟨X + 1, 0, none⟩), .pointer (some ⟨X + 4, 0, none⟩)] wr fun e w' => e = .returned (.tuple #[]) ∧ Rv w w' X a t c g L t.length (adS t (fun _ => false) (zs.take (k + 1)))) := (put_any w wr X a t c g L t.length _ (zs.getD k 0) HR.out (HFl.out _ (getD_mem' hlt)) (by omega)).mono fun e w' ⟨h1, h2⟩ => ⟨h1, by
          have e1 : adS t (fun _ => false) (zs.take (k + 1)) = inS (adS t (fun _ => false) (zs.take k)) (plN t (zs.getD k 0) : Int) := by rw [take_succ_getD zs 0 k hlt, adS_snoc]
          rw [← e1] at h2
          exact h2.fit (HBd.out (k + 1) (by omega))⟩
      clear hk hcell
      generalize zs.getD k 0 = y at *
      go_wp2_with (go_at_call 49; refine HP.out.mono ?_; rintro e w2 ⟨rfl, h2⟩; have H2 : Hid (Rv w w2 X a t c g L t.length (adS t (fun _ => false) (zs.take (k + 1)))) := h2; clear h2)
      go_roundg (gk - 1)
      case measure => have := HK.out; omega
      case rel => exact ⟨k + 1, by have := HK.out; omega, by go_num, H2.out⟩
    · obtain rfl : k = zs.length := by omega
      have HR2 : Hid (Rv w wr X a t c g L t.length (T0 t zs)) := by have := HR.out; rw [List.take_length] at this; exact this
      have b0 := HR2.out.box.c0
      have hwr : IntKind.i64.wrap ((t.length : Int) - 1) = (t.length : Int) - 1 := by rw [IntKind.wrap_i64]; omega
      clear hk HR HS
      go_wp2_with fail
      clear hlt huc hum hl b0 hwr
      go_loopg [12] t.length (fun g' j wr => ∃ T : Int → Bool, j = .int .i64 ((g' : Int) - 1) ∧ Hid (Iv t L g' T) ∧ Hid (rsv t L g' T = RS t zs) ∧ Hid (Rv w wr X a t c g L t.length T))
      case atStart => exact ⟨T0 t zs, rfl, HIv0.out, by show _ = _; rw [HL.out]; rfl, HR2.out⟩
      case round =>
        obtain ⟨T, rfl, HI, HRs, HR⟩ := hrel
        obtain ⟨m, hm⟩ : ∃ m, cn t L T t.length = m := ⟨_, rfl⟩
        have HM : Hid (cn t L T t.length = m) := hm
        have f4 := HR.out.lf.c
        rw [hm] at f4
        have f3 := HR.out.stb.c
        have hml : m ≤ t.length := by rw [← hm]; exact cn_le t L T t.length
        clear hm
        by_cases hc : m ≤ 1
        · have HE : Hid (RS t zs = T) := by show _ = _; rw [← HRs.out]; exact rsv_stop (by rw [HM.out]; exact hc) gk
          have hcb : ¬ (1 : Int) < (m : Int) := by omega
          go_wp2_with fail
          go_ret
          exact ⟨rfl, by rw [HE.out]; exact HR.out⟩
        · have hcb : (1 : Int) < (m : Int) := by omega
          obtain ⟨k, rfl⟩ : ∃ k, gk = k + 1 := by
            cases gk with
            | zero =>
              exfalso
              have := cn_none t L T t.length 0 (by omega) (fun p _ => by
                cases e : T (p : Int) with
                | false => rfl
                | true => have := HI.out.bnd _ e; omega)
              rw [HM.out] at this
              simp [cn] at this
              omega
            | succ k => exact ⟨k, rfl⟩
          have hkl : k < t.length := by have := HI.out.le; omega
          have hkj : ((k + 1 : Nat) : Int) - 1 = (k : Int) := by omega
          rw [hkj]
          clear hkj
          obtain ⟨s, hms⟩ := HR.out.ms
          have hlk := hms.look Try.underlying58 (x := (k : Int)) (by omega) (by omega)
          have H2 : Hid (Rv w (wr.alloc (.cells #[] 68)) X a t c g L t.length T) := HR.out.below (below_box _ _)
          have hwk : IntKind.i64.wrap ((k : Int) - 1) = (k : Int) - 1 := by rw [IntKind.wrap_i64]; omega
          clear hms
          cases hT : T (k : Int)
          · rw [hT] at hlk
            have HI2 : Hid (Iv t L k T) := HI.out.skip hT
            have HR3 : Hid (rsv t L k T = RS t zs) := by
              show _ = _
              rw [← HRs.out, rsv_succ, if_neg (by rw [HM.out]; exact hc), if_neg (by rw [hT]; simp)]
            clear hT HI HRs HR
            go_wp2_with fail
            go_roundg k
            case measure => omega
            case rel => exact ⟨T, rfl, HI2.out, HR3.out, H2.out⟩
          · rw [hT] at hlk
            have HLk : Hid (lvP t k = L) := HI.out.at HWs.out (by rw [HM.out]; omega) hT
            have HI2 : Hid (Iv t L k (adS t (outS T (k : Int)) (rOth t k))) := HI.out.step HWs.out (by rw [HM.out]; omega) hT
            have HR3 : Hid (rsv t L k (adS t (outS T (k : Int)) (rOth t k)) = RS t zs) := by
              show _ = _
              rw [← HRs.out, rsv_succ, if_neg (by rw [HM.out]; exact hc), if_pos hT]
            have HTb : Hid (∀ q, outS T (k : Int) q = true → 0 ≤ q ∧ q < (t.length : Int)) := fun q hq => by
              unfold outS at hq
              rw [Bool.and_eq_true] at hq
              have := HI.out.bnd q hq.2
              omega
            have hcn : cn t L (outS T (k : Int)) t.length + 1 = m := by rw [← HM.out]; exact cn_out t L T k hT HLk.out t.length hkl
            obtain ⟨s2, hms2⟩ := H2.out.ms
            obtain ⟨w3, hrun3, hms3, hg3⟩ := hms2.del Try.underlying58 (x := (k : Int)) (by omega) (by omega) 0
            have e3 := H2.out.stb.c
            have d4 := (H2.out.lf.kept hg3 (by simp)).c
            have d5 := (H2.out.lf.kept hg3 (by simp)).f
            have d6 := (H2.out.lf.kept hg3 (by simp)).lt
            rw [HM.out] at d4
            have H4 := H2.out.count hg3 (n' := t.length) (T' := outS T (k : Int)) ⟨_, hms3⟩
            have hwm : IntKind.i64.wrap ((m : Int) - 1) = (cn t L (outS T (k : Int)) t.length : Int) := by rw [IntKind.wrap_i64]; omega
            obtain ⟨mc, hmc⟩ : ∃ mc, (cn t L (outS T (k : Int)) t.length : Int) = mc := ⟨_, rfl⟩
            rw [hmc] at H4 hwm
            have hmm : (m : Int) - 1 = mc := by rw [← hmc]; omega
            obtain ⟨w4, hw4⟩ : ∃ w4, w3.setCell ⟨X + 4, 0, none⟩ (.int .i64 mc) = w4 := ⟨_, rfl⟩
            rw [hw4] at H4
            have H5 : Hid (Rv w w4 X a t c g L t.length (outS T (k : Int))) := H4
            obtain ⟨b, off, u, rfl, hbl, c0, c1, c2, hru⟩ := H4.rz0.cells hkl
            have hlu := hru.len
            have HRu : Hid (Rd w u (t.getD k e0).2.2) := hru
            obtain ⟨ra, rc, rfl, hrc, hrm, _⟩ := hru.form
            have HC : Hid (∀ W, Below X w W → W.cell? ⟨b, off + k * 3, none⟩ = some (.int .i64 (t.getD k e0).1) ∧ W.cell? ⟨b, off + k * 3 + 2, none⟩ = some (.slice ra (t.getD k e0).2.2.length rc) ∧ Rd W (.slice ra (t.getD k e0).2.2.length rc) (t.getD k e0).2.2) := fun W hW => by
              have hW' : Below w.heap.size w W := by rw [hX]; exact hW
              exact ⟨(hW'.cell (p := ⟨b, off + k * 3, none⟩) hbl).trans c0, (hW'.cell (p := ⟨b, off + k * 3 + 2, none⟩) hbl).trans c2, HRu.out.below hW'⟩
            have g0 := H5.out.box.c0
            have g1 := (HC.out w4 H5.out.bel).2.1
            clear hT HI HRs HR hms2 hms3 hg3 H4 hru c0 c1 c2 hcn hmc H2
            go_upto_region 15 with fail
            have HBo : Hid (∀ j, ∀ q, adS t (outS T (k : Int)) (((t.getD k e0).2.2.take j).filter fun x => x != (t.getD k e0).1) q = true → 0 ≤ q ∧ q < (t.length : Int)) := fun j q hq => by
              rcases (adS_mem t _ _ q).1 hq with h1 | ⟨x, hx, rfl⟩
              · exact HTb.out q h1
              · have h2 : x ∈ rOth t k := by
                  obtain ⟨h3, h4⟩ := List.mem_filter.1 hx
                  exact List.mem_filter.2 ⟨List.mem_of_mem_take h3, h4⟩
                have := (HWs.out.rOth_at hkl h2).2
                omega
            have HPt : Hid (∀ x ∈ (t.getD k e0).2.2, x ≠ (t.getD k e0).1 → isF t x = true) := fun x hx hne => (HWs.out.rOth_at hkl (List.mem_filter.2 ⟨hx, by simpa using hne⟩)).1
            have HRo : Hid (rOth t k = (t.getD k e0).2.2.filter fun x => x != (t.getD k e0).1) := rfl
            clear hrun3 hw4 f3 f4 e3 d4 d5 d6 hwm hmm hcb hc HM HTb hlk
            generalize (t.getD k e0).2.2 = rs at *
            generalize (t.getD k e0).1 = lt at *
            go_wp2_with fail
            go_loopg [56] rs.length (fun g' j wr => ∃ q : Nat, q + g' = rs.length ∧ j = .int .i64 q ∧ Hid (Rv w wr X (some ⟨b, off, none⟩) t c g L t.length (adS t (outS T (k : Int)) ((rs.take q).filter fun x => x != lt))))
            case atStart => exact ⟨0, by omega, rfl, H5.out⟩
            case round =>
              obtain ⟨q, hq, rfl, HQ⟩ := hrel
              have HK2 : Hid (q + gk = rs.length) := hq
              have g2 := HQ.out.box.c0
              obtain ⟨g3, _, hrr⟩ := HC.out wr HQ.out.bel
              by_cases hlq : q < rs.length
              · obtain ⟨ra', rc', e', _, _, hcell⟩ := hrr.form
                injection e' with q1 q2 q3
                subst q1 q3
                obtain ⟨b3, off3, rfl, hck⟩ := hcell q hlq
                have HTk := take_succ_getD rs 0 q hlq
                have hmem := getD_mem' (l := rs) (k := q) (d := 0) hlq
                by_cases he : rs.getD q 0 = lt
                · have HE : Hid ((rs.take (q + 1)).filter (fun x => x != lt) = (rs.take q).filter fun x => x != lt) := by
                    show _ = _
                    rw [HTk, List.filter_append, he]; simp
                  rw [he] at hck
                  clear hq hcell HTk hmem he
                  go_wp2_with fail
                  go_roundg (gk - 1)
                  case measure => have := HK2.out; omega
                  case rel => exact ⟨q + 1, by have := HK2.out; omega, by go_num, by rw [HE.out]; exact HQ.out⟩
                · have HE : (rs.take (q + 1)).filter (fun x => x != lt) = (rs.take q).filter (fun x => x != lt) ++ [rs.getD q 0] := by
                    rw [HTk, List.filter_append, List.filter_cons_of_pos (by simpa using he), List.filter_nil]
                  have HP : Hid (Calls Try.prog 49 #[.int .i64 (rs.getD q 0), .pointer (some ⟨X, 0, none⟩), .pointer (some ⟨X + 3, 0, none⟩), .pointer (some ⟨X + 1, 0, none⟩), .pointer (some ⟨X + 4, 0, none⟩)] wr fun e w' => e = .returned (.tuple #[]) ∧ Rv w w' X (some ⟨b, off, none⟩) t c g L t.length (adS t (outS T (k : Int)) ((rs.take (q + 1)).filter fun x => x != lt))) := (put_any w wr X _ t c g L t.length _ (rs.getD q 0) HQ.out (HPt.out _ hmem he) (by omega)).mono fun e w' ⟨h1, h2⟩ => ⟨h1, by
                    rw [← adS_snoc, ← HE] at h2
                    exact h2.fit (HBo.out (q + 1))⟩
                  have hne : (rs.getD q 0 != lt) = true := by simpa using he
                  clear hq hcell HTk hmem HE
                  generalize rs.getD q 0 = y at *
                  go_wp2_with (go_at_call 49; refine HP.out.mono ?_; rintro e w2 ⟨rfl, h2⟩; have H7 : Hid (Rv w w2 X (some ⟨b, off, none⟩) t c g L t.length (adS t (outS T (k : Int)) ((rs.take (q + 1)).filter fun x => x != lt))) := h2; clear h2)
                  go_roundg (gk - 1)
                  case measure => have := HK2.out; omega
                  case rel => exact ⟨q + 1, by have := HK2.out; omega, by go_num, H7.out⟩
              · obtain rfl : q = rs.length := by omega
                have HF : Hid (Rv w wr X (some ⟨b, off, none⟩) t c g L t.length (adS t (outS T (k : Int)) (rOth t k))) := by
                  have := HQ.out
                  rw [List.take_length] at this
                  show Rv _ _ _ _ _ _ _ _ _ _
                  rw [HRo.out]; exact this
                clear hq
                go_wp2_with fail
                go_roundg k
                case measure => omega
                case rel => exact ⟨_, rfl, HI2.out, HR3.out, HF.out⟩
end Go.Proofs.Ytgngdohhlhlcpaa
set_option linter.unusedSimpArgs false
set_option linter.unusedVariables false
namespace Go.Proofs.Ytgngdohhlhlcpaa
open Go Go.RowKit
set_option maxHeartbeats 3200000 in
theorem top_any (w : World) (a : Option Addr) (t : List Ent) (c g : Nat) (vc : Value) (zs : List Int) (h : Rz w a t c g t) (hz : Rd w vc zs) (hf : ∀ x ∈ zs, isF t x = true) :
    Calls Try.prog 24 #[rV a t.length c g, vc] w fun e w' => e = .returned (.int .i64 (topI t zs)) ∧ Below w.heap.size w w' := by
  have hl := hz.len
  obtain ⟨ua, uc, rfl, huc, hum, _⟩ := hz.form
  have hb1 := below_box w (.cells #[.slice a t.length c, .map (some g)] 51)
  obtain ⟨X, hX⟩ : ∃ X, w.heap.size = X := ⟨_, rfl⟩
  obtain ⟨w1, hw1⟩ : ∃ w1, w.alloc (.cells #[.slice a t.length c, .map (some g)] 51) = w1 := ⟨_, rfl⟩
  have HF : Hid (∀ W, Below w1.heap.size w1 W → Below X w W ∧ W.cell? ⟨X, 0, none⟩ = some (.slice a t.length c) ∧ W.cell? ⟨X, 1, none⟩ = some (.map (some g)) ∧ Rz W a t c g t ∧ Rd W (.slice ua zs.length uc) zs) := fun W hW => by
    rw [← hw1] at hW
    have hW0 : Below w.heap.size w W := Below.step hb1 hW
    exact ⟨by rw [← hX]; exact hW0, by rw [← hX]; exact box_at hW rfl, by rw [← hX]; exact box_at hW rfl, h.below hW0, hz.below hW0⟩
  have HFl : Hid (∀ x ∈ zs, isF t x = true) := hf
  have HWs : Hid (Ws t) := h.ws
  rw [hX]
  clear hb1 h hz hf
  go_enter Try.func24, Try.ntmps24
  go_wp2_with fail
  go_loopg [5, 10] zs.length (fun g' m j wr => ∃ k : Nat, k + g' = zs.length ∧ m = .int .i64 (topI t (zs.take k)) ∧ j = .int .i64 k ∧ Below w1.heap.size w1 wr)
  case atStart => exact ⟨0, by omega, rfl, rfl, Below.refl _ _⟩
  case round =>
    obtain ⟨k, hk, rfl, rfl, bel⟩ := hrel
    have HK : Hid (k + gk = zs.length) := hk
    have HB : Hid (Below w1.heap.size w1 wr) := bel
    obtain ⟨hX3, f0, f1, hrz, hrd⟩ := HF.out wr bel
    have HX3 : Hid (Below X w wr) := hX3
    by_cases hlt : k < zs.length
    · obtain ⟨ua', uc', e', _, _, hcell⟩ := hrd.form
      injection e' with q1 q2 q3
      subst q1 q3
      obtain ⟨b2, off2, rfl, hck⟩ := hcell k hlt
      have HT : Hid (topI t (zs.take (k + 1)) = max (topI t (zs.take k)) (lvl t (zs.getD k 0))) := by show _ = _; rw [take_succ_getD zs 0 k hlt, topI_snoc]
      have hv : (vpl t (varOf (zs.getD k 0))).isSome = true := by
        have h1 := HWs.out.isF_at (HFl.out _ (getD_mem' (l := zs) (k := k) (d := 0) hlt))
        rw [HWs.out.plc_vpl h1.1 h1.2.2.2.2]; rfl
      have HLv : Hid (Calls Try.prog 47 #[rV a t.length c g, .int .i64 (zs.getD k 0)] wr fun e w' => e = .returned (.int .i64 (lvl t (zs.getD k 0))) ∧ Below wr.heap.size wr w') := level_any a t t c g _ wr hrz hv
      have hmax : ∀ (x y : Int) (W : World), (Builtin.max_ #[3, 3] 3 #[.int .i64 x, .int .i64 y]).run Try.prog W = .ok (.int .i64 (max x y)) W := fun x y W => by
        have e : (if x < y then y else x) = max x y := by omega
        rw [← e]; simp [Builtin.max_, Builtin.max2]
      clear hk hcell hrd hrz hv bel hX3
      generalize zs.getD k 0 = y at *
      generalize lvl t y = ly at *
      generalize hm : topI t (zs.take k) = m at *
      obtain ⟨mm, hmm⟩ : ∃ mm, max m ly = mm := ⟨_, rfl⟩
      have HMM : Hid (topI t (zs.take (k + 1)) = mm) := by show _ = _; rw [HT.out, hmm]
      have hmax2 : ∀ (W : World), (Builtin.max_ #[3, 3] 3 #[.int .i64 m, .int .i64 ly]).run Try.prog W = .ok (.int .i64 mm) W := fun W => by rw [hmax, hmm]
      clear hmax hmm hm HT
      go_wp2_with (go_at_call 47; refine HLv.out.mono ?_; rintro e w' ⟨rfl, bE⟩)
      go_roundg (gk - 1)
      case measure => have := HK.out; omega
      case rel => exact ⟨k + 1, by have := HK.out; omega, by rw [HMM.out], by go_num, Below.step HB.out bE⟩
    · obtain rfl : k = zs.length := by omega
      rw [List.take_length]
      clear hk
      go_wp2
      go_ret
      exact ⟨rfl, HX3.out⟩
end Go.Proofs.Ytgngdohhlhlcpaa
set_option linter.unusedSimpArgs false
set_option linter.unusedVariables false
namespace Go.Proofs.Ytgngdohhlhlcpaa
open Go Go.RowKit
/-- the step of a range over a set of ints -/
theorem wpList_next_iu {w : World} {ops : Array Oper} {rest : List Oper} {o : Oper} {a : Act} {Q : Exit → Act → World → Prop} (hg : o.guard = none) (it : Operand) (hop : o.op = Op.next it false) (b r n : Nat) (D : DataW Unit) (left : Lit → Bool) (cnt : Nat)
    (hit : a.eval it = .pointer (some ⟨r, 0, none⟩)) (h : w.ranges Try.prog 3 unitElem b r n D left cnt)
    (hDone : cnt = 0 → (∀ kl, left kl = false) → wpList Try.prog ops Q rest (a.put o.dst (.tuple #[.bool false])) w)
    (hMore : ∀ (x : Int) (w' : World) (cnt' : Nat), left (.int .i64 x) = true → w'.ranges Try.prog 3 unitElem b r n D (fun z => left z && !z.sameKey (.int .i64 x)) cnt' → cnt' < cnt →
      w.grownBy w' (some r) → w'.heap.size = w.heap.size → (Instr.entry (.pointer (some ⟨r, 0, none⟩))).run Try.prog w' = .ok (.tuple #[.int .i64 x, .agg #[]]) w' → wpList Try.prog ops Q rest (a.put o.dst (.tuple #[.bool true, .int .i64 x, .agg #[]])) w') :
    wpList Try.prog ops Q (o :: rest) a w :=
  wpList_next_ranges w hg it hop 3 lawI unitElem (Value.int .i64) (fun _ : Unit => Value.agg #[]) (fun key kl hkey => by obtain ⟨x, rfl, _⟩ := Maps.keyOf_int_inv Try.underlying3 hkey; exact ⟨x, rfl⟩) (fun v y hv => ⟨(), (unitElem_inv hv).1⟩)
    b r n D left cnt hit h hDone (fun x c kl y w' cnt' hkey hlk hv hat hrg hlt hgr hsz hen => by
      obtain ⟨x', ex, rfl, hwx⟩ := Maps.keyOf_int_inv Try.underlying3 hkey
      cases ex
      exact hMore x w' cnt' hlk hrg hlt hgr hsz hen)
/-- the state of parted's loop: X the reading's box, X + 1 the range -/
structure PtL (w wr : World) (X : Nat) (a : Option Addr) (t : List Ent) (c g G n s : Nat) (L : Int) (T : Int → Bool) (D : DataW Unit) (left : Lit → Bool) (cnt : Nat) (u6 u8 : Value) (O C : List Int) : Prop where
  rg : wr.ranges Try.prog 3 unitElem G (X + 1) n D left cnt
  o6 : Own X wr u6 C
  o8 : Own X wr u8 O
  ap : u6.ownBlock = none ∨ u6.ownBlock ≠ u8.ownBlock
  off : u6.ownBlock ≠ some (X + 1) ∧ u8.ownBlock ≠ some (X + 1) ∧ u6.ownBlock ≠ some X ∧ u8.ownBlock ≠ some X
  box : Bx2 wr X 51 (.slice a t.length c) (.map (some g))
  bel : Below X w wr
  pr : Pr t L T (fun q => left (.int .i64 q)) O C
  len : O.length + cnt ≤ s
theorem own_one15 (w : World) (x : Int) : Own w.heap.size (w.alloc (.cells #[.int .i64 x] 3)) (.slice (some ⟨w.heap.size, 0, none⟩) 1 1) [x] :=
  ⟨by simp, .inr ⟨w.heap.size, 1, #[.int .i64 x], rfl, Nat.le_refl _, World.alloc_heap_new w _, Nat.le_refl _, by unfold maxLen; omega, by simp, by simp⟩⟩
section
variable {w wr w2 w3 : World} {X : Nat} {a : Option Addr} {t : List Ent} {c g G n s : Nat} {L : Int} {T : Int → Bool} {D : DataW Unit} {left left2 : Lit → Bool} {cnt cnt2 : Nat} {u6 u8 : Value} {O C : List Int}
/-- the range has gone on -/
theorem PtL.turn (h : PtL w wr X a t c g G n s L T D left cnt u6 u8 O C) (hg : wr.grownBy w2 (some (X + 1))) : Own X w2 u6 C ∧ Own X w2 u8 O ∧ Bx2 w2 X 51 (.slice a t.length c) (.map (some g)) ∧ Below X w w2 :=
  ⟨World.ownsRow.kept h.o6 hg (.inr h.off.1), World.ownsRow.kept h.o8 hg (.inr h.off.2.1), h.box.kept hg (by simp), h.bel.grown hg (Nat.le_of_lt h.box.lt) (fun j hj => by cases hj; omega)⟩
theorem PtL.same (h : PtL w wr X a t c g G n s L T D left cnt u6 u8 O C) (hg : wr.grownBy w2 (some (X + 1))) (hrg : w2.ranges Try.prog 3 unitElem G (X + 1) n D left2 cnt2) (hlt : cnt2 < cnt) (hp : Pr t L T (fun q => left2 (.int .i64 q)) O C) : PtL w w2 X a t c g G n s L T D left2 cnt2 u6 u8 O C := by
  obtain ⟨h1, h2, h3, h4⟩ := h.turn hg
  exact ⟨hrg, h1, h2, h.ap, h.off, h3, h4, hp, by have := h.len; omega⟩
theorem PtL.put1 (h : PtL w wr X a t c g G n s L T D left cnt u6 u8 O C) (hg : wr.grownBy w2 (some (X + 1))) (hrg : w2.ranges Try.prog 3 unitElem G (X + 1) n D left2 cnt2) (hlt : cnt2 < cnt) (x : Int) (hp : Pr t L T (fun q => left2 (.int .i64 q)) O [x]) : PtL w (w2.alloc (.cells #[.int .i64 x] 3)) X a t c g G n s L T D left2 cnt2 (.slice (some ⟨w2.heap.size, 0, none⟩) 1 1) u8 O [x] := by
  obtain ⟨h1, h2, h3, h4⟩ := h.turn hg
  have hb := below_box w2 (.cells #[.int .i64 x] 3)
  have hX : X < w2.heap.size := h3.lt
  have hX1 : X + 1 < w2.heap.size := hrg.lt
  refine ⟨hrg.alloc _, (own_one15 w2 x).mono (Nat.le_of_lt hX), h2.below hb, .inr ?_, ⟨?_, h.off.2.1, ?_, h.off.2.2.2⟩, h3.below hb, h4.trans (hb.mono (Nat.le_of_lt hX)), hp, by have := h.len; omega⟩
  · intro e
    have := (World.ownsRow.lt h2 w2.heap.size e.symm).2
    omega
  · simp [Value.ownBlock]; omega
  · simp [Value.ownBlock]; omega
theorem PtL.app (h : PtL w wr X a t c g G n s L T D left cnt u6 u8 O C) (hg : wr.grownBy w2 (some (X + 1))) (hrg : w2.ranges Try.prog 3 unitElem G (X + 1) n D left2 cnt2) (hGX : G < X) (hlt : cnt2 < cnt) (x : Int) {u8' : Value} (ho : Own X w3 u8' (O ++ [x])) (ha : Ap (w2.alloc (.cells #[.int .i64 x] 3)) u8 w3 u8') (hp : Pr t L T (fun q => left2 (.int .i64 q)) (O ++ [x]) C) : PtL w w3 X a t c g G n s L T D left2 cnt2 u6 u8' (O ++ [x]) C := by
  obtain ⟨h1, h2, h3, h4⟩ := h.turn hg
  have hb := below_box w2 (.cells #[.int .i64 x] 3)
  have hX : X < w2.heap.size := h3.lt
  have hX1 : X + 1 < w2.heap.size := hrg.lt
  have hsz : (w2.alloc (.cells #[.int .i64 x] 3)).heap.size = w2.heap.size + 1 := by simp
  have hne : ∀ k, some k ≠ u8.ownBlock ∨ X ≤ k := fun k => by
    by_cases e : some k = u8.ownBlock
    · exact .inr (World.ownsRow.lt h2 k e.symm).1
    · exact .inl e
  have off8 : ∀ k, k < w2.heap.size → u8.ownBlock ≠ some k → u8'.ownBlock ≠ some k := fun k hk hn e => by
    rcases ha.new with q | q
    · exact hn (by rw [← q]; exact e)
    · have := q k e; omega
  refine ⟨(hrg.alloc _).kept ha.grown (fun e => ?_) (fun e => h.off.2.1 e.symm), World.ownsRow.kept (h1.below hb) ha.grown h.ap, ho, ?_, ⟨h.off.1, off8 _ hX1 h.off.2.1, h.off.2.2.1, off8 _ hX h.off.2.2.2⟩, (h3.below hb).kept ha.grown (fun e => h.off.2.2.2 e.symm), (h4.trans (hb.mono (Nat.le_of_lt hX))).grown ha.grown (by omega) (fun k hk => (World.ownsRow.lt h2 k hk).1), hp, by have := h.len; simp; omega⟩
  · have := (World.ownsRow.lt h2 G e.symm).1
    omega
  · rcases h.ap with q | q
    · exact .inl q
    · cases e : u6.ownBlock with
      | none => exact .inl rfl
      | some k =>
        right
        have hk := (World.ownsRow.lt h1 k e).2
        exact fun e2 => off8 k hk (by rw [← e]; exact fun q2 => q q2.symm) e2.symm
end
theorem sameKey_int (q p : Int) : (Lit.int .i64 q).sameKey (.int .i64 p) = (q == p) := by
  unfold Lit.sameKey; rw [Bool.eq_iff_iff]; simp
set_option maxRecDepth 100000 in
set_option maxHeartbeats 3200000 in
theorem parted_any (w : World) (a : Option Addr) (t : List Ent) (c g G n s : Nat) (T : Int → Bool) (L : Int) (h : Rz w a t c g t) (hm : Ms w G n s T) (hiv : Iv t L t.length T) (hc1 : cn t L T t.length = 1) (hL : L ≠ 0) :
    Calls Try.prog 25 #[rV a t.length c g, .map (some G), .int .i64 L] w fun e w' => ∃ v', e = .returned (.tuple #[v', .int .i64 (topI t (othL t L T))]) ∧ Own w.heap.size w' v' (oneL t L T :: tid (othL t L T)) ∧ Below w.heap.size w w' := by
  have hbn := h.bnd
  have htl := h.ws.len
  obtain ⟨D, hown, htd, hsz, hhas⟩ := hm.fit hiv.bnd
  have hsN : s ≤ t.length := by rw [← hsz]; exact hown.size_le
  have hb1 := below_box w (.cells #[.slice a t.length c, .map (some g)] 51)
  obtain ⟨X, hX⟩ : ∃ X, w.heap.size = X := ⟨_, rfl⟩
  have hGX : G < X := by rw [← hX]; exact hm.lt
  have hX1 : (w.alloc (.cells #[.slice a t.length c, .map (some g)] 51)).heap.size = X + 1 := by simp [hX]
  have hown1 := hown.alloc (.cells #[.slice a t.length c, .map (some g)] 51)
  have HBx : Hid (Bx2 (w.alloc (.cells #[.slice a t.length c, .map (some g)] 51)) X 51 (.slice a t.length c) (.map (some g))) := by rw [← hX]; exact Bx2.new w _ _ _
  have HB1 : Hid (Below X w (w.alloc (.cells #[.slice a t.length c, .map (some g)] 51))) := by rw [← hX]; exact hb1
  have HRz : Hid (Rz w a t c g t) := h
  have HHas : Hid (∀ x, Maps.has D (.int .i64 x) = T x) := hhas
  have HSz : Hid (Maps.size D = s) := hsz
  have HIv : Hid (Iv t L t.length T) := hiv
  have HC1 : Hid (cn t L T t.length = 1) := hc1
  rw [hX]
  clear hm hhas hsz hb1 h htd hiv hc1
  obtain ⟨w1, hw1⟩ : ∃ w1, w.alloc (.cells #[.slice a t.length c, .map (some g)] 51) = w1 := ⟨_, rfl⟩
  rw [hw1] at hX1 hown1 HBx HB1
  go_enter Try.func25, Try.ntmps25
  go_wp2_with (first | (at_range; refine wpList_range_own _ rfl _ 58 rfl 3 68 lawI Try.underlying58 _ G t.length D rfl hown1 ?_; intro w0 hrg0 hg0 hs0) | go_in)
  go_frame
  rw [hX1] at hrg0 hs0 ⊢
  have HP0 : Hid (PtL w w0 X a t c g G t.length s L T D (Maps.has D) s (.slice none 0 0) (.slice none 0 0) [] []) := by
    refine ⟨by rw [← HSz.out]; exact hrg0, World.ownsRow_nil _ _ _ _, World.ownsRow_nil _ _ _ _, .inl rfl, ⟨by simp [Value.ownBlock], by simp [Value.ownBlock], by simp [Value.ownBlock], by simp [Value.ownBlock]⟩, HBx.out.kept hg0 (by simp), HB1.out.grown hg0 (by omega) (fun j hj => by cases hj), ?_, by simp⟩
    have e : (fun q => Maps.has D (.int .i64 q)) = T := by funext q; exact HHas.out q
    rw [e]; exact Pr.start t L T
  clear hrg0 hg0 hs0 hown1
  go_loopg [6, 8] s (fun g' u6 u8 wr => ∃ (left : Lit → Bool) (O C : List Int), Hid (PtL w wr X a t c g G t.length s L T D left g' u6 u8 O C))
  case atStart => exact ⟨_, _, _, HP0.out⟩
  case round =>
    obtain ⟨left, O, C, HP⟩ := hrel
    have hrg := HP.out.rg
    have hol := HP.out.len
    go_wp2_with (first | (at_next; refine wpList_next_iu rfl _ rfl G (X + 1) t.length D left _ rfl hrg ?_ ?_) | go_in)
    · intro hc0 hl0
      obtain ⟨hCe, hOe⟩ := HP.out.pr.fin HRz.out.ws (fun q => hl0 _) HC1.out
      subst hCe
      have HEt : Hid (tid O = tid (othL t L T)) := tid_congr fun x _ => hOe x
      have HEp : Hid (topI t O = topI t (othL t L T)) := topI_congr t hOe
      have hOf : ∀ x ∈ O, isF t x = true := fun x hx => by
        obtain ⟨q, q1, _, _, _, _, rfl⟩ := (HP.out.pr.inO x).1 hx
        exact (HRz.out.ws.opP_at q1).2.1
      have hO8 : O.length * 8 ≤ 140737488351232 := by omega
      have hXw := HP.out.box.lt
      have HSt : Hid (∀ W, Below wr.heap.size wr W → Below X w W ∧ Own X W u6 [oneL t L T] ∧ Rd W u8 O ∧ Rz W a t c g t ∧ W.cell? ⟨X, 0, none⟩ = some (.slice a t.length c) ∧ W.cell? ⟨X, 1, none⟩ = some (.map (some g)) ∧ X ≤ W.heap.size) := fun W hW => by
        have h1 : Below X w W := HP.out.bel.trans (hW.mono (Nat.le_of_lt hXw))
        have hbx := HP.out.box.below hW
        exact ⟨h1, HP.out.o6.below hW, (HP.out.o8.below hW).rd hO8, HRz.out.below (by rw [hX]; exact h1), hbx.c0, hbx.c1, Nat.le_of_lt hbx.lt⟩
      have HAp : Hid (∀ W W' v', Below wr.heap.size wr W → Ap W u6 W' v' → Below X w W' ∧ Rd W' u8 O ∧ Rz W' a t c g t ∧ W'.cell? ⟨X, 0, none⟩ = some (.slice a t.length c) ∧ W'.cell? ⟨X, 1, none⟩ = some (.map (some g))) := fun W W' v' hW hA => by
        obtain ⟨h1, h2, h3, h4, _⟩ := HSt.out W hW
        have hbx := (HP.out.box.below hW).kept hA.grown (fun e => HP.out.off.2.2.1 e.symm)
        have h5 : Below X w W' := h1.grown hA.grown (Nat.le_of_lt (HP.out.box.below hW).lt) (fun k hk => (World.ownsRow.lt h2 k hk).1)
        refine ⟨h5, Own.rd (World.ownsRow.kept (HP.out.o8.below hW) hA.grown ?_) hO8, HRz.out.below (by rw [hX]; exact h5), hbx.c0, hbx.c1⟩
        rcases HP.out.ap with q | q
        · rw [q]
          cases e : u8.ownBlock with
          | none => exact .inl rfl
          | some k => exact .inr (by simp)
        · exact .inr (fun e => q e.symm)
      have HTi : Hid (∀ W, Below wr.heap.size wr W → Calls Try.prog 48 #[u8] W fun e w' => ∃ v', e = .returned v' ∧ Own W.heap.size w' v' (tid O) ∧ Below W.heap.size W w') := fun W hW => tidy_any u8 O W (HSt.out W hW).2.2.1
      have HTp : Hid (∀ W, Rd W u8 O → Rz W a t c g t → Calls Try.prog 24 #[rV a t.length c g, u8] W fun e w' => e = .returned (.int .i64 (topI t O)) ∧ Below W.heap.size W w') := fun W q1 q2 => top_any W a t c g u8 O q2 q1 hOf
      have ht8 := tid8 O
      have htl2 := tid_len O
      obtain ⟨_, _, _, _, k0, k1, hXs⟩ := HSt.out wr (Below.refl _ _)
      clear hrg hol hl0 hOe hOf
      generalize topI t O = bk at *
      obtain ⟨on1, hon⟩ : ∃ on1, oneL t L T = on1 := ⟨_, rfl⟩
      have HOn : Hid (oneL t L T = on1) := hon
      rw [hon] at HSt
      clear hon
      generalize tid O = tO at *
      go_upto_region 11 with fail
      go_region_law (first
        | (go_simp; go_at_call 48; refine (HTi.out _ (Below.refl _ _).drew).mono ?_; rintro e wT ⟨vT, rfl, oT, bT⟩; have H1 : Hid (Own wr.heap.size wT vT tO ∧ Below wr.heap.size wr wT) := ⟨oT, Below.step (Below.refl _ _).drew bT⟩; obtain ⟨_, _, _, _, k2, k3, _⟩ := HSt.out wT (Below.step (Below.refl _ _).drew bT); clear oT bT; dsimp only)
        | (go_simp; go_at_call 24; first
            | (have hA := HA.out; refine (HTp.out _ hA.2.1 hA.2.2.1).mono ?_; rintro e wP ⟨rfl, bP⟩; have HF : Hid (Below X w wP ∧ Own X wP vA (on1 :: tO)) := ⟨Below.trans hA.1 (bP.mono (Nat.le_trans (Nat.le_of_eq hX.symm) hA.1.size)), hA.2.2.2.below bP⟩; clear hA bP; dsimp only)
            | (have h1 := H1.out; have hs := HSt.out _ h1.2; refine (HTp.out _ hs.2.2.1 hs.2.2.2.1).mono ?_; rintro e wP ⟨rfl, bP⟩; have H2 : Hid (Own wr.heap.size wP vT tO ∧ Below wr.heap.size wr wP) := ⟨h1.1.below bP, Below.step h1.2 bP⟩; clear h1 hs bP; dsimp only))
        | (first
            | (have h2 := H2.out; refine step_app_rd rfl (.tmp 41) (.tmp 43) rfl X u6 vT [on1] tO (by simp [Act.eval, Act.put]) (by simp [Act.eval, Act.put]) (HSt.out _ h2.2).2.1 (h2.1.rd ht8) (by simp; omega) (HSt.out _ h2.2).2.2.2.2.2.2 ?_; intro vA wA oA aA; have HF : Hid (Below X w wA ∧ Own X wA vA (on1 :: tO)) := ⟨(HAp.out _ _ _ h2.2 aA).1, oA⟩; clear h2 oA aA)
            | (have h1 := H1.out; refine step_app_rd rfl (.tmp 41) (.tmp 43) rfl X u6 vT [on1] tO (by simp [Act.eval, Act.put]) (by simp [Act.eval, Act.put]) (HSt.out _ h1.2).2.1 (h1.1.rd ht8) (by simp; omega) (HSt.out _ h1.2).2.2.2.2.2.2 ?_; intro vA wA oA aA; have HA : Hid (Below X w wA ∧ Rd wA u8 O ∧ Rz wA a t c g t ∧ Own X wA vA (on1 :: tO)) := ⟨(HAp.out _ _ _ h1.2 aA).1, (HAp.out _ _ _ h1.2 aA).2.1, (HAp.out _ _ _ h1.2 aA).2.2.1, oA⟩; obtain ⟨_, _, _, k4, k5⟩ := HAp.out _ _ _ h1.2 aA; clear h1 oA aA)))
      all_goals
        go_wp2_with fail
        go_ret2
        exact ⟨vA, by rw [← HEp.out]; rfl, by rw [← HEt.out, HOn.out]; exact HF.out.2, HF.out.1⟩
    · intro x w2 cnt2 hlx hrg2 hlt2 hg2 hs2 hen
      have hTx : T x = true := HP.out.pr.sub x hlx
      have hbx := HIv.out.bnd x hTx
      obtain ⟨p, rfl⟩ : ∃ p : Nat, x = (p : Int) := ⟨x.toNat, by omega⟩
      have hpl : p < t.length := by omega
      obtain ⟨t1, t2, t3, t4⟩ := HP.out.turn hg2
      have hz2 : Rz w2 a t c g t := HRz.out.below (by rw [hX]; exact t4)
      obtain ⟨b, off, u, rfl, hbl, c0, c1, c2, _⟩ := hz2.cells hpl
      have hfr := fmd_range (hz2.ws.lit hpl)
      have hwr : IntKind.i64.wrap (-(t.getD p e0).1) = opP t p := by unfold opP; rw [IntKind.wrap_i64]; omega
      have hneg : -(t.getD p e0).1 = opP t p := rfl
      have hl2 : ∀ q : Int, (fun q => (fun z => left z && !z.sameKey (.int .i64 (p : Int))) (.int .i64 q)) q = ((fun q => left (.int .i64 q)) q && q != (p : Int)) := fun q => by
        show (left _ && !(Lit.int .i64 q).sameKey (.int .i64 (p : Int))) = _
        rw [sameKey_int]; rfl
      have hlv : (t.getD p e0).2.1 = lvP t p := rfl
      rw [hlv] at c1
      have b0 := t3.c0
      have HG : Hid (w2.ranges Try.prog 3 unitElem G (X + 1) t.length D (fun z => left z && !z.sameKey (.int .i64 (p : Int))) cnt2 ∧ wr.grownBy w2 (some (X + 1))) := ⟨hrg2, hg2⟩
      have HO8 : Hid (Own X w2 u8 O) := t2
      have HX2 : Hid (X < w2.heap.size) := t3.lt
      obtain ⟨lt, hlt⟩ : ∃ lt, (t.getD p e0).1 = lt := ⟨_, rfl⟩
      rw [hlt] at c0 hfr hwr hneg
      have hwr64 : wrap64 (-lt) = opP t p := by rw [← hneg]; unfold wrap64; omega
      clear c2 hz2 t1 t2 t3 t4 hrg hrg2 hg2 hs2 hlv hTx hbx hlt
      by_cases h0 : lvP t p = 0
      · have HQ : Hid (PtL w w2 X (some ⟨b, off, none⟩) t c g G t.length s L T D (fun z => left z && !z.sameKey (.int .i64 (p : Int))) cnt2 u6 u8 O C) := HP.out.same HG.out.2 HG.out.1 hlt2 (HP.out.pr.zero hl2 hlx h0 hL)
        rw [h0] at c1
        clear hl2 h0
        go_wp2_with fail
        go_roundg cnt2
        case measure => exact hlt2
        case rel => exact ⟨_, _, _, HQ.out⟩
      by_cases h1 : lvP t p = L
      · have HQ : Hid (PtL w (w2.alloc (.cells #[.int .i64 (opP t p)] 3)) X (some ⟨b, off, none⟩) t c g G t.length s L T D (fun z => left z && !z.sameKey (.int .i64 (p : Int))) cnt2 (.slice (some ⟨w2.heap.size, 0, none⟩) 1 1) u8 O [opP t p]) := HP.out.put1 HG.out.2 HG.out.1 hlt2 _ (HP.out.pr.one hl2 hlx hpl h1 HC1.out)
        rw [h1] at c1
        have hLb : (L == 0) = false := by simpa using hL
        clear hl2 h0 h1
        generalize opP t p = xp at *
        go_wp2_with fail
        go_roundg cnt2
        case measure => exact hlt2
        case rel => exact ⟨_, _, _, HQ.out⟩
      · have HQ : Hid (∀ w3 u8', Own X w3 u8' (O ++ [opP t p]) → Ap (w2.alloc (.cells #[.int .i64 (opP t p)] 3)) u8 w3 u8' → PtL w w3 X (some ⟨b, off, none⟩) t c g G t.length s L T D (fun z => left z && !z.sameKey (.int .i64 (p : Int))) cnt2 u6 u8' (O ++ [opP t p]) C) := fun w3 u8' q1 q2 => HP.out.app HG.out.2 HG.out.1 hGX hlt2 _ q1 q2 (HP.out.pr.other hl2 hlx hpl h0 h1)
        have h0b : (lvP t p == 0) = false := by simpa using h0
        have h1b : (lvP t p == L) = false := by simpa using h1
        clear hl2 h0 h1
        generalize opP t p = xp at *
        generalize lvP t p = lp at *
        have HR1 : Hid (Rd (w2.alloc (.cells #[.int .i64 xp] 3)) (.slice (some ⟨w2.heap.size, 0, none⟩) 1 1) [xp]) := (own_one15 w2 xp).rd (by simp)
        go_wp2_with (first | (at_builtin; refine wpList_app_rd rfl _ _ rfl X u8 (.slice (some ⟨w2.heap.size, 0, none⟩) 1 1) O [xp] rfl rfl (HO8.out.below (below_box _ _)) HR1.out (by simp; omega) (by have := HX2.out; simp; omega) ?_; intro v7 w7 own7 ap7; have H7 := HQ.out w7 v7 own7 ap7; have HH7 : Hid (PtL w w7 X (some ⟨b, off, none⟩) t c g G t.length s L T D (fun z => left z && !z.sameKey (.int .i64 (p : Int))) cnt2 u6 v7 (O ++ [xp]) C) := H7; clear own7 ap7 H7) | go_in)
        go_roundg cnt2
        case measure => exact hlt2
        case rel => exact ⟨_, _, _, HH7.out⟩
end Go.Proofs.Ytgngdohhlhlcpaa
set_option linter.unusedSimpArgs false
set_option linter.unusedVariables false
namespace Go.Proofs.Ytgngdohhlhlcpaa
open Go Go.RowKit
/-- what readUnder has read -/
def RuS (w' : World) (v : Value) (t : List Ent) (zs : List Int) (xa : Option Addr) (xn xc : Nat) (ym : Option Nat) : Prop :=
  ∃ g, v = .slice xa t.length xc ∧ xn = t.length ∧ ym = some g ∧ Rz w' xa t xc g t ∧ falB t zs = true ∧ zs.all fmd = true
theorem RuS.below {w w' : World} {v : Value} {t : List Ent} {zs : List Int} {xa : Option Addr} {xn xc : Nat} {ym : Option Nat} (h : RuS w v t zs xa xn xc ym) (hb : Below w.heap.size w w') : RuS w' v t zs xa xn xc ym := by
  obtain ⟨g, h1, h2, h3, h4, h5⟩ := h
  exact ⟨g, h1, h2, h3, h4.below hb, h5⟩
set_option maxRecDepth 100000 in
set_option maxHeartbeats 3200000 in
theorem readUnder_any (v vc : Value) (t : List Ent) (zs : List Int) (w : World) (hr : RdE w v t) (hz : Rd w vc zs) :
    Calls Try.prog 23 #[v, vc] w fun e w' => ∃ xa xn xc ym, e = .returned (.tuple #[.agg #[.slice xa xn xc, .map ym], .int .i64 (askI t zs)]) ∧ Below w.heap.size w w' ∧ (askI t zs = 0 → RuS w' v t zs xa xn xc ym) := by
  have hl := hz.len
  have hb0 := below_box w (.cells #[.slice none 0 0, .map none] 51)
  have hbx := Bx2.new w 51 (.slice none 0 0) (.map none)
  obtain ⟨X, hX⟩ : ∃ X, w.heap.size = X := ⟨_, rfl⟩
  obtain ⟨w0, hw0⟩ : ∃ w0, w.alloc (.cells #[.slice none 0 0, .map none] 51) = w0 := ⟨_, rfl⟩
  rw [hw0, hX] at hbx
  rw [hw0] at hb0
  have hR0 := hr.below hb0
  have hZ0 := hz.below hb0
  have HRd : Hid (Calls Try.prog 30 #[v] w0 fun e w' => ∃ xa xn xc ym, e = .returned (.tuple #[.agg #[.slice xa xn xc, .map ym], .bool (frmE t)]) ∧ Below w0.heap.size w0 w' ∧ (frmE t = true → ∃ g, v = .slice xa t.length xc ∧ xn = t.length ∧ ym = some g ∧ Rz w' xa t xc g t ∧ w0.heap.size ≤ g)) := read_any v t w0 hR0
  have HSo : Hid (∀ W, Below w0.heap.size w0 W → Calls Try.prog 31 #[vc] W fun e w' => e = .returned (.bool (zs.all fmd)) ∧ w' = W) := fun W h => sound_any vc zs W (hZ0.below h)
  have HB0 : Hid (∀ W, Below w0.heap.size w0 W → Below X w W ∧ Bx2 W X 51 (.slice none 0 0) (.map none)) := fun W h => ⟨by rw [← hX]; exact Below.step hb0 h, hbx.below h⟩
  have HZ : Hid (Rd w0 vc zs) := hZ0
  obtain ⟨AI, hAI⟩ : ∃ AI, askI t zs = AI := ⟨_, rfl⟩
  have HAI : Hid ((if frmE t && zs.all fmd then (if falB t zs then 0 else 2) else 1) = AI) := by rw [← hAI]; rfl
  rw [hAI, hX]
  have HX0 : Hid (∀ W, Below w0.heap.size w0 W → W.frozen? ⟨X, 0, none⟩ = false ∧ W.frozen? ⟨X, 1, none⟩ = false ∧ X < W.heap.size ∧ W.cell? ⟨X, 0, none⟩ = some (.slice none 0 0) ∧ W.cell? ⟨X, 1, none⟩ = some (.map none)) := fun W h => by
    have q := (HB0.out W h).2
    exact ⟨q.f0, q.f1, q.lt, q.c0, q.c1⟩
  have HFin : Hid (∀ W x y, Below w0.heap.size w0 W → Below X w ((W.setCell ⟨X, 0, none⟩ x).setCell ⟨X, 1, none⟩ y) ∧ Bx2 ((W.setCell ⟨X, 0, none⟩ x).setCell ⟨X, 1, none⟩ y) X 51 x y) := fun W x y h => by
    have q := HB0.out W h
    exact ⟨below_set15 (below_set15 q.1 (Nat.le_refl _) (Nat.le_of_lt q.2.lt)) (Nat.le_refl _) (Nat.le_of_lt (q.2.set0 x).lt), (q.2.set0 x).set1 y⟩
  have HR : Hid (RdE w v t) := hr
  have HXl : Hid (X < w0.heap.size) := hbx.lt
  clear hR0 hZ0 hr hz hAI hb0 hbx
  cases h1 : frmE t
  · have HE : Hid (AI = 1) := by show AI = _; rw [← HAI.out, h1]; rfl
    rw [h1] at HRd
    clear h1 HAI
    go_enter Try.func23, Try.ntmps23
    go_wp2_with (first | (go_at_call 30; refine HRd.out.mono ?_; rintro e w1 ⟨xa, xn, xc, ym, rfl, bE, _⟩; have hb2 := Below.step bE (below_box w1 (.cells #[.slice xa xn xc, .map ym] 51)); obtain ⟨f0, f1, fl, _, _⟩ := HX0.out _ hb2; have HB : Hid (Below w0.heap.size w0 (w1.alloc (.cells #[.slice xa xn xc, .map ym] 51))) := hb2; clear hb2 bE))
    refine bodyPost_ret (ret_rdg rfl rfl (HFin.out _ _ _ HB.out).2) rfl ?_
    exact ⟨_, _, _, _, by rw [HE.out]; rfl, (HFin.out _ _ _ HB.out).1, fun h => by rw [HE.out] at h; cases h⟩
  cases h2 : zs.all fmd
  · have HE : Hid (AI = 1) := by show AI = _; rw [← HAI.out, h1, h2]; rfl
    rw [h1] at HRd
    rw [h2] at HSo
    clear h1 h2 HAI
    go_enter Try.func23, Try.ntmps23
    go_wp2_with (first | (go_at_call 30; refine HRd.out.mono ?_; rintro e w1 ⟨xa, xn, xc, ym, rfl, bE, _⟩; have hb2 := Below.step bE (below_box w1 (.cells #[.slice xa xn xc, .map ym] 51)); obtain ⟨f0, f1, fl, _, _⟩ := HX0.out _ hb2; have HB : Hid (Below w0.heap.size w0 (w1.alloc (.cells #[.slice xa xn xc, .map ym] 51))) := hb2; clear hb2 bE) | (go_at_call 31; refine (HSo.out _ HB.out).mono ?_; rintro e w2 ⟨rfl, hw⟩; obtain rfl := hw.symm))
    refine bodyPost_ret (ret_rdg rfl rfl (HFin.out _ _ _ HB.out).2) rfl ?_
    exact ⟨_, _, _, _, by rw [HE.out]; rfl, (HFin.out _ _ _ HB.out).1, fun h => by rw [HE.out] at h; cases h⟩
  have HWs : Hid (Ws t) := (frmE_iff t).1 h1
  have HAI2 : Hid ((if falB t zs then 0 else 2) = AI) := by have := HAI.out; rw [h1, h2] at this; exact this
  have HFm : Hid (zs.all fmd = true) := h2
  rw [h1] at HRd
  rw [h2] at HSo
  clear h1 h2 HAI
  obtain ⟨ua, uc, rfl, huc, hum, _⟩ := HZ.out.form
  go_enter Try.func23, Try.ntmps23
  go_upto_region 4 with (first | (go_at_call 30; refine HRd.out.mono ?_; rintro e w1 ⟨xa, xn, xc, ym, rfl, bE, hrz⟩; obtain ⟨g, hv, rfl, rfl, hrz, hgX⟩ := hrz rfl; have HgX : Hid (w0.heap.size ≤ g) := hgX; have HB : Hid (Below w0.heap.size w0 (w1.alloc (.cells #[.slice xa t.length xc, .map (some g)] 51)) ∧ Rz (w1.alloc (.cells #[.slice xa t.length xc, .map (some g)] 51)) xa t xc g t) := ⟨Below.step bE (below_box _ _), hrz.below (below_box _ _)⟩; subst hv; clear bE hrz hgX) | (go_at_call 31; refine (HSo.out _ HB.out.1).mono ?_; rintro e w2 ⟨rfl, hw⟩; obtain rfl := hw.symm))
  have HWb : Hid (∀ W, Below (w1.alloc (.cells #[.slice xa t.length xc, .map (some g)] 51)).heap.size (w1.alloc (.cells #[.slice xa t.length xc, .map (some g)] 51)) W → Below w0.heap.size w0 W ∧ Rz W xa t xc g t ∧ W.cell? ⟨w1.heap.size, 0, none⟩ = some (.slice xa t.length xc) ∧ W.cell? ⟨w1.heap.size, 1, none⟩ = some (.map (some g)) ∧ Rd W (.slice ua zs.length uc) zs) := fun W hW => by
    have h0 : Below w0.heap.size w0 W := Below.step HB.out.1 hW
    exact ⟨h0, HB.out.2.below hW, box_at hW rfl, box_at hW rfl, HZ.out.below h0⟩
  clear HB HSo HRd
  generalize w1.alloc (.cells #[.slice xa t.length xc, .map (some g)] 51) = wb at *
  obtain ⟨Y, hY⟩ : ∃ Y, w1.heap.size = Y := ⟨_, rfl⟩
  rw [hY] at HWb ⊢
  clear hY
  go_wp2_with fail
  go_loopg [25] zs.length (fun g' j wr => ∃ k : Nat, k + g' = zs.length ∧ j = .int .i64 k ∧ falB t (zs.take k) = true ∧ Below wb.heap.size wb wr)
  case atStart => exact ⟨0, by omega, rfl, rfl, Below.refl _ _⟩
  case round =>
    obtain ⟨k, hk, rfl, hall, bel⟩ := hrel
    have HA : Hid (falB t (zs.take k) = true) := hall
    have HK : Hid (k + gk = zs.length) := hk
    have HBl : Hid (Below wb.heap.size wb wr) := bel
    obtain ⟨hb3, hrz, f0, f1, hrd⟩ := HWb.out wr bel
    obtain ⟨x0, x1, x2, _, _⟩ := HX0.out wr hb3
    have HRz : Hid (Rz wr xa t xc g t) := hrz
    clear hall bel
    by_cases hlt : k < zs.length
    · obtain ⟨ua', uc', e', _, _, hcell⟩ := hrd.form
      injection e' with q1 q2 q3
      subst q1 q3
      obtain ⟨b2, off2, rfl, hck⟩ := hcell k hlt
      have HM := all_more (fun x => isF t x) zs k hlt
      have HN : Hid (isF t (zs.getD k 0) = false → AI = 2) := fun h => by rw [← HAI2.out, show falB t zs = false from all_no hlt h]; rfl
      have HM2 : Hid (isF t (zs.getD k 0) = true → falB t (zs.take (k + 1)) = true) := fun h => by
        show (zs.take (k + 1)).all _ = true
        rw [HM]; exact Bool.and_eq_true_iff.2 ⟨HA.out, h⟩
      have HIs : Hid (Calls Try.prog 46 #[rV xa t.length xc g, .int .i64 (zs.getD k 0)] wr fun e w' => e = .returned (.bool (isF t (zs.getD k 0))) ∧ Below wr.heap.size wr w') := isFalse_any xa t t xc g _ wr hrz
      clear hk HM hcell hrd hrz
      generalize zs.getD k 0 = y at *
      generalize isF t y = yf at *
      cases yf
      · have HT : Hid (AI = 2) := HN.out rfl
        clear HN HM2
        go_wp2_with (go_at_call 46; refine HIs.out.mono ?_; rintro e w5 ⟨rfl, bE⟩; have hb5 := (HWb.out w5 (Below.step HBl.out bE)).1; obtain ⟨y0, y1, y2, _, _⟩ := HX0.out w5 hb5; have HB5 : Hid (Below w0.heap.size w0 w5) := hb5; clear hb5 bE)
        refine bodyPost_ret (ret_rdg rfl rfl (HFin.out _ _ _ HB5.out).2) rfl ?_
        exact ⟨_, _, _, _, by rw [HT.out]; rfl, (HFin.out _ _ _ HB5.out).1, fun h => by rw [HT.out] at h; cases h⟩
      · have HT : Hid (falB t (zs.take (k + 1)) = true) := HM2.out rfl
        clear HN HM2
        go_wp2_with (go_at_call 46; refine HIs.out.mono ?_; rintro e w5 ⟨rfl, bE⟩)
        go_roundg (gk - 1)
        case measure => have := HK.out; omega
        case rel => exact ⟨k + 1, by have := HK.out; omega, by go_num, HT.out, Below.step HBl.out bE⟩
    · obtain rfl : k = zs.length := by omega
      have hfa : falB t zs = true := by have := HA.out; rw [List.take_length] at this; exact this
      have HE : Hid (AI = 0) := by show AI = _; rw [← HAI2.out, hfa]; rfl
      have HFa : Hid (falB t zs = true) := hfa
      have HBw : Hid (Below w0.heap.size w0 wr) := hb3
      clear hk hfa hb3 hrz hrd
      go_wp2_with fail
      refine bodyPost_ret (ret_rdg rfl rfl (HFin.out _ _ _ HBw.out).2) rfl ?_
      refine ⟨_, _, _, _, by rw [HE.out]; rfl, (HFin.out _ _ _ HBw.out).1, fun _ => ⟨g, rfl, rfl, rfl, ?_, HFa.out, HFm.out⟩⟩
      have hz := HRz.out
      have hgx : g ≠ X := by have := HXl.out; have := HgX.out; omega
      exact ⟨HR.out.below (by rw [hX]; exact (HFin.out _ _ _ HBw.out).1), (hz.map.set hgx).set hgx, hz.pre, hz.ws⟩
/-- the three answers of Learn -/
def LnS (w' : World) (B : Nat) (t : List Ent) (zs : List Int) (e : Ending) : Prop :=
  ∃ u, e = .returned (.tuple #[u, .int .i64 (if askI t zs = 0 then lrnB t zs else 0), .int .i64 (askI t zs)]) ∧ Own B w' u (if askI t zs = 0 then lrnC t zs else [])
set_option maxRecDepth 100000 in
set_option maxHeartbeats 3200000 in
theorem learn_any (v vc : Value) (t : List Ent) (zs : List Int) (w : World) (hr : RdE w v t) (hz : Rd w vc zs) :
    Calls Try.prog 6 #[v, vc] w fun e w' => LnS w' w.heap.size t zs e ∧ Below w.heap.size w w' := by
  have HRd : Hid (Calls Try.prog 23 #[v, vc] w fun e w' => ∃ xa xn xc ym, e = .returned (.tuple #[.agg #[.slice xa xn xc, .map ym], .int .i64 (askI t zs)]) ∧ Below w.heap.size w w' ∧ (askI t zs = 0 → RuS w' v t zs xa xn xc ym)) := readUnder_any v vc t zs w hr hz
  have HZ : Hid (Rd w vc zs) := hz
  unfold LnS
  clear hr hz
  by_cases h0 : askI t zs = 0
  · rw [h0] at HRd ⊢
    rw [if_pos rfl, if_pos rfl]
    go_enter Try.func6, Try.ntmps6
    go_upto_region 4 with (go_at_call 23; refine HRd.out.mono ?_; rintro e w1 ⟨xa, xn, xc, ym, rfl, bE, hrz⟩; obtain ⟨g, hv, rfl, rfl, hrz, hfa, hfm⟩ := hrz rfl; have HB : Hid (Below w.heap.size w w1 ∧ Rz w1 xa t xc g t ∧ falB t zs = true) := ⟨bE, hrz, hfa⟩; subst hv; clear bE hrz hfa hfm)
    have HWb : Hid (∀ W, Below (w1.alloc (.cells #[.slice xa t.length xc, .map (some g)] 51)).heap.size (w1.alloc (.cells #[.slice xa t.length xc, .map (some g)] 51)) W → Below w.heap.size w W ∧ Rz W xa t xc g t ∧ W.cell? ⟨w1.heap.size, 0, none⟩ = some (.slice xa t.length xc) ∧ W.cell? ⟨w1.heap.size, 1, none⟩ = some (.map (some g)) ∧ Rd W vc zs) := fun W hW => by
      have h1 : Below w1.heap.size w1 W := Below.step (below_box _ _) hW
      have h2 : Below w.heap.size w W := Below.step HB.out.1 h1
      exact ⟨h2, HB.out.2.1.below h1, box_at hW rfl, box_at hW rfl, HZ.out.below h2⟩
    have HWs : Hid (Ws t) := HB.out.2.1.ws
    have HFa : Hid (falB t zs = true) := HB.out.2.2
    have HFl : Hid (∀ x ∈ zs, isF t x = true) := List.all_eq_true.1 HFa.out
    clear HB HRd
    generalize w1.alloc (.cells #[.slice xa t.length xc, .map (some g)] 51) = wb at *
    obtain ⟨Y, hY⟩ : ∃ Y, w1.heap.size = Y := ⟨_, rfl⟩
    rw [hY] at HWb ⊢
    clear hY
    have HTp : Hid (Calls Try.prog 24 #[rV xa t.length xc g, vc] wb fun e w' => e = .returned (.int .i64 (topI t zs)) ∧ Below wb.heap.size wb w') := by
      have q := HWb.out wb (Below.refl _ _)
      exact top_any wb xa t xc g vc zs q.2.1 q.2.2.2.2 HFl.out
    obtain ⟨_, _, p0, p1, _⟩ := HWb.out wb (Below.refl _ _)
    by_cases hL : topI t zs = 0
    · have HE1 : Hid (lrnB t zs = -1) := by show _ = _; unfold lrnB; rw [if_pos hL]
      have HE2 : Hid (lrnC t zs = []) := by show _ = _; unfold lrnC; rw [if_pos hL]
      rw [hL] at HTp
      go_wp2_with (go_at_call 24; refine HTp.out.mono ?_; rintro e w2 ⟨rfl, bE⟩; have HB2 : Hid (Below w.heap.size w w2) := (HWb.out w2 bE).1; clear bE)
      go_ret3
      exact ⟨⟨.slice none 0 0, by rw [HE1.out]; rfl, by rw [HE2.out]; exact World.ownsRow_nil _ _ _ _⟩, HB2.out⟩
    · have HE1 : Hid (lrnB t zs = topI t (othL t (topI t zs) (RS t zs))) := by show _ = _; unfold lrnB; rw [if_neg hL]
      have HE2 : Hid (lrnC t zs = oneL t (topI t zs) (RS t zs) :: tid (othL t (topI t zs) (RS t zs))) := by show _ = _; unfold lrnC; rw [if_neg hL]
      obtain ⟨L, hLe⟩ : ∃ L, topI t zs = L := ⟨_, rfl⟩
      rw [hLe] at HTp hL HE1 HE2
      have HRs : Hid (∀ W, Below wb.heap.size wb W → Calls Try.prog 26 #[rV xa t.length xc g, vc, .int .i64 L] W fun e w' => ∃ G s, e = .returned (.map (some G)) ∧ Below W.heap.size W w' ∧ Ms w' G t.length s (RS t zs)) := fun W hW => by
        have q := HWb.out W hW
        exact (resolved_any W xa t xc g L vc zs q.2.1 q.2.2.2.2 HFa.out hLe.symm).mono fun e w' ⟨h1, h2⟩ => by
          obtain ⟨s, hs⟩ := h2.ms
          exact ⟨_, s, h1, h2.bel, hs⟩
      have HPa : Hid (∀ W G s, Below wb.heap.size wb W → Ms W G t.length s (RS t zs) → Calls Try.prog 25 #[rV xa t.length xc g, .map (some G), .int .i64 L] W fun e w' => ∃ v', e = .returned (.tuple #[v', .int .i64 (lrnB t zs)]) ∧ Own W.heap.size w' v' (lrnC t zs) ∧ Below W.heap.size W w') := fun W G s hW hm => by
        have q := HWb.out W hW
        have r := RS_end HWs.out HFa.out (by rw [hLe]; exact hL)
        rw [hLe] at r
        rw [HE1.out, HE2.out]
        exact parted_any W xa t xc g G t.length s (RS t zs) L q.2.1 hm r.2 r.1 hL
      clear hLe HE1 HE2
      have hLb : (L == 0) = false := by simpa using hL
      go_upto_region 7 with (go_at_call 24; refine HTp.out.mono ?_; rintro e w2 ⟨rfl, bE⟩; have HB2 : Hid (Below wb.heap.size wb w2) := bE; obtain ⟨_, _, p2, p3, _⟩ := HWb.out w2 bE; clear bE)
      have HK2 : Hid (∀ W, Below w2.heap.size w2 W → W.cell? ⟨Y, 0, none⟩ = some (.slice xa t.length xc) ∧ W.cell? ⟨Y, 1, none⟩ = some (.map (some g))) := fun W hW => by
        have q := HWb.out W (Below.step HB2.out hW)
        exact ⟨q.2.2.1, q.2.2.2.1⟩
      go_region_held (fun W' => Below w2.heap.size w2 W' ∧ W'.cell? ⟨Y, 0, none⟩ = some (.slice xa t.length xc) ∧ W'.cell? ⟨Y, 1, none⟩ = some (.map (some g))) (first | exact ⟨(Below.refl _ _).drew, HK2.out _ (Below.refl _ _).drew⟩ | exact ⟨H4.out.1, HK2.out _ H4.out.1⟩ | exact ⟨H3.out.1, HK2.out _ H3.out.1⟩) (first
        | (go_at_call 26; refine (HRs.out _ (Below.step HB2.out (Below.refl _ _).drew)).mono ?_; rintro e w3 ⟨G, s, rfl, b3, hm3⟩; have H3 : Hid (Below w2.heap.size w2 w3 ∧ Ms w3 G t.length s (RS t zs)) := ⟨Below.step (Below.refl _ _).drew b3, hm3⟩; clear b3 hm3)
        | (go_at_call 25; refine (HPa.out _ _ _ (Below.step HB2.out H3.out.1) H3.out.2).mono ?_; rintro e w4 ⟨vA, rfl, o4, b4⟩; have H4 : Hid (Below w2.heap.size w2 w4 ∧ Own w3.heap.size w4 vA (lrnC t zs)) := ⟨Below.step H3.out.1 b4, o4⟩; clear o4 b4))
      all_goals
        go_wp2_with fail
        go_ret3
        exact ⟨⟨vA, rfl, H4.out.2.mono (HWb.out w3 (Below.step HB2.out H3.out.1)).1.size⟩, (HWb.out w4 (Below.step HB2.out H4.out.1)).1⟩
  · rw [if_neg h0, if_neg h0]
    have hb0 : (askI t zs == 0) = false := by simpa using h0
    generalize askI t zs = AI at *
    have HR2 : Hid (Calls Try.prog 23 #[v, vc] w fun e w' => ∃ xa xn xc ym, e = .returned (.tuple #[.agg #[.slice xa xn xc, .map ym], .int .i64 AI]) ∧ Below w.heap.size w w') := HRd.out.mono fun e w' ⟨x1, x2, x3, x4, h1, h2, _⟩ => ⟨x1, x2, x3, x4, h1, h2⟩
    clear HRd
    go_enter Try.func6, Try.ntmps6
    go_wp2_with (go_at_call 23; refine HR2.out.mono ?_; rintro e w1 ⟨xa, xn, xc, ym, rfl, bE⟩; have HB : Hid (Below w.heap.size w w1) := bE; clear bE)
    go_ret3
    exact ⟨⟨.slice none 0 0, rfl, World.ownsRow_nil _ _ _ _⟩, Below.step HB.out (below_box _ _)⟩
end Go.Proofs.Ytgngdohhlhlcpaa
set_option linter.unusedSimpArgs false
set_option linter.unusedVariables false
namespace Go.Proofs.Ytgngdohhlhlcpaa
open Go Go.RowKit
theorem isF_tid {t : List Ent} (h : Ws t) {T : Int → Bool} : ∀ x ∈ tid (ltS t T), isF t x = true := fun x hx => by
  obtain ⟨p, h1, _, rfl⟩ := h.tid_ltS.1 hx
  exact (h.opP_at h1).2.1
/-- the state of the resolving loop -/
structure RfL (t : List Ent) (L : Int) (zs : List Int) (k : Nat) (T : Int → Bool) (one : Int) : Prop where
  iv : Iv t L k T
  rs : rsv t L k T = RS t zs
  pos : 0 < cn t L T t.length
  la : LastP t L (tid (ltS t T)) one
theorem LaS.lastP {t : List Ent} (h : Ws t) {L : Int} {T : Int → Bool} {one : Int} (hl : LaS t L (tid (ltS t T)) one) (hc : 0 < cn t L T t.length) : LastP t L (tid (ltS t T)) one := by
  unfold LaS at hl
  rw [h.tid_cn] at hl
  rcases hl with q | q
  · omega
  · exact q.2
theorem tid_twice (zs : List Int) : tid (tid zs) = tid zs := tid_congr fun x hx => ⟨fun h => (mem_tid.1 h).1, fun h => mem_tid.2 ⟨h, hx⟩⟩
/-- one step of the document's loop -/
theorem RfL.step {t : List Ent} {L : Int} {zs : List Int} {k : Nat} {T : Int → Bool} {one : Int} (h : RfL t L zs k T one) (hw : Ws t) (hc : 1 < cn t L T t.length) : ∃ p : Nat, p < k ∧ p < t.length ∧ plI t one = (p : Int) ∧ -one = (t.getD p e0).1 ∧ isF t one = true ∧ tid (wout (tid (tid (ltS t T))) one ++ wout (tid (t.getD p e0).2.2) (-one)) = tid (ltS t (adS t (outS T (p : Int)) (rOth t p))) ∧
    (∀ one', LaS t L (tid (ltS t (adS t (outS T (p : Int)) (rOth t p)))) one' → RfL t L zs p (adS t (outS T (p : Int)) (rOth t p)) one') := by
  obtain ⟨p, h1, h2, h3, h4, h5, h6, h7⟩ := hw.last_at h.iv h.la
  have hF : isF t one = true := by rw [← h4]; exact (hw.opP_at h2).2.1
  have hneg : -one = (t.getD p e0).1 := by rw [← h4]; unfold opP; omega
  have hiv : Iv t L (p + 1) T := ⟨fun q hq => by
      have q1 := h.iv.bnd q hq
      refine ⟨q1.1, ?_⟩
      have hnot : ¬ (p : Int) < q := fun hlt => by
        have := h7 q.toNat (by omega) (by omega)
        rw [show ((q.toNat : Nat) : Int) = q by omega, hq] at this
        cases this
      omega, h.iv.lev, by omega⟩
  have hcp : 0 < cn t L (adS t (outS T (p : Int)) (rOth t p)) t.length := by
    have a1 := cn_out t L T p h3 h6 t.length h2
    have a2 := cn_adS t L (rOth t p) (outS T (p : Int)) (fun x hx => by have := (hw.rOth_at h2 hx).2; omega)
    omega
  refine ⟨p, h1, h2, by rw [plI_plN hw hF, h5], hneg, hF, ?_, fun one' hl => ⟨hiv.step hw hc h3, ?_, hcp, hl.lastP hw hcp⟩⟩
  · rw [tid_twice, hneg, ← h4]
    exact hw.step_tid h2 fun q hq => by have := h.iv.bnd q hq; have := h.iv.le; omega
  · rw [← h.rs]
    exact (rsv_skip hc h3 k h1 h7).symm
set_option maxRecDepth 100000 in
set_option maxHeartbeats 6400000 in
theorem rLearn_any (v vc : Value) (t : List Ent) (zs : List Int) (w : World) (hr : RdE w v t) (hz : Rd w vc zs) :
    Calls Try.prog 14 #[v, vc] w fun e w' => LnS w' w.heap.size t zs e ∧ Below w.heap.size w w' := by
  have hl := hz.len
  have hl2 := hr.len
  have HAs : Hid (Calls Try.prog 33 #[v, vc] w fun e w' => e = .returned (.int .i64 (askI t zs)) ∧ ∃ m, w' = w.drewN m) := rAsked_any v vc t zs w hr hz
  have HR : Hid (RdE w v t) := hr
  have HZ : Hid (Rd w vc zs) := hz
  unfold LnS
  clear hr hz
  by_cases h0 : askI t zs = 0
  case neg =>
    rw [if_neg h0, if_neg h0]
    have hb0 : (askI t zs == 0) = false := by simpa using h0
    generalize askI t zs = AI at *
    go_enter Try.func14, Try.ntmps14
    go_wp2_with (go_at_call 33; refine HAs.out.mono ?_; rintro e w1 ⟨rfl, m1, hw⟩; obtain rfl := hw)
    go_ret3
    exact ⟨⟨.slice none 0 0, rfl, World.ownsRow_nil _ _ _ _⟩, below_drewN _ _⟩
  have hk : frmE t = true ∧ zs.all fmd = true ∧ falB t zs = true := by
    unfold askI at h0
    cases e1 : frmE t <;> cases e2 : zs.all fmd <;> cases e3 : falB t zs <;> simp [e1, e2, e3] at h0 ⊢
  obtain ⟨hk1, hk2, hk3⟩ := hk
  have HWs : Hid (Ws t) := (frmE_iff t).1 hk1
  have HFa : Hid (falB t zs = true) := hk3
  rw [h0] at HAs ⊢
  rw [if_pos rfl, if_pos rfl]
  have HTi : Hid (∀ m, Calls Try.prog 34 #[vc] (w.drewN m) fun e w' => ∃ v', e = .returned v' ∧ Own w.heap.size w' v' (tid zs) ∧ Below w.heap.size w w') := fun m => (refTidy vc zs _ (HZ.out.below (below_drewN w m))).mono fun e w' ⟨v', h1, h2, h3⟩ => ⟨v', h1, h2, Below.step (below_drewN w m) h3⟩
  have htl := tid_len zs
  have HTt : Hid (tid zs = tid (ltS t (T0 t zs))) := T0_tid HWs.out hk3
  have HFt : Hid (∀ x ∈ tid zs, isF t x = true) := fun x hx => List.all_eq_true.1 hk3 x (mem_tid.1 hx).1
  have HTop : Hid (topI t (tid zs) = topI t zs) := topI_congr t fun x => ⟨fun h => (mem_tid.1 h).1, fun h => mem_tid.2 ⟨h, List.all_eq_true.1 hk2 x h⟩⟩
  obtain ⟨a, c, rfl, hc, hm, _⟩ := HR.out.form
  clear hk1 hk2 hk3 h0
  go_enter Try.func14, Try.ntmps14
  go_upto_region 5 with (first | (go_at_call 33; refine HAs.out.mono ?_; rintro e w1 ⟨rfl, m1, hw⟩; obtain rfl := hw) | (go_at_call 34; refine (HTi.out _).mono ?_; rintro e w2 ⟨v2, rfl, o2, b2⟩; have H2 : Hid (Own w.heap.size w2 v2 (tid zs) ∧ Below w.heap.size w w2) := ⟨o2, b2⟩; clear o2 b2))
  obtain ⟨ca, cc, hv2⟩ := own_form H2.out.1
  subst hv2
  have HRd2 : Hid (Rd w2 (.slice ca (tid zs).length cc) (tid zs)) := H2.out.1.rd (by omega)
  have HRe2 : Hid (RdE w2 (.slice a t.length c) t) := HR.out.below H2.out.2
  clear HAs HTi
  go_wp2_with fail
  go_loopg [9, 10] (tid zs).length (fun g m i wr => ∃ k : Nat, k + g = (tid zs).length ∧ m = .int .i64 (topI t ((tid zs).take k)) ∧ i = .int .i64 k ∧ wr = w2)
  case atStart => exact ⟨0, by omega, rfl, rfl, rfl⟩
  case round =>
    obtain ⟨k, hk, rfl, rfl, rfl⟩ := hrel
    have HK : Hid (k + gk = (tid zs).length) := hk
    by_cases hlt : k < (tid zs).length
    · obtain ⟨ua', uc', e', _, _, hcell⟩ := HRd2.out.form
      injection e' with q1 q2 q3
      subst q1 q3
      obtain ⟨b2, off2, rfl, hck⟩ := hcell k hlt
      have hmem := getD_mem' (l := tid zs) (k := k) (d := 0) hlt
      have HT : Hid (topI t ((tid zs).take (k + 1)) = max (topI t ((tid zs).take k)) (lvl t ((tid zs).getD k 0))) := by show _ = _; rw [take_succ_getD (tid zs) 0 k hlt, topI_snoc]
      have HLv : Hid (Calls Try.prog 35 #[.slice a t.length c, .int .i64 ((tid zs).getD k 0)] wr fun e w' => e = .returned (.int .i64 (lvl t ((tid zs).getD k 0))) ∧ w' = wr) := by
        rw [← HWs.out.lvR_lvl (HFt.out _ hmem)]; exact rLevel_any _ t _ wr HRe2.out (HWs.out.isF_at (HFt.out _ hmem)).1
      clear hk hcell hmem
      generalize (tid zs).getD k 0 = y at *
      generalize lvl t y = ly at *
      generalize topI t ((tid zs).take k) = m at *
      by_cases hgt : m < ly
      · have HT2 : Hid (topI t ((tid zs).take (k + 1)) = ly) := by show _ = _; rw [HT.out]; omega
        clear HT
        go_wp2_with (go_at_call 35; refine HLv.out.mono ?_; rintro e w' ⟨rfl, hw⟩; obtain rfl := hw.symm)
        go_roundg (gk - 1)
        case measure => have := HK.out; omega
        case rel => exact ⟨k + 1, by have := HK.out; omega, by rw [HT2.out], by go_num, rfl⟩
      · have HT2 : Hid (topI t ((tid zs).take (k + 1)) = m) := by show _ = _; rw [HT.out]; omega
        clear HT
        go_wp2_with (go_at_call 35; refine HLv.out.mono ?_; rintro e w' ⟨rfl, hw⟩; obtain rfl := hw.symm)
        go_roundg (gk - 1)
        case measure => have := HK.out; omega
        case rel => exact ⟨k + 1, by have := HK.out; omega, by rw [HT2.out], by go_num, rfl⟩
    · obtain rfl : k = (tid zs).length := by omega
      rw [List.take_length, HTop.out]
      clear hk
      by_cases hL : topI t zs = 0
      · have HE1 : Hid (lrnB t zs = -1) := by show _ = _; unfold lrnB; rw [if_pos hL]
        have HE2 : Hid (lrnC t zs = []) := by show _ = _; unfold lrnC; rw [if_pos hL]
        rw [hL]
        go_wp2_with fail
        go_ret3
        exact ⟨⟨.slice none 0 0, by rw [HE1.out]; rfl, by rw [HE2.out]; exact World.ownsRow_nil _ _ _ _⟩, H2.out.2⟩
      · have HE1 : Hid (lrnB t zs = topI t (othL t (topI t zs) (RS t zs))) := by show _ = _; unfold lrnB; rw [if_neg hL]
        have HE2 : Hid (lrnC t zs = oneL t (topI t zs) (RS t zs) :: tid (othL t (topI t zs) (RS t zs))) := by show _ = _; unfold lrnC; rw [if_neg hL]
        have HIv0 : Hid (Iv t (topI t zs) t.length (T0 t zs)) := T0_iv HWs.out HFa.out
        have HCn0 : Hid (0 < cn t (topI t zs) (T0 t zs) t.length) := T0_cn HWs.out HFa.out hL
        have HRSe : Hid (cn t (topI t zs) (RS t zs) t.length = 1 ∧ Iv t (topI t zs) t.length (RS t zs)) := RS_end HWs.out HFa.out hL
        have HRs0 : Hid (rsv t (topI t zs) t.length (T0 t zs) = RS t zs) := rfl
        generalize topI t zs = L at *
        have hLb : (L == 0) = false := by simpa using hL
        have HLa : Hid (Calls Try.prog 36 #[.slice a t.length c, .slice ca (tid zs).length cc, .int .i64 L] wr fun e w' => ∃ one, e = .returned (.tuple #[.int .i64 (cn t L (T0 t zs) t.length : Int), .int .i64 one]) ∧ RfL t L zs t.length (T0 t zs) one ∧ w' = wr) := (rLast_any _ _ t (tid zs) L wr HRe2.out HRd2.out HWs.out HFt.out).mono fun e w' ⟨one, h1, h2, h3⟩ => by
          rw [HTt.out, HWs.out.tid_cn] at h1
          rw [HTt.out] at h2
          exact ⟨one, h1, ⟨HIv0.out, HRs0.out, HCn0.out, h2.lastP HWs.out HCn0.out⟩, h3⟩
        go_wp2_with (go_at_call 36; refine HLa.out.mono ?_; rintro e w3 ⟨one, rfl, h3, hw⟩; obtain rfl := hw; have H3 : Hid (RfL t L zs t.length (T0 t zs) one) := h3; clear h3)
        have H4 : Hid (Own w.heap.size w3 (.slice ca (tid zs).length cc) (tid (ltS t (T0 t zs)))) := by rw [← HTt.out]; exact H2.out.1
        have H5 : Hid (Below w.heap.size w w3) := H2.out.2
        clear HLa HRd2 HRe2
        go_loopg [8, 11, 12] t.length (fun g' u n o wr => ∃ (T : Int → Bool) (one : Int), n = .int .i64 (cn t L T t.length : Int) ∧ o = .int .i64 one ∧ Hid (Own w.heap.size wr u (tid (ltS t T))) ∧ Hid (RfL t L zs g' T one) ∧ Hid (Below w.heap.size w wr))
        case atStart => exact ⟨_, one, rfl, rfl, H4.out, H3.out, H5.out⟩
        case round =>
          obtain ⟨T, one, rfl, rfl, HO, HF, HB⟩ := hrel
          have htl3 := tid_len (ltS t T)
          obtain ⟨oa, oc, hu⟩ := own_form HO.out
          subst hu
          have HRc : Hid (Rd wr (.slice oa (tid (ltS t T)).length oc) (tid (ltS t T))) := HO.out.rd (by omega)
          by_cases hc1 : 1 < cn t L T t.length
          · obtain ⟨p, hp1, hp2, hp3, hp4, hp5, hp6, hp7⟩ := HF.out.step HWs.out hc1
            obtain ⟨T', hT'⟩ : ∃ T', adS t (outS T (p : Int)) (rOth t p) = T' := ⟨_, rfl⟩
            rw [hT'] at hp6 hp7
            have HSt : Hid (∀ one', LaS t L (tid (ltS t T')) one' → RfL t L zs p T' one') := hp7
            have hfo := (HWs.out.isF_at hp5).1
            have hfr := fmd_range hfo
            have hwn : IntKind.i64.wrap (-one) = -one := by rw [IntKind.wrap_i64]; omega
            have HRw : Hid (RdE wr (.slice a t.length c) t) := HR.out.below HB.out
            have HPl : Hid (Calls Try.prog 37 #[.slice a t.length c, .int .i64 one] wr fun e w' => e = .returned (.int .i64 (p : Int)) ∧ w' = wr) := by rw [← hp3]; exact rPlace_any _ t one wr HRw.out hfo
            obtain ⟨b, off, u, rfl, hbl, c0, c1, c2, hru⟩ := HRw.out.at hp2
            have hlr := hru.len
            obtain ⟨ra, rc, rfl, hrc, hrm, _⟩ := hru.form
            have HC2 : Hid (∀ W, Below wr.heap.size wr W → W.cell? ⟨b, off + p * 3 + 2, none⟩ = some (.slice ra (t.getD p e0).2.2.length rc)) := fun W hW => (hW.cell (p := ⟨b, off + p * 3 + 2, none⟩) hbl).trans c2
            have HWo1 : Hid (∀ W, Below wr.heap.size wr W → Calls Try.prog 39 #[.slice oa (tid (ltS t T)).length oc, .int .i64 one] W fun e w' => ∃ v', e = .returned v' ∧ Own W.heap.size w' v' (wout (tid (tid (ltS t T))) one) ∧ Below W.heap.size W w') := fun W hW => refWithout_any _ _ one W (HRc.out.below hW)
            have HWo2 : Hid (∀ W, Below wr.heap.size wr W → Calls Try.prog 39 #[.slice ra (t.getD p e0).2.2.length rc, .int .i64 (-one)] W fun e w' => ∃ v', e = .returned v' ∧ Own W.heap.size w' v' (wout (tid (t.getD p e0).2.2) (-one)) ∧ Below W.heap.size W w') := fun W hW => refWithout_any _ _ (-one) W (hru.below hW)
            have hA8 : (wout (tid (tid (ltS t T))) one).length * 8 ≤ 140737488351232 := by have h1 := wout_len (tid (tid (ltS t T))) one; have h2 := tid_len (tid (ltS t T)); omega
            have hB8 : (wout (tid (t.getD p e0).2.2) (-one)).length * 8 ≤ 140737488351232 := by have h1 := wout_len (tid (t.getD p e0).2.2) (-one); have h2 := tid_len (t.getD p e0).2.2; omega
            have HJo : Hid (∀ W v5 v6, Own w.heap.size W v5 (wout (tid (tid (ltS t T))) one) → Own w.heap.size W v6 (wout (tid (t.getD p e0).2.2) (-one)) → Calls Try.prog 38 #[v5, v6] W fun e w' => ∃ v', e = .returned v' ∧ Own W.heap.size w' v' (tid (ltS t T')) ∧ Below W.heap.size W w') := fun W v5 v6 h5 h6 => by
              rw [← hp6]
              exact refJoin_any v5 v6 _ _ W (h5.rd hA8) (h6.rd hB8)
            have htl4 := tid_len (ltS t T')
            have HLa : Hid (∀ W u, Below w.heap.size w W → Own w.heap.size W u (tid (ltS t T')) → Calls Try.prog 36 #[.slice (some ⟨b, off, none⟩) t.length c, u, .int .i64 L] W fun e w' => ∃ one', e = .returned (.tuple #[.int .i64 (cn t L T' t.length : Int), .int .i64 one']) ∧ RfL t L zs p T' one' ∧ w' = W) := fun W u hW ho =>
              (rLast_any _ _ t (tid (ltS t T')) L W (HR.out.below hW) (ho.rd (by omega)) HWs.out (isF_tid HWs.out)).mono fun e w' ⟨one', h1, h2, h3⟩ => by
                rw [HWs.out.tid_cn] at h1
                exact ⟨one', h1, HSt.out one' h2, h3⟩
            have hcc : (1 : Int) < (cn t L T t.length : Int) := by omega
            clear hp6 hp7 hp3 hp4 hp5 hfo hfr hru c0 c1 hT' HRw hc1
            generalize (cn t L T t.length : Int) = n1 at *
            generalize hn2 : (cn t L T' t.length : Int) = n2 at *
            have HN2 : Hid ((cn t L T' t.length : Int) = n2) := hn2
            clear hn2
            generalize wout (tid (tid (ltS t T))) one = A5 at *
            generalize wout (tid (t.getD p e0).2.2) (-one) = A6 at *
            generalize hC7 : tid (ltS t T') = C7 at *
            have HC7 : Hid (tid (ltS t T') = C7) := hC7
            clear hC7
            generalize (t.getD p e0).2.2.length = rl at *
            go_upto_region 16 with (go_at_call 37; refine HPl.out.mono ?_; rintro e w' ⟨rfl, hw⟩; obtain rfl := hw.symm)
            go_region_held (fun W' => Below wr.heap.size wr W' ∧ W'.cell? ⟨b, off + p * 3 + 2, none⟩ = some (.slice ra rl rc)) (first | exact ⟨(Below.refl _ _).drew, HC2.out _ (Below.refl _ _).drew⟩ | exact ⟨K7.out.1, HC2.out _ K7.out.1⟩ | exact ⟨K6.out.1, HC2.out _ K6.out.1⟩ | exact ⟨K5.out.1, HC2.out _ K5.out.1⟩) (first
              | (go_at_call 39; first
                  | (have k5 := K5.out; refine (HWo2.out _ k5.1).mono ?_; rintro e w6 ⟨v6, rfl, o6, b6⟩; have K6 : Hid (Below wr.heap.size wr w6 ∧ Own w.heap.size w6 v5 A5 ∧ Own w.heap.size w6 v6 A6) := ⟨Below.step k5.1 b6, k5.2.below b6, o6.mono (Nat.le_trans HB.out.size k5.1.size)⟩; clear k5 o6 b6)
                  | (refine (HWo1.out _ (Below.refl _ _).drew).mono ?_; rintro e w5 ⟨v5, rfl, o5, b5⟩; have K5 : Hid (Below wr.heap.size wr w5 ∧ Own w.heap.size w5 v5 A5) := ⟨Below.step (Below.refl _ _).drew b5, o5.mono HB.out.size⟩; clear o5 b5))
              | (go_at_call 38; refine (HJo.out _ _ _ K6.out.2.1 K6.out.2.2).mono ?_; rintro e w7 ⟨v7, rfl, o7, b7⟩; have K7 : Hid (Below wr.heap.size wr w7 ∧ Own w.heap.size w7 v7 C7) := ⟨Below.step K6.out.1 b7, o7.mono (Nat.le_trans HB.out.size K6.out.1.size)⟩; clear o7 b7))
            all_goals
              go_wp2_with (go_at_call 36; refine (HLa.out _ _ (Below.step HB.out K7.out.1) K7.out.2).mono ?_; rintro e w8 ⟨one2, rfl, h8, hw⟩; obtain rfl := hw.symm; have K8 : Hid (RfL t L zs p T' one2) := h8; clear h8)
              go_roundg p
              case measure => exact hp1
              case rel => exact ⟨T', one2, by rw [HN2.out], rfl, by rw [HC7.out]; exact K7.out.2, K8.out, Below.step HB.out K7.out.1⟩
          · have hcn1 : cn t L T t.length = 1 := by have := HF.out.pos; omega
            have hTR : RS t zs = T := by rw [← HF.out.rs]; exact rsv_stop (by omega) gk
            have hEt := HWs.out.end_tid (by rw [← hTR]; exact HRSe.out.2) hcn1 hL HF.out.la
            have HE1' : Hid (lrnB t zs = topI t ((tid (ltS t T)).filter fun x => x != one && decide (0 < lvl t x))) := by
              show _ = _
              rw [HE1.out, hTR, hEt.2]
              exact topI_congr t fun x => ⟨fun h => mem_tid.2 ⟨h, (HWs.out.ltS_fmd (List.mem_filter.1 h).1)⟩, fun h => (mem_tid.1 h).1⟩
            have HE2' : Hid (lrnC t zs = one :: (tid (ltS t T)).filter fun x => x != one && decide (0 < lvl t x)) := by
              show _ = _
              rw [HE2.out, hTR, hEt.2, ← hEt.1]
            have HFc : Hid (∀ x ∈ tid (ltS t T), isF t x = true) := isF_tid HWs.out
            have hcc : ¬ (1 : Int) < (cn t L T t.length : Int) := by omega
            have HRw : Hid (RdE wr (.slice a t.length c) t) := HR.out.below HB.out
            have hws := HB.out.size
            clear HE1 HE2 HF hTR hEt hcn1 hc1
            generalize (cn t L T t.length : Int) = n1 at *
            generalize tid (ltS t T) = C at *
            obtain ⟨i0, hi, hz0, hz1, hz2⟩ := info_parts Try.info3
            obtain ⟨NB, hNB⟩ : ∃ NB, wr.heap.size = NB := ⟨_, rfl⟩
            have HNB : Hid (wr.heap.size = NB) := hNB
            have HO1 : Hid (Own NB (wr.alloc (.cells #[.int .i64 one] 3)) (.slice (some ⟨NB, 0, none⟩) 1 1) [one]) := by rw [← hNB]; exact own_one15 wr one
            have hwN : w.heap.size ≤ NB := by rw [← hNB]; exact hws
            have HB2 : Hid (Below wr.heap.size wr (wr.alloc (.cells #[.int .i64 one] 3))) := below_box _ _
            have HCn : Hid (∀ W, Below wr.heap.size wr W → Rd W (.slice oa C.length oc) C ∧ RdE W (.slice a t.length c) t ∧ Below w.heap.size w W) := fun W hW => ⟨HRc.out.below hW, HRw.out.below hW, Below.step HB.out hW⟩
            go_wp2_with fail
            go_loopg [14, 15, 16] C.length (fun g' u bk i wq => ∃ k : Nat, k + g' = C.length ∧ bk = .int .i64 (topI t ((C.take k).filter fun x => x != one && decide (0 < lvl t x))) ∧ i = .int .i64 k ∧ Hid (Own NB wq u (one :: (C.take k).filter fun x => x != one && decide (0 < lvl t x))) ∧ Hid (Below wr.heap.size wr wq))
            case atStart => exact ⟨0, by omega, rfl, rfl, HO1.out, HB2.out⟩
            case round =>
              obtain ⟨k, hk, rfl, rfl, HQ, HBq⟩ := hrel
              have HK : Hid (k + gk = C.length) := hk
              obtain ⟨hrc, hre, hbw⟩ := HCn.out wr HBq.out
              have HBw : Hid (Below w.heap.size w wr) := hbw
              have hsw := hbw.size
              have hsN : NB ≤ wr.heap.size := by rw [← HNB.out]; exact HBq.out.size
              by_cases hlt : k < C.length
              · obtain ⟨ua', uc', e', _, _, hcell⟩ := hrc.form
                injection e' with q1 q2 q3
                subst q1 q3
                obtain ⟨b2, off2, rfl, hck⟩ := hcell k hlt
                have hmem := getD_mem' (l := C) (k := k) (d := 0) hlt
                have HLv : Hid (Calls Try.prog 35 #[.slice a t.length c, .int .i64 (C.getD k 0)] wr fun e w' => e = .returned (.int .i64 (lvl t (C.getD k 0))) ∧ w' = wr) := by
                  rw [← HWs.out.lvR_lvl (HFc.out _ hmem)]; exact rLevel_any _ t _ wr hre (HWs.out.isF_at (HFc.out _ hmem)).1
                have hfl := List.length_filter_le (fun x => x != one && decide (0 < lvl t x)) (C.take k)
                rw [List.length_take] at hfl
                have HYes := filter_yes (q := fun x => x != one && decide (0 < lvl t x)) hlt
                have HNo := filter_no (q := fun x => x != one && decide (0 < lvl t x)) hlt
                obtain ⟨D, hD⟩ : ∃ D, one :: (C.take k).filter (fun x => x != one && decide (0 < lvl t x)) = D := ⟨_, rfl⟩
                have hDl : D.length ≤ 2097153 := by rw [← hD]; simp; omega
                rw [hD] at HQ
                by_cases hy1 : C.getD k 0 = one
                · have HN : Hid ((C.take (k + 1)).filter (fun x => x != one && decide (0 < lvl t x)) = (C.take k).filter (fun x => x != one && decide (0 < lvl t x))) := HNo (by rw [hy1]; simp)
                  have HD : Hid (one :: (C.take k).filter (fun x => x != one && decide (0 < lvl t x)) = D) := hD
                  rw [hy1] at hck HLv
                  clear hk hcell hmem HYes HNo hD hfl hy1 hrc hre hbw
                  generalize lvl t one = ly at *
                  go_wp2_with (go_at_call 35; refine HLv.out.mono ?_; rintro e w' ⟨rfl, hw⟩; obtain rfl := hw.symm)
                  go_roundg (gk - 1)
                  case measure => have := HK.out; omega
                  case rel => exact ⟨k + 1, by have := HK.out; omega, by rw [HN.out], by go_num, by rw [HN.out, HD.out]; exact HQ.out, HBq.out⟩
                have hyb : (C.getD k 0 != one) = true := by simpa using hy1
                by_cases hy2 : 0 < lvl t (C.getD k 0)
                · have hN := HYes (by rw [hyb, decide_eq_true hy2]; rfl)
                  have HN : Hid (one :: (C.take (k + 1)).filter (fun x => x != one && decide (0 < lvl t x)) = D ++ [C.getD k 0]) := by show _ = _; rw [hN, ← hD]; rfl
                  have HM : Hid (topI t ((C.take (k + 1)).filter fun x => x != one && decide (0 < lvl t x)) = max (topI t ((C.take k).filter fun x => x != one && decide (0 < lvl t x))) (lvl t (C.getD k 0))) := by show _ = _; rw [hN, topI_snoc]
                  clear hk hcell hmem HYes HNo hD hfl hy1 hrc hre hbw hN
                  generalize C.getD k 0 = y at *
                  generalize lvl t y = ly at *
                  generalize topI t ((C.take k).filter fun x => x != one && decide (0 < lvl t x)) = m at *
                  by_cases hgt : m < ly
                  · have HM2 : Hid (topI t ((C.take (k + 1)).filter fun x => x != one && decide (0 < lvl t x)) = ly) := by show _ = _; rw [HM.out]; omega
                    clear HM
                    go_wp2_with (first | (go_at_call 35; refine HLv.out.mono ?_; rintro e w' ⟨rfl, hw⟩; obtain rfl := hw.symm) | (at_builtin; refine wpList_append_own _ rfl _ _ 23 rfl NB 3 i0 (.int .i64 0) 1 8 Try.underlying23 hi hz0 hz1 hz2 rfl (by decide) _ D.length (D.map (Value.int .i64)) rfl (World.ownsRow.alloc HQ.out _) _ 1 1 [.int .i64 y] rfl rfl (cell_one_new _ _ _) (by simp [Value.oneCell']) (by unfold maxLen; omega) (by omega) (by simp; omega) ?_; intro v3 w3 own3 gr3 hn3))
                    go_roundg (gk - 1)
                    case measure => have := HK.out; omega
                    case rel => exact ⟨k + 1, by have := HK.out; omega, by rw [HM2.out], by go_num, by rw [HN.out]; show World.ownsRow _ _ _ _ _ _ _; simpa using own3, (HBq.out.alloc HBq.out.size _).grown gr3 (by have := HBq.out.size; simp; omega) (fun j hj => by rw [HNB.out]; exact (World.ownsRow.lt HQ.out j hj).1)⟩
                  · have HM2 : Hid (topI t ((C.take (k + 1)).filter fun x => x != one && decide (0 < lvl t x)) = m) := by show _ = _; rw [HM.out]; omega
                    clear HM
                    go_wp2_with (first | (go_at_call 35; refine HLv.out.mono ?_; rintro e w' ⟨rfl, hw⟩; obtain rfl := hw.symm) | (at_builtin; refine wpList_append_own _ rfl _ _ 23 rfl NB 3 i0 (.int .i64 0) 1 8 Try.underlying23 hi hz0 hz1 hz2 rfl (by decide) _ D.length (D.map (Value.int .i64)) rfl (World.ownsRow.alloc HQ.out _) _ 1 1 [.int .i64 y] rfl rfl (cell_one_new _ _ _) (by simp [Value.oneCell']) (by unfold maxLen; omega) (by omega) (by simp; omega) ?_; intro v3 w3 own3 gr3 hn3))
                    go_roundg (gk - 1)
                    case measure => have := HK.out; omega
                    case rel => exact ⟨k + 1, by have := HK.out; omega, by rw [HM2.out], by go_num, by rw [HN.out]; show World.ownsRow _ _ _ _ _ _ _; simpa using own3, (HBq.out.alloc HBq.out.size _).grown gr3 (by have := HBq.out.size; simp; omega) (fun j hj => by rw [HNB.out]; exact (World.ownsRow.lt HQ.out j hj).1)⟩
                · have HN : Hid ((C.take (k + 1)).filter (fun x => x != one && decide (0 < lvl t x)) = (C.take k).filter (fun x => x != one && decide (0 < lvl t x))) := HNo (by rw [decide_eq_false hy2]; simp)
                  have HD : Hid (one :: (C.take k).filter (fun x => x != one && decide (0 < lvl t x)) = D) := hD
                  clear hk hcell hmem HYes HNo hD hfl hy1 hrc hre hbw
                  generalize C.getD k 0 = y at *
                  generalize lvl t y = ly at *
                  go_wp2_with (go_at_call 35; refine HLv.out.mono ?_; rintro e w' ⟨rfl, hw⟩; obtain rfl := hw.symm)
                  go_roundg (gk - 1)
                  case measure => have := HK.out; omega
                  case rel => exact ⟨k + 1, by have := HK.out; omega, by rw [HN.out], by go_num, by rw [HN.out, HD.out]; exact HQ.out, HBq.out⟩
              · obtain rfl : k = C.length := by omega
                rw [List.take_length] at HQ ⊢
                have HQ2 : Hid (Own w.heap.size wr u14 (lrnC t zs)) := by rw [HE2'.out]; exact HQ.out.mono hwN
                rw [← HE1'.out]
                clear hk hrc hre hbw
                go_wp2
                go_ret3
                exact ⟨⟨u14, rfl, HQ2.out⟩, HBw.out⟩
end Go.Proofs.Ytgngdohhlhlcpaa
set_option linter.unusedSimpArgs false
set_option linter.unusedVariables false
namespace Go.Proofs.Ytgngdohhlhlcpaa
open Go Go.RowKit
/-- of the entry k: is the opposite of its literal covered, where out says it of the entries ahead? -/
def cvB (t : List Ent) (S : Int → Bool) (out : List Bool) (k : Nat) : Bool := (t.getD k e0).2.2.length != 0 && (t.getD k e0).2.2.all (fun x => x == (t.getD k e0).1 || S x || lvl t x == 0 || out.getD (plN t x) false)
def covN (t : List Ent) (S : Int → Bool) : Nat → List Bool
  | 0 => []
  | k + 1 => covN t S k ++ [cvB t S (covN t S k) k]
def covB (t : List Ent) (S : Int → Bool) (p : Nat) : Bool := (covN t S t.length).getD p false
section
variable {t : List Ent} {S : Int → Bool}
theorem covN_len : ∀ k, (covN t S k).length = k
  | 0 => rfl
  | k + 1 => by rw [covN, List.length_append, covN_len k]; rfl
theorem covN_at : ∀ n p, p < n → (covN t S n).getD p false = cvB t S (covN t S p) p
  | 0, p, h => by omega
  | n + 1, p, h => by
    rw [covN]
    by_cases e : p = n
    · subst e
      rw [List.getD_eq_getElem?_getD, List.getElem?_append_right (by rw [covN_len]; exact Nat.le_refl _), covN_len]; simp
    · rw [List.getD_eq_getElem?_getD, List.getElem?_append_left (by rw [covN_len]; omega), ← List.getD_eq_getElem?_getD]
      exact covN_at n p (by omega)
theorem covB_at {p : Nat} (h : p < t.length) : covB t S p = cvB t S (covN t S p) p := covN_at _ _ h
theorem Ws.cov (h : Ws t) {p : Nat} (hp : p < t.length) : covB t S p = ((t.getD p e0).2.2.length != 0 && (t.getD p e0).2.2.all (fun x => x == (t.getD p e0).1 || S x || lvl t x == 0 || covB t S (plN t x))) := by
  rw [covB_at hp, cvB]
  by_cases hr : (t.getD p e0).2.2.length = 0
  · rw [hr]; rfl
  congr 1
  rw [Bool.eq_iff_iff, List.all_eq_true, List.all_eq_true]
  have key : ∀ x ∈ (t.getD p e0).2.2, (x == (t.getD p e0).1 || S x || lvl t x == 0 || (covN t S p).getD (plN t x) false) = (x == (t.getD p e0).1 || S x || lvl t x == 0 || covB t S (plN t x)) := fun x hx => by
    by_cases e : x = (t.getD p e0).1
    · rw [beq_iff_eq.2 e]; rfl
    · obtain ⟨h1, j, h2, h3⟩ := (h.reason hp hr).2 x hx e
      have h4 := (h.plN_some h1 h3).1
      rw [covN_at p _ (by omega), ← covB_at (by omega)]
  constructor
  · intro q x hx; rw [← key x hx]; exact q x hx
  · intro q x hx; rw [key x hx]; exact q x hx
end
/-- where a number stands first -/
def fsI (c : List Int) (x : Int) : Option Nat := c.findIdx? (fun y => y == x)
theorem fsI_some {c : List Int} {x : Int} : (fsI c x).isSome = c.contains x := by
  unfold fsI
  rw [List.findIdx?_isSome, Bool.eq_iff_iff]
  simp
theorem fsI_more {c : List Int} {k : Nat} (hk : k < c.length) (y : Int) : fsI (c.take (k + 1)) y = if (fsI (c.take k) (c.getD k 0)).isSome then fsI (c.take k) y else upI (fsI (c.take k)) (c.getD k 0) k y := by
  have key : fsI (c.take (k + 1)) y = (fsI (c.take k) y).or (if c.getD k 0 = y then some k else none) := by
    unfold fsI
    rw [take_succ_getD c 0 k hk, List.findIdx?_append]
    simp [Nat.min_eq_left (Nat.le_of_lt hk)]
  rw [key]
  unfold upI
  by_cases q : y = c.getD k 0
  · subst q
    cases e : fsI (c.take k) (c.getD k 0) with
    | some i => simp
    | none => simp
  · rw [if_neg q, if_neg (fun e => q e.symm)]; simp
/-- a map of places has no more entries than there are places -/
theorem Mi.fit {W : World} {g n N : Nat} {T : Int → Option Nat} (h : Mi W g n T) (hT : ∀ q, (T q).isSome = true → 0 ≤ q ∧ q < (N : Int)) : Mi W g N T := by
  obtain ⟨D, ⟨es, clock, hb, F, hs, hD⟩, hh⟩ := h
  refine ⟨D, ⟨es, clock, hb, F, ?_, hD⟩, hh⟩
  have hp := Maps.fit_apart lawI F
  have hk := Maps.fit_keys F
  have key : ∀ p ∈ es.toList.map (WideElems.rg Try.prog 3 (plainElem (H := Unit) Try.prog 3)), ∃ x : Int, p.1 = .int .i64 x ∧ 0 ≤ x ∧ x < (N : Int) := fun p hpm => by
    obtain ⟨v, hv⟩ := hk p hpm
    obtain ⟨x, _, hx, _⟩ := Maps.keyOf_int_inv Try.underlying3 hv
    refine ⟨x, hx, hT x ?_⟩
    rw [← (hh x).1, hD, Maps.has_eq, List.any_eq_true]
    exact ⟨p, mem_sorted.2 hpm, by rw [hx]; simp [Lit.sameKey]⟩
  let f : Lit × DataW Unit → Int := fun p => match p.1 with | .int _ x => x + 1 | _ => 0
  have h1 : ((es.toList.map (WideElems.rg Try.prog 3 (plainElem (H := Unit) Try.prog 3))).map f).Pairwise (fun a b => a ≠ b) := by
    rw [List.pairwise_map]
    refine List.Pairwise.imp_of_mem ?_ hp
    intro a b ha hb' hne e
    obtain ⟨x, hx, _⟩ := key a ha
    obtain ⟨y, hy, _⟩ := key b hb'
    apply hne
    rw [hx, hy]
    have e' : x + 1 = y + 1 := by
      have : f a = f b := e
      simp only [f, hx, hy] at this
      exact this
    rw [show x = y by omega]
  have h2 := len_of_apart N _ h1 (fun x hx => by
    obtain ⟨p, hpm, rfl⟩ := List.mem_map.1 hx
    obtain ⟨y, hy, h3, h4⟩ := key p hpm
    show 1 ≤ f p ∧ f p ≤ _
    simp only [f, hy]
    omega)
  simpa using h2
abbrev gvV (X : Nat) : Value := .func (.func 50) #[] #[.pointer (some ⟨X + 1, 0, none⟩), .pointer (some ⟨X, 0, none⟩)]
abbrev cvV (X : Nat) : Value := .func (.func 51) #[] #[.pointer (some ⟨X + 4, 0, none⟩), .pointer (some ⟨X, 0, none⟩), .pointer (some ⟨X + 2, 0, none⟩), .pointer (some ⟨X + 5, 0, none⟩)]
/-- the coverer in memory: X the reading's box, X + 1 the literals' box, X + 2 given, X + 3 the marks, X + 4 their box, X + 5 covered -/
structure Cv (w0 W : World) (X : Nat) (a : Option Addr) (t : List Ent) (c g gs ns : Nat) (cl : List Int) (M : Int → Option Nat) : Prop where
  rz0 : Rz w0 a t c g t
  st0 : Mi w0 gs ns (fsI cl)
  eX : w0.heap.size = X
  bel : Below X w0 W
  box : Bx2 W X 51 (.slice a t.length c) (.map (some g))
  sb : Bo1 W (X + 1) 49 (.map (some gs))
  gf : Bo1 W (X + 2) 61 (gvV X)
  mb : Bo1 W (X + 4) 49 (.map (some (X + 3)))
  cf : Bo1 W (X + 5) 61 (cvV X)
  ms : Mi W (X + 3) t.length M
section
variable {w0 W W' : World} {X : Nat} {a : Option Addr} {t : List Ent} {c g gs ns : Nat} {cl : List Int} {M M' : Int → Option Nat}
theorem Cv.rz (h : Cv w0 W X a t c g gs ns cl M) : Rz W a t c g t := h.rz0.below (by rw [h.eX]; exact h.bel)
theorem Cv.st (h : Cv w0 W X a t c g gs ns cl M) : Mi W gs ns (fsI cl) := h.st0.below (by rw [h.eX]; exact h.bel)
theorem Cv.below (h : Cv w0 W X a t c g gs ns cl M) (hb : Below W.heap.size W W') : Cv w0 W' X a t c g gs ns cl M :=
  ⟨h.rz0, h.st0, h.eX, h.bel.trans (hb.mono (Nat.le_of_lt h.box.lt)), h.box.below hb, h.sb.below hb, h.gf.below hb, h.mb.below hb, h.cf.below hb, h.ms.below hb⟩
theorem Cv.mark (h : Cv w0 W X a t c g gs ns cl M) (p m : Nat) (hp : p < t.length) (hm : m ≤ 2) (hM : ∀ q, (M q).isSome = true → 0 ≤ q ∧ q < (t.length : Int)) : ∃ w', (Instr.mapUpdate 49 (.map (some (X + 3))) (.int .i64 (p : Int)) (.int .i64 (m : Int))).run Try.prog W = .ok () w' ∧ Cv w0 w' X a t c g gs ns cl (upI M (p : Int) m) ∧ W.grownBy w' (some (X + 3)) := by
  have hb := h.rz.bnd
  obtain ⟨w', r1, r2, r3⟩ := h.ms.put (x := (p : Int)) (by omega) (by omega) (by unfold maxLen; omega) m (by omega)
  refine ⟨w', r1, ⟨h.rz0, h.st0, h.eX, h.bel.grown r3 (Nat.le_of_lt h.box.lt) (fun k hk => by cases hk; omega), h.box.kept r3 (by simp), h.sb.kept r3 (by simp), h.gf.kept r3 (by simp), h.mb.kept r3 (by simp), h.cf.kept r3 (by simp), r2.fit fun q hq => ?_⟩, r3⟩
  unfold upI at hq
  split at hq
  · rename_i e; subst e; omega
  · exact hM q hq
end
end Go.Proofs.Ytgngdohhlhlcpaa
set_option linter.unusedSimpArgs false
set_option linter.unusedVariables false
namespace Go.Proofs.Ytgngdohhlhlcpaa
open Go Go.RowKit
/-- the state of the loop of firsts -/
structure FsL (w wr : World) (X : Nat) (zs : List Int) (k : Nat) : Prop where
  ms : Mi wr X k (fsI (zs.take k))
  bel : Below X w wr
theorem FsL.more {w wr : World} {X : Nat} {zs : List Int} {k : Nat} (h : FsL w wr X zs k) (hX : X < wr.heap.size) (hk : k < zs.length) (hb : k < 1000000000000000) (h1 : -9223372036854775808 ≤ zs.getD k 0) (h2 : zs.getD k 0 ≤ 9223372036854775807) (hn : (fsI (zs.take k) (zs.getD k 0)).isSome = false) :
    ∃ w', (Instr.mapUpdate 49 (.map (some X)) (.int .i64 (zs.getD k 0)) (.int .i64 (k : Int))).run Try.prog wr = .ok () w' ∧ FsL w w' X zs (k + 1) := by
  obtain ⟨w', r1, r2, r3⟩ := h.ms.put h1 h2 (by unfold maxLen; omega) k (by omega)
  have e : upI (fsI (zs.take k)) (zs.getD k 0) k = fsI (zs.take (k + 1)) := by
    funext y
    rw [fsI_more hk y, hn]; rfl
  exact ⟨w', r1, ⟨by rw [← e]; exact r2, h.bel.grown r3 (Nat.le_of_lt hX) (fun j hj => by cases hj; exact Nat.le_refl _)⟩⟩
set_option maxRecDepth 100000 in
set_option maxHeartbeats 3200000 in
theorem firsts_any (vc : Value) (zs : List Int) (w : World) (hz : Rd w vc zs) (hf : zs.all fmd = true) :
    Calls Try.prog 27 #[vc] w fun e w' => e = .returned (.map (some w.heap.size)) ∧ Mi w' w.heap.size zs.length (fsI zs) ∧ Below w.heap.size w w' := by
  have hl := hz.len
  have HZ : Hid (Rd w vc zs) := hz
  obtain ⟨ua, uc, rfl, huc, hum, _⟩ := hz.form
  obtain ⟨X, hX⟩ : ∃ X, w.heap.size = X := ⟨_, rfl⟩
  have HFm : Hid (∀ x ∈ zs, fmd x = true) := List.all_eq_true.1 hf
  obtain ⟨w1, hw1⟩ : ∃ w1, w.alloc (.map #[] 0) = w1 := ⟨_, rfl⟩
  have HS : Hid (FsL w w1 X zs 0) := by
    rw [← hw1, ← hX]
    exact ⟨Mi.made w, below_box _ _⟩
  have hmake : (Instr.makeMap 49 (some (.int .i64 (zs.length : Int)))).run Try.prog w = .ok (.map (some X)) w1 := by rw [← hw1, ← hX]; simp [Instr.makeMap, run_underlying Try.underlying49, asInt, asIntOf, Result.andThen]
  rw [hX]
  clear hz hf hw1
  go_enter Try.func27, Try.ntmps27
  go_wp2_with fail
  go_loopg [13] zs.length (fun g' i wr => ∃ k : Nat, k + g' = zs.length ∧ i = .int .i64 k ∧ Hid (FsL w wr X zs k))
  case atStart => exact ⟨0, by omega, rfl, HS.out⟩
  case round =>
    obtain ⟨k, hk, rfl, HL⟩ := hrel
    have HK : Hid (k + gk = zs.length) := hk
    by_cases hlt : k < zs.length
    · obtain ⟨ua', uc', e', _, _, hcell⟩ := (HZ.out.below (by rw [hX]; exact HL.out.bel)).form
      injection e' with q1 q2 q3
      subst q1 q3
      obtain ⟨b2, off2, rfl, hck⟩ := hcell k hlt
      have hr := fmd_range (HFm.out _ (getD_mem' (l := zs) (k := k) (d := 0) hlt))
      have hlk := HL.out.ms.look (x := zs.getD k 0) (by omega) (by omega)
      have hXl := HL.out.ms.lt
      cases hn : (fsI (zs.take k) (zs.getD k 0)).isSome
      · obtain ⟨w5, hrun5, h5⟩ := HL.out.more hXl hlt (by omega) (by omega) (by omega) hn
        have H5 : Hid (FsL w w5 X zs (k + 1)) := h5
        rw [hn] at hlk
        clear hk hcell hr h5 hn
        generalize (fsI (zs.take k) (zs.getD k 0)).getD 0 = fv at *
        generalize zs.getD k 0 = y at *
        go_wp2_with fail
        go_roundg (gk - 1)
        case measure => have := HK.out; omega
        case rel => exact ⟨k + 1, by have := HK.out; omega, by go_num, H5.out⟩
      · have H5 : Hid (FsL w wr X zs (k + 1)) := by
          have e : fsI (zs.take (k + 1)) = fsI (zs.take k) := by
            funext y
            rw [fsI_more hlt y, hn]; rfl
          obtain ⟨D, d1, d2⟩ := HL.out.ms
          exact ⟨by rw [e]; exact ⟨D, d1.mono (by omega), d2⟩, HL.out.bel⟩
        rw [hn] at hlk
        clear hk hcell hr hn
        generalize (fsI (zs.take k) (zs.getD k 0)).getD 0 = fv at *
        generalize zs.getD k 0 = y at *
        go_wp2_with fail
        go_roundg (gk - 1)
        case measure => have := HK.out; omega
        case rel => exact ⟨k + 1, by have := HK.out; omega, by go_num, H5.out⟩
    · obtain rfl : k = zs.length := by omega
      have HE : Hid (Mi wr X zs.length (fsI zs)) := by have := HL.out.ms; rw [List.take_length] at this; exact this
      clear hk
      go_wp2_with fail
      go_ret
      exact ⟨rfl, HE.out, HL.out.bel⟩
end Go.Proofs.Ytgngdohhlhlcpaa
set_option linter.unusedSimpArgs false
set_option linter.unusedVariables false
namespace Go.Proofs.Ytgngdohhlhlcpaa
open Go Go.RowKit
theorem infoB15 : (Try.prog.info? 4).map (fun i => (i.zero, i.size, i.bytes)) = some (some (.bool false), 1, 1) := by kernel_rfl
/-- a row of bools that a call owns -/
def OwnBl (B : Nat) (W : World) (v : Value) (bs : List Bool) : Prop := W.ownsRow B 4 1 v bs.length (bs.map Value.bool)
theorem OwnBl.below {B : Nat} {W W' : World} {v : Value} {bs : List Bool} (h : OwnBl B W v bs) (hb : Below W.heap.size W W') : OwnBl B W' v bs := World.ownsRow.kept h (grown_below hb) (one_or _)
theorem OwnBl.form {B : Nat} {W : World} {v : Value} {bs : List Bool} (h : OwnBl B W v bs) : ∃ a c, v = .slice a bs.length c ∧ bs.length ≤ c ∧ c ≤ maxLen ∧ ∀ k, k < bs.length → ∃ b, a = some ⟨b, 0, none⟩ ∧ b < W.heap.size ∧ W.cell? ⟨b, k, none⟩ = some (.bool (bs.getD k false)) := by
  rcases h.2 with ⟨rfl, hn⟩ | ⟨g, cap, cur, rfl, hg, hh, hn, hm, hs, ht⟩
  · exact ⟨none, 0, by rw [hn], by omega, Nat.zero_le _, fun k hk => by omega⟩
  · refine ⟨_, cap, rfl, hn, hm, fun k hk => ⟨g, rfl, (Array.getElem?_eq_some_iff.1 hh).1, ?_⟩⟩
    rw [World.ownsRow.cellAt h _ (by omega)]
    simp [List.getD_eq_getElem?_getD, hk]
/-- the entry's answer so far -/
def cvK (t : List Ent) (S : Int → Bool) (out : List Bool) (k j : Nat) : Bool := (t.getD k e0).2.2.length != 0 && ((t.getD k e0).2.2.take j).all (fun x => x == (t.getD k e0).1 || S x || lvl t x == 0 || out.getD (plN t x) false)
set_option maxRecDepth 100000 in
set_option maxHeartbeats 6400000 in
theorem rCovered_any (v vc : Value) (t : List Ent) (cl : List Int) (w : World) (hr : RdE w v t) (hz : Rd w vc cl) (hw : Ws t) :
    Calls Try.prog 40 #[v, vc] w fun e w' => ∃ u, e = .returned u ∧ OwnBl w.heap.size w' u (covN t (fun x => cl.contains x) t.length) ∧ Below w.heap.size w w' := by
  have hl := hr.len
  have hlz := hz.len
  have HR : Hid (RdE w v t) := hr
  have HZ : Hid (Rd w vc cl) := hz
  have HWs : Hid (Ws t) := hw
  obtain ⟨a, c, rfl, hc, hm, _⟩ := hr.form
  obtain ⟨i0, hi, hz0, hz1, hz2⟩ := info_parts infoB15
  clear hr hz hw
  go_enter Try.func40, Try.ntmps40
  go_wp2_with fail
  go_loopg [5, 6] t.length (fun g' u i wr => ∃ k : Nat, k + g' = t.length ∧ i = .int .i64 k ∧ Hid (OwnBl w.heap.size wr u (covN t (fun x => cl.contains x) k)) ∧ Hid (Below w.heap.size w wr))
  case atStart => exact ⟨0, by omega, rfl, World.ownsRow_nil _ _ _ _, Below.refl _ _⟩
  case round =>
    obtain ⟨k, hk, rfl, HO, HB⟩ := hrel
    have HK : Hid (k + gk = t.length) := hk
    obtain ⟨oa, oc, hu, hoc, hom, hocell⟩ := HO.out.form
    subst hu
    rw [covN_len] at hoc
    have hcn : (covN t (fun x => cl.contains x) k).length = k := covN_len k
    rw [hcn] at hocell ⊢
    have HOk : Hid (OwnBl w.heap.size wr (.slice oa k oc) (covN t (fun x => cl.contains x) k)) := by have := HO.out; rw [hcn] at this; exact this
    by_cases hlt : k < t.length
    · have HRw : Hid (RdE wr (.slice a t.length c) t) := HR.out.below HB.out
      have HZw : Hid (Rd wr vc cl) := HZ.out.below HB.out
      obtain ⟨b, off, u, rfl, hbl, c0, c1, c2, hru⟩ := HRw.out.at hlt
      obtain ⟨ra, rc, rfl, hrc, hrm, hrcell⟩ := hru.form
      have hlr := hru.len
      have HCr : Hid (∀ j, j < (t.getD k e0).2.2.length → ∃ b off, ra = some ⟨b, off, none⟩ ∧ wr.cell? ⟨b, off + j, none⟩ = some (.int .i64 ((t.getD k e0).2.2.getD j 0))) := hrcell
      have HCo : Hid (∀ j, j < k → ∃ b, oa = some ⟨b, 0, none⟩ ∧ b < wr.heap.size ∧ wr.cell? ⟨b, j, none⟩ = some (.bool ((covN t (fun x => cl.contains x) k).getD j false))) := hocell
      have HFl : Hid (∀ x ∈ (t.getD k e0).2.2, x ≠ (t.getD k e0).1 → isF t x = true ∧ plN t x < k) := fun x hx hne => HWs.out.rOth_at hlt (List.mem_filter.2 ⟨hx, by simpa using hne⟩)
      have hfl := HWs.out.lit hlt
      have hgt : (0 : Int) < ((t.getD k e0).2.2.length : Int) ↔ ¬ (t.getD k e0).2.2.length = 0 := by omega
      have hcov : covN t (fun x => cl.contains x) (k + 1) = covN t (fun x => cl.contains x) k ++ [cvK t (fun x => cl.contains x) (covN t (fun x => cl.contains x) k) k (t.getD k e0).2.2.length] := by
        rw [covN]; unfold cvB cvK; rw [List.take_length]
      have HCov : Hid (covN t (fun x => cl.contains x) (k + 1) = covN t (fun x => cl.contains x) k ++ [cvK t (fun x => cl.contains x) (covN t (fun x => cl.contains x) k) k (t.getD k e0).2.2.length]) := hcov
      have hk0 : cvK t (fun x => cl.contains x) (covN t (fun x => cl.contains x) k) k 0 = decide (0 < (t.getD k e0).2.2.length) := by
        unfold cvK
        rw [List.take_zero, List.all_nil, Bool.and_true]
        by_cases e : (t.getD k e0).2.2.length = 0
        · rw [e]; rfl
        · rw [decide_eq_true (by omega)]; simpa using e
      have HKm : Hid (∀ j, j < (t.getD k e0).2.2.length → cvK t (fun x => cl.contains x) (covN t (fun x => cl.contains x) k) k (j + 1) = (cvK t (fun x => cl.contains x) (covN t (fun x => cl.contains x) k) k j && ((t.getD k e0).2.2.getD j 0 == (t.getD k e0).1 || cl.contains ((t.getD k e0).2.2.getD j 0) || lvl t ((t.getD k e0).2.2.getD j 0) == 0 || (covN t (fun x => cl.contains x) k).getD (plN t ((t.getD k e0).2.2.getD j 0)) false))) := fun j hj => by
        unfold cvK
        rw [all_more _ _ j hj, Bool.and_assoc]
      have HK0 : Hid (cvK t (fun x => cl.contains x) (covN t (fun x => cl.contains x) k) k 0 = decide (0 < (t.getD k e0).2.2.length)) := hk0
      have hfd : wr.cell? ⟨b, off + k * 3, none⟩ = some (.int .i64 (t.getD k e0).1) := c0
      clear hk hrcell hocell hru c1 hcov hgt hk0 c0
      generalize hrs : (t.getD k e0).2.2 = rs at *
      generalize hlt' : (t.getD k e0).1 = lt at *
      generalize cvK t (fun x => cl.contains x) (covN t (fun x => cl.contains x) k) k = CK at *
      clear hrs hlt'
      have HOk2 : Hid (OwnBl w.heap.size wr (.slice oa k oc) (covN t (fun x => cl.contains x) k)) := HOk.out
      have HBw : Hid (Below w.heap.size w wr) := HB.out
      have hws := HB.out.size
      go_wp2_with fail
      go_loopg [7, 8] rs.length (fun g' y j wq => ∃ q : Nat, q + g' = rs.length ∧ y = .bool (CK q) ∧ j = .int .i64 q ∧ wq = wr)
      case atStart => exact ⟨0, by omega, by rw [HK0.out], rfl, rfl⟩
      case round =>
        obtain ⟨q, hq, rfl, rfl, hwq⟩ := hrel
        subst hwq
        have HKq : Hid (q + gk = rs.length) := hq
        by_cases hlq : q < rs.length
        · obtain ⟨b3, off3, rfl, hck⟩ := HCr.out q hlq
          have hmem := getD_mem' (l := rs) (k := q) (d := 0) hlq
          have hC1 := HKm.out q hlq
          by_cases he : rs.getD q 0 = lt
          · have HC1 : Hid (CK (q + 1) = CK q) := by show _ = _; rw [hC1, he]; simp
            have HPl : Hid (Calls Try.prog 37 #[.slice (some ⟨b, off, none⟩) t.length c, .int .i64 lt] wr fun e w' => e = .returned (.int .i64 (plI t lt)) ∧ w' = wr) := rPlace_any _ t _ _ HRw.out hfl
            have HHi : Hid (Calls Try.prog 41 #[vc, .int .i64 lt] wr fun e w' => e = .returned (.bool (cl.contains lt)) ∧ w' = wr) := hasInt15_any _ _ _ _ HZw.out
            rw [he] at hck
            clear hq hmem hC1 he
            generalize plI t lt = pi at *
            go_wp2_with (first | (go_at_call 37; refine HPl.out.mono ?_; rintro e w' ⟨rfl, hw⟩; obtain rfl := hw.symm) | (go_at_call 41; refine HHi.out.mono ?_; rintro e w' ⟨rfl, hw⟩; obtain rfl := hw.symm))
            go_roundg (gk - 1)
            case measure => have := HKq.out; omega
            case rel => exact ⟨q + 1, by have := HKq.out; omega, by rw [HC1.out], by go_num, rfl⟩
          · obtain ⟨hF, hpk⟩ := HFl.out _ hmem he
            obtain ⟨hfo, hpl, _, hlv, hplc⟩ := HWs.out.isF_at hF
            have hpI := plI_plN HWs.out hF
            have HPl : Hid (Calls Try.prog 37 #[.slice (some ⟨b, off, none⟩) t.length c, .int .i64 (rs.getD q 0)] wr fun e w' => e = .returned (.int .i64 (plN t (rs.getD q 0) : Int)) ∧ w' = wr) := by rw [← hpI]; exact rPlace_any _ t _ _ HRw.out hfo
            have HHi : Hid (Calls Try.prog 41 #[vc, .int .i64 (rs.getD q 0)] wr fun e w' => e = .returned (.bool (cl.contains (rs.getD q 0))) ∧ w' = wr) := hasInt15_any _ _ _ _ HZw.out
            obtain ⟨bq, offq, uq, eq1, _, _, cq1, _, _⟩ := HRw.out.at hpl
            injection eq1 with eq1
            injection eq1 with eb eo
            subst eb eo
            have hlvq : (t.getD (plN t (rs.getD q 0)) e0).2.1 = lvl t (rs.getD q 0) := hlv.symm
            rw [hlvq] at cq1
            obtain ⟨bo, hoa, hbo, hco⟩ := HCo.out _ hpk
            have hge := HWs.out.lvl_range (rs.getD q 0)
            have heb : (rs.getD q 0 == lt) = false := by simpa using he
            rw [heb, Bool.false_or] at hC1
            subst hoa
            clear hq hmem he hF hfo hlv hplc hpI hlvq
            generalize plN t (rs.getD q 0) = px at *
            generalize lvl t (rs.getD q 0) = lx at *
            generalize rs.getD q 0 = y at *
            have hpn : ¬ (px : Int) < 0 := by omega
            have hpm : ¬ (k : Int) ≤ (px : Int) := by omega
            by_cases hl0 : lx = 0
            · have HC1 : Hid (CK (q + 1) = CK q) := by show _ = _; rw [hC1, beq_iff_eq.2 hl0]; simp
              subst hl0
              clear hC1
              go_wp2_with (first | (go_at_call 37; refine HPl.out.mono ?_; rintro e w' ⟨rfl, hw⟩; obtain rfl := hw.symm) | (go_at_call 41; refine HHi.out.mono ?_; rintro e w' ⟨rfl, hw⟩; obtain rfl := hw.symm))
              go_roundg (gk - 1)
              case measure => have := HKq.out; omega
              case rel => exact ⟨q + 1, by have := HKq.out; omega, by rw [HC1.out], by go_num, rfl⟩
            · have hlp : 0 < lx := by omega
              rw [beq_eq_false_iff_ne.2 hl0, Bool.or_false] at hC1
              generalize cl.contains y = cy at *
              generalize (covN t (fun x => cl.contains x) k).getD px false = oy at *
              cases cy
              · cases oy
                · have HC1 : Hid (CK (q + 1) = false) := by show _ = _; rw [hC1]; simp
                  clear hC1
                  go_wp2_with (first | (go_at_call 37; refine HPl.out.mono ?_; rintro e w' ⟨rfl, hw⟩; obtain rfl := hw.symm) | (go_at_call 41; refine HHi.out.mono ?_; rintro e w' ⟨rfl, hw⟩; obtain rfl := hw.symm))
                  go_roundg (gk - 1)
                  case measure => have := HKq.out; omega
                  case rel => exact ⟨q + 1, by have := HKq.out; omega, by rw [HC1.out], by go_num, rfl⟩
                · have HC1 : Hid (CK (q + 1) = CK q) := by show _ = _; rw [hC1]; simp
                  clear hC1
                  go_wp2_with (first | (go_at_call 37; refine HPl.out.mono ?_; rintro e w' ⟨rfl, hw⟩; obtain rfl := hw.symm) | (go_at_call 41; refine HHi.out.mono ?_; rintro e w' ⟨rfl, hw⟩; obtain rfl := hw.symm))
                  go_roundg (gk - 1)
                  case measure => have := HKq.out; omega
                  case rel => exact ⟨q + 1, by have := HKq.out; omega, by rw [HC1.out], by go_num, rfl⟩
              · have HC1 : Hid (CK (q + 1) = CK q) := by show _ = _; rw [hC1]; simp
                clear hC1
                go_wp2_with (first | (go_at_call 37; refine HPl.out.mono ?_; rintro e w' ⟨rfl, hw⟩; obtain rfl := hw.symm) | (go_at_call 41; refine HHi.out.mono ?_; rintro e w' ⟨rfl, hw⟩; obtain rfl := hw.symm))
                go_roundg (gk - 1)
                case measure => have := HKq.out; omega
                case rel => exact ⟨q + 1, by have := HKq.out; omega, by rw [HC1.out], by go_num, rfl⟩
        · obtain rfl : q = rs.length := by omega
          clear hq
          go_wp2_with (at_builtin; refine wpList_append_own _ rfl _ _ 75 rfl w.heap.size 4 i0 (.bool false) 1 1 Try.underlying75 hi hz0 hz1 hz2 rfl (by decide) _ (covN t (fun x => cl.contains x) k).length ((covN t (fun x => cl.contains x) k).map Value.bool) rfl (World.ownsRow.alloc HOk2.out _) _ 1 1 [.bool (CK rs.length)] rfl rfl (cell_one_new _ _ _) (by simp [Value.oneCell']) (by unfold maxLen; omega) (by omega) (by simp; omega) ?_; intro v3 w3 own3 gr3 hn3)
          go_roundg (t.length - (k + 1))
          case measure => have := HK.out; omega
          case rel =>
            refine ⟨k + 1, by omega, by go_num, ?_, (HBw.out.alloc hws _).grown gr3 (by simp; omega) (fun j hj => (World.ownsRow.lt HOk2.out j hj).1)⟩
            show OwnBl _ _ _ _
            rw [HCov.out]
            show World.ownsRow _ _ _ _ _ _ _
            simpa using own3
    · obtain rfl : k = t.length := by omega
      clear hk
      go_wp2_with fail
      go_ret
      exact ⟨_, rfl, HOk.out, HB.out⟩
end Go.Proofs.Ytgngdohhlhlcpaa

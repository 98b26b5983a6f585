/-
  learn, pure: the document's way of learning, by lists.
  KEEP: len below nil form rd mono one more grown lt size cell some none of ofNat add out step row get at mk new made look put del kept drew alloc has same other map rde take lit lev lstB pre ws cells bnd on start app set box bel rz tidy ms reason c f
-/
import Derived.Test.YtkchabdlpeifjaaLnV
set_option linter.unusedSimpArgs false
set_option linter.unusedVariables false
namespace Go.Proofs.Ytkchabdlpeifjaa
open Go
theorem cn_filter (t : List Ent) (L : Int) (T : Int → Bool) : ∀ n, cn t L T n = ((List.range n).filter fun (p : Nat) => T (p : Int) && lvP t p == L).length
  | 0 => rfl
  | n + 1 => by
    unfold cn
    rw [List.range_succ, List.filter_append, List.length_append, cn_filter t L T n]
    congr 1
    rw [List.filter_cons, List.filter_nil]
    by_cases e : (T (n : Int) && lvP t n == L) = true
    · rw [if_pos e, if_pos e]; rfl
    · rw [if_neg e, if_neg e]; rfl
section
variable {t : List Ent} {L : Int} {T : Int → Bool}
theorem Ws.ltS_nodup (h : Ws t) (T : Int → Bool) : (ltS t T).Nodup := by
  unfold ltS
  have hn : ((List.range t.length).filter fun (p : Nat) => T (p : Int)).Nodup := List.nodup_range.filter _
  unfold List.Nodup
  rw [List.pairwise_map]
  refine List.Pairwise.imp_of_mem ?_ hn
  intro p q hp hq hne e
  have h1 := List.mem_range.1 (List.mem_filter.1 hp).1
  have h2 := List.mem_range.1 (List.mem_filter.1 hq).1
  exact hne (h.opP_inj h1 h2 e)
theorem Ws.ltS_fmd (h : Ws t) {x : Int} (hx : x ∈ ltS t T) : fmd x = true := by
  obtain ⟨p, h1, _, rfl⟩ := ltS_mem.1 hx
  exact (h.opP_at h1).1
theorem tid_nodup (zs : List Int) : (tid zs).Nodup := (tid_rising zs).imp fun {a b} h e => by subst e; omega
theorem Ws.tid_ltS (h : Ws t) {x : Int} : x ∈ tid (ltS t T) ↔ ∃ p : Nat, p < t.length ∧ T (p : Int) = true ∧ opP t p = x := by
  rw [mem_tid]
  constructor
  · rintro ⟨h1, _⟩; exact ltS_mem.1 h1
  · intro h1; exact ⟨ltS_mem.2 h1, h.ltS_fmd (ltS_mem.2 h1)⟩
/-- how many of level L -/
theorem Ws.tid_cn (h : Ws t) : ((tid (ltS t T)).filter fun x => lvl t x == L).length = cn t L T t.length := by
  have hp : (tid (ltS t T)).Perm (ltS t T) := (List.perm_ext_iff_of_nodup (tid_nodup _) (h.ltS_nodup T)).2 fun x => by
    rw [mem_tid]; exact ⟨fun q => q.1, fun q => ⟨q, h.ltS_fmd q⟩⟩
  rw [(hp.filter _).length_eq, cn_filter]
  unfold ltS
  rw [List.filter_map, List.length_map, List.filter_filter]
  congr 1
  refine List.filter_congr fun p hpr => ?_
  show (lvl t (opP t p) == L && T (p : Int)) = _
  rw [h.lvl_opP (List.mem_range.1 hpr), Bool.and_comm]
/-- the last of level L -/
structure LastP (t : List Ent) (L : Int) (c : List Int) (one : Int) : Prop where
  has : one ∈ c
  lv : lvl t one = L
  max : ∀ y ∈ c, lvl t y = L → plN t y ≤ plN t one
theorem Ws.last_at (h : Ws t) {one : Int} {k : Nat} (hi : Iv t L k T) (hl : LastP t L (tid (ltS t T)) one) : ∃ p : Nat, p < k ∧ p < t.length ∧ T (p : Int) = true ∧ opP t p = one ∧ plN t one = p ∧ lvP t p = L ∧ ∀ q : Nat, p < q → q < k → T (q : Int) = false := by
  obtain ⟨p, h1, h2, h3⟩ := h.tid_ltS.1 hl.has
  have h4 := (h.opP_at h1).2.2
  rw [h3] at h4
  have h5 : lvP t p = L := by rw [← h.lvl_opP h1, h3]; exact hl.lv
  refine ⟨p, by have := hi.bnd _ h2; omega, h1, h2, h3, h4, h5, fun q hq hqk => ?_⟩
  cases e : T (q : Int) with
  | false => rfl
  | true =>
    have hql : q < t.length := by have := hi.le; omega
    have h6 := lvP_rise h hql (Nat.le_of_lt hq)
    have h7 := hi.lev q e
    have h8 := hl.max (opP t q) (h.tid_ltS.2 ⟨q, hql, e, rfl⟩) (by rw [h.lvl_opP hql]; omega)
    rw [(h.opP_at hql).2.2, h4] at h8
    omega
/-- one step, in lists -/
theorem Ws.step_tid (h : Ws t) {p : Nat} (hp : p < t.length) (hT : ∀ q, T q = true → 0 ≤ q ∧ q < (t.length : Int)) : tid ((tid (ltS t T)).filter (fun x => x != opP t p) ++ (tid (t.getD p e0).2.2).filter (fun x => x != (t.getD p e0).1)) = tid (ltS t (adS t (outS T (p : Int)) (rOth t p))) := by
  refine tid_congr fun x hx => ?_
  rw [List.mem_append, List.mem_filter, List.mem_filter, h.tid_ltS, mem_tid, ltS_mem]
  constructor
  · rintro (⟨⟨q, q1, q2, rfl⟩, q3⟩ | ⟨⟨q1, _⟩, q3⟩)
    · have hne : q ≠ p := fun e => by subst e; simp at q3
      refine ⟨q, q1, (adS_mem t _ _ _).2 (.inl ?_), rfl⟩
      unfold outS
      rw [q2, show ((q : Int) != (p : Int)) = true by simp; omega]; rfl
    · have hm : x ∈ rOth t p := List.mem_filter.2 ⟨q1, q3⟩
      obtain ⟨h1, h2⟩ := h.rOth_at hp hm
      obtain ⟨_, h4, h5, _⟩ := h.isF_at h1
      exact ⟨plN t x, h4, (adS_mem t _ _ _).2 (.inr ⟨x, hm, rfl⟩), h5⟩
  · rintro ⟨q, q1, q2, q3⟩
    rcases (adS_mem t _ _ _).1 q2 with q4 | ⟨y, q4, q5⟩
    · unfold outS at q4
      rw [Bool.and_eq_true, bne_iff_ne] at q4
      refine .inl ⟨⟨q, q1, q4.2, q3⟩, ?_⟩
      rw [← q3, bne_iff_ne]
      exact fun e => q4.1 (by rw [h.opP_inj q1 hp e])
    · obtain ⟨h1, h2⟩ := h.rOth_at hp q4
      obtain ⟨_, h4, h5, _⟩ := h.isF_at h1
      have : plN t y = q := by omega
      rw [this, q3] at h5
      subst h5
      have := List.mem_filter.1 q4
      exact .inr ⟨⟨this.1, hx⟩, this.2⟩
theorem T0_tid (h : Ws t) {zs : List Int} (hf : falB t zs = true) : tid zs = tid (ltS t (T0 t zs)) := by
  unfold falB at hf
  rw [List.all_eq_true] at hf
  refine tid_congr fun x hx => ?_
  rw [ltS_mem]
  constructor
  · intro hm
    obtain ⟨_, h4, h5, _⟩ := h.isF_at (hf x hm)
    exact ⟨plN t x, h4, (adS_mem t _ _ _).2 (.inr ⟨x, hm, rfl⟩), h5⟩
  · rintro ⟨p, h1, h2, rfl⟩
    rcases (adS_mem t _ _ _).1 h2 with q | ⟨y, q1, q2⟩
    · cases q
    · obtain ⟨_, _, h5, _⟩ := h.isF_at (hf y q1)
      have : plN t y = p := by omega
      rw [this] at h5
      rw [h5]; exact q1
/-- the end, in lists -/
theorem Ws.end_tid (h : Ws t) (hi : Iv t L t.length T) (hc : cn t L T t.length = 1) (hL : L ≠ 0) {one : Int} (hl : LastP t L (tid (ltS t T)) one) : one = oneL t L T ∧ (tid (ltS t T)).filter (fun x => x != one && decide (0 < lvl t x)) = tid (othL t L T) := by
  have e1 := (Pr.fin (left := fun _ => false) (O := othL t L T) (C := [one]) ⟨fun q hq => (by cases hq), fun x => ?_, fun x => ?_, (by simp)⟩ h (fun _ => rfl) hc).1
  · have e2 : one = oneL t L T := by simpa using e1
    refine ⟨e2, ?_⟩
    refine rising_unique ((tid_rising _).filter _) (tid_rising _) fun x => ?_
    rw [List.mem_filter, h.tid_ltS, mem_tid]
    unfold othL
    rw [List.mem_filter, ltS_mem]
    constructor
    · rintro ⟨⟨p, h1, h2, rfl⟩, h3⟩
      rw [h.lvl_opP h1] at h3 ⊢
      rw [Bool.and_eq_true, bne_iff_ne, decide_eq_true_eq] at h3
      refine ⟨⟨⟨p, h1, h2, rfl⟩, ?_⟩, (h.opP_at h1).1⟩
      rw [Bool.and_eq_true, bne_iff_ne, bne_iff_ne]
      refine ⟨by omega, fun e => h3.1 ?_⟩
      obtain ⟨q, _, q1, q2, q3, _, q5, _⟩ := h.last_at hi hl
      rw [← q3, cn_one t L T t.length hc h1 q1 h2 q2 e q5]
    · rintro ⟨⟨⟨p, h1, h2, rfl⟩, h3⟩, _⟩
      rw [h.lvl_opP h1] at h3 ⊢
      rw [Bool.and_eq_true, bne_iff_ne, bne_iff_ne] at h3
      refine ⟨⟨p, h1, h2, rfl⟩, ?_⟩
      rw [Bool.and_eq_true, bne_iff_ne, decide_eq_true_eq]
      refine ⟨fun e => h3.2 ?_, ?_⟩
      · rw [← h.lvl_opP h1, e]; exact hl.lv
      · have := (h.lev p h1).1
        have e : lvP t p = (t.getD p e0).2.1 := rfl
        omega
  · unfold othL
    rw [List.mem_filter, ltS_mem]
    constructor
    · rintro ⟨⟨p, h1, h2, rfl⟩, h3⟩
      rw [h.lvl_opP h1] at h3
      simp at h3
      exact ⟨p, h1, h2, rfl, h3.1, h3.2, rfl⟩
    · rintro ⟨p, h1, h2, _, h3, h4, rfl⟩
      refine ⟨⟨p, h1, h2, rfl⟩, ?_⟩
      rw [h.lvl_opP h1]; simp [h3, h4]
  · obtain ⟨q, _, q1, q2, q3, _, q5, _⟩ := h.last_at hi hl
    constructor
    · intro hx
      rw [List.mem_singleton.1 hx]
      exact ⟨q, q1, q2, rfl, q5, q3⟩
    · rintro ⟨p, h1, h2, _, h3, rfl⟩
      rw [cn_one t L T t.length hc h1 q1 h2 q2 h3 q5, q3]; simp
end
end Go.Proofs.Ytkchabdlpeifjaa

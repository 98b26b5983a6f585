/-
  learn, pure: what a clash teaches follows by unit clauses; so does what Shrink leaves of it.
  KEEP: len below nil form rd mono one more grown lt size cell some none of ofNat add out step row get at mk new made look put del kept drew alloc has same other map rde take lit lev lstB pre ws cells bnd on start app set box bel rz tidy ms reason c f max lv skip end
-/
import Derived.Test.YtofojjdegobekaaDoorJLnCw
import Derived.Test.YtofojjdegobekaaDoorKOnP
set_option linter.unusedSimpArgs false
set_option linter.unusedVariables false
namespace Go.Proofs.YtofojjdegobekaaDoor
section
variable {t : List Ent}
/-- an entry of a level above 0 that isn't its level's first has a reason -/
theorem Ws.hasR (h : Ws t) {p k : Nat} (hk : k < t.length) (hp : p < k) (hl : lvP t p = lvP t k) (h0 : lvP t k ≠ 0) : (t.getD k e0).2.2.length ≠ 0 := by
  have h1 := (okE_parts (h k hk)).2.2.1
  unfold lvB at h1
  obtain ⟨j, rfl⟩ : ∃ j, k = j + 1 := ⟨k - 1, by omega⟩
  have h2 := lvP_rise h (i := p) (j := j) (by omega) (by omega)
  have h3 := lvP_rise h (i := j) (j := j + 1) hk (by omega)
  rw [lstL_take (t := t) (k := j) (by omega)] at h1
  have e1 : lvP t j = (t.getD j e0).2.1 := rfl
  have e2 : lvP t (j + 1) = (t.getD (j + 1) e0).2.1 := rfl
  have e3 : (t.getD (j + 1) e0).2.1 = (t.getD j e0).2.1 := by omega
  rw [e2] at h0
  intro h4
  rw [h4, e3] at h1
  rw [e3] at h0
  generalize (t.getD j e0).2.1 = lv at h0 h1
  simp [h0] at h1
/-- all reasons and what is true on level 0 stand in the formula -/
structure Blv (t : List Ent) (css : List (List Int)) : Prop where
  rea : ∀ k, k < t.length → (t.getD k e0).2.2.length ≠ 0 → (t.getD k e0).2.2 ∈ css
  fac : ∀ k, k < t.length → lvP t k = 0 → [(t.getD k e0).1] ∈ css
variable {css : List (List Int)} {F : List Int}
theorem Blv.zero (hB : Blv t css) {k : Nat} (hk : k < t.length) (h0 : lvP t k = 0) : Der css F (t.getD k e0).1 :=
  .unit (hB.fac k hk h0) (by simp) fun m hm hne => absurd (by simpa using hm) hne
theorem lit_op (t : List Ent) (p : Nat) : (t.getD p e0).1 = -opP t p := by unfold opP; omega
theorem rsv_der (hw : Ws t) {L : Int} (h0 : L ≠ 0) (hB : Blv t css) : ∀ (k : Nat) (T : Int → Bool), Iv t L k T → (∀ p : Nat, rsv t L k T (p : Int) = true → Der css F (t.getD p e0).1) → ∀ p : Nat, T (p : Int) = true → Der css F (t.getD p e0).1
  | 0, T, h, hd => fun p hp => hd p hp
  | k + 1, T, h, hd => by
    have hle := h.le
    rw [rsv_succ] at hd
    by_cases h1 : cn t L T t.length ≤ 1
    · rw [if_pos h1] at hd; exact hd
    rw [if_neg h1] at hd
    by_cases h2 : T (k : Int) = true
    case neg =>
      rw [if_neg h2] at hd
      exact rsv_der hw h0 hB k T (h.skip (by simpa using h2)) hd
    rw [if_pos h2] at hd
    have hkl : k < t.length := by omega
    have hL := h.at hw (by omega) h2
    have ih := rsv_der hw h0 hB k _ (h.step hw (by omega) h2) hd
    intro p hp
    by_cases e : p = k
    · subst e
      have h3 := cn_out t L T p h2 hL t.length hkl
      obtain ⟨q, q1, q2, q3⟩ := cn_pos t L (outS T (p : Int)) t.length (by omega)
      unfold outS at q2
      rw [Bool.and_eq_true, bne_iff_ne] at q2
      have q4 := (h.bnd _ q2.2).2
      have hr := hw.hasR hkl (p := q) (by omega) (by omega) (by omega)
      refine .unit (hB.rea p hkl hr) (hw.reason hkl hr).1 fun m hm hne => ?_
      have hmo : m ∈ rOth t p := List.mem_filter.2 ⟨hm, by simpa using hne⟩
      have hf := hw.isF_at (hw.rOth_at hkl hmo).1
      have := ih (plN t m) ((adS_mem t _ _ _).2 (.inr ⟨m, hmo, rfl⟩))
      rwa [lit_op, hf.2.2.1] at this
    · refine ih p ((adS_mem t _ _ _).2 (.inl ?_))
      unfold outS
      rw [Bool.and_eq_true, bne_iff_ne]
      exact ⟨by omega, hp⟩
theorem fal_at (hw : Ws t) {zs : List Int} (hf : falB t zs = true) {x : Int} (hx : x ∈ zs) : fmd x = true ∧ plN t x < t.length ∧ opP t (plN t x) = x ∧ lvl t x = lvP t (plN t x) ∧ plc t x = some (plN t x) := by
  unfold falB at hf
  rw [List.all_eq_true] at hf
  exact hw.isF_at (hf x hx)
/-- what a clash teaches follows by unit clauses -/
theorem lrn_fol (hw : Ws t) {zs : List Int} (hf : falB t zs = true) (hB : Blv t css) (hz : zs ∈ css) : Cla css (opp (lrnC t zs)) := by
  refine .inr ⟨zs, hz, fun m hm => ?_⟩
  obtain ⟨h1, h2, h3, h4, _⟩ := fal_at hw hf hm
  have e : (t.getD (plN t m) e0).1 = -m := by rw [lit_op, h3]
  rw [← e]
  by_cases h0 : topI t zs = 0
  · refine hB.zero h2 ?_
    have := (topI_is t zs).2.1 m hm
    have := (hw.lev _ h2).1
    have : lvP t (plN t m) = (t.getD (plN t m) e0).2.1 := rfl
    omega
  · obtain ⟨hc, hi⟩ := RS_end hw hf h0
    refine rsv_der hw h0 hB t.length (T0 t zs) (T0_iv hw hf) (fun p hp => ?_) _ ((adS_mem t _ _ _).2 (.inr ⟨m, hm, rfl⟩))
    have hp' : RS t zs (p : Int) = true := hp
    have hpl : p < t.length := by have := hi.bnd _ hp'; omega
    by_cases l0 : lvP t p = 0
    · exact hB.zero hpl l0
    refine .fact (mem_opp.2 ?_)
    rw [lit_op, Int.neg_neg]
    unfold lrnC
    rw [if_neg h0]
    have hv : lvl t (opP t p) = lvP t p := by
      have := hw.opP_at hpl
      have h5 := (hw.isF_at this.2.1).2.2.2.1
      rw [h5, this.2.2]
    have hin : opP t p ∈ ltS t (RS t zs) := ltS_mem.2 ⟨p, hpl, hp', rfl⟩
    by_cases lL : lvP t p = topI t zs
    · have hl : opP t p ∈ (ltS t (RS t zs)).filter fun x => lvl t x == topI t zs := List.mem_filter.2 ⟨hin, by rw [hv, lL]; simp⟩
      have hall : ∀ x ∈ (ltS t (RS t zs)).filter (fun x => lvl t x == topI t zs), x = opP t p := fun x hx => by
        obtain ⟨k1, k2⟩ := List.mem_filter.1 hx
        obtain ⟨q, q1, q2, rfl⟩ := ltS_mem.1 k1
        have hvq : lvl t (opP t q) = lvP t q := by
          have := hw.opP_at q1
          have h5 := (hw.isF_at this.2.1).2.2.2.1
          rw [h5, this.2.2]
        rw [hvq] at k2
        rw [cn_one t _ _ t.length hc q1 hpl q2 hp' (by simpa using k2) lL]
      refine List.mem_cons.2 (.inl ?_)
      unfold oneL
      generalize (ltS t (RS t zs)).filter (fun x => lvl t x == topI t zs) = l at hl hall
      match l, hl with
      | y :: r, _ => exact (hall y (by simp)).symm
    · exact List.mem_cons.2 (.inr (mem_tid.2 ⟨List.mem_filter.2 ⟨hin, by rw [hv]; simp [l0, lL]⟩, (hw.opP_at hpl).1⟩))
/-- what stays -/
theorem shrK_mem {cl : List Int} : ∀ (n k : Nat), k < n → stay t cl k = true → cl.getD k 0 ∈ shrK t cl n
  | 0, k, h, _ => by omega
  | n + 1, k, h, hs => by
    unfold shrK
    by_cases e : k = n
    · subst e; rw [if_pos hs]; simp
    · have := shrK_mem n k (by omega) hs
      split
      · exact List.mem_append.2 (.inl this)
      · exact this
theorem fsI_at {cl : List Int} {y : Int} (hy : y ∈ cl) : ∃ k, k < cl.length ∧ cl.getD k 0 = y ∧ fsI cl y = some k := by
  have h1 : (fsI cl y).isSome = true := by rw [fsI_some]; simpa using hy
  obtain ⟨k, hk⟩ := Option.isSome_iff_exists.1 h1
  have h2 := hk
  unfold fsI at h2
  rw [List.findIdx?_eq_some_iff_getElem] at h2
  obtain ⟨h3, h4, _⟩ := h2
  exact ⟨k, h3, by simpa [List.getD_eq_getElem?_getD, h3] using h4, hk⟩
theorem shr_der (hw : Ws t) {cl : List Int} (hf : falB t cl = true) (hB : Blv t css) : ∀ (n p : Nat), p < n → p < t.length → (covB t (fun x => cl.contains x) p = true → Der css (opp (shrK t cl cl.length)) (t.getD p e0).1) ∧ ∀ y ∈ cl, plN t y = p → Der css (opp (shrK t cl cl.length)) (-y)
  | 0, p, h, _ => by omega
  | n + 1, p, h, hp => by
    have A : covB t (fun x => cl.contains x) p = true → Der css (opp (shrK t cl cl.length)) (t.getD p e0).1 := fun hc => by
      rw [hw.cov hp] at hc
      rw [Bool.and_eq_true, bne_iff_ne, List.all_eq_true] at hc
      refine .unit (hB.rea p hp hc.1) (hw.reason hp hc.1).1 fun m hm hne => ?_
      obtain ⟨h1, j, h2, h3⟩ := (hw.reason hp hc.1).2 m hm hne
      obtain ⟨h4, h5, h6, h7⟩ := hw.plN_some h1 h3
      have ih := shr_der hw hf hB n j (by omega) h5
      have e : (t.getD j e0).1 = -m := by rw [lit_op, h6]
      have h8 := hc.2 m hm
      simp only [Bool.or_eq_true, beq_iff_eq] at h8
      rcases h8 with ((h8 | h8) | h8) | h8
      · exact absurd h8 hne
      · exact ih.2 m (by simpa using h8) h4
      · rw [← e]; exact hB.zero h5 (by omega)
      · rw [← e]; rw [h4] at h8; exact ih.1 h8
    refine ⟨A, fun y hy e => ?_⟩
    obtain ⟨h1, h2, h3, h4, _⟩ := fal_at hw hf hy
    rw [e] at h3 h4
    have e2 : (t.getD p e0).1 = -y := by rw [lit_op, h3]
    obtain ⟨k, k1, k2, k3⟩ := fsI_at hy
    cases hs : stay t cl k with
    | true =>
      refine .fact (mem_opp.2 ?_)
      rw [Int.neg_neg, ← k2]
      exact shrK_mem _ k k1 hs
    | false =>
      unfold stay at hs
      rw [k2, k3, e] at hs
      by_cases l0 : lvP t p = 0
      · rw [← e2]; exact hB.zero hp l0
      · have hl := (hw.lev p hp).1
        have e3 : lvP t p = (t.getD p e0).2.1 := rfl
        have hpos : decide (0 < lvl t y) = true := by rw [h4]; exact decide_eq_true (by omega)
        rw [hpos] at hs
        rw [← e2]
        apply A
        cases hc : covB t (fun x => cl.contains x) p with
        | true => rfl
        | false => rw [hc] at hs; simp at hs
/-- what Shrink leaves says no less -/
theorem shr_fol (hw : Ws t) {cl : List Int} (hf : falB t cl = true) (hB : Blv t css) (h : Cla css (opp cl)) : Cla css (opp (shrK t cl cl.length)) := by
  refine h.trans fun x hx => ?_
  have hx' := mem_opp.1 hx
  obtain ⟨h1, h2, _⟩ := fal_at hw hf hx'
  have := (shr_der (css := css) hw hf hB t.length (plN t (-x)) h2 h2).2 (-x) hx' rfl
  rwa [Int.neg_neg] at this
theorem fol_self {cl : List Int} (h : cl ∈ css) : Cla css (opp cl) := .inr ⟨cl, h, fun m hm => .fact (mem_opp.2 (by rwa [Int.neg_neg]))⟩
end
end Go.Proofs.YtofojjdegobekaaDoor

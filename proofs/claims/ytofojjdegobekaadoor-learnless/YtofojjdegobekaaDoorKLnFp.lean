/-
  learn, pure: what Shrink leaves is a part, the first literal first; again nothing more goes.
  KEEP: len below nil form rd mono one more grown lt size cell some none of ofNat add out step row get at mk new made look put del kept drew alloc has same other map rde take lit lev lstB pre ws cells bnd on start app set box bel rz tidy ms reason c f max lv skip end
-/
import Derived.Test.YtofojjdegobekaaDoorKLnFo
set_option linter.unusedSimpArgs false
set_option linter.unusedVariables false
namespace Go.Proofs.YtofojjdegobekaaDoor
section
variable {t : List Ent}
theorem fsI_first {cl : List Int} (h : 0 < cl.length) : fsI cl (cl.getD 0 0) = some 0 := by
  unfold fsI
  rw [List.findIdx?_eq_some_iff_getElem]
  exact ⟨h, by simp [List.getD_eq_getElem?_getD, h], fun j hj => by omega⟩
theorem stay_fs {cl : List Int} {k : Nat} (hk : k < cl.length) (h : stay t cl k = true) : fsI cl (cl.getD k 0) = some k ∧ (k ≠ 0 → 0 < lvl t (cl.getD k 0) ∧ covB t (fun x => cl.contains x) (plN t (cl.getD k 0)) = false) := by
  unfold stay at h
  by_cases e : k = 0
  · subst e; exact ⟨fsI_first hk, fun h => absurd rfl h⟩
  · simp only [Bool.or_eq_true, Bool.and_eq_true, beq_iff_eq, decide_eq_true_eq, Bool.not_eq_true', e, false_or] at h
    exact ⟨h.2, fun _ => ⟨h.1.1, h.1.2⟩⟩
/-- each that is left came from its first place -/
theorem shrK_from {cl : List Int} : ∀ (n : Nat), n ≤ cl.length → ∀ x ∈ shrK t cl n, ∃ j, j < n ∧ cl.getD j 0 = x ∧ stay t cl j = true ∧ fsI cl x = some j
  | 0, _, x, hx => by simp [shrK] at hx
  | n + 1, hn, x, hx => by
    unfold shrK at hx
    by_cases hs : stay t cl n = true
    · rw [if_pos hs] at hx
      rcases List.mem_append.1 hx with h | h
      · obtain ⟨j, h1, h2⟩ := shrK_from n (by omega) x h
        exact ⟨j, by omega, h2⟩
      · have e : x = cl.getD n 0 := by simpa using h
        subst e
        exact ⟨n, by omega, rfl, hs, (stay_fs (by omega) hs).1⟩
    · rw [if_neg hs] at hx
      obtain ⟨j, h1, h2⟩ := shrK_from n (by omega) x hx
      exact ⟨j, by omega, h2⟩
theorem shrK_nodup {cl : List Int} : ∀ (n : Nat), n ≤ cl.length → (shrK t cl n).Nodup
  | 0, _ => List.nodup_nil
  | n + 1, hn => by
    have ih := shrK_nodup (cl := cl) n (by omega)
    unfold shrK
    by_cases hs : stay t cl n = true
    · rw [if_pos hs, List.nodup_append]
      refine ⟨ih, by simp, fun a ha b hb e => ?_⟩
      have hb' : b = cl.getD n 0 := by simpa using hb
      subst e
      obtain ⟨j, h1, h2, _, h3⟩ := shrK_from n (by omega) a ha
      have h4 := (stay_fs (by omega) hs).1
      rw [← hb', h3] at h4
      injection h4 with h4
      omega
    · rw [if_neg hs]; exact ih
theorem shrK_sub {cl : List Int} : ∀ (n : Nat), n ≤ cl.length → (shrK t cl n).Sublist (cl.take n)
  | 0, _ => by simp [shrK]
  | n + 1, hn => by
    have ih := shrK_sub (cl := cl) n (by omega)
    unfold shrK
    rw [take_succ_getD cl 0 n (by omega)]
    by_cases hs : stay t cl n = true
    · rw [if_pos hs]; exact ih.append (List.Sublist.refl _)
    · rw [if_neg hs]; exact ih.trans (List.sublist_append_left _ _)
theorem shrK_head {cl : List Int} : ∀ (n : Nat), ∃ r, shrK t cl (n + 1) = cl.getD 0 0 :: r
  | 0 => ⟨[], by simp [shrK, stay]⟩
  | n + 1 => by
    obtain ⟨r, hr⟩ := shrK_head (cl := cl) n
    have e : shrK t cl (n + 1 + 1) = if stay t cl (n + 1) then shrK t cl (n + 1) ++ [cl.getD (n + 1) 0] else shrK t cl (n + 1) := rfl
    rw [e, hr]
    split
    · exact ⟨_, rfl⟩
    · exact ⟨r, rfl⟩
/-- covered by fewer, covered by more -/
theorem cov_mono (hw : Ws t) {S S' : Int → Bool} (hS : ∀ x, S x = true → S' x = true) : ∀ (n p : Nat), p < n → p < t.length → covB t S p = true → covB t S' p = true
  | 0, p, h, _, _ => by omega
  | n + 1, p, h, hp, hc => by
    rw [hw.cov hp] at hc ⊢
    rw [Bool.and_eq_true, bne_iff_ne, List.all_eq_true] at hc ⊢
    refine ⟨hc.1, fun m hm => ?_⟩
    have h8 := hc.2 m hm
    simp only [Bool.or_eq_true, beq_iff_eq] at h8 ⊢
    rcases h8 with ((h8 | h8) | h8) | h8
    · exact .inl (.inl (.inl h8))
    · exact .inl (.inl (.inr (hS m h8)))
    · exact .inl (.inr h8)
    · by_cases e : m = (t.getD p e0).1
      · exact .inl (.inl (.inl e))
      · obtain ⟨h1, j, h2, h3⟩ := (hw.reason hp hc.1).2 m hm e
        have h4 := hw.plN_some h1 h3
        exact .inr (cov_mono hw hS n _ (by omega) (by omega) h8)
theorem nodup_fs {s : List Int} (h : s.Nodup) {k : Nat} (hk : k < s.length) : fsI s (s.getD k 0) = some k := by
  unfold fsI
  rw [List.findIdx?_eq_some_iff_getElem]
  refine ⟨hk, by simp [List.getD_eq_getElem?_getD, hk], fun j hj => ?_⟩
  have hn := List.pairwise_iff_getElem.1 h j k (by omega) hk hj
  simpa [List.getD_eq_getElem?_getD, hk] using hn
theorem shrK_in {cl : List Int} {x : Int} (hx : x ∈ shrK t cl cl.length) : x ∈ cl := by
  have := (shrK_sub (t := t) (cl := cl) cl.length (Nat.le_refl _)).subset hx
  rwa [List.take_length] at this
/-- again nothing more goes -/
theorem shrK_again (hw : Ws t) {cl : List Int} (hf : falB t cl = true) : shrK t (shrK t cl cl.length) (shrK t cl cl.length).length = shrK t cl cl.length := by
  obtain ⟨s, hs⟩ : ∃ s, shrK t cl cl.length = s := ⟨_, rfl⟩
  have hnd : s.Nodup := by rw [← hs]; exact shrK_nodup _ (Nat.le_refl _)
  have hfr : ∀ x ∈ s, ∃ j, j < cl.length ∧ cl.getD j 0 = x ∧ stay t cl j = true ∧ fsI cl x = some j := by rw [← hs]; exact shrK_from _ (Nat.le_refl _)
  have hin : ∀ x ∈ s, x ∈ cl := by rw [← hs]; exact fun x hx => shrK_in hx
  have hhd : 0 < s.length → s.getD 0 0 = cl.getD 0 0 := by
    intro h0
    have : 0 < cl.length := by
      have := shrK_len t cl cl.length
      rw [hs] at this; omega
    obtain ⟨r, hr⟩ := shrK_head (t := t) (cl := cl) (cl.length - 1)
    rw [show cl.length - 1 + 1 = cl.length by omega, hs] at hr
    rw [hr]; rfl
  rw [hs]
  have key : ∀ k, k ≤ s.length → shrK t s k = s.take k := by
    intro k
    induction k with
    | zero => intro _; simp [shrK]
    | succ k ih =>
      intro hk
      have ih := ih (by omega)
      have hst : stay t s k = true := by
        unfold stay
        by_cases e : k = 0
        · rw [beq_iff_eq.2 e]; rfl
        · obtain ⟨j, j1, j2, j3, j4⟩ := hfr _ (getD_mem' (l := s) (d := 0) (k := k) (by omega))
          have hj : j ≠ 0 := by
            intro e2
            subst e2
            have h1 := nodup_fs hnd (k := k) (by omega)
            have h2 := nodup_fs hnd (k := 0) (by omega)
            rw [hhd (by omega), j2, h1] at h2
            injection h2 with h2
            exact e h2
          obtain ⟨_, h5⟩ := stay_fs j1 j3
          obtain ⟨h6, h7⟩ := h5 hj
          rw [j2] at h6 h7
          have h8 : covB t (fun x => s.contains x) (plN t (s.getD k 0)) = false := by
            cases hc : covB t (fun x => s.contains x) (plN t (s.getD k 0)) with
            | false => rfl
            | true =>
              have hpl := (fal_at hw hf (hin _ (getD_mem' (l := s) (d := 0) (k := k) (by omega)))).2.1
              have := cov_mono hw (S := fun x => s.contains x) (S' := fun x => cl.contains x) (fun x hx => by
                have : x ∈ s := by simpa using hx
                simpa using hin x this) t.length _ hpl hpl hc
              rw [this] at h7; cases h7
          rw [decide_eq_true h6, h8, nodup_fs hnd (by omega)]
          simp
      have e : shrK t s (k + 1) = if stay t s k then shrK t s k ++ [s.getD k 0] else shrK t s k := rfl
      rw [e, if_pos hst, ih, take_succ_getD s 0 k (by omega)]
  have := key s.length (Nat.le_refl _)
  rwa [List.take_length] at this
theorem shr_fal {cl : List Int} (hf : falB t cl = true) : falB t (shrK t cl cl.length) = true := by
  unfold falB at hf ⊢
  rw [List.all_eq_true] at hf ⊢
  exact fun x hx => hf x (shrK_in hx)
theorem shr_fmd {cl : List Int} (hf : cl.all fmd = true) : (shrK t cl cl.length).all fmd = true := by
  rw [List.all_eq_true] at hf ⊢
  exact fun x hx => hf x (shrK_in hx)
theorem shr_first {cl : List Int} (h : 0 < cl.length) : 0 < (shrK t cl cl.length).length ∧ (shrK t cl cl.length).getD 0 0 = cl.getD 0 0 := by
  obtain ⟨r, hr⟩ := shrK_head (t := t) (cl := cl) (cl.length - 1)
  rw [show cl.length - 1 + 1 = cl.length by omega] at hr
  rw [hr]; exact ⟨by simp, rfl⟩
/-- looked for one behind the other -/
theorem sub_step {s c : List Int} {k i : Nat} (hk : k < s.length) (hi : i < c.length) (h : (s.drop k).Sublist (c.drop i)) : (c.getD i 0 = s.getD k 0 → (s.drop (k + 1)).Sublist (c.drop (i + 1))) ∧ (c.getD i 0 ≠ s.getD k 0 → (s.drop k).Sublist (c.drop (i + 1))) := by
  have e1 : s.drop k = s.getD k 0 :: s.drop (k + 1) := by rw [List.drop_eq_getElem_cons hk]; simp [List.getD_eq_getElem?_getD, hk]
  have e2 : c.drop i = c.getD i 0 :: c.drop (i + 1) := by rw [List.drop_eq_getElem_cons hi]; simp [List.getD_eq_getElem?_getD, hi]
  rw [e2] at h
  constructor
  · intro e
    rw [e1, e] at h
    exact List.cons_sublist_cons.1 h
  · intro e
    rw [e1] at h ⊢
    generalize c.getD i 0 = x at h e
    generalize s.getD k 0 = y at h e ⊢
    cases h with
    | cons _ h => exact h
    | cons_cons _ h => exact absurd rfl e
theorem sub_end {s c : List Int} {k : Nat} (h : (s.drop k).Sublist (c.drop c.length)) : s.length ≤ k := by
  rw [List.drop_length] at h
  have := List.sublist_nil.1 h
  simpa using this
end
end Go.Proofs.YtofojjdegobekaaDoor

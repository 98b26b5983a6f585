/-
  rup: the models of a formula and of the formula with a clause that may be added. No program here.
  KEEP: set on app at below new trans refl start ap kept rd rds mono lt add none own nil put len pos setF setV putL putR other neV same_any
-/
import Derived.Test.YtkinilhapgagcaaDoorKRpV
import Derived.Test.YtkinilhapgagcaaDoorJRpF
set_option linter.unusedSimpArgs false
set_option linter.unusedVariables false
namespace Go.Proofs.YtkinilhapgagcaaDoor
open Go Go.RowKit

theorem mxs_ge (a : Int) (c : List Int) : a ≤ mx a c ∧ ∀ l ∈ c, varOf l ≤ mx a c := by
  unfold mx
  induction c generalizing a with
  | nil => exact ⟨Int.le_refl _, by simp⟩
  | cons l r ih =>
    obtain ⟨h1, h2⟩ := ih (max a (varOf l))
    rw [List.foldl_cons]
    refine ⟨by omega, fun x hx => ?_⟩
    rcases List.mem_cons.1 hx with e | e
    · subst e; omega
    · exact h2 x e
theorem mxs_le (a : Int) (c : List Int) (h : a ≤ 1048576) : mx a c ≤ 1048576 := by
  unfold mx
  induction c generalizing a with
  | nil => exact h
  | cons l r ih =>
    have hv := varOf_range l
    exact ih (max a (varOf l)) (by omega)
theorem fits_more {n m : Int} {c : List Int} (h : fitsP n c = true) (hm : n ≤ m) : fitsP m c = true := by
  unfold fitsP at h ⊢
  rw [List.all_eq_true] at h ⊢
  intro x hx
  have := h x hx
  rw [Bool.and_eq_true, decide_eq_true_eq] at this ⊢
  exact ⟨this.1, by omega⟩
theorem shp_frms {n : Int} {css : List (List Int)} {c : List Int} (h : shp n css c = true) : 0 ≤ mx n c ∧ frm (mx n c) css = true ∧ fitsP (mx n c) c = true ∧ frm (mx n c) (css ++ [c]) = true ∧ ∀ d ∈ css, fitsP (mx n c) d = true := by
  unfold shp at h
  rw [Bool.and_eq_true] at h
  obtain ⟨h, hd⟩ := h
  obtain ⟨g1, g2⟩ := mxs_ge n c
  unfold frm at h ⊢
  rw [Bool.and_eq_true, decide_eq_true_eq] at h
  have q2 := mxs_le n c h.1.2
  have hall : ∀ d ∈ css, fitsP (mx n c) d = true := fun d hd => fits_more (List.all_eq_true.1 h.2 d hd) g1
  have hown : fitsP (mx n c) c = true := by
    unfold fitsP
    rw [List.all_eq_true]
    intro x hx
    rw [Bool.and_eq_true, decide_eq_true_eq]
    exact ⟨List.all_eq_true.1 hd x hx, g2 x hx⟩
  refine ⟨by omega, ?_, hown, ?_, hall⟩
  · rw [decide_eq_true (by omega), Bool.true_and, List.all_eq_true]; exact hall
  · rw [decide_eq_true (by omega), Bool.true_and, List.all_append, Bool.and_eq_true]
    exact ⟨List.all_eq_true.2 hall, by rw [List.all_cons, List.all_nil, Bool.and_true]; exact hown⟩
theorem mods_same {N : Nat} {css : List (List Int)} {c : List Int} (h : ∀ m : List Bool, m.length = N → satT m css = true → mkT m c = true) : mods N (css ++ [c]) = mods N css := by
  unfold mods modsTo
  apply List.filter_congr
  intro m hm
  obtain ⟨j, _, rfl⟩ := List.mem_map.1 hm
  have h9 := h (bt N j) (bt_len N j)
  unfold satT at h9 ⊢
  rw [List.all_append, List.all_cons, List.all_nil, Bool.and_true]
  cases e : css.all (mkT (bt N j))
  · rfl
  · rw [h9 e]; rfl
theorem mods_pos {N : Nat} {css : List (List Int)} : 0 < (mods N css).length ↔ ∃ m : List Bool, m.length = N ∧ satT m css = true := by
  constructor
  · intro h
    obtain ⟨m, hm⟩ := List.exists_mem_of_length_pos h
    exact ⟨m, mem_mods.1 hm⟩
  · rintro ⟨m, h⟩
    exact List.length_pos_of_mem (mem_mods.2 h)
theorem sat_less {ms : List Bool} {css : List (List Int)} {c : List Int} (h : satT ms (css ++ [c]) = true) : satT ms css = true := by
  unfold satT at h ⊢
  rw [List.all_append, Bool.and_eq_true] at h
  exact h.1
/-- what RupSound asks of the counts -/
theorem sound8 {n : Int} {css : List (List Int)} {c : List Int} (hs : shp n css c = true) (h16 : ¬ 16 < mx n c) (hk : kndI css c = 1 ∨ kndI css c = 2) :
    cntE (mx n c) css = 0 ∧ cntE (mx n c) (css ++ [c]) = 0 ∧ (0 < (modF (mx n c) css).length ↔ 0 < (modF (mx n c) (css ++ [c])).length) ∧ (kndI css c = 1 → (modF (mx n c) (css ++ [c])).length = (modF (mx n c) css).length ∧ entB (mx n c) css c = true ∧ entE (mx n c) css c = 0) := by
  obtain ⟨q0, q1, q2, q3, q4⟩ := shp_frms hs
  have hle : mx n c ≤ 16 := by omega
  have e1 : modF (mx n c) css = mods (mx n c).toNat css := by unfold modF; rw [q1, decide_eq_true hle]; rfl
  have e2 : modF (mx n c) (css ++ [c]) = mods (mx n c).toNat (css ++ [c]) := by unfold modF; rw [q3, decide_eq_true hle]; rfl
  have e3 : entB (mx n c) css c = (modF (mx n c) css).all (fun m => mkT m c) := by unfold entB; rw [q1, q2, decide_eq_true hle]; rfl
  refine ⟨by unfold cntE; rw [q1, if_neg h16]; rfl, by unfold cntE; rw [q3, if_neg h16]; rfl, ?_, ?_⟩
  · rw [e1, e2, mods_pos, mods_pos]
    obtain ⟨N, hN⟩ : ∃ N : Nat, mx n c = (N : Int) := ⟨(mx n c).toNat, by omega⟩
    rw [hN] at q2 q4 ⊢
    rw [Int.toNat_natCast]
    constructor
    · rintro ⟨m, hm, hsm⟩
      by_cases hf : folB css c = true
      · have := cla_made hm q4 q2 hsm (claB_true.1 hf)
        refine ⟨m, hm, ?_⟩
        unfold satT at hsm ⊢
        rw [List.all_append, hsm]
        simp [this]
      · have hsf : safB css c = true := by
          unfold kndI at hk
          rw [if_neg hf] at hk
          cases e : safB css c
          · rw [e] at hk; simp at hk
          · rfl
        cases c with
        | nil => cases hsf
        | cons p r => exact rat_model hm q4 q2 hsm hsf
    · rintro ⟨m, hm, hsm⟩
      exact ⟨m, hm, sat_less hsm⟩
  · intro h1
    have hf : folB css c = true := by
      unfold kndI at h1
      cases e : folB css c
      · rw [e] at h1
        cases e2 : safB css c <;> rw [e2] at h1 <;> simp at h1
      · rfl
    obtain ⟨N, hN⟩ : ∃ N : Nat, mx n c = (N : Int) := ⟨(mx n c).toNat, by omega⟩
    have key : ∀ m : List Bool, m.length = N → satT m css = true → mkT m c = true := fun m hm hsm => by
      rw [hN] at q2 q4
      exact cla_made hm q4 q2 hsm (claB_true.1 hf)
    refine ⟨?_, ?_, by unfold entE; rw [q1, q2, if_neg h16]; rfl⟩
    · rw [e1, e2, hN, Int.toNat_natCast, mods_same key]
    · rw [e3, e1, hN, Int.toNat_natCast, List.all_eq_true]
      intro m hm
      obtain ⟨a, b⟩ := mem_mods.1 hm
      exact key m a b
theorem knd_cases (css : List (List Int)) (c : List Int) : kndI css c = 0 ∨ kndI css c = 1 ∨ kndI css c = 2 := by
  unfold kndI
  split
  · exact .inr (.inl rfl)
  · split
    · exact .inr (.inr rfl)
    · exact .inl rfl
theorem few_withs {css : List (List Int)} {d : List Int} (h : css.length + (css.map List.length).sum ≤ 1048576) (hd : d.length ≤ 1048576) : Few (css ++ [d]) := Few.of (by rw [List.length_append, List.length_singleton]; omega) (by unfold lsum; rw [List.map_append, List.sum_append]; simp; omega)
end Go.Proofs.YtkinilhapgagcaaDoor

/-
  rup: what goes on following; what is blocked is safe. No program here.
  KEEP: set on app at below new trans refl start ap kept rd rds mono lt add none own nil put len pos setF setV putL putR other neV same_any
-/
import Derived.Test.YtkinilhapgagcabDoorRpD
import Derived.Test.YtkinilhapgagcabDoorJRpF
set_option linter.unusedSimpArgs false
set_option linter.unusedVariables false
namespace Go.Proofs.YtkinilhapgagcabDoor
open Go Go.RowKit

theorem shB_shp (v : Int) (css : List (List Int)) (c : List Int) : shB v css c = shp v css c := rfl
theorem shBE_shE (b : Bool) : shBE b = shE b := rfl
theorem fol_own (css : List (List Int)) (d : List Int) : folB (css ++ [d]) d = true := claB_of (.inr ⟨d, by simp, fun m hm => .fact (mem_opp.2 (by simpa using hm))⟩)
theorem sub_css (css : List (List Int)) (d : List Int) : ∀ c ∈ css, ∃ c' ∈ css ++ [d], ∀ x, x ∈ c ↔ x ∈ c' := fun c hc => ⟨c, List.mem_append.2 (.inl hc), fun _ => Iff.rfl⟩
theorem fol_more {css : List (List Int)} {c d : List Int} (h : folB css c = true) : folB (css ++ [d]) c = true := claB_of ((claB_true.1 h).mono (sub_css css d) fun x hx => .fact hx)
theorem fol_long {css : List (List Int)} {c d : List Int} (hc : c.all fmd = true) (h : folB css c = true) : folB css (tid (c ++ d)) = true := claB_of ((claB_true.1 h).trans fun x hx => .fact (mem_opp.2 (mem_tid.2 ⟨List.mem_append.2 (.inl (mem_opp.1 hx)), List.all_eq_true.1 hc _ (mem_opp.1 hx)⟩)))
theorem adj_lit {zs : List Int} (hz : zs.all fmd = true) (h : adj (tid zs) = true) : ∃ l, l ∈ zs ∧ -l ∈ zs := by
  refine Classical.byContradiction fun hn => ?_
  have := (adj_con8 hz).2 (fun l h1 h2 => hn ⟨l, h1, h2⟩)
  rw [this] at h; cases h
theorem blk_safe {v : Int} {css : List (List Int)} {c : List Int} (hs : shp v css c = true) (h : blkB css c = true) : safB css c = true := by
  cases c with
  | nil => cases h
  | cons p r =>
    show parB css (opp (p :: r)) p css = true
    have h : blkA p (p :: r) css = true := h
    unfold parB
    unfold blkA at h
    rw [List.all_eq_true] at h ⊢
    intro d hd
    have h2 := h d hd
    by_cases hm : -p ∈ d
    · rw [decide_eq_true hm] at h2 ⊢
      have h3 : blk1 p (p :: r) d = true := by simpa using h2
      obtain ⟨l, a, b⟩ := adj_lit (by rw [List.all_append, wout_fmd, wout_fmd]; rfl) h3
      have key : ∀ x, x ∈ wout (tid (p :: r)) p ++ wout (tid d) (-p) → -x ∈ opp (p :: r) ++ opp (rst d p) := fun x hx => by
        rw [List.mem_append, mem_opp, mem_opp, Int.neg_neg, mem_rst]
        rcases List.mem_append.1 hx with y | y
        · unfold wout at y
          exact .inl (mem_tid.1 (List.mem_filter.1 y).1).1
        · unfold wout at y
          obtain ⟨y1, y2⟩ := List.mem_filter.1 y
          exact .inr ⟨(mem_tid.1 y1).1, bne_iff_ne.1 y2⟩
      have h4 : Cla css (opp (p :: r) ++ opp (rst d p)) := .inl ⟨-l, .fact (key l a), .fact (key _ b)⟩
      rw [claB_of h4]; rfl
    · rw [decide_eq_false hm]; rfl
theorem mx_ge (a : Int) (c : List Int) : a ≤ mx a c ∧ ∀ l ∈ c, varOf l ≤ mx a c := by
  unfold mx
  induction c generalizing a with
  | nil => exact ⟨Int.le_refl _, by simp⟩
  | cons l r ih =>
    obtain ⟨h1, h2⟩ := ih (max a (varOf l))
    rw [List.foldl_cons]
    refine ⟨by omega, fun x hx => ?_⟩
    rcases List.mem_cons.1 hx with e | e
    · subst e; omega
    · exact h2 x e
theorem mx_le (a : Int) (c : List Int) (h : a ≤ 1048576) : mx a c ≤ 1048576 := by
  unfold mx
  induction c generalizing a with
  | nil => exact h
  | cons l r ih =>
    have hv := varOf_range l
    exact ih (max a (varOf l)) (by omega)
theorem fitsP_mono {n m : Int} {c : List Int} (h : fitsP n c = true) (hm : n ≤ m) : fitsP m c = true := by
  unfold fitsP at h ⊢
  rw [List.all_eq_true] at h ⊢
  intro x hx
  have := h x hx
  rw [Bool.and_eq_true, decide_eq_true_eq] at this ⊢
  exact ⟨this.1, by omega⟩
theorem frm_with {n : Int} {css : List (List Int)} {d : List Int} (h : frm n css = true) (hd : d.all fmd = true) : frm (mx n d) (css ++ [d]) = true := by
  unfold frm at h ⊢
  rw [Bool.and_eq_true, decide_eq_true_eq] at h ⊢
  obtain ⟨g1, g2⟩ := mx_ge n d
  refine ⟨⟨by omega, mx_le n d h.1.2⟩, ?_⟩
  rw [List.all_append, Bool.and_eq_true]
  constructor
  · rw [List.all_eq_true]
    intro c hc
    exact fitsP_mono (List.all_eq_true.1 h.2 c hc) g1
  · rw [List.all_cons, List.all_nil, Bool.and_true]
    unfold fitsP
    rw [List.all_eq_true]
    intro x hx
    rw [Bool.and_eq_true, decide_eq_true_eq]
    exact ⟨List.all_eq_true.1 hd x hx, g2 x hx⟩
theorem shp_with {n : Int} {css : List (List Int)} {c d : List Int} (h : shp n css c = true) (hd : d.all fmd = true) : shp (mx n d) (css ++ [d]) c = true := by
  unfold shp at h ⊢
  rw [Bool.and_eq_true] at h ⊢
  exact ⟨frm_with h.1 hd, h.2⟩
theorem shp_own {n : Int} {css : List (List Int)} {c d : List Int} (h : shp n css c = true) (hd : d.all fmd = true) : shp (mx n d) (css ++ [d]) d = true := by
  unfold shp at h ⊢
  rw [Bool.and_eq_true] at h ⊢
  exact ⟨frm_with h.1 hd, hd⟩
theorem shp_long {n : Int} {css : List (List Int)} {c d : List Int} (h : shp n css c = true) : shp n css (tid (c ++ d)) = true := by
  unfold shp at h ⊢
  rw [Bool.and_eq_true] at h ⊢
  refine ⟨h.1, ?_⟩
  rw [List.all_eq_true]
  intro x hx
  exact (mem_tid.1 hx).2
theorem shp_all {n : Int} {css : List (List Int)} {c : List Int} (h : shp n css c = true) : c.all fmd = true := by unfold shp at h; rw [Bool.and_eq_true] at h; exact h.2
theorem fmd_i64 {x : Int} (h : fmd x = true) : i64 x := by have := fmd_range h; unfold i64; omega
theorem all_i64 {c : List Int} (h : c.all fmd = true) : ∀ x ∈ c, i64 x := fun x hx => fmd_i64 (List.all_eq_true.1 h x hx)
theorem few_with {css : List (List Int)} {d : List Int} (h : css.length + (css.map List.length).sum ≤ 1048576) (hd : d.length ≤ 1048576) : Few (css ++ [d]) := Few.of (by rw [List.length_append, List.length_singleton]; omega) (by unfold lsum; rw [List.map_append, List.sum_append]; simp; omega)
end Go.Proofs.YtkinilhapgagcabDoor

/-
  joined: RpV RpX
-/
import Derived.Test.YtkinilhapgagcaaDoorJRpF
import Derived.Test.YtkinilhapgagcaaDoorJModW
set_option linter.unusedSimpArgs false
set_option linter.unusedVariables false
namespace Go.Proofs.YtkinilhapgagcaaDoor
open Go Go.RowKit

theorem varOf_neg8 (x : Int) (h : fmd x = true) : varOf x = varOf (-x) := by
  have hr := fmd_range h
  have hn := fmd_neg h
  rcases (show 0 < x ∨ x < 0 by omega) with a | a
  · rw [(there_pos h a).2, (there_neg hn (by omega)).2]; omega
  · rw [(there_neg h a).2, (there_pos hn (by omega)).2]
theorem var_eq8 {l p : Int} (hl : fmd l = true) (hp : fmd p = true) (h : varOf l = varOf p) : l = p ∨ l = -p := by
  have r1 := fmd_range hl
  have r2 := fmd_range hp
  rcases (show 0 < l ∨ l < 0 by omega) with a | a <;> rcases (show 0 < p ∨ p < 0 by omega) with b | b
  · rw [(there_pos hl a).2, (there_pos hp b).2] at h; exact .inl h
  · rw [(there_pos hl a).2, (there_neg hp b).2] at h; exact .inr h
  · rw [(there_neg hl a).2, (there_pos hp b).2] at h; exact .inr (by omega)
  · rw [(there_neg hl a).2, (there_neg hp b).2] at h; exact .inl (by omega)
theorem var_pos8 {l : Int} (hl : fmd l = true) : 1 ≤ varOf l := by
  have r1 := fmd_range hl
  rcases (show 0 < l ∨ l < 0 by omega) with a | a
  · rw [(there_pos hl a).2]; omega
  · rw [(there_neg hl a).2]; omega
theorem der_true8 {n : Nat} {ms : List Bool} {css : List (List Int)} {L : List Int} (hn : ms.length = n) (hc : ∀ c ∈ css, fitsP n c = true) (hL : fitsP n L = true) (ht : L.all (trv ms) = true) (hs : satT ms css = true) {l : Int} (h : Der css L l) : fmd l = true ∧ varOf l ≤ n ∧ trv ms l = true := by
  induction h with
  | fact h =>
    have h1 := List.all_eq_true.1 hL _ h
    rw [Bool.and_eq_true] at h1
    exact ⟨h1.1, of_decide_eq_true h1.2, List.all_eq_true.1 ht _ h⟩
  | @unit c l h1 h2 h3 ih =>
    have w1 := List.all_eq_true.1 (hc _ h1)
    have w2 := w1 _ h2
    rw [Bool.and_eq_true] at w2
    refine ⟨w2.1, of_decide_eq_true w2.2, ?_⟩
    obtain ⟨m, hm, hmt⟩ := List.any_eq_true.1 (List.all_eq_true.1 hs _ h1)
    by_cases e : m = l
    · rw [← e]; exact hmt
    · have w3 := w1 _ hm
      rw [Bool.and_eq_true] at w3
      have := trv_opp (ms := ms) w3.1 (by rw [hn]; exact of_decide_eq_true w3.2)
      rw [(ih m hm e).2.2, hmt] at this
      cases this
theorem no_clash8 {n : Nat} {ms : List Bool} {css : List (List Int)} {L : List Int} (hn : ms.length = n) (hc : ∀ c ∈ css, fitsP n c = true) (hL : fitsP n L = true) (ht : L.all (trv ms) = true) (hs : satT ms css = true) : ¬ Cla css L := by
  have key : ∀ l, fmd l = true → varOf l ≤ n → trv ms l = true → ¬ Der css L (-l) := fun l h1 h2 h3 hd => by
    have := trv_opp (ms := ms) h1 (by rw [hn]; exact h2)
    rw [(der_true8 hn hc hL ht hs hd).2.2, h3] at this
    cases this
  rintro (⟨l, a, b⟩ | ⟨c, a, b⟩)
  · obtain ⟨h1, h2, h3⟩ := der_true8 hn hc hL ht hs a
    exact key l h1 h2 h3 b
  · obtain ⟨m, hm, hmt⟩ := List.any_eq_true.1 (List.all_eq_true.1 hs _ a)
    have w3 := List.all_eq_true.1 (hc _ a) _ hm
    rw [Bool.and_eq_true] at w3
    exact key m w3.1 (of_decide_eq_true w3.2) hmt (b m hm)
/-- a clause whose opposites clash is true in each model -/
theorem cla_made {n : Nat} {ms : List Bool} {css : List (List Int)} {c : List Int} (hn : ms.length = n) (hc : ∀ d ∈ css, fitsP n d = true) (hf : fitsP n c = true) (hs : satT ms css = true) (h : Cla css (opp c)) : mkT ms c = true := by
  refine Classical.byContradiction fun hno => no_clash8 hn hc (L := opp c) ?_ ?_ hs h
  · unfold fitsP at hf ⊢
    rw [List.all_eq_true] at hf ⊢
    intro x hx
    have := hf _ (mem_opp.1 hx)
    rw [Bool.and_eq_true, decide_eq_true_eq] at this ⊢
    have h4 := fmd_neg this.1
    rw [Int.neg_neg] at h4
    refine ⟨h4, ?_⟩
    have e : varOf x = varOf (-x) := varOf_neg8 x h4
    omega
  · rw [List.all_eq_true]
    intro x hx
    have hx' := mem_opp.1 hx
    have h5 := List.all_eq_true.1 hf _ hx'
    rw [Bool.and_eq_true, decide_eq_true_eq] at h5
    have h6 : trv ms (-x) = false := by
      cases e : trv ms (-x)
      · rfl
      · exact absurd (List.any_eq_true.2 ⟨-x, hx', e⟩) hno
    have h7 := trv_opp (ms := ms) h5.1 (by rw [hn]; exact h5.2)
    rw [Int.neg_neg, h6] at h7
    exact h7
/-- the model with p made true -/
def flip8 (ms : List Bool) (p : Int) : List Bool := ms.set (varOf p - 1).toNat (decide (0 < p))
theorem flip_same {ms : List Bool} {p : Int} (hp : fmd p = true) (hv : varOf p ≤ ms.length) : trv (flip8 ms p) p = true := by
  have h1 := var_pos8 hp
  unfold trv flip8
  rw [List.getD_eq_getElem?_getD, List.getElem?_set_self (by omega)]
  simp
theorem flip_other {ms : List Bool} {p l : Int} (hp : fmd p = true) (hl : fmd l = true) (h : varOf l ≠ varOf p) : trv (flip8 ms p) l = trv ms l := by
  have h1 := var_pos8 hp
  have h2 := var_pos8 hl
  unfold trv flip8
  rw [List.getD_eq_getElem?_getD, List.getElem?_set_ne (by omega), ← List.getD_eq_getElem?_getD]
theorem opp_append (a b : List Int) : opp (a ++ b) = opp a ++ opp b := by unfold opp; rw [List.map_append]
theorem rat_model {n : Nat} {ms : List Bool} {css : List (List Int)} {p : Int} {r : List Int} (hn : ms.length = n) (hc : ∀ d ∈ css, fitsP n d = true) (hf : fitsP n (p :: r) = true) (hs : satT ms css = true) (h : safB css (p :: r) = true) : ∃ ms' : List Bool, ms'.length = n ∧ satT ms' (css ++ [p :: r]) = true := by
  have hfit : ∀ {d : List Int}, fitsP n d = true → ∀ l ∈ d, fmd l = true ∧ varOf l ≤ n := fun {d} hd l hl => by
    have := List.all_eq_true.1 hd l hl
    rw [Bool.and_eq_true, decide_eq_true_eq] at this
    exact this
  have hsat : ∀ {ms' : List Bool}, satT ms' css = true → mkT ms' (p :: r) = true → satT ms' (css ++ [p :: r]) = true := fun {ms'} h1 h2 => by
    unfold satT at h1 ⊢
    rw [List.all_append, h1]
    simp [h2]
  by_cases hm : mkT ms (p :: r) = true
  · exact ⟨ms, hn, hsat hs hm⟩
  · have hno : ∀ l ∈ p :: r, trv ms l = false := fun l hl => by
      cases e : trv ms l
      · rfl
      · exact absurd (List.any_eq_true.2 ⟨l, hl, e⟩) hm
    obtain ⟨hpf, hpv⟩ := hfit hf p (by simp)
    refine ⟨flip8 ms p, by unfold flip8; rw [List.length_set]; exact hn, hsat ?_ (List.any_eq_true.2 ⟨p, by simp, flip_same hpf (by omega)⟩)⟩
    unfold satT
    rw [List.all_eq_true]
    intro d hd
    have keep : ∀ l ∈ d, l ≠ -p → trv ms l = true → mkT (flip8 ms p) d = true := fun l hl h1 h2 => by
      have hlf := (hfit (hc d hd) l hl).1
      refine List.any_eq_true.2 ⟨l, hl, ?_⟩
      rw [flip_other hpf hlf fun e => ?_]
      · exact h2
      · rcases var_eq8 hlf hpf e with e2 | e2
        · rw [e2, hno p (by simp)] at h2; cases h2
        · exact h1 e2
    by_cases hmem : -p ∈ d
    · have h3 : parB css (opp (p :: r)) p css = true := h
      unfold parB at h3
      have h4 := List.all_eq_true.1 h3 d hd
      rw [decide_eq_true hmem] at h4
      have h5 : claB css (opp (p :: r) ++ opp (rst d p)) = true := by simpa using h4
      have h6 := claB_true.1 h5
      rw [← opp_append] at h6
      have hfb : fitsP n ((p :: r) ++ rst d p) = true := by
        unfold fitsP at hf ⊢
        rw [List.all_append, hf, Bool.true_and, List.all_eq_true]
        intro x hx
        obtain ⟨h8, h9⟩ := hfit (hc d hd) x (mem_rst.1 hx).1
        rw [h8, decide_eq_true h9]; rfl
      obtain ⟨l, hl, htl⟩ := List.any_eq_true.1 (cla_made hn hc hfb hs h6)
      rcases List.mem_append.1 hl with a | a
      · rw [hno l a] at htl; cases htl
      · exact keep l (mem_rst.1 a).1 (mem_rst.1 a).2 htl
    · obtain ⟨l, hl, htl⟩ := List.any_eq_true.1 (List.all_eq_true.1 hs d hd)
      exact keep l hl (fun e => hmem (e ▸ hl)) htl
end Go.Proofs.YtkinilhapgagcaaDoor
set_option linter.unusedSimpArgs false
set_option linter.unusedVariables false
namespace Go.Proofs.YtkinilhapgagcaaDoor
open Go Go.RowKit

theorem mxs_ge (a : Int) (c : List Int) : a ≤ mx a c ∧ ∀ l ∈ c, varOf l ≤ mx a c := by
  unfold mx
  induction c generalizing a with
  | nil => exact ⟨Int.le_refl _, by simp⟩
  | cons l r ih =>
    obtain ⟨h1, h2⟩ := ih (max a (varOf l))
    rw [List.foldl_cons]
    refine ⟨by omega, fun x hx => ?_⟩
    rcases List.mem_cons.1 hx with e | e
    · subst e; omega
    · exact h2 x e
theorem mxs_le (a : Int) (c : List Int) (h : a ≤ 1048576) : mx a c ≤ 1048576 := by
  unfold mx
  induction c generalizing a with
  | nil => exact h
  | cons l r ih =>
    have hv := varOf_range l
    exact ih (max a (varOf l)) (by omega)
theorem fits_more {n m : Int} {c : List Int} (h : fitsP n c = true) (hm : n ≤ m) : fitsP m c = true := by
  unfold fitsP at h ⊢
  rw [List.all_eq_true] at h ⊢
  intro x hx
  have := h x hx
  rw [Bool.and_eq_true, decide_eq_true_eq] at this ⊢
  exact ⟨this.1, by omega⟩
theorem shp_frms {n : Int} {css : List (List Int)} {c : List Int} (h : shp n css c = true) : 0 ≤ mx n c ∧ frm (mx n c) css = true ∧ fitsP (mx n c) c = true ∧ frm (mx n c) (css ++ [c]) = true ∧ ∀ d ∈ css, fitsP (mx n c) d = true := by
  unfold shp at h
  rw [Bool.and_eq_true] at h
  obtain ⟨h, hd⟩ := h
  obtain ⟨g1, g2⟩ := mxs_ge n c
  unfold frm at h ⊢
  rw [Bool.and_eq_true, decide_eq_true_eq] at h
  have q2 := mxs_le n c h.1.2
  have hall : ∀ d ∈ css, fitsP (mx n c) d = true := fun d hd => fits_more (List.all_eq_true.1 h.2 d hd) g1
  have hown : fitsP (mx n c) c = true := by
    unfold fitsP
    rw [List.all_eq_true]
    intro x hx
    rw [Bool.and_eq_true, decide_eq_true_eq]
    exact ⟨List.all_eq_true.1 hd x hx, g2 x hx⟩
  refine ⟨by omega, ?_, hown, ?_, hall⟩
  · rw [decide_eq_true (by omega), Bool.true_and, List.all_eq_true]; exact hall
  · rw [decide_eq_true (by omega), Bool.true_and, List.all_append, Bool.and_eq_true]
    exact ⟨List.all_eq_true.2 hall, by rw [List.all_cons, List.all_nil, Bool.and_true]; exact hown⟩
theorem mods_same {N : Nat} {css : List (List Int)} {c : List Int} (h : ∀ m : List Bool, m.length = N → satT m css = true → mkT m c = true) : mods N (css ++ [c]) = mods N css := by
  unfold mods modsTo
  apply List.filter_congr
  intro m hm
  obtain ⟨j, _, rfl⟩ := List.mem_map.1 hm
  have h9 := h (bt N j) (bt_len N j)
  unfold satT at h9 ⊢
  rw [List.all_append, List.all_cons, List.all_nil, Bool.and_true]
  cases e : css.all (mkT (bt N j))
  · rfl
  · rw [h9 e]; rfl
theorem mods_pos {N : Nat} {css : List (List Int)} : 0 < (mods N css).length ↔ ∃ m : List Bool, m.length = N ∧ satT m css = true := by
  constructor
  · intro h
    obtain ⟨m, hm⟩ := List.exists_mem_of_length_pos h
    exact ⟨m, mem_mods.1 hm⟩
  · rintro ⟨m, h⟩
    exact List.length_pos_of_mem (mem_mods.2 h)
theorem sat_less {ms : List Bool} {css : List (List Int)} {c : List Int} (h : satT ms (css ++ [c]) = true) : satT ms css = true := by
  unfold satT at h ⊢
  rw [List.all_append, Bool.and_eq_true] at h
  exact h.1
/-- what RupSound asks of the counts -/
theorem sound8 {n : Int} {css : List (List Int)} {c : List Int} (hs : shp n css c = true) (h16 : ¬ 16 < mx n c) (hk : kndI css c = 1 ∨ kndI css c = 2) :
    cntE (mx n c) css = 0 ∧ cntE (mx n c) (css ++ [c]) = 0 ∧ (0 < (modF (mx n c) css).length ↔ 0 < (modF (mx n c) (css ++ [c])).length) ∧ (kndI css c = 1 → (modF (mx n c) (css ++ [c])).length = (modF (mx n c) css).length ∧ entB (mx n c) css c = true ∧ entE (mx n c) css c = 0) := by
  obtain ⟨q0, q1, q2, q3, q4⟩ := shp_frms hs
  have hle : mx n c ≤ 16 := by omega
  have e1 : modF (mx n c) css = mods (mx n c).toNat css := by unfold modF; rw [q1, decide_eq_true hle]; rfl
  have e2 : modF (mx n c) (css ++ [c]) = mods (mx n c).toNat (css ++ [c]) := by unfold modF; rw [q3, decide_eq_true hle]; rfl
  have e3 : entB (mx n c) css c = (modF (mx n c) css).all (fun m => mkT m c) := by unfold entB; rw [q1, q2, decide_eq_true hle]; rfl
  refine ⟨by unfold cntE; rw [q1, if_neg h16]; rfl, by unfold cntE; rw [q3, if_neg h16]; rfl, ?_, ?_⟩
  · rw [e1, e2, mods_pos, mods_pos]
    obtain ⟨N, hN⟩ : ∃ N : Nat, mx n c = (N : Int) := ⟨(mx n c).toNat, by omega⟩
    rw [hN] at q2 q4 ⊢
    rw [Int.toNat_natCast]
    constructor
    · rintro ⟨m, hm, hsm⟩
      by_cases hf : folB css c = true
      · have := cla_made hm q4 q2 hsm (claB_true.1 hf)
        refine ⟨m, hm, ?_⟩
        unfold satT at hsm ⊢
        rw [List.all_append, hsm]
        simp [this]
      · have hsf : safB css c = true := by
          unfold kndI at hk
          rw [if_neg hf] at hk
          cases e : safB css c
          · rw [e] at hk; simp at hk
          · rfl
        cases c with
        | nil => cases hsf
        | cons p r => exact rat_model hm q4 q2 hsm hsf
    · rintro ⟨m, hm, hsm⟩
      exact ⟨m, hm, sat_less hsm⟩
  · intro h1
    have hf : folB css c = true := by
      unfold kndI at h1
      cases e : folB css c
      · rw [e] at h1
        cases e2 : safB css c <;> rw [e2] at h1 <;> simp at h1
      · rfl
    obtain ⟨N, hN⟩ : ∃ N : Nat, mx n c = (N : Int) := ⟨(mx n c).toNat, by omega⟩
    have key : ∀ m : List Bool, m.length = N → satT m css = true → mkT m c = true := fun m hm hsm => by
      rw [hN] at q2 q4
      exact cla_made hm q4 q2 hsm (claB_true.1 hf)
    refine ⟨?_, ?_, by unfold entE; rw [q1, q2, if_neg h16]; rfl⟩
    · rw [e1, e2, hN, Int.toNat_natCast, mods_same key]
    · rw [e3, e1, hN, Int.toNat_natCast, List.all_eq_true]
      intro m hm
      obtain ⟨a, b⟩ := mem_mods.1 hm
      exact key m a b
theorem knd_cases (css : List (List Int)) (c : List Int) : kndI css c = 0 ∨ kndI css c = 1 ∨ kndI css c = 2 := by
  unfold kndI
  split
  · exact .inr (.inl rfl)
  · split
    · exact .inr (.inr rfl)
    · exact .inl rfl
theorem few_withs {css : List (List Int)} {d : List Int} (h : css.length + (css.map List.length).sum ≤ 1048576) (hd : d.length ≤ 1048576) : Few (css ++ [d]) := Few.of (by rw [List.length_append, List.length_singleton]; omega) (by unfold lsum; rw [List.map_append, List.sum_append]; simp; omega)
end Go.Proofs.YtkinilhapgagcaaDoor

/-
  rup: what may be added takes not the last model. No program here.
  KEEP: set on app at below new trans refl start ap kept rd rds mono lt add none own nil put len pos setF setV putL putR other neV same_any
-/
import Derived.Test.YtnkmkbailifdoaaGreatDoorJUnC
import Derived.Test.YtnkmkbailifdoaaGreatDoorJTruth
set_option linter.unusedSimpArgs false
set_option linter.unusedVariables false
namespace Go.Proofs.YtnkmkbailifdoaaGreatDoor
open Go Go.RowKit

theorem trv_opp8 {ms : List Bool} {l : Int} (hf : fmd l = true) (hv : varOf l ≤ ms.length) : trv ms (-l) = !trv ms l := by
  have hn := fmd_neg hf
  obtain ⟨h0, _, _⟩ := fmd_range hf
  rcases Int.lt_or_gt_of_ne h0 with hs | hs
  · obtain ⟨j, hj, e1, e2, e3⟩ := trv_neg hf hv hs
    have hv2 : varOf (-l) ≤ ms.length := by rw [(there_pos hn (by omega)).2]; rw [(there_neg hf hs).2] at hv; exact hv
    obtain ⟨j', hj', e1', e2', e3'⟩ := trv_pos hn hv2 (by omega)
    obtain rfl : j' = j := by omega
    rw [e3, e3']; simp
  · obtain ⟨j, hj, e1, e2, e3⟩ := trv_pos hf hv hs
    have hv2 : varOf (-l) ≤ ms.length := by rw [(there_neg hn (by omega)).2]; rw [(there_pos hf hs).2] at hv; omega
    obtain ⟨j', hj', e1', e2', e3'⟩ := trv_neg hn hv2 (by omega)
    obtain rfl : j' = j := by omega
    rw [e3, e3']
theorem varOf_neg8 (x : Int) (h : fmd x = true) : varOf x = varOf (-x) := by
  have hr := fmd_range h
  have hn := fmd_neg h
  rcases (show 0 < x ∨ x < 0 by omega) with a | a
  · rw [(there_pos h a).2, (there_neg hn (by omega)).2]; omega
  · rw [(there_neg h a).2, (there_pos hn (by omega)).2]
theorem var_eq8 {l p : Int} (hl : fmd l = true) (hp : fmd p = true) (h : varOf l = varOf p) : l = p ∨ l = -p := by
  have r1 := fmd_range hl
  have r2 := fmd_range hp
  rcases (show 0 < l ∨ l < 0 by omega) with a | a <;> rcases (show 0 < p ∨ p < 0 by omega) with b | b
  · rw [(there_pos hl a).2, (there_pos hp b).2] at h; exact .inl h
  · rw [(there_pos hl a).2, (there_neg hp b).2] at h; exact .inr h
  · rw [(there_neg hl a).2, (there_pos hp b).2] at h; exact .inr (by omega)
  · rw [(there_neg hl a).2, (there_neg hp b).2] at h; exact .inl (by omega)
theorem var_pos8 {l : Int} (hl : fmd l = true) : 1 ≤ varOf l := by
  have r1 := fmd_range hl
  rcases (show 0 < l ∨ l < 0 by omega) with a | a
  · rw [(there_pos hl a).2]; omega
  · rw [(there_neg hl a).2]; omega
theorem der_true8 {n : Nat} {ms : List Bool} {css : List (List Int)} {L : List Int} (hn : ms.length = n) (hc : ∀ c ∈ css, fitsP n c = true) (hL : fitsP n L = true) (ht : L.all (trv ms) = true) (hs : satT ms css = true) {l : Int} (h : Der css L l) : fmd l = true ∧ varOf l ≤ n ∧ trv ms l = true := by
  induction h with
  | fact h =>
    have h1 := List.all_eq_true.1 hL _ h
    rw [Bool.and_eq_true] at h1
    exact ⟨h1.1, of_decide_eq_true h1.2, List.all_eq_true.1 ht _ h⟩
  | @unit c l h1 h2 h3 ih =>
    have w1 := List.all_eq_true.1 (hc _ h1)
    have w2 := w1 _ h2
    rw [Bool.and_eq_true] at w2
    refine ⟨w2.1, of_decide_eq_true w2.2, ?_⟩
    obtain ⟨m, hm, hmt⟩ := List.any_eq_true.1 (List.all_eq_true.1 hs _ h1)
    by_cases e : m = l
    · rw [← e]; exact hmt
    · have w3 := w1 _ hm
      rw [Bool.and_eq_true] at w3
      have := trv_opp8 (ms := ms) w3.1 (by rw [hn]; exact of_decide_eq_true w3.2)
      rw [(ih m hm e).2.2, hmt] at this
      cases this
theorem no_clash8 {n : Nat} {ms : List Bool} {css : List (List Int)} {L : List Int} (hn : ms.length = n) (hc : ∀ c ∈ css, fitsP n c = true) (hL : fitsP n L = true) (ht : L.all (trv ms) = true) (hs : satT ms css = true) : ¬ Cla css L := by
  have key : ∀ l, fmd l = true → varOf l ≤ n → trv ms l = true → ¬ Der css L (-l) := fun l h1 h2 h3 hd => by
    have := trv_opp8 (ms := ms) h1 (by rw [hn]; exact h2)
    rw [(der_true8 hn hc hL ht hs hd).2.2, h3] at this
    cases this
  rintro (⟨l, a, b⟩ | ⟨c, a, b⟩)
  · obtain ⟨h1, h2, h3⟩ := der_true8 hn hc hL ht hs a
    exact key l h1 h2 h3 b
  · obtain ⟨m, hm, hmt⟩ := List.any_eq_true.1 (List.all_eq_true.1 hs _ a)
    have w3 := List.all_eq_true.1 (hc _ a) _ hm
    rw [Bool.and_eq_true] at w3
    exact key m w3.1 (of_decide_eq_true w3.2) hmt (b m hm)
/-- a clause whose opposites clash is true in each model -/
theorem cla_made {n : Nat} {ms : List Bool} {css : List (List Int)} {c : List Int} (hn : ms.length = n) (hc : ∀ d ∈ css, fitsP n d = true) (hf : fitsP n c = true) (hs : satT ms css = true) (h : Cla css (opp c)) : mkT ms c = true := by
  refine Classical.byContradiction fun hno => no_clash8 hn hc (L := opp c) ?_ ?_ hs h
  · unfold fitsP at hf ⊢
    rw [List.all_eq_true] at hf ⊢
    intro x hx
    have := hf _ (mem_opp.1 hx)
    rw [Bool.and_eq_true, decide_eq_true_eq] at this ⊢
    have h4 := fmd_neg this.1
    rw [Int.neg_neg] at h4
    refine ⟨h4, ?_⟩
    have e : varOf x = varOf (-x) := varOf_neg8 x h4
    omega
  · rw [List.all_eq_true]
    intro x hx
    have hx' := mem_opp.1 hx
    have h5 := List.all_eq_true.1 hf _ hx'
    rw [Bool.and_eq_true, decide_eq_true_eq] at h5
    have h6 : trv ms (-x) = false := by
      cases e : trv ms (-x)
      · rfl
      · exact absurd (List.any_eq_true.2 ⟨-x, hx', e⟩) hno
    have h7 := trv_opp8 (ms := ms) h5.1 (by rw [hn]; exact h5.2)
    rw [Int.neg_neg, h6] at h7
    exact h7
/-- the model with p made true -/
def flip8 (ms : List Bool) (p : Int) : List Bool := ms.set (varOf p - 1).toNat (decide (0 < p))
theorem flip_same {ms : List Bool} {p : Int} (hp : fmd p = true) (hv : varOf p ≤ ms.length) : trv (flip8 ms p) p = true := by
  have h1 := var_pos8 hp
  unfold trv flip8
  rw [List.getD_eq_getElem?_getD, List.getElem?_set_self (by omega)]
  simp
theorem flip_other {ms : List Bool} {p l : Int} (hp : fmd p = true) (hl : fmd l = true) (h : varOf l ≠ varOf p) : trv (flip8 ms p) l = trv ms l := by
  have h1 := var_pos8 hp
  have h2 := var_pos8 hl
  unfold trv flip8
  rw [List.getD_eq_getElem?_getD, List.getElem?_set_ne (by omega), ← List.getD_eq_getElem?_getD]
theorem opp_append (a b : List Int) : opp (a ++ b) = opp a ++ opp b := by unfold opp; rw [List.map_append]
theorem rat_model {n : Nat} {ms : List Bool} {css : List (List Int)} {p : Int} {r : List Int} (hn : ms.length = n) (hc : ∀ d ∈ css, fitsP n d = true) (hf : fitsP n (p :: r) = true) (hs : satT ms css = true) (h : safB css (p :: r) = true) : ∃ ms' : List Bool, ms'.length = n ∧ satT ms' (css ++ [p :: r]) = true := by
  have hfit : ∀ {d : List Int}, fitsP n d = true → ∀ l ∈ d, fmd l = true ∧ varOf l ≤ n := fun {d} hd l hl => by
    have := List.all_eq_true.1 hd l hl
    rw [Bool.and_eq_true, decide_eq_true_eq] at this
    exact this
  have hsat : ∀ {ms' : List Bool}, satT ms' css = true → mkT ms' (p :: r) = true → satT ms' (css ++ [p :: r]) = true := fun {ms'} h1 h2 => by
    unfold satT at h1 ⊢
    rw [List.all_append, h1]
    simp [h2]
  by_cases hm : mkT ms (p :: r) = true
  · exact ⟨ms, hn, hsat hs hm⟩
  · have hno : ∀ l ∈ p :: r, trv ms l = false := fun l hl => by
      cases e : trv ms l
      · rfl
      · exact absurd (List.any_eq_true.2 ⟨l, hl, e⟩) hm
    obtain ⟨hpf, hpv⟩ := hfit hf p (by simp)
    refine ⟨flip8 ms p, by unfold flip8; rw [List.length_set]; exact hn, hsat ?_ (List.any_eq_true.2 ⟨p, by simp, flip_same hpf (by omega)⟩)⟩
    unfold satT
    rw [List.all_eq_true]
    intro d hd
    have keep : ∀ l ∈ d, l ≠ -p → trv ms l = true → mkT (flip8 ms p) d = true := fun l hl h1 h2 => by
      have hlf := (hfit (hc d hd) l hl).1
      refine List.any_eq_true.2 ⟨l, hl, ?_⟩
      rw [flip_other hpf hlf fun e => ?_]
      · exact h2
      · rcases var_eq8 hlf hpf e with e2 | e2
        · rw [e2, hno p (by simp)] at h2; cases h2
        · exact h1 e2
    by_cases hmem : -p ∈ d
    · have h3 : parB css (opp (p :: r)) p css = true := h
      unfold parB at h3
      have h4 := List.all_eq_true.1 h3 d hd
      rw [decide_eq_true hmem] at h4
      have h5 : claB css (opp (p :: r) ++ opp (rst d p)) = true := by simpa using h4
      have h6 := claB_true.1 h5
      rw [← opp_append] at h6
      have hfb : fitsP n ((p :: r) ++ rst d p) = true := by
        unfold fitsP at hf ⊢
        rw [List.all_append, hf, Bool.true_and, List.all_eq_true]
        intro x hx
        obtain ⟨h8, h9⟩ := hfit (hc d hd) x (mem_rst.1 hx).1
        rw [h8, decide_eq_true h9]; rfl
      obtain ⟨l, hl, htl⟩ := List.any_eq_true.1 (cla_made hn hc hfb hs h6)
      rcases List.mem_append.1 hl with a | a
      · rw [hno l a] at htl; cases htl
      · exact keep l (mem_rst.1 a).1 (mem_rst.1 a).2 htl
    · obtain ⟨l, hl, htl⟩ := List.any_eq_true.1 (List.all_eq_true.1 hs d hd)
      exact keep l hl (fun e => hmem (e ▸ hl)) htl
end Go.Proofs.YtnkmkbailifdoaaGreatDoor

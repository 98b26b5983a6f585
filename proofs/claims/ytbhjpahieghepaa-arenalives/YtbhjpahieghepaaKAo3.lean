/-
  A Live that was taken earlier: what it reads stays, whatever is played.
  KEEP: set on app at below new trans refl start ap kept rd rds mono own row cells lt box lo ml ms c0 f0 form max find eq ma some none more map keep mv c kill kst book step after
-/
import Derived.Test.YtbhjpahieghepaaJArK
set_option linter.unusedSimpArgs false
set_option linter.unusedVariables false
namespace Go.Proofs.Ytbhjpahieghepaa
open Go Go.RowKit Go.Maps

theorem xt_take : ∀ (S A : List Seg) (p : Int), A.map Seg.lits = S.map Seg.lits → ∀ x ∈ lv p S, ∃ q : Nat, x.1 = p + q ∧ ((flat A).drop (q + 1)).take x.2.1.length = x.2.1 ∧ q + 1 + x.2.1.length ≤ (flat A).length
  | [], _, _, _, x, hx => by simp [lv] at hx
  | s :: r, [], _, h, _, _ => by simp at h
  | s :: r, a :: t, p, h, x, hx => by
    rw [List.map_cons, List.map_cons] at h
    injection h with h1 h2
    rw [lv_cons] at hx
    rcases List.mem_append.1 hx with m | m
    · have hx' : x = (p, s.lits, s.learnt) := by
        cases hl : s.live
        · rw [hl] at m; simp at m
        · rw [hl] at m; simpa using m
      subst hx'
      refine ⟨0, by simp, ?_, ?_⟩
      · show ((flat (a :: t)).drop (0 + 1)).take s.lits.length = s.lits
        simp only [flat, List.cons_append, Nat.zero_add, List.drop_succ_cons, List.drop_zero]
        rw [← h1]
        exact List.take_left
      · show 0 + 1 + s.lits.length ≤ (flat (a :: t)).length
        rw [flat_len, h1]; omega
    · obtain ⟨q, e1, e2, e3⟩ := xt_take r t _ h2 x m
      refine ⟨1 + s.lits.length + q, by rw [e1]; push_cast; omega, ?_, ?_⟩
      · have hd : (flat (a :: t)).drop (1 + s.lits.length + q + 1) = (flat t).drop (q + 1) := by
          rw [show 1 + s.lits.length + q + 1 = a.lits.length + (q + 1) + 1 by rw [h1]; omega]
          simp only [flat, List.cons_append, List.drop_succ_cons]
          rw [← List.drop_drop, List.drop_left]
        rw [hd]
        exact e2
      · rw [flat_len, h1]; omega
theorem xt_at {S S' : List Seg} (h : Xt S S') {x : Int × List Int × Bool} (hx : x ∈ lv 0 S) {j : Nat} (hj : j < x.2.1.length) : x.1.toNat + 1 + j < (flat S').length ∧ (flat S').getD (x.1.toNat + 1 + j) 0 = x.2.1.getD j 0 := by
  obtain ⟨A, B, rfl, e⟩ := h
  obtain ⟨q, e1, e2, e3⟩ := xt_take S A 0 e x hx
  have hq : x.1.toNat = q := by omega
  rw [hq, flat_append]
  have h4 := congrArg (fun l => l[j]?) e2
  simp only [List.getElem?_take, List.getElem?_drop] at h4
  rw [if_pos hj] at h4
  refine ⟨by rw [List.length_append]; omega, ?_⟩
  rw [List.getD_eq_getElem?_getD, List.getD_eq_getElem?_getD, List.getElem?_append_left (by omega), h4]
/-- the words that a Live reads lie as they lay -/
def Ol (W : World) (v : Value) (S S0 : List Seg) (g : Nat) : Prop :=
  lv 0 S0 = [] ∨ (tyB W g = some 3 ∧ (v.ownBlock = some g → Xt S0 S) ∧ ∀ x ∈ lv 0 S0, ∀ j, j < x.2.1.length → W.cell? ⟨g, x.1.toNat + 1 + j, none⟩ = some (.int .i64 (x.2.1.getD j 0)))
theorem Ol.start {W : World} {b g c : Nat} {S : List Seg} (h : Ar W b (.slice (some ⟨g, 0, none⟩) (flat S).length c) S) : Ol W (.slice (some ⟨g, 0, none⟩) (flat S).length c) S S g :=
  .inr ⟨tyB_row h.own rfl, fun _ => Xt.refl S, fun x hx j hj => by
    obtain ⟨h1, h2⟩ := xt_at (Xt.refl S) hx hj
    rw [own_cellsOf h.own rfl h1, h2]⟩
theorem Ol.below {W W' : World} {v : Value} {S S0 : List Seg} {g : Nat} (h : Ol W v S S0 g) (hb : Below W.heap.size W W') : Ol W' v S S0 g := by
  rcases h with e | ⟨ht, hx, hc⟩
  · exact .inl e
  · have hgl : g < W.heap.size := by
      unfold tyB at ht
      cases hh : W.heap[g]? with
      | none => rw [hh] at ht; cases ht
      | some o => exact (Array.getElem?_eq_some_iff.1 hh).1
    exact .inr ⟨by unfold tyB at ht ⊢; rw [hb.block g hgl]; exact ht, hx, fun x hxx j hj => (World.cell?_of_block (hb.block g hgl)).trans (hc x hxx j hj)⟩
/-- through a step -/
theorem Ol.pw {W W' : World} {b g : Nat} {v v' : Value} {S S' S0 : List Seg} (h : Ol W v S S0 g) (a : Ar W b v S) (k : Pw W v S W' v' S') (a' : Ar W' b v' S') : Ol W' v' S' S0 g := by
  rcases h with e | ⟨ht, hx, hc⟩
  · exact .inl e
  refine .inr ?_
  by_cases hv : v.ownBlock = some g
  · have x0 := hx hv
    rcases k.wo g hv with ⟨e1, x1⟩ | ⟨e1, t1, c1⟩
    · refine ⟨tyB_row a'.own e1, fun _ => x0.trans x1, fun x hxx j hj => ?_⟩
      obtain ⟨h1, h2⟩ := xt_at (x0.trans x1) hxx hj
      rw [own_cellsOf a'.own e1 h1, h2]
    · exact ⟨t1, fun q => absurd q e1, fun x hxx j hj => (c1 _ (xt_at x0 hxx hj).1).trans (hc x hxx j hj)⟩
  · have hgl : g < W.heap.size := by
      unfold tyB at ht
      cases hh : W.heap[g]? with
      | none => rw [hh] at ht; cases ht
      | some o => exact (Array.getElem?_eq_some_iff.1 hh).1
    obtain ⟨k1, k2⟩ := k.ki g hgl ht hv
    exact ⟨by unfold tyB at ht ⊢; rw [k1]; exact ht, fun q => absurd q k2, fun x hxx j hj => (World.cell?_of_block k1).trans (hc x hxx j hj)⟩
end Go.Proofs.Ytbhjpahieghepaa

/-
  ArenaSpares: all that was handed out and all that came, in one row; ApartInts of it.
  KEEP: set on app at below new trans refl start ap kept rd rds mono own row cells lt box lo ml ms c0 f0 form max find eq ma some none more map keep mv c kill kst book drew alloc step block cell tys put came out other bx same size from
-/
import Derived.Test.YtnglgcipjbpgoaaKAp5
set_option linter.unusedSimpArgs false
set_option linter.unusedVariables false
namespace Go.Proofs.Ytnglgcipjbpgoaa
open Go Go.RowKit Go.Maps Go.Shelf

section
variable {w0 W W' : World} {b : Nat} {v : Value} {S R : List Seg} {pv uv cv : Value} {U C : List Ls} {G : Nat → Prop} {D : Nat} {av av' : Value} {A : List Ls}
theorem Sq.dropC (h : Sq w0 W b v S R pv uv cv U C) : Sq w0 W b v S R pv uv (.slice none 0 0) U [] :=
  ⟨h.bel, h.ar, fun k hk => h.lo k (by
    rcases hk with q | q | q | q | q | q | ⟨x, hx, q⟩
    · exact .inl q
    · exact .inr (.inl q)
    · exact .inr (.inr (.inl q))
    · exact .inr (.inr (.inr (.inl q)))
    · cases q
    · exact .inr (.inr (.inr (.inr (.inr (.inl q)))))
    · exact absurd hx List.not_mem_nil), h.pr, h.ur, h.uo, h.ue, World.ownsRow_nil _ _ _ _, fun x hx => absurd hx List.not_mem_nil, fun g hg q => (by cases q), by
    have := h.ap
    rw [List.map_nil, List.append_nil]
    exact (List.pairwise_cons.2 ⟨fun y hy => (List.pairwise_cons.1 this).1 y (List.mem_append.2 (.inl hy)), (List.pairwise_append.1 (List.pairwise_cons.1 this).2).1⟩)⟩
/-- the row grows by whatever -/
theorem Al4.grow {w1 : World} {n' : Nat} {xs' : List Value} (h : Al4 w0 W G D av A) (ap1 : Ap W av w1 av') (o1 : w1.ownsRow 0 32 1 av' n' xs') :
    (w1.setCell ⟨D, 0, none⟩ av').heap[D]? = some (.cells #[av'] 49 (0, 0)) ∧ (w1.setCell ⟨D, 0, none⟩ av').ownsRow 0 32 1 av' n' xs' ∧ (∀ x ∈ A, Own 0 (w1.setCell ⟨D, 0, none⟩ av') x.1 x.2) ∧ w1.cell? ⟨D, 0, none⟩ = some av ∧ w1.frozen? ⟨D, 0, none⟩ = false ∧ (∀ k, k < W.heap.size → k ≠ D → av.ownBlock ≠ some k → (w1.setCell ⟨D, 0, none⟩ av').heap[k]? = W.heap[k]?) ∧ W.heap.size ≤ (w1.setCell ⟨D, 0, none⟩ av').heap.size ∧ (w1.setCell ⟨D, 0, none⟩ av').os = W.os ∧ (w1.setCell ⟨D, 0, none⟩ av').tape = W.tape ∧ (w1.setCell ⟨D, 0, none⟩ av').output = W.output := by
  have tD := tyB_cells h.bx
  have tA : ∀ g, av.ownBlock = some g → tyB W g = some 32 := fun g hg => tyB_row h.row hg
  have hD1 : w1.heap[D]? = some (.cells #[av] 49 (0, 0)) := (ap1.grown.block D h.lt.1 (fun e => absurd ((tA D e.symm).symm.trans tD) (by decide))).trans h.bx
  have hg := grown_set w1 ⟨D, 0, none⟩ av'
  have kk : ∀ k, k < W.heap.size → k ≠ D → av.ownBlock ≠ some k → (w1.setCell ⟨D, 0, none⟩ av').heap[k]? = W.heap[k]? := fun k hk h1 h2 => (hg.block k (Nat.lt_of_lt_of_le hk ap1.grown.size) (by intro q; injection q with q; exact h1 q)).trans (ap1.grown.block k hk (fun q => h2 q.symm))
  have tL : ∀ x ∈ A, ∀ g, x.1.ownBlock = some g → tyB W g = some 3 := fun x hx g hg => tyB_row (h.own x hx) hg
  exact ⟨set_heap4 hD1 0 av', row_kept4 o1 fun k e => hg.block k (World.ownsRow.lt o1 k e).2 (by intro q; injection q with q; subst q; exact absurd ((tyB_row o1 e).symm.trans (tyB_cells hD1)) (by decide)),
    fun x m => row_kept4 (h.own x m) fun g e => kk g (h.lt.2.2 x m g e) (ne_ty (tL x m g e) tD (by decide)) (fun q => absurd ((tA g q).symm.trans (tL x m g e)) (by decide)), by simp [World.cell?, hD1], by simp [World.frozen?, hD1], kk, Nat.le_trans ap1.grown.size hg.size, hg.os.trans ap1.grown.os, hg.tape.trans ap1.grown.tape, hg.output.trans ap1.grown.output⟩
end
theorem range_getD {α : Type} (l : List α) (d : α) : (List.range l.length).map (fun j => l.getD j d) = l := by
  apply List.ext_getElem?
  intro i
  rw [List.getElem?_map]
  by_cases h : i < l.length
  · rw [List.getElem?_range h]
    simp [h, List.getD_eq_getElem?_getD]
  · rw [List.getElem?_eq_none (by simpa using h), List.getElem?_eq_none (by omega)]
    rfl
/-- ApartInts of lists that lie apart, some blocks aside -/
theorem apart_list (Q : Nat → Prop) (rv : Value) (L : List Ls) (w : World) (hrow : w.ownsRow 0 32 1 rv L.length (L.map Prod.fst)) (hown : ∀ x ∈ L, Own 0 w x.1 x.2) (hap : Apv (L.map Prod.fst)) (hK : L.length * 24 ≤ 140737488351232) (hn : ∀ x ∈ L, x.2.length * 8 ≤ 140737488353280) (hqv : ∀ x ∈ L, ∀ b, x.1.ownBlock = some b → ¬ Q b) (hqs : ∀ k, Q k → k < w.heap.size) :
    Calls Try.prog 20 #[rv] w fun e w' => e = .returned (.bool true) ∧ Below 0 w w' ∧ ∀ k, Q k → w'.heap[k]? = w.heap[k]? := by
  have hg : ∀ j, j < L.length → ∃ x ∈ L, (L.map Prod.fst).getD j (.slice none 0 0) = x.1 ∧ (L.map fun x => x.2.length).getD j 0 = x.2.length := fun j hj => ⟨L[j], List.getElem_mem hj, by simp [List.getD_eq_getElem?_getD, hj], by simp [List.getD_eq_getElem?_getD, hj]⟩
  refine apart_q Q 0 rv L.length (fun j => (L.map Prod.fst).getD j (.slice none 0 0)) (fun j => (L.map fun x => x.2.length).getD j 0) w (Nat.zero_le _) ?_ (fun j hj => ?_) (fun i j hi hj hne => ?_) hK (fun j hj => ?_) (fun j hj b hb => ?_) hqs
  · have := range_getD (L.map Prod.fst) (.slice none 0 0)
    rw [List.length_map] at this
    rw [this]
    exact hrow
  · obtain ⟨x, hx, e1, e2⟩ := hg j hj
    exact ⟨x.2, by show Own 0 w ((L.map Prod.fst).getD j (.slice none 0 0)) x.2; rw [e1]; exact hown x hx, by show _ = (L.map fun x => x.2.length).getD j 0; rw [e2]⟩
  · have hp := List.pairwise_iff_getElem.1 hap
    have hl : (L.map Prod.fst).length = L.length := List.length_map ..
    have ei : (L.map Prod.fst).getD i (.slice none 0 0) = (L.map Prod.fst)[i]'(by omega) := by simp [List.getD_eq_getElem?_getD, hi]
    have ej : (L.map Prod.fst).getD j (.slice none 0 0) = (L.map Prod.fst)[j]'(by omega) := by simp [List.getD_eq_getElem?_getD, hj]
    show ((L.map Prod.fst).getD i (.slice none 0 0)).ownBlock = none ∨ ((L.map Prod.fst).getD i (.slice none 0 0)).ownBlock ≠ ((L.map Prod.fst).getD j (.slice none 0 0)).ownBlock
    rw [ei, ej]
    cases hb : ((L.map Prod.fst)[i]'(by omega)).ownBlock with
    | none => exact .inl rfl
    | some g =>
      refine .inr fun q => ?_
      rcases Nat.lt_or_gt_of_ne hne with h | h
      · exact hp i j (by omega) (by omega) h g hb q.symm
      · exact hp j i (by omega) (by omega) h g q.symm hb
  · obtain ⟨x, hx, e1, e2⟩ := hg j hj
    show (L.map fun x => x.2.length).getD j 0 * 8 ≤ _
    rw [e2]; exact hn x hx
  · obtain ⟨x, hx, e1, e2⟩ := hg j hj
    have hb' : ((L.map Prod.fst).getD j (.slice none 0 0)).ownBlock = some b := hb
    rw [e1] at hb'
    exact hqv x hx b hb'
end Go.Proofs.Ytnglgcipjbpgoaa

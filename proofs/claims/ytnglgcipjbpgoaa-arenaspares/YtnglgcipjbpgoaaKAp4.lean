/-
  ArenaSpares: the row of all that was handed out, in a box.
  KEEP: set on app at below new trans refl start ap kept rd rds mono own row cells lt box lo ml ms c0 f0 form max find eq ma some none more map keep mv c kill kst book drew alloc step block cell tys put came out other bx
-/
import Derived.Test.YtnglgcipjbpgoaaKAp3
set_option linter.unusedSimpArgs false
set_option linter.unusedVariables false
namespace Go.Proofs.Ytnglgcipjbpgoaa
open Go Go.RowKit Go.Maps Go.Shelf

/-- all that was handed out: a box, its row, the lists; G: the blocks of others -/
structure Al4 (w0 W : World) (G : Nat → Prop) (D : Nat) (av : Value) (A : List Ls) : Prop where
  bx : W.heap[D]? = some (.cells #[av] 49 (0, 0))
  row : W.ownsRow 0 32 1 av A.length (A.map Prod.fst)
  own : ∀ x ∈ A, Own 0 W x.1 x.2
  oD : w0.heap.size ≤ D ∧ ¬ G D
  oA : ∀ g, av.ownBlock = some g → w0.heap.size ≤ g ∧ ¬ G g
  oL : ∀ x ∈ A, ∀ g, x.1.ownBlock = some g → w0.heap.size ≤ g ∧ ¬ G g
  ap : Apv (A.map Prod.fst)
section
variable {w0 W W' : World} {G : Nat → Prop} {D : Nat} {av av' : Value} {A N : List Ls}
theorem Al4.lt (h : Al4 w0 W G D av A) : D < W.heap.size ∧ (∀ g, av.ownBlock = some g → g < W.heap.size) ∧ ∀ x ∈ A, ∀ g, x.1.ownBlock = some g → g < W.heap.size :=
  ⟨(Array.getElem?_eq_some_iff.1 h.bx).1, fun g hg => (World.ownsRow.lt h.row g hg).2, fun x hx g hg => (World.ownsRow.lt (h.own x hx) g hg).2⟩
theorem Al4.keep (h : Al4 w0 W G D av A) (hD : W'.heap[D]? = W.heap[D]?) (hA : ∀ g, av.ownBlock = some g → W'.heap[g]? = W.heap[g]?) (hL : ∀ x ∈ A, ∀ g, x.1.ownBlock = some g → W'.heap[g]? = W.heap[g]?) : Al4 w0 W' G D av A :=
  ⟨hD.trans h.bx, row_kept4 h.row hA, fun x hx => row_kept4 (h.own x hx) (hL x hx), h.oD, h.oA, h.oL, h.ap⟩
theorem Al4.below (h : Al4 w0 W G D av A) (hb : Below W.heap.size W W') : Al4 w0 W' G D av A := h.keep (hb.block D h.lt.1) (fun g hg => hb.block g (h.lt.2.1 g hg)) (fun x hx g hg => hb.block g (h.lt.2.2 x hx g hg))
theorem Al4.cell (h : Al4 w0 W G D av A) : W.cell? ⟨D, 0, none⟩ = some av ∧ W.frozen? ⟨D, 0, none⟩ = false := ⟨by simp [World.cell?, h.bx], by simp [World.frozen?, h.bx]⟩
/-- more is handed out -/
theorem Al4.app {w1 : World} (h : Al4 w0 W G D av A) (hN : ∀ x ∈ N, Own 0 W x.1 x.2) (oN : ∀ x ∈ N, ∀ g, x.1.ownBlock = some g → w0.heap.size ≤ g ∧ ¬ G g ∧ g ≠ D ∧ av.ownBlock ≠ some g) (hap : Apv ((A ++ N).map Prod.fst))
    (ap1 : Ap W av w1 av') (o1 : w1.ownsRow 0 32 1 av' (A.length + N.length) (A.map Prod.fst ++ N.map Prod.fst)) (hw : w0.heap.size ≤ W.heap.size) (hG : ∀ k, G k → k < W.heap.size) :
    Al4 w0 (w1.setCell ⟨D, 0, none⟩ av') G D av' (A ++ N) ∧ w1.cell? ⟨D, 0, none⟩ = some av ∧ w1.frozen? ⟨D, 0, none⟩ = false ∧ (∀ k, k < W.heap.size → k ≠ D → av.ownBlock ≠ some k → (w1.setCell ⟨D, 0, none⟩ av').heap[k]? = W.heap[k]?) ∧ W.heap.size ≤ (w1.setCell ⟨D, 0, none⟩ av').heap.size ∧ (w1.setCell ⟨D, 0, none⟩ av').os = W.os ∧ (w1.setCell ⟨D, 0, none⟩ av').tape = W.tape ∧ (w1.setCell ⟨D, 0, none⟩ av').output = W.output := by
  have tD := tyB_cells h.bx
  have tA : ∀ g, av.ownBlock = some g → tyB W g = some 32 := fun g hg => tyB_row h.row hg
  have hD1 : w1.heap[D]? = some (.cells #[av] 49 (0, 0)) := (ap1.grown.block D h.lt.1 (fun e => absurd ((tA D e.symm).symm.trans tD) (by decide))).trans h.bx
  have hg := grown_set w1 ⟨D, 0, none⟩ av'
  have kk : ∀ k, k < W.heap.size → k ≠ D → av.ownBlock ≠ some k → (w1.setCell ⟨D, 0, none⟩ av').heap[k]? = W.heap[k]? := fun k hk h1 h2 => (hg.block k (Nat.lt_of_lt_of_le hk ap1.grown.size) (by intro q; injection q with q; exact h1 q)).trans (ap1.grown.block k hk (fun q => h2 q.symm))
  have hs : W.heap.size ≤ (w1.setCell ⟨D, 0, none⟩ av').heap.size := Nat.le_trans ap1.grown.size hg.size
  have tL : ∀ x ∈ A, ∀ g, x.1.ownBlock = some g → tyB W g = some 3 := fun x hx g hg => tyB_row (h.own x hx) hg
  have tN : ∀ x ∈ N, ∀ g, x.1.ownBlock = some g → tyB W g = some 3 := fun x hx g hg => tyB_row (hN x hx) hg
  refine ⟨⟨set_heap4 hD1 0 av', ?_, fun x hx => ?_, h.oD, fun g hg => ?_, fun x hx g hg => ?_, hap⟩, by simp [World.cell?, hD1], by simp [World.frozen?, hD1], kk, hs, hg.os.trans ap1.grown.os, hg.tape.trans ap1.grown.tape, hg.output.trans ap1.grown.output⟩
  · rw [List.length_append, List.map_append]
    refine row_kept4 o1 fun k e => hg.block k (World.ownsRow.lt o1 k e).2 (by intro q; injection q with q; subst q; exact absurd ((tyB_row o1 e).symm.trans (tyB_cells hD1)) (by decide))
  · rcases List.mem_append.1 hx with m | m
    · exact row_kept4 (h.own x m) fun g e => kk g (h.lt.2.2 x m g e) (ne_ty (tL x m g e) tD (by decide)) (fun q => absurd ((tA g q).symm.trans (tL x m g e)) (by decide))
    · exact row_kept4 (hN x m) fun g e => kk g (World.ownsRow.lt (hN x m) g e).2 (oN x m g e).2.2.1 (oN x m g e).2.2.2
  · rcases ap_new ap1 g hg with e | e
    · exact h.oA g e
    · exact ⟨by omega, fun q => by have := hG g q; omega⟩
  · rcases List.mem_append.1 hx with m | m
    · exact h.oL x m g hg
    · exact ⟨(oN x m g hg).1, (oN x m g hg).2.1⟩
end
/-- lists that are new lie apart from those that were there -/
theorem apv_app {W : World} {A N : List Value} (hA : Apv A) (hN : Apv N) (h1 : ∀ x ∈ A, ∀ g, x.ownBlock = some g → g < W.heap.size) (h2 : ∀ x ∈ N, ∀ g, x.ownBlock = some g → W.heap.size ≤ g) : Apv (A ++ N) :=
  List.pairwise_append.2 ⟨hA, hN, fun x hx y hy g hg q => by have := h1 x hx g hg; have := h2 y hy g q; omega⟩
/-- the arena's side keeps -/
theorem Sq.beside {w0 W W' : World} {b : Nat} {v : Value} {S R : List Seg} {pv uv cv : Value} {U C : List Ls} {D : Nat} {av : Value} (h : Sq w0 W b v S R pv uv cv U C) (hD : w0.heap.size ≤ D ∧ ¬ Gq4 b v pv uv cv U C D) (hA : ∀ g, av.ownBlock = some g → w0.heap.size ≤ g ∧ ¬ Gq4 b v pv uv cv U C g)
    (kk : ∀ k, k < W.heap.size → k ≠ D → av.ownBlock ≠ some k → W'.heap[k]? = W.heap[k]?) (hs : W.heap.size ≤ W'.heap.size) (h1 : W'.os = W.os) (h2 : W'.tape = W.tape) (h3 : W'.output = W.output) : Sq w0 W' b v S R pv uv cv U C :=
  h.keep ⟨h1.trans h.bel.os, h2.trans h.bel.tape, h3.trans h.bel.output, Nat.le_trans h.bel.size hs, fun k hk => (kk k (Nat.lt_of_lt_of_le hk h.bel.size) (fun e => by omega) (fun e => by have := (hA k e).1; omega)).trans (h.bel.block k hk)⟩ fun k hk => kk k (h.lt k hk) (fun e => hD.2 (by rw [← e]; exact hk)) (fun e => (hA k e).2 hk)
end Go.Proofs.Ytnglgcipjbpgoaa

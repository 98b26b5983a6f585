/-
  ArenaSpares: the row of all that was handed out, in a box.
  KEEP: set on app at below new trans refl start ap kept rd rds mono own row cells lt box lo ml ms c0 f0 form max find eq ma some none more map keep mv c kill kst book drew alloc step block cell tys put came out other bx
-/
import Derived.Test.YtbhjpahieghepaaKAp3
set_option linter.unusedSimpArgs false
set_option linter.unusedVariables false
namespace Go.Proofs.Ytbhjpahieghepaa
open Go Go.RowKit Go.Maps Go.Shelf

section
variable {w0 W W' : World} {G : Nat → Prop} {D : Nat} {av av' : Value} {A N : List Ls}
end
/-- lists that are new lie apart from those that were there -/
theorem apv_app {W : World} {A N : List Value} (hA : Apv A) (hN : Apv N) (h1 : ∀ x ∈ A, ∀ g, x.ownBlock = some g → g < W.heap.size) (h2 : ∀ x ∈ N, ∀ g, x.ownBlock = some g → W.heap.size ≤ g) : Apv (A ++ N) :=
  List.pairwise_append.2 ⟨hA, hN, fun x hx y hy g hg q => by have := h1 x hx g hg; have := h2 y hy g q; omega⟩
/-- the arena's side keeps -/
theorem Sq.beside {w0 W W' : World} {b : Nat} {v : Value} {S R : List Seg} {pv uv cv : Value} {U C : List Ls} {D : Nat} {av : Value} (h : Sq w0 W b v S R pv uv cv U C) (hD : w0.heap.size ≤ D ∧ ¬ Gq4 b v pv uv cv U C D) (hA : ∀ g, av.ownBlock = some g → w0.heap.size ≤ g ∧ ¬ Gq4 b v pv uv cv U C g)
    (kk : ∀ k, k < W.heap.size → k ≠ D → av.ownBlock ≠ some k → W'.heap[k]? = W.heap[k]?) (hs : W.heap.size ≤ W'.heap.size) (h1 : W'.os = W.os) (h2 : W'.tape = W.tape) (h3 : W'.output = W.output) : Sq w0 W' b v S R pv uv cv U C :=
  h.keep ⟨h1.trans h.bel.os, h2.trans h.bel.tape, h3.trans h.bel.output, Nat.le_trans h.bel.size hs, fun k hk => (kk k (Nat.lt_of_lt_of_le hk h.bel.size) (fun e => by omega) (fun e => by have := (hA k e).1; omega)).trans (h.bel.block k hk)⟩ fun k hk => kk k (h.lt k hk) (fun e => hD.2 (by rw [← e]; exact hk)) (fun e => (hA k e).2 hk)
end Go.Proofs.Ytbhjpahieghepaa

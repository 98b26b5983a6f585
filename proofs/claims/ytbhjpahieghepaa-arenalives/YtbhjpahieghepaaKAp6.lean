/-
  ArenaSpares: all that was handed out and all that came, in one row; ApartInts of it.
  KEEP: set on app at below new trans refl start ap kept rd rds mono own row cells lt box lo ml ms c0 f0 form max find eq ma some none more map keep mv c kill kst book drew alloc step block cell tys put came out other bx same size from
-/
import Derived.Test.YtbhjpahieghepaaKAp5
set_option linter.unusedSimpArgs false
set_option linter.unusedVariables false
namespace Go.Proofs.Ytbhjpahieghepaa
open Go Go.RowKit Go.Maps Go.Shelf

section
variable {w0 W W' : World} {b : Nat} {v : Value} {S R : List Seg} {pv uv cv : Value} {U C : List Ls} {G : Nat → Prop} {D : Nat} {av av' : Value} {A : List Ls}
theorem Sq.dropC (h : Sq w0 W b v S R pv uv cv U C) : Sq w0 W b v S R pv uv (.slice none 0 0) U [] :=
  ⟨h.bel, h.ar, fun k hk => h.lo k (by
    rcases hk with q | q | q | q | q | q | ⟨x, hx, q⟩
    · exact .inl q
    · exact .inr (.inl q)
    · exact .inr (.inr (.inl q))
    · exact .inr (.inr (.inr (.inl q)))
    · cases q
    · exact .inr (.inr (.inr (.inr (.inr (.inl q)))))
    · exact absurd hx List.not_mem_nil), h.pr, h.ur, h.uo, h.ue, World.ownsRow_nil _ _ _ _, fun x hx => absurd hx List.not_mem_nil, fun g hg q => (by cases q), by
    have := h.ap
    rw [List.map_nil, List.append_nil]
    exact (List.pairwise_cons.2 ⟨fun y hy => (List.pairwise_cons.1 this).1 y (List.mem_append.2 (.inl hy)), (List.pairwise_append.1 (List.pairwise_cons.1 this).2).1⟩)⟩
end
theorem range_getD {α : Type} (l : List α) (d : α) : (List.range l.length).map (fun j => l.getD j d) = l := by
  apply List.ext_getElem?
  intro i
  rw [List.getElem?_map]
  by_cases h : i < l.length
  · rw [List.getElem?_range h]
    simp [h, List.getD_eq_getElem?_getD]
  · rw [List.getElem?_eq_none (by simpa using h), List.getElem?_eq_none (by omega)]
    rfl
end Go.Proofs.Ytbhjpahieghepaa

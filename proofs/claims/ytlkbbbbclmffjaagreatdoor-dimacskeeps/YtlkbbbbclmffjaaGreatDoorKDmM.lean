/-
  The document's Read of formulas in memory: the clauses so far in the formula's box, the clause that is being read, the words.
  KEEP: box own below mono lt set kept new trans refl app on grown cell out block size os tape output c f c0 c1 f0 f1 len nil form rd rds low set0 set1 not_row at row ap bel bx ge lit fin tx or rdz
-/
import Derived.Test.YtlkbbbbclmffjaaGreatDoorKDmS
import Derived.Test.YtlkbbbbclmffjaaGreatDoorJRdV
import Derived.Test.YtlkbbbbclmffjaaGreatDoorKApp2
import Derived.Test.YtlkbbbbclmffjaaGreatDoorKCopy
import Derived.Test.YtlkbbbbclmffjaaGreatDoorKFormAns
import Derived.Deep.RegionLaw
import Derived.Deep.RegionHeld
import Derived.Deep.RegionWith
import Derived.Deep.CutRange
set_option linter.unusedSimpArgs false
set_option linter.unusedVariables false
namespace Go.Proofs.YtlkbbbbclmffjaaGreatDoor
open Go Go.RowKit

theorem row_keepF {B e s n : Nat} {W W' : World} {v : Value} {xs : List Value} (h : W.ownsRow B e s v n xs) (hk : ∀ k, some k = v.ownBlock → W'.heap[k]? = W.heap[k]?) : W'.ownsRow B e s v n xs := by
  refine ⟨h.1, ?_⟩
  rcases h.2 with hn | ⟨g, cap, cur, hv, hg, hh, r⟩
  · exact .inl hn
  · exact .inr ⟨g, cap, cur, hv, hg, (hk g (by rw [hv]; rfl)).trans hh, r⟩
theorem rows_notF {B B' e e' s s' n n' : Nat} {W : World} {v u : Value} {xs ys : List Value} (hne : e ≠ e') (h : W.ownsRow B e s v n xs) (hu : W.ownsRow B' e' s' u n' ys) {k : Nat} (h1 : some k = v.ownBlock) (h2 : some k = u.ownBlock) : False := by
  rcases h.2 with ⟨rfl, _⟩ | ⟨g, cap, cur, rfl, _, hgb, _⟩
  · cases h1
  · rcases hu.2 with ⟨rfl, _⟩ | ⟨g', cap', cur', rfl, _, hgb', _⟩
    · cases h2
    · have e1 : k = g := by simpa [Value.ownBlock] using h1
      have e2 : k = g' := by simpa [Value.ownBlock] using h2
      subst e1; subst e2
      rw [hgb] at hgb'
      injection hgb' with q
      injection q with q1 q2
      exact hne q2
structure Fz (w : World) (E : Nat) (T : Value) (ws : List Wrd) (v : Int) (wr : World) (rv : Value) (L : List Cls) (cv : Value) (cl : List Int) : Prop where
  or : OwnR w.heap.size wr rv L
  bx : Bx2 wr E 24 (.int .i64 v) rv
  own : Own w.heap.size wr cv cl
  ap : ∀ x ∈ L, x.1.ownBlock = none ∨ x.1.ownBlock ≠ cv.ownBlock
  bel : Below w.heap.size w wr
  ge : w.heap.size ≤ E
  tx : OwnW w.heap.size wr T ws
section
variable {w : World} {E : Nat} {T : Value} {ws : List Wrd} {v : Int} {wr w1 : World} {rv : Value} {L : List Cls} {cv : Value} {cl : List Int}
theorem Fz.below (h : Fz w E T ws v wr rv L cv cl) (hb : Below wr.heap.size wr w1) : Fz w E T ws v w1 rv L cv cl :=
  ⟨h.or.below hb, h.bx.below hb, h.own.below hb, h.ap, h.bel.trans (hb.mono h.bel.size), h.ge, h.tx.below hb⟩
/-- one literal more -/
theorem Fz.lit {v7 : Value} {z : Int} {o : Obj} {w7 : World} (h : Fz w E T ws v wr rv L cv cl) (own7 : w7.ownsRow w.heap.size 3 1 v7 (cl.length + 1) (cl.map (Value.int .i64) ++ [.int .i64 z])) (ap7 : Ap (wr.alloc o) cv w7 v7) :
    Fz w E T ws v w7 rv L v7 (cl ++ [z]) := by
  have ha := h.below (below_box wr o)
  have hsz : (wr.alloc o).heap.size = wr.heap.size + 1 := by simp
  have o7 : Own w.heap.size w7 v7 (cl ++ [z]) := own_one_more own7
  have hlist : ∀ x ∈ L, ∀ k, some k = x.1.ownBlock → some k ≠ cv.ownBlock := fun x hx k hk hq => by
    rcases h.ap x hx with e | e
    · rw [e] at hk; cases hk
    · exact e (by rw [← hk, ← hq])
  have bl : ∀ k, k < (wr.alloc o).heap.size → some k ≠ cv.ownBlock → w7.heap[k]? = (wr.alloc o).heap[k]? := fun k hk hne => ap7.grown.block k hk hne
  refine ⟨⟨row_apart (by decide) ha.or.row ha.own ap7.grown, fun x hx => row_keepF (ha.or.own x hx) fun k hk => bl k (World.ownsRow.lt (ha.or.own x hx) k hk.symm).2 (hlist x hx k hk), ha.or.ap⟩, ha.bx.kept ap7.grown (ha.bx.not_row (by decide) ha.own), o7, fun x hx => ?_, ha.bel.grown ap7.grown (Nat.le_trans h.bel.size (by omega)) (fun k hk => (World.ownsRow.lt ha.own k hk).1), h.ge, row_apart (by decide) ha.tx ha.own ap7.grown⟩
  rcases ap7.new with e | e
  · rw [e]; exact h.ap x hx
  · by_cases hx0 : x.1.ownBlock = none
    · exact .inl hx0
    · refine .inr fun e' => ?_
      obtain ⟨k, hk⟩ := Option.ne_none_iff_exists'.1 hx0
      have h1 := (World.ownsRow.lt (ha.or.own x hx) k hk).2
      have h2 := e k (by rw [← e', hk])
      omega
/-- the clause is whole: behind the append, behind the store -/
theorem Fz.fin {r7 : Value} {o : Obj} {w7 : World} (h : Fz w E T ws v wr rv L cv cl) (own7 : w7.ownsRow w.heap.size 43 1 r7 (L.length + 1) (L.map Prod.fst ++ [cv])) (ap7 : Ap (wr.alloc o) rv w7 r7) :
    Bx2 w7 E 24 (.int .i64 v) rv ∧ Fz w E T ws v (w7.setCell ⟨E, 1, none⟩ r7) r7 (L ++ [(cv, cl)]) (.slice none 0 0) [] := by
  have ha := h.below (below_box wr o)
  have b7 : Bx2 w7 E 24 (.int .i64 v) rv := ha.bx.kept ap7.grown (ha.bx.not_row (by decide) ha.or.row)
  have hapc : ApartC (L ++ [(cv, cl)]) := by
    refine List.pairwise_append.2 ⟨h.or.ap, by simp, fun x hx y hy => ?_⟩
    obtain rfl : y = (cv, cl) := by simpa using hy
    exact h.ap x hx
  have or7 : OwnR w.heap.size w7 r7 (L ++ [(cv, cl)]) := h.or.app (World.grownBy_alloc _ _ none) own7 ap7.grown h.own hapc
  have bel7 : Below w.heap.size w w7 := ha.bel.grown ap7.grown (Nat.le_trans h.bel.size (by simp)) (fun k hk => (World.ownsRow.lt ha.or.row k hk).1)
  have tx7 : OwnW w.heap.size w7 T ws := row_apart (by decide) ha.tx ha.or.row ap7.grown
  refine ⟨b7, ⟨or7.set b7 (by decide) (by decide) 1 r7, b7.set1 r7, World.ownsRow_nil _ _ _ _, fun x hx => ?_, bel7.setCell (p := ⟨E, 1, none⟩) h.ge _, h.ge, row_keepF tx7 fun k hk => Below.heap_setCell _ ⟨E, 1, none⟩ _ k (fun e => b7.not_row (by decide) tx7 (by have e' : k = E := e; rw [← e']; exact hk))⟩⟩
  by_cases hx0 : x.1.ownBlock = none
  · exact .inl hx0
  · exact .inr hx0
end

end Go.Proofs.YtlkbbbbclmffjaaGreatDoor

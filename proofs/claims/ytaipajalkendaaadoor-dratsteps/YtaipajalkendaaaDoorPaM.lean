/-
  The document's Parse in memory: the steps so far, the step that is being read in its box.
  KEEP: box own below mono lt set kept new trans refl app on grown cell out block size os tape output c f c0 c1 f0 f1 len nil form rd rdz low set0 set1 set2 not_row at cut drop row ap bel oz bx ge lit fin more less tx eu
-/
import Derived.Test.YtaipajalkendaaaDoorPaP
import Derived.Test.YtaipajalkendaaaDoorDrR
import Derived.Test.YtaipajalkendaaaDoorApp2
import Derived.Deep.RegionLaw
import Derived.Deep.RegionHeld
import Derived.Deep.RegionWith
import Derived.Deep.CutRange
import Derived.Sort.AtCall
set_option linter.unusedSimpArgs false
set_option linter.unusedVariables false
namespace Go.Proofs.YtaipajalkendaaaDoor
open Go Go.RowKit

theorem row_keepP {B e s n : Nat} {W W' : World} {v : Value} {xs : List Value} (h : W.ownsRow B e s v n xs) (hk : ∀ k, some k = v.ownBlock → W'.heap[k]? = W.heap[k]?) : W'.ownsRow B e s v n xs := by
  refine ⟨h.1, ?_⟩
  rcases h.2 with hn | ⟨g, cap, cur, hv, hg, hh, r⟩
  · exact .inl hn
  · exact .inr ⟨g, cap, cur, hv, hg, (hk g (by rw [hv]; rfl)).trans hh, r⟩
/-- rows of unlike types lie in unlike blocks -/
theorem rows_notP {B B' e e' s s' n n' : Nat} {W : World} {v u : Value} {xs ys : List Value} (hne : e ≠ e') (h : W.ownsRow B e s v n xs) (hu : W.ownsRow B' e' s' u n' ys) {k : Nat} (h1 : some k = v.ownBlock) (h2 : some k = u.ownBlock) : False := by
  rcases h.2 with ⟨rfl, _⟩ | ⟨g, cap, cur, rfl, _, hgb, _⟩
  · cases h1
  · rcases hu.2 with ⟨rfl, _⟩ | ⟨g', cap', cur', rfl, _, hgb', _⟩
    · cases h2
    · have e1 : k = g := by simpa [Value.ownBlock] using h1
      have e2 : k = g' := by simpa [Value.ownBlock] using h2
      subst e1; subst e2
      rw [hgb] at hgb'
      injection hgb' with q
      injection q with q1 q2
      exact hne q2
/-- the blocks that a step may turn -/
def paQ (E : Nat) (cv : Value) : Nat → Prop := fun k => k = E ∨ some k = cv.ownBlock
/-- the steps so far, the step that is being read in its box, rows of texts -/
structure Pz (w : World) (E : Nat) (T : List (Value × List (List UInt8))) (wr : World) (u : Value) (L : List SV) (d : Bool) (cv : Value) (cl : List Int) : Prop where
  oz : OwnZ w.heap.size wr u L
  bx : Bx2 wr E 41 (.bool d) cv
  own : Own w.heap.size wr cv cl
  ap : ∀ x ∈ L, x.2.1.ownBlock = none ∨ x.2.1.ownBlock ≠ cv.ownBlock
  bel : Below w.heap.size w wr
  ge : w.heap.size ≤ E
  eu : some E ≠ u.ownBlock
  tx : ∀ t ∈ T, OwnL w.heap.size wr t.1 t.2
section
variable {w : World} {E : Nat} {T : List (Value × List (List UInt8))} {wr w1 : World} {u : Value} {L : List SV} {d : Bool} {cv : Value} {cl : List Int}
/-- a step that turns the box and the literals' block alone -/
theorem Pz.kept {d' : Bool} {cv' : Value} {cl' : List Int} (h : Pz w E T wr u L d cv cl) (mk : Mq wr (paQ E cv) w1 (paQ E cv')) (b1 : Bx2 w1 E 41 (.bool d') cv') (o1 : Own w.heap.size w1 cv' cl') : Pz w E T w1 u L d' cv' cl' := by
  have hrow : ∀ k, some k = u.ownBlock → w1.heap[k]? = wr.heap[k]? := fun k hk => mk.block k (World.ownsRow.lt h.oz.row k hk.symm).2 (fun hq => by
    rcases hq with rfl | hq
    · exact h.eu hk
    · exact rows_notP (by decide) h.own h.oz.row hq hk)
  have hlist : ∀ x ∈ L, ∀ k, some k = x.2.1.ownBlock → ¬ paQ E cv k := fun x hx k hk hq => by
    rcases hq with rfl | hq
    · exact h.bx.not_row (by decide) (h.oz.own x hx) hk
    · rcases h.ap x hx with e | e
      · rw [e] at hk; cases hk
      · exact e (by rw [← hk, ← hq])
  refine ⟨⟨row_keepP h.oz.row hrow, fun x hx => row_keepP (h.oz.own x hx) fun k hk => mk.block k (World.ownsRow.lt (h.oz.own x hx) k hk.symm).2 (hlist x hx k hk), h.oz.ap⟩, b1, o1, fun x hx => ?_, mk.low h.bel h.bel.size (fun k hk => ?_), h.ge, h.eu, fun t ht => row_keepP (h.tx t ht) fun k hk => mk.block k (World.ownsRow.lt (h.tx t ht) k hk.symm).2 (fun hq => ?_)⟩
  · by_cases hx0 : x.2.1.ownBlock = none
    · exact .inl hx0
    · refine .inr fun e => ?_
      obtain ⟨k, hk⟩ := Option.ne_none_iff_exists'.1 hx0
      rcases mk.new k (.inr (by rw [← e, hk])) with hq | hq
      · exact hlist x hx k hk.symm hq
      · have := (World.ownsRow.lt (h.oz.own x hx) k hk).2; omega
  · rcases hk with rfl | hk
    · exact h.ge
    · exact (World.ownsRow.lt h.own k hk.symm).1
  · rcases hq with rfl | hq
    · exact h.bx.not_row (by decide) (h.tx t ht) hk
    · exact rows_notP (by decide) h.own (h.tx t ht) hq hk
theorem Pz.below (h : Pz w E T wr u L d cv cl) (hb : Below wr.heap.size wr w1) : Pz w E T w1 u L d cv cl := h.kept (Mq.below hb _) (h.bx.below hb) (h.own.below hb)
theorem mqP_set {o : Nat} {v : Value} : Mq wr (paQ E cv) (wr.setCell ⟨E, o, none⟩ v) (paQ E cv) :=
  ⟨rfl, rfl, rfl, by rw [World.size_setCell]; exact Nat.le_refl _, fun k _ hk => Below.heap_setCell _ ⟨E, o, none⟩ _ k (fun e => hk (.inl e)), fun _ h => .inl h⟩
theorem Pz.drop (h : Pz w E T wr u L d cv cl) (d' : Bool) : Pz w E T (wr.setCell ⟨E, 0, none⟩ (.bool d')) u L d' cv cl :=
  h.kept mqP_set (h.bx.set0 _) (row_keepP h.own fun k hk => Below.heap_setCell _ ⟨E, 0, none⟩ _ k (fun e => h.bx.not_row (by decide) h.own (by have e' : k = E := e; rw [← e']; exact hk)))
/-- one literal more: behind the append, behind the store -/
theorem Pz.lit {v7 : Value} {z : Int} {o : Obj} {w7 : World} (h : Pz w E T wr u L d cv cl) (own7 : w7.ownsRow w.heap.size 3 1 v7 (cl.length + 1) (cl.map (Value.int .i64) ++ [.int .i64 z])) (ap7 : Ap (wr.alloc o) cv w7 v7) :
    Bx2 w7 E 41 (.bool d) cv ∧ Pz w E T (w7.setCell ⟨E, 1, none⟩ v7) u L d v7 (cl ++ [z]) := by
  have hE := h.bx.lt
  have hsz : (wr.alloc o).heap.size = wr.heap.size + 1 := by simp
  have hne := h.bx.not_row (by decide) h.own
  have b0 : Bx2 (wr.alloc o) E 41 (.bool d) cv := h.bx.below (below_box _ _)
  have b7 : Bx2 w7 E 41 (.bool d) cv := (ap7.grown.block E (by omega) hne).trans b0
  have o7 : Own w.heap.size w7 v7 (cl ++ [z]) := own_one_more own7
  refine ⟨b7, h.kept ⟨ap7.grown.os, ap7.grown.tape, ap7.grown.output, ?_, fun k hk hq => ?_, fun k hk => ?_⟩ (b7.set1 v7) (row_keepP o7 fun k hk => Below.heap_setCell _ ⟨E, 1, none⟩ _ k (fun e => b7.not_row (by decide) o7 (by have e' : k = E := e; rw [← e']; exact hk)))⟩
  · have := ap7.grown.size; rw [World.size_setCell]; omega
  · have h1 : k ≠ E := fun e => hq (.inl e)
    have h2 : some k ≠ cv.ownBlock := fun e => hq (.inr e)
    rw [Below.heap_setCell _ ⟨E, 1, none⟩ _ k h1, ap7.grown.block k (by omega) h2, Below.heap_alloc _ _ _ hk]
  · rcases hk with rfl | hk
    · exact .inl (.inl rfl)
    · rcases ap7.new with e | e
      · exact .inl (.inr (by rw [hk, e]))
      · have := e k hk.symm; exact .inr (by omega)
/-- the step is given: behind the append, behind the stores -/
theorem Pz.fin {u' : Value} {o : Obj} {w7 : World} (h : Pz w E T wr u L d cv cl) (own7 : w7.ownsRow w.heap.size 41 2 u' (L.length + 1) (svC L ++ [.bool d, cv])) (ap7 : Ap (wr.alloc o) u w7 u') :
    Bx2 w7 E 41 (.bool d) cv ∧ Pz w E T ((w7.setCell ⟨E, 0, none⟩ (.bool false)).setCell ⟨E, 1, none⟩ (.slice none 0 0)) u' (L ++ [(d, cv, cl)]) false (.slice none 0 0) [] := by
  have hE := h.bx.lt
  have hsz : (wr.alloc o).heap.size = wr.heap.size + 1 := by simp
  have b0 : Bx2 (wr.alloc o) E 41 (.bool d) cv := h.bx.below (below_box _ _)
  have b7 : Bx2 w7 E 41 (.bool d) cv := (ap7.grown.block E (by omega) h.eu).trans b0
  have hapc : ApartC ((L ++ [(d, cv, cl)]).map Prod.snd) := by
    rw [List.map_append]
    refine List.pairwise_append.2 ⟨h.oz.ap, by simp, fun x hx y hy => ?_⟩
    obtain ⟨x', hx', rfl⟩ := List.mem_map.1 hx
    obtain rfl : y = (cv, cl) := by simpa using hy
    exact h.ap x' hx'
  have oz7 : OwnZ w.heap.size w7 u' (L ++ [(d, cv, cl)]) := h.oz.app (World.grownBy_alloc _ _ none) own7 ap7.grown h.own hapc
  have bel7 : Below w.heap.size w w7 := (h.bel.alloc h.bel.size o).grown ap7.grown (by have := h.bel.size; omega) (fun k hk => (World.ownsRow.lt h.oz.row k hk).1)
  have eu7 : some E ≠ u'.ownBlock := fun e => by
    rcases ap7.new with q | q
    · exact h.eu (by rw [e, q])
    · have := q E e.symm; omega
  have tx7 : ∀ t ∈ T, OwnL w.heap.size w7 t.1 t.2 := fun t ht => row_apart (by decide) (World.ownsRow.kept (h.tx t ht) (World.grownBy_alloc wr o none) (one_or _)) (World.ownsRow.kept h.oz.row (World.grownBy_alloc wr o none) (one_or _)) ap7.grown
  have hout : ∀ {k : Nat}, k ≠ E → ((w7.setCell ⟨E, 0, none⟩ (.bool false)).setCell ⟨E, 1, none⟩ (.slice none 0 0)).heap[k]? = w7.heap[k]? := fun {k} hk => by
    rw [Below.heap_setCell _ ⟨E, 1, none⟩ _ k hk, Below.heap_setCell _ ⟨E, 0, none⟩ _ k hk]
  refine ⟨b7, ⟨⟨row_keepP oz7.row fun k hk => hout (fun e => eu7 (by rw [← e]; exact hk)), fun x hx => row_keepP (oz7.own x hx) fun k hk => hout (fun e => b7.not_row (by decide) (oz7.own x hx) (by rw [← e]; exact hk)), oz7.ap⟩, (b7.set0 _).set1 _, World.ownsRow_nil _ _ _ _, fun x hx => ?_, (bel7.setCell (p := ⟨E, 0, none⟩) h.ge _).setCell (p := ⟨E, 1, none⟩) h.ge _, h.ge, eu7, fun t ht => row_keepP (tx7 t ht) fun k hk => hout (fun e => b7.not_row (by decide) (tx7 t ht) (by rw [← e]; exact hk))⟩⟩
  by_cases hx0 : x.2.1.ownBlock = none
  · exact .inl hx0
  · exact .inr hx0
theorem Pz.more {v : Value} {ws : List (List UInt8)} (h : Pz w E T wr u L d cv cl) (ho : OwnL w.heap.size wr v ws) : Pz w E ((v, ws) :: T) wr u L d cv cl :=
  ⟨h.oz, h.bx, h.own, h.ap, h.bel, h.ge, h.eu, fun t ht => by
    rcases List.mem_cons.1 ht with rfl | ht
    · exact ho
    · exact h.tx t ht⟩
theorem Pz.less {t : Value × List (List UInt8)} (h : Pz w E (t :: T) wr u L d cv cl) : Pz w E T wr u L d cv cl :=
  ⟨h.oz, h.bx, h.own, h.ap, h.bel, h.ge, h.eu, fun t ht => h.tx t (List.mem_cons_of_mem _ ht)⟩
end
theorem OwnL.mono {B B' : Nat} {w : World} {v : Value} {ws : List (List UInt8)} (h : OwnL B w v ws) (hb : B' ≤ B) : OwnL B' w v ws := row_mono h hb
theorem own_form9p {B : Nat} {w : World} {v : Value} {n : Nat} {xs : List Value} (h : w.ownsRow B 3 1 v n xs) : ∃ a c, v = .slice a n c := by
  rcases h.2 with ⟨rfl, hn⟩ | ⟨g, cap, cur, rfl, _⟩
  · exact ⟨none, 0, by rw [hn]⟩
  · exact ⟨_, cap, rfl⟩

end Go.Proofs.YtaipajalkendaaaDoor

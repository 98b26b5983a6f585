/-
  A formula that a call builds: its box, its row of lists, all of the call's own and apart from one another.
-/
import Derived.Test.YtmfcaoacklbkoaaDoorShape
import Derived.Maps.AppendAt
import Derived.OwnWalk
import Derived.RangeFuncBox
set_option linter.unusedSimpArgs false
set_option linter.unusedVariables false
namespace Go.Proofs.YtmfcaoacklbkoaaDoor
open Go.RowKit

/-- a box of two cells -/
def Bx2 (W : World) (D : Nat) (t : TypeId) (x y : Value) : Prop := W.heap[D]? = some (.cells #[x, y] t (0, 0))
theorem Bx2.lt {W : World} {D : Nat} {t : TypeId} {x y : Value} (h : Bx2 W D t x y) : D < W.heap.size := (Array.getElem?_eq_some_iff.1 h).1
theorem Bx2.c0 {W : World} {D : Nat} {t : TypeId} {x y : Value} (h : Bx2 W D t x y) : W.cell? ⟨D, 0, none⟩ = some x := by simp [World.cell?, show W.heap[D]? = _ from h]
theorem Bx2.c1 {W : World} {D : Nat} {t : TypeId} {x y : Value} (h : Bx2 W D t x y) : W.cell? ⟨D, 1, none⟩ = some y := by simp [World.cell?, show W.heap[D]? = _ from h]
theorem Bx2.f0 {W : World} {D : Nat} {t : TypeId} {x y : Value} (h : Bx2 W D t x y) : W.frozen? ⟨D, 0, none⟩ = false := by simp [World.frozen?, show W.heap[D]? = _ from h]
theorem Bx2.f1 {W : World} {D : Nat} {t : TypeId} {x y : Value} (h : Bx2 W D t x y) : W.frozen? ⟨D, 1, none⟩ = false := by simp [World.frozen?, show W.heap[D]? = _ from h]
theorem Bx2.new (W : World) (t : TypeId) (x y : Value) : Bx2 (W.alloc (.cells #[x, y] t)) W.heap.size t x y := World.alloc_heap_new W _
theorem Bx2.kept {W W' : World} {row : Option Nat} {D : Nat} {t : TypeId} {x y : Value} (h : Bx2 W D t x y) (hg : W.grownBy W' row) (hne : some D ≠ row) : Bx2 W' D t x y := (hg.block D h.lt hne).trans h
theorem Bx2.below {W W' : World} {D : Nat} {t : TypeId} {x y : Value} (h : Bx2 W D t x y) (hb : Below W.heap.size W W') : Bx2 W' D t x y := (hb.block D h.lt).trans h
theorem Bx2.below' {B : Nat} {W W' : World} {D : Nat} {t : TypeId} {x y : Value} (h : Bx2 W D t x y) (hb : Below B W W') (hD : D < B) : Bx2 W' D t x y := (hb.block D hD).trans h
theorem Bx2.set0 {W : World} {D : Nat} {t : TypeId} {x y : Value} (h : Bx2 W D t x y) (x' : Value) : Bx2 (W.setCell ⟨D, 0, none⟩ x') D t x' y := by
  obtain ⟨hlt, hk⟩ := Array.getElem?_eq_some_iff.1 h
  show (W.heap.modify D _)[D]? = _
  rw [Array.getElem?_eq_getElem (by rw [Array.size_modify]; exact hlt), Array.getElem_modify_self, hk]
  rfl
theorem Bx2.set1 {W : World} {D : Nat} {t : TypeId} {x y : Value} (h : Bx2 W D t x y) (y' : Value) : Bx2 (W.setCell ⟨D, 1, none⟩ y') D t x y' := by
  obtain ⟨hlt, hk⟩ := Array.getElem?_eq_some_iff.1 h
  show (W.heap.modify D _)[D]? = _
  rw [Array.getElem?_eq_getElem (by rw [Array.size_modify]; exact hlt), Array.getElem_modify_self, hk]
  rfl
theorem grown_set (W : World) (a : Addr) (v : Value) : W.grownBy (W.setCell a v) (some a.block) :=
  ⟨rfl, rfl, rfl, (KeepsWalks.setCell W _ v).size, fun k _ hk => Below.heap_setCell _ _ _ k (fun e => hk (by rw [e]))⟩
theorem Bx2.not_row {W : World} {D : Nat} {t e : TypeId} {x y : Value} (h : Bx2 W D t x y) (hte : t ≠ e) {base size k : Nat} {v : Value} {xs : List Value} (hr : W.ownsRow base e size v k xs) : some D ≠ v.ownBlock := by
  rcases hr.2 with ⟨rfl, _⟩ | ⟨g, cap, cur, rfl, _, hgb, _⟩
  · simp [Value.ownBlock]
  · intro e'
    have e2 : D = g := by simpa [Value.ownBlock] using e'
    subst e2
    rw [show W.heap[D]? = _ from h] at hgb
    cases hgb
    exact hte rfl

theorem grown_below {w w' : World} (h : Below w.heap.size w w') : w.grownBy w' none := ⟨h.os, h.tape, h.output, h.size, fun k hk _ => h.block k hk⟩
theorem one_or (x : Option Nat) : x = none ∨ x ≠ none := Classical.em _
/-- rows of unlike types lie apart -/
theorem row_apart {base base' e e' s s' : Nat} {w w' : World} {v u : Value} {n n' : Nat} {xs xs' : List Value} (hne : e ≠ e') (h : w.ownsRow base e s v n xs) (hu : w.ownsRow base' e' s' u n' xs') (hg : w.grownBy w' u.ownBlock) : w'.ownsRow base e s v n xs := by
  refine ⟨h.1, ?_⟩
  rcases h.2 with hn | ⟨g, cap, cur, hv, hb', hh, r⟩
  · exact .inl hn
  · refine .inr ⟨g, cap, cur, hv, hb', ?_, r⟩
    rw [hg.block g (Array.getElem?_eq_some_iff.1 hh).1 (fun e => ?_)]
    · exact hh
    · rcases hu.2 with ⟨hn, _⟩ | ⟨g', cap', cur', hv', _, hh', _⟩
      · subst hn; cases e
      · subst hv'
        have e' : g' = g := by simpa [Value.ownBlock] using e.symm
        subst e'
        rw [hh] at hh'
        cases hh'
        exact hne rfl
theorem row_mono {base base' e s : Nat} {w : World} {v : Value} {n : Nat} {xs : List Value} (h : w.ownsRow base e s v n xs) (hb : base' ≤ base) : w.ownsRow base' e s v n xs := by
  refine ⟨h.1, ?_⟩
  rcases h.2 with hn | ⟨g, cap, cur, hv, hg, r⟩
  · exact .inl hn
  · exact .inr ⟨g, cap, cur, hv, Nat.le_trans hb hg, r⟩
theorem own_form {B : Nat} {w : World} {x : Value} {Y : List Int} (h : Own B w x Y) : ∃ a c, x = .slice a Y.length c := by
  rcases h.2 with ⟨rfl, hn⟩ | ⟨g, cap, cur, rfl, _⟩
  · exact ⟨none, 0, by rw [hn]⟩
  · exact ⟨_, cap, rfl⟩
theorem row_form {B K : Nat} {e : TypeId} {w : World} {x : Value} {xs : List Value} (h : w.ownsRow B e 1 x K xs) : ∃ a c, x = .slice a K c := by
  rcases h.2 with ⟨rfl, hn⟩ | ⟨g, cap, cur, rfl, _⟩
  · exact ⟨none, 0, by rw [hn]⟩
  · exact ⟨_, cap, rfl⟩

abbrev Cls := Value × List Int
def ApartC (L : List Cls) : Prop := L.Pairwise (fun x y => x.1.ownBlock = none ∨ x.1.ownBlock ≠ y.1.ownBlock)
theorem ApartC.snoc {B S : Nat} {W W' : World} {L : List Cls} {u : Value} {z : List Int} (h : ApartC L) (ho : ∀ x ∈ L, Own B W x.1 x.2) (hu : Own S W' u z) (hS : W.heap.size ≤ S) : ApartC (L ++ [(u, z)]) := by
  unfold ApartC
  rw [List.pairwise_append]
  refine ⟨h, List.pairwise_singleton _ _, fun x hx y hy => ?_⟩
  obtain rfl : y = (u, z) := by simpa using hy
  cases e : x.1.ownBlock with
  | none => exact .inl rfl
  | some b =>
    refine .inr fun e' => ?_
    have := (World.ownsRow.lt (ho x hx) b e).2
    have := (World.ownsRow.lt hu b e'.symm).1
    omega
end Go.Proofs.YtmfcaoacklbkoaaDoor

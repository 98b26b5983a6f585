/-
  trail: how it lies in memory; what is asked of it.
  KEEP: set on app at below new trans refl start ap kept rd rds mono
-/
import Derived.Test.YtilcokpaeapmeaaDoorJGrow
import Derived.Test.YtilcokpaeapmeaaDoorKApp2
import Derived.Test.YtilcokpaeapmeaaDoorKConcat
import Derived.Deep.RegionLaw
import Derived.Deep.CutRange
import Derived.Deep.RegionHeld
set_option linter.unusedSimpArgs false
set_option linter.unusedVariables false
namespace Go.Proofs.YtilcokpaeapmeaaDoor
open Go Go.RowKit

theorem set_heap {w : World} {g : Nat} {c : Array Value} {e : TypeId} {f : Nat × Nat} (h : w.heap[g]? = some (.cells c e f)) (k : Nat) (v : Value) : (w.setCell ⟨g, k, none⟩ v).heap[g]? = some (.cells (c.setIfInBounds k v) e f) := by
  obtain ⟨hlt, hk⟩ := Array.getElem?_eq_some_iff.1 h
  show (w.heap.modify g _)[g]? = _
  rw [Array.getElem?_eq_getElem (by rw [Array.size_modify]; exact hlt), Array.getElem_modify_self, hk]
  rfl
def Bx4 (W : World) (D : Nat) (t : TypeId) (x y z u : Value) : Prop := W.heap[D]? = some (.cells #[x, y, z, u] t (0, 0))
section
variable {W W' : World} {D : Nat} {t : TypeId} {x y z u : Value}
theorem Bx4.lt (h : Bx4 W D t x y z u) : D < W.heap.size := (Array.getElem?_eq_some_iff.1 h).1
theorem Bx4.c0 (h : Bx4 W D t x y z u) : W.cell? ⟨D, 0, none⟩ = some x := by simp [World.cell?, show W.heap[D]? = _ from h]
theorem Bx4.c1 (h : Bx4 W D t x y z u) : W.cell? ⟨D, 1, none⟩ = some y := by simp [World.cell?, show W.heap[D]? = _ from h]
theorem Bx4.c2 (h : Bx4 W D t x y z u) : W.cell? ⟨D, 2, none⟩ = some z := by simp [World.cell?, show W.heap[D]? = _ from h]
theorem Bx4.c3 (h : Bx4 W D t x y z u) : W.cell? ⟨D, 3, none⟩ = some u := by simp [World.cell?, show W.heap[D]? = _ from h]
theorem Bx4.fz (h : Bx4 W D t x y z u) (o : Nat) : W.frozen? ⟨D, o, none⟩ = false := by simp [World.frozen?, show W.heap[D]? = _ from h]
theorem Bx4.kept {row : Option Nat} (h : Bx4 W D t x y z u) (hg : W.grownBy W' row) (hne : some D ≠ row) : Bx4 W' D t x y z u := (hg.block D h.lt hne).trans h
theorem Bx4.set2 (h : Bx4 W D t x y z u) (v : Value) : Bx4 (W.setCell ⟨D, 2, none⟩ v) D t x y v u := by
  exact set_heap h 2 v
theorem Bx4.set3 (h : Bx4 W D t x y z u) (v : Value) : Bx4 (W.setCell ⟨D, 3, none⟩ v) D t x y z v := by
  exact set_heap h 3 v
theorem Bx4.not_row {e : TypeId} (h : Bx4 W D t x y z u) (hte : t ≠ e) {base size k : Nat} {v : Value} {xs : List Value} (hr : W.ownsRow base e size v k xs) : some D ≠ v.ownBlock := by
  rcases hr.2 with ⟨rfl, _⟩ | ⟨g, cap, cur, rfl, _, hg, _⟩
  · simp [Value.ownBlock]
  · intro e1
    have : D = g := by simpa [Value.ownBlock] using e1
    subst this
    rw [show W.heap[D]? = _ from h] at hg
    injection hg with hg; injection hg with _ h2; exact hte h2
end

structure Sl where
  V : Value
  F : Value
  R : Value
  L : Value
def Sl.own (s : Sl) (b k : Nat) : Prop := k = b ∨ some k = s.V.ownBlock ∨ some k = s.F.ownBlock ∨ some k = s.R.ownBlock ∨ some k = s.L.ownBlock

structure Mv (w : World) (b : Nat) (s : Sl) (w' : World) (s' : Sl) : Prop where
  os : w'.os = w.os
  tape : w'.tape = w.tape
  output : w'.output = w.output
  size : w.heap.size ≤ w'.heap.size
  block : ∀ k, k < w.heap.size → ¬ s.own b k → w'.heap[k]? = w.heap[k]?
  new : ∀ k, s'.own b k → s.own b k ∨ w.heap.size ≤ k
theorem Mv.refl (w : World) (b : Nat) (s : Sl) : Mv w b s w s := ⟨rfl, rfl, rfl, Nat.le_refl _, fun _ _ _ => rfl, fun _ h => .inl h⟩
theorem Mv.below {w w' : World} {b : Nat} {s : Sl} (h : Below w.heap.size w w') : Mv w b s w' s := ⟨h.os, h.tape, h.output, h.size, fun k hk _ => h.block k hk, fun _ h => .inl h⟩
theorem Mv.trans {w w1 w2 : World} {b : Nat} {s s1 s2 : Sl} (h : Mv w b s w1 s1) (k : Mv w1 b s1 w2 s2) : Mv w b s w2 s2 :=
  ⟨k.os.trans h.os, k.tape.trans h.tape, k.output.trans h.output, Nat.le_trans h.size k.size,
    fun i hi h1 => (k.block i (Nat.lt_of_lt_of_le hi h.size) (fun h2 => by
      rcases h.new i h2 with h3 | h3
      · exact h1 h3
      · omega)).trans (h.block i hi h1),
    fun i hi => by
      rcases k.new i hi with h1 | h1
      · exact h.new i h1
      · exact .inr (Nat.le_trans h.size h1)⟩
/-- a row of one's own in which a cell is set -/
theorem own_cell {w : World} {base e size n g cap k : Nat} {xs : List Value} (h : w.ownsRow base e size (.slice (some ⟨g, 0, none⟩) n cap) n xs) (hk : k < n * size) (x : Value) :
    (w.setCell ⟨g, k, none⟩ x).ownsRow base e size (.slice (some ⟨g, 0, none⟩) n cap) n (xs.set k x) := by
  rcases h.2 with ⟨e1, _⟩ | ⟨g', cap', cur, hv, hb, hg, h1, h2, h3, h4⟩
  · simp at e1
  · injection hv with ha _ hc
    injection ha with ha; injection ha with ha; subst ha; subst hc
    refine ⟨by rw [List.length_set]; exact h.1, .inr ⟨g, cap, cur.setIfInBounds k x, rfl, hb, ?_, h1, h2, by simpa using h3, ?_⟩⟩
    · exact set_heap hg k x
    · rw [Array.toList_setIfInBounds, List.take_set, h4]
/-- a row that is cut -/
theorem own_cut {w : World} {base e size n g cap m : Nat} {xs : List Value} (h : w.ownsRow base e size (.slice (some ⟨g, 0, none⟩) n cap) n xs) (hm : m ≤ n) :
    w.ownsRow base e size (.slice (some ⟨g, 0, none⟩) m cap) m (xs.take (m * size)) := by
  rcases h.2 with ⟨e1, _⟩ | ⟨g', cap', cur, hv, hb, hg, h1, h2, h3, h4⟩
  · simp at e1
  · injection hv with ha _ hc
    injection ha with ha; injection ha with ha; subst ha; subst hc
    have h5 : m * size ≤ n * size := Nat.mul_le_mul_right _ hm
    refine ⟨by rw [List.length_take, h.1]; omega, .inr ⟨g, cap, cur, rfl, hb, hg, by omega, h2, h3, ?_⟩⟩
    rw [← h4, List.take_take, Nat.min_eq_left h5]
theorem row_cell {w : World} {base e size n g cap : Nat} {xs : List Value} (h : w.ownsRow base e size (.slice (some ⟨g, 0, none⟩) n cap) n xs) {j : Nat} {x : Value} (hj : xs[j]? = some x) : w.cell? ⟨g, j, none⟩ = some x := by
  have := h.cells (g := g) rfl j x hj
  rw [Addr.add_lit] at this
  simpa using this
theorem row_fz {w : World} {base e size n g cap : Nat} {xs : List Value} (h : w.ownsRow base e size (.slice (some ⟨g, 0, none⟩) n cap) n xs) (j : Nat) : w.frozen? ⟨g, j, none⟩ = false := by
  rcases h.2 with ⟨e1, _⟩ | ⟨g', cap', cur, hv, hb, hg, h1, h2, h3, h4⟩
  · simp at e1
  · injection hv with ha _ hc
    injection ha with ha; injection ha with ha; subst ha
    simp [World.frozen?, hg]
theorem row_some {w : World} {base e size n : Nat} {v : Value} {xs : List Value} (h : w.ownsRow base e size v n xs) (hn : 0 < n) : ∃ g cap, v = .slice (some ⟨g, 0, none⟩) n cap ∧ n ≤ cap ∧ cap ≤ maxLen ∧ g < w.heap.size := by
  rcases h.2 with ⟨_, e1⟩ | ⟨g', cap', cur, hv, hb, hg, h1, h2, h3, h4⟩
  · omega
  · exact ⟨g', cap', hv, h1, h2, (Array.getElem?_eq_some_iff.1 hg).1⟩
theorem row_form' {w : World} {base e size n : Nat} {v : Value} {xs : List Value} (h : w.ownsRow base e size v n xs) : ∃ a cap, v = .slice a n cap := by
  rcases h.2 with ⟨rfl, e1⟩ | ⟨g', cap', cur, rfl, _⟩
  · subst e1; exact ⟨_, _, rfl⟩
  · exact ⟨_, _, rfl⟩
theorem row_kept {w w' : World} {base e size n : Nat} {v : Value} {xs : List Value} (h : w.ownsRow base e size v n xs) (hk : ∀ k, some k = v.ownBlock → w'.heap[k]? = w.heap[k]?) : w'.ownsRow base e size v n xs := by
  refine ⟨h.1, ?_⟩
  rcases h.2 with hn | ⟨g, cap, cur, rfl, hb, hg, r⟩
  · exact .inl hn
  · exact .inr ⟨g, cap, cur, rfl, hb, (hk g rfl).trans hg, r⟩

section
variable {W W' : World} {b : Nat} {s : Sl} {n : Nat} {A B C : List Int} {D : List (Nat × Int)} {R : List Pl}
end
end Go.Proofs.YtilcokpaeapmeaaDoor

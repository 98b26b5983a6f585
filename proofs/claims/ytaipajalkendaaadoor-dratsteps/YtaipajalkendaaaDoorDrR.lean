/-
  drat's reader in memory: its box, its literals; reader.end, walked.
  KEEP: box own below mono lt set kept new trans refl app on grown cell out block size os tape output
-/
import Derived.Test.YtaipajalkendaaaDoorDrN
import Derived.Test.YtaipajalkendaaaDoorDrC
import Derived.Deep.RegionLaw
import Derived.Deep.RegionHeld
import Derived.Deep.RegionWith
import Derived.Deep.CutRange
set_option linter.unusedSimpArgs false
set_option linter.unusedVariables false
namespace Go.Proofs.YtaipajalkendaaaDoor
open Go Go.RowKit Go.Lib Go.Sort

/-- a step that leaves all but a set of blocks; the set behind it -/
structure Mq (A : World) (Q : Nat → Prop) (B : World) (Q' : Nat → Prop) : Prop where
  os : B.os = A.os
  tape : B.tape = A.tape
  output : B.output = A.output
  size : A.heap.size ≤ B.heap.size
  block : ∀ k, k < A.heap.size → ¬ Q k → B.heap[k]? = A.heap[k]?
  new : ∀ k, Q' k → Q k ∨ A.heap.size ≤ k
theorem Mq.refl (A : World) (Q : Nat → Prop) : Mq A Q A Q := ⟨rfl, rfl, rfl, Nat.le_refl _, fun _ _ _ => rfl, fun _ h => .inl h⟩
theorem Mq.trans {A B C : World} {P Q R : Nat → Prop} (h : Mq A P B Q) (k : Mq B Q C R) : Mq A P C R :=
  ⟨k.os.trans h.os, k.tape.trans h.tape, k.output.trans h.output, Nat.le_trans h.size k.size, fun i hi hp => (k.block i (Nat.lt_of_lt_of_le hi h.size) (fun hq => by
    rcases h.new i hq with h1 | h1
    · exact hp h1
    · omega)).trans (h.block i hi hp), fun i hi => by
    rcases k.new i hi with h1 | h1
    · exact h.new i h1
    · exact .inr (Nat.le_trans h.size h1)⟩
theorem Mq.below {A B : World} (h : Below A.heap.size A B) (Q : Nat → Prop) : Mq A Q B Q := ⟨h.os, h.tape, h.output, h.size, fun k hk _ => h.block k hk, fun _ h => .inl h⟩
theorem Mq.cell {A B : World} {Q Q' : Nat → Prop} (h : Mq A Q B Q') {p : Addr} (h1 : p.block < A.heap.size) (h2 : ¬ Q p.block) : B.cell? p = A.cell? p := World.cell?_of_block (h.block _ h1 h2)
theorem Mq.low {A B : World} {Q Q' : Nat → Prop} {N : Nat} {w : World} (h : Mq A Q B Q') (hb : Below N w A) (hN : N ≤ A.heap.size) (hQ : ∀ k, Q k → N ≤ k) : Below N w B :=
  ⟨h.os.trans hb.os, h.tape.trans hb.tape, h.output.trans hb.output, Nat.le_trans hb.size h.size, fun k hk => (h.block k (Nat.lt_of_lt_of_le hk hN) (fun hq => by have := hQ k hq; omega)).trans (hb.block k hk)⟩

/-- a box of four cells -/
def Bx4 (W : World) (D : Nat) (x0 x1 x2 x3 : Value) : Prop := W.heap[D]? = some (.cells #[x0, x1, x2, x3] 95 (0, 0))
theorem Bx4.lt {W : World} {D : Nat} {x0 x1 x2 x3 : Value} (h : Bx4 W D x0 x1 x2 x3) : D < W.heap.size := (Array.getElem?_eq_some_iff.1 h).1
theorem Bx4.c {W : World} {D : Nat} {x0 x1 x2 x3 : Value} (h : Bx4 W D x0 x1 x2 x3) : W.cell? ⟨D, 0, none⟩ = some x0 ∧ W.cell? ⟨D, 1, none⟩ = some x1 ∧ W.cell? ⟨D, 2, none⟩ = some x2 ∧ W.cell? ⟨D, 3, none⟩ = some x3 := by
  simp [World.cell?, show W.heap[D]? = _ from h]
theorem Bx4.f {W : World} {D : Nat} {x0 x1 x2 x3 : Value} (h : Bx4 W D x0 x1 x2 x3) : W.frozen? ⟨D, 1, none⟩ = false ∧ W.frozen? ⟨D, 2, none⟩ = false ∧ W.frozen? ⟨D, 3, none⟩ = false := by
  simp [World.frozen?, show W.heap[D]? = _ from h]
theorem Bx4.kept {W W' : World} {D : Nat} {x0 x1 x2 x3 : Value} (h : Bx4 W D x0 x1 x2 x3) (hk : W'.heap[D]? = W.heap[D]?) : Bx4 W' D x0 x1 x2 x3 := hk.trans h
theorem Bx4.below {W W' : World} {D : Nat} {x0 x1 x2 x3 : Value} (h : Bx4 W D x0 x1 x2 x3) (hb : Below W.heap.size W W') : Bx4 W' D x0 x1 x2 x3 := (hb.block D h.lt).trans h
theorem Bx4.set1 {W : World} {D : Nat} {x0 x1 x2 x3 : Value} (h : Bx4 W D x0 x1 x2 x3) (y : Value) : Bx4 (W.setCell ⟨D, 1, none⟩ y) D x0 y x2 x3 := by
  obtain ⟨hlt, hk⟩ := Array.getElem?_eq_some_iff.1 h
  show (W.heap.modify D _)[D]? = _
  rw [Array.getElem?_eq_getElem (by rw [Array.size_modify]; exact hlt), Array.getElem_modify_self, hk]; rfl
theorem Bx4.set2 {W : World} {D : Nat} {x0 x1 x2 x3 : Value} (h : Bx4 W D x0 x1 x2 x3) (y : Value) : Bx4 (W.setCell ⟨D, 2, none⟩ y) D x0 x1 y x3 := by
  obtain ⟨hlt, hk⟩ := Array.getElem?_eq_some_iff.1 h
  show (W.heap.modify D _)[D]? = _
  rw [Array.getElem?_eq_getElem (by rw [Array.size_modify]; exact hlt), Array.getElem_modify_self, hk]; rfl
theorem Bx4.set3 {W : World} {D : Nat} {x0 x1 x2 x3 : Value} (h : Bx4 W D x0 x1 x2 x3) (y : Value) : Bx4 (W.setCell ⟨D, 3, none⟩ y) D x0 x1 x2 y := by
  obtain ⟨hlt, hk⟩ := Array.getElem?_eq_some_iff.1 h
  show (W.heap.modify D _)[D]? = _
  rw [Array.getElem?_eq_getElem (by rw [Array.size_modify]; exact hlt), Array.getElem_modify_self, hk]; rfl
theorem Bx4.not_row {W : World} {D : Nat} {x0 x1 x2 x3 : Value} (h : Bx4 W D x0 x1 x2 x3) {base : Nat} {v : Value} {zs : List Int} (hr : Own base W v zs) : some D ≠ v.ownBlock := by
  rcases hr.2 with ⟨rfl, _⟩ | ⟨g, cap, cur, rfl, _, hgb, _⟩
  · simp [Value.ownBlock]
  · intro e'
    have e2 : D = g := by simpa [Value.ownBlock] using e'
    subst e2
    rw [show W.heap[D]? = _ from h] at hgb
    cases hgb
/-- the reader: its box, its literals so far in a row of its own -/
structure Rx (B D : Nat) (gv : Value) (W : World) (st : RSt) (cv : Value) : Prop where
  box : Bx4 W D gv (.bool st.op) (.bool st.dr) cv
  own : Own B W cv st.cl
theorem Rx.kept {B D : Nat} {gv : Value} {W W' : World} {st : RSt} {cv : Value} (h : Rx B D gv W st cv) (hD : W'.heap[D]? = W.heap[D]?) (hc : ∀ k, some k = cv.ownBlock → W'.heap[k]? = W.heap[k]?) : Rx B D gv W' st cv := by
  refine ⟨h.box.kept hD, h.own.1, ?_⟩
  rcases h.own.2 with hn | ⟨g, cap, cur, hv, hg, hh, r⟩
  · exact .inl hn
  · exact .inr ⟨g, cap, cur, hv, hg, (hc g (by rw [hv]; rfl)).trans hh, r⟩
theorem Rx.below {B D : Nat} {gv : Value} {W W' : World} {st : RSt} {cv : Value} (h : Rx B D gv W st cv) (hb : Below W.heap.size W W') : Rx B D gv W' st cv := ⟨h.box.below hb, h.own.below hb⟩
theorem own_cut9 {B : Nat} {W : World} {v : Value} {zs : List Int} (h : Own B W v zs) : (v = .slice none 0 0 ∧ zs = []) ∨ ∃ g cap, v = .slice (some ⟨g, 0, none⟩) zs.length cap ∧ cap ≤ maxLen ∧ zs.length ≤ cap ∧ Own B W (.slice (some ⟨g, 0, none⟩) 0 cap) [] := by
  rcases h.2 with ⟨rfl, hn⟩ | ⟨g, cap, cur, rfl, hg, hh, hn, hm, hs, ht⟩
  · exact .inl ⟨rfl, List.length_eq_zero_iff.1 hn⟩
  · exact .inr ⟨g, cap, rfl, hm, hn, rfl, .inr ⟨g, cap, cur, rfl, hg, hh, Nat.zero_le _, hm, hs, by simp⟩⟩

end Go.Proofs.YtaipajalkendaaaDoor

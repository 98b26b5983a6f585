/-
  pack's reader in memory.
  KEEP: box own below mono lt set kept new trans refl app on grown cell out block size os tape output c f c0 c1 len nil form rd low set1 set2 not_row
-/
import Derived.Test.YtidlljeiholboaaDoorPkR
import Derived.Test.YtidlljeiholboaaDoorDrM
import Derived.Test.YtidlljeiholboaaDoorApp2
import Derived.Test.YtidlljeiholboaaDoorCopy
import Derived.Test.YtidlljeiholboaaDoorAppK
import Derived.Deep.RegionLaw
import Derived.Deep.RegionHeld
import Derived.Deep.RegionWith
import Derived.Deep.CutRange
import Derived.Deep.QuietTactic
import Derived.BigQuiet
import Derived.Sort.AtCall
set_option linter.unusedSimpArgs false
set_option linter.unusedVariables false
namespace Go.Proofs.YtidlljeiholboaaDoor
open Go Go.RowKit

/-- a step that leaves all but a set of blocks; the set behind it -/
structure Mk (A : World) (Q : Nat → Prop) (B : World) (Q' : Nat → Prop) : Prop where
  os : B.os = A.os
  tape : B.tape = A.tape
  output : B.output = A.output
  size : A.heap.size ≤ B.heap.size
  block : ∀ k, k < A.heap.size → ¬ Q k → B.heap[k]? = A.heap[k]?
  new : ∀ k, Q' k → Q k ∨ A.heap.size ≤ k
theorem Mk.refl (A : World) (Q : Nat → Prop) : Mk A Q A Q := ⟨rfl, rfl, rfl, Nat.le_refl _, fun _ _ _ => rfl, fun _ h => .inl h⟩
theorem Mk.trans {A B C : World} {P Q R : Nat → Prop} (h : Mk A P B Q) (k : Mk B Q C R) : Mk A P C R :=
  ⟨k.os.trans h.os, k.tape.trans h.tape, k.output.trans h.output, Nat.le_trans h.size k.size, fun i hi hp => (k.block i (Nat.lt_of_lt_of_le hi h.size) (fun hq => by
    rcases h.new i hq with h1 | h1
    · exact hp h1
    · omega)).trans (h.block i hi hp), fun i hi => by
    rcases k.new i hi with h1 | h1
    · exact h.new i h1
    · exact .inr (Nat.le_trans h.size h1)⟩
theorem Mk.below {A B : World} (h : Below A.heap.size A B) (Q : Nat → Prop) : Mk A Q B Q := ⟨h.os, h.tape, h.output, h.size, fun k hk _ => h.block k hk, fun _ h => .inl h⟩
theorem Mk.cell {A B : World} {Q Q' : Nat → Prop} (h : Mk A Q B Q') {p : Addr} (h1 : p.block < A.heap.size) (h2 : ¬ Q p.block) : B.cell? p = A.cell? p := World.cell?_of_block (h.block _ h1 h2)
theorem Mk.low {A B : World} {Q Q' : Nat → Prop} {N : Nat} {w : World} (h : Mk A Q B Q') (hb : Below N w A) (hN : N ≤ A.heap.size) (hQ : ∀ k, Q k → N ≤ k) : Below N w B :=
  ⟨h.os.trans hb.os, h.tape.trans hb.tape, h.output.trans hb.output, Nat.le_trans hb.size h.size, fun k hk => (h.block k (Nat.lt_of_lt_of_le hk hN) (fun hq => by have := hQ k hq; omega)).trans (hb.block k hk)⟩

/-- a box of three cells -/
def Bx3 (W : World) (D : Nat) (x0 x1 x2 : Value) : Prop := W.heap[D]? = some (.cells #[x0, x1, x2] 79 (0, 0))
theorem Bx3.lt {W : World} {D : Nat} {x0 x1 x2 : Value} (h : Bx3 W D x0 x1 x2) : D < W.heap.size := (Array.getElem?_eq_some_iff.1 h).1
theorem Bx3.c {W : World} {D : Nat} {x0 x1 x2 : Value} (h : Bx3 W D x0 x1 x2) : W.cell? ⟨D, 0, none⟩ = some x0 ∧ W.cell? ⟨D, 1, none⟩ = some x1 ∧ W.cell? ⟨D, 2, none⟩ = some x2 := by
  simp [World.cell?, show W.heap[D]? = _ from h]
theorem Bx3.f {W : World} {D : Nat} {x0 x1 x2 : Value} (h : Bx3 W D x0 x1 x2) : W.frozen? ⟨D, 1, none⟩ = false ∧ W.frozen? ⟨D, 2, none⟩ = false := by
  simp [World.frozen?, show W.heap[D]? = _ from h]
theorem Bx3.new (W : World) (x0 x1 x2 : Value) : Bx3 (W.alloc (.cells #[x0, x1, x2] 79)) W.heap.size x0 x1 x2 := World.alloc_heap_new W _
theorem Bx3.kept {W W' : World} {D : Nat} {x0 x1 x2 : Value} (h : Bx3 W D x0 x1 x2) (hk : W'.heap[D]? = W.heap[D]?) : Bx3 W' D x0 x1 x2 := hk.trans h
theorem Bx3.below {W W' : World} {D : Nat} {x0 x1 x2 : Value} (h : Bx3 W D x0 x1 x2) (hb : Below W.heap.size W W') : Bx3 W' D x0 x1 x2 := (hb.block D h.lt).trans h
theorem Bx3.set1 {W : World} {D : Nat} {x0 x1 x2 : Value} (h : Bx3 W D x0 x1 x2) (y : Value) : Bx3 (W.setCell ⟨D, 1, none⟩ y) D x0 y x2 := by
  obtain ⟨hlt, hk⟩ := Array.getElem?_eq_some_iff.1 h
  show (W.heap.modify D _)[D]? = _
  rw [Array.getElem?_eq_getElem (by rw [Array.size_modify]; exact hlt), Array.getElem_modify_self, hk]; rfl
theorem Bx3.set2 {W : World} {D : Nat} {x0 x1 x2 : Value} (h : Bx3 W D x0 x1 x2) (y : Value) : Bx3 (W.setCell ⟨D, 2, none⟩ y) D x0 x1 y := by
  obtain ⟨hlt, hk⟩ := Array.getElem?_eq_some_iff.1 h
  show (W.heap.modify D _)[D]? = _
  rw [Array.getElem?_eq_getElem (by rw [Array.size_modify]; exact hlt), Array.getElem_modify_self, hk]; rfl
theorem Bx3.not_row {W : World} {D : Nat} {x0 x1 x2 : Value} (h : Bx3 W D x0 x1 x2) {base : Nat} {v : Value} {zs : List Int} (hr : Own base W v zs) : some D ≠ v.ownBlock := by
  rcases hr.2 with ⟨rfl, _⟩ | ⟨g, cap, cur, rfl, _, hgb, _⟩
  · simp [Value.ownBlock]
  · intro e'
    have e2 : D = g := by simpa [Value.ownBlock] using e'
    subst e2
    rw [show W.heap[D]? = _ from h] at hgb
    cases hgb
theorem own_keepB {B : Nat} {W W' : World} {v : Value} {zs : List Int} (h : Own B W v zs) (hk : ∀ k, some k = v.ownBlock → W'.heap[k]? = W.heap[k]?) : Own B W' v zs := by
  refine ⟨h.1, ?_⟩
  rcases h.2 with hn | ⟨g, cap, cur, hv, hg, hh, r⟩
  · exact .inl hn
  · exact .inr ⟨g, cap, cur, hv, hg, (hk g (by rw [hv]; rfl)).trans hh, r⟩
/-- the reader: its box, its literals so far in a row of its own -/
structure Rk (B D : Nat) (bv : Value) (W : World) (p : Nat) (cv : Value) (cl : List Int) : Prop where
  box : Bx3 W D bv (.int .i64 p) cv
  own : Own B W cv cl
theorem Rk.below {B D : Nat} {bv : Value} {W W' : World} {p : Nat} {cv : Value} {cl : List Int} (h : Rk B D bv W p cv cl) (hb : Below W.heap.size W W') : Rk B D bv W' p cv cl := ⟨h.box.below hb, h.own.below hb⟩
/-- the reader's own blocks -/
def rkQ (D : Nat) (cv : Value) : Nat → Prop := fun k => k = D ∨ some k = cv.ownBlock
theorem own_ge {B : Nat} {W : World} {v : Value} {zs : List Int} (h : Own B W v zs) : ∀ k, some k = v.ownBlock → B ≤ k := fun k hk => (World.ownsRow.lt h k hk.symm).1
/-- the place is set -/
theorem Rk.at {B D : Nat} {bv : Value} {W : World} {p : Nat} {cv : Value} {cl : List Int} (h : Rk B D bv W p cv cl) (q : Nat) : Rk B D bv (W.setCell ⟨D, 1, none⟩ (.int .i64 q)) q cv cl :=
  ⟨h.box.set1 _, own_keepB h.own fun k hk => Below.heap_setCell _ ⟨D, 1, none⟩ _ k (fun e => h.box.not_row h.own (by have e' : k = D := e; rw [← e']; exact hk))⟩
theorem mk_set {W : World} {D o : Nat} {cv : Value} (v : Value) : Mk W (rkQ D cv) (W.setCell ⟨D, o, none⟩ v) (rkQ D cv) :=
  ⟨rfl, rfl, rfl, by rw [World.size_setCell]; exact Nat.le_refl _, fun k _ hk => Below.heap_setCell _ ⟨D, o, none⟩ _ k (fun e => hk (.inl e)), fun _ h => .inl h⟩
/-- the literals are begun anew -/
theorem own_cutB {B : Nat} {W : World} {v : Value} {zs : List Int} (h : Own B W v zs) : ∃ u, (∀ W', (Instr.slice 27 v none (some (.int .i64 0)) none).run Tryd.prog W' = .ok u W') ∧ Own B W u [] ∧ u.ownBlock = v.ownBlock := by
  have hs : ∀ W', (sizeOf (Tryd.prog.elem 27)).run Tryd.prog W' = .ok 1 W' := fun W' => by
    simp [Program.elem, Tryd.underlying27]
  rcases h.2 with ⟨rfl, hn⟩ | ⟨g, cap, cur, rfl, hg, hh, hn, hm, hsz, ht⟩
  · refine ⟨.slice none 0 0, fun W' => ?_, World.ownsRow_nil _ _ _ _, rfl⟩
    rw [run_slice_h (P := Tryd.prog) W' 27 none 0 0 (by simp [Program.elem, Tryd.underlying27]) .i64 0 (by omega) (by omega), hs]
    simp [Result.andThen, sliced]
  · refine ⟨.slice (some ⟨g, 0, none⟩) 0 cap, fun W' => ?_, ⟨rfl, .inr ⟨g, cap, cur, rfl, hg, hh, Nat.zero_le _, hm, hsz, by simp⟩⟩, rfl⟩
    rw [run_slice_h (P := Tryd.prog) W' 27 (some ⟨g, 0, none⟩) zs.length cap (by simp [Program.elem, Tryd.underlying27]) .i64 0 (by omega) (by omega), hs]
    simp [Result.andThen, sliced, Addr.add]
theorem Rk.cut {B D : Nat} {bv : Value} {W : World} {p : Nat} {cv u : Value} {cl : List Int} (h : Rk B D bv W p cv cl) (hu : Own B W u []) (he : u.ownBlock = cv.ownBlock) : Rk B D bv (W.setCell ⟨D, 2, none⟩ u) p u [] ∧ Mk W (rkQ D cv) (W.setCell ⟨D, 2, none⟩ u) (rkQ D u) := by
  refine ⟨⟨h.box.set2 u, own_keepB hu fun k hk => Below.heap_setCell _ ⟨D, 2, none⟩ _ k (fun e => h.box.not_row h.own (by have e' : k = D := e; rw [← e', ← he]; exact hk))⟩, ?_⟩
  have := mk_set (W := W) (D := D) (o := 2) (cv := cv) u
  exact ⟨this.os, this.tape, this.output, this.size, this.block, fun k hk => .inl (by unfold rkQ at hk ⊢; rwa [he] at hk)⟩
/-- one literal more: behind the append, behind the store -/
theorem Rk.app {B D : Nat} {bv : Value} {W W7 : World} {p : Nat} {cv v7 : Value} {cl : List Int} {z : Int} {o : Obj} (h : Rk B D bv W p cv cl) (own7 : W7.ownsRow B 3 1 v7 (cl.length + 1) (cl.map (Value.int .i64) ++ [.int .i64 z])) (ap7 : Ap (W.alloc o) cv W7 v7) :
    Bx3 W7 D bv (.int .i64 p) cv ∧ Rk B D bv (W7.setCell ⟨D, 2, none⟩ v7) p v7 (cl ++ [z]) ∧ Mk W (rkQ D cv) (W7.setCell ⟨D, 2, none⟩ v7) (rkQ D v7) := by
  have hD := h.box.lt
  have hsz : (W.alloc o).heap.size = W.heap.size + 1 := by simp
  have hne := h.box.not_row h.own
  have b0 : Bx3 (W.alloc o) D bv (.int .i64 p) cv := (Below.heap_alloc _ _ _ hD).trans h.box
  have b7 : Bx3 W7 D bv (.int .i64 p) cv := (ap7.grown.block D (by omega) hne).trans b0
  have o7 : Own B W7 v7 (cl ++ [z]) := own_one_more own7
  refine ⟨b7, ⟨b7.set2 v7, own_keepB o7 fun k hk => Below.heap_setCell _ ⟨D, 2, none⟩ _ k (fun e => b7.not_row o7 (by have e' : k = D := e; rw [← e']; exact hk))⟩, ⟨?_, ?_, ?_, ?_, fun k hk hq => ?_, fun k hk => ?_⟩⟩
  · exact ap7.grown.os
  · exact ap7.grown.tape
  · exact ap7.grown.output
  · have := ap7.grown.size; rw [World.size_setCell]; omega
  · have h1 : k ≠ D := fun e => hq (.inl e)
    have h2 : some k ≠ cv.ownBlock := fun e => hq (.inr e)
    rw [Below.heap_setCell _ ⟨D, 2, none⟩ _ k h1, ap7.grown.block k (by omega) h2, Below.heap_alloc _ _ _ hk]
  · rcases hk with rfl | hk
    · exact .inl (.inl rfl)
    · rcases ap7.new with e | e
      · exact .inl (.inr (by rw [hk, e]))
      · have := e k hk.symm; exact .inr (by omega)
/-- bytes from a place on -/
theorem RdY.drop {w : World} {b off c : Nat} {T : List UInt8} (h : RdY w (.slice (some ⟨b, off, none⟩) T.length c) T) (q : Nat) (hq : q ≤ T.length) {A : Option Addr} (hA : (if c = q then some (⟨b, off, none⟩ : Addr) else some ⟨b, off + q, none⟩) = A) : RdY w (.slice A (T.length - q) (c - q)) (T.drop q) := by
  obtain ⟨h1, a, c', e, hc, hm, hn, h2⟩ := h
  injection e with e1 e2 e3
  subst e1; subst e3
  refine ⟨by rw [List.length_drop]; omega, A, c - q, by rw [List.length_drop], by rw [List.length_drop]; omega, by omega, fun h => ?_, fun hne => ?_⟩
  · subst h; split at hA <;> cases hA
  · have hlt : q < T.length := by
      rcases Nat.lt_or_ge q T.length with h | h
      · exact h
      · exact absurd (List.drop_eq_nil_of_le h) hne
    obtain ⟨b', off', e', hb, hcell⟩ := h2 (by intro e; subst e; simp at hlt)
    injection e' with e'
    injection e' with q1 q2
    subst q1; subst q2
    rw [if_neg (by omega)] at hA
    subst hA
    refine ⟨b, off + q, rfl, hb, fun j hj => ?_⟩
    rw [List.length_drop] at hj
    rw [Nat.add_assoc, hcell (q + j) (by omega)]
    simp [List.getD_eq_getElem?_getD, List.getElem?_drop]

end Go.Proofs.YtidlljeiholboaaDoor

/-
  The statement's step: one step on a Pace and the document's, walked.
  KEEP: putObj alloc same block size os tape output mono lt own new keep conf rest clr below grown step no yes done
-/
import Derived.Test.YthcbpdnaocpleaaPcV
import Derived.Test.YthcbpdnaocpleaaPcN
import Derived.Deep.LoopGhost
set_option linter.unusedSimpArgs false
set_option linter.unusedVariables false
namespace Go.Proofs.Ythcbpdnaocpleaa
open Go Go.RowKit

/-- only the Pace's blocks from s on and the document's r turn -/
structure Mt (s r : Nat) (W W' : World) : Prop where
  os : W'.os = W.os
  tape : W'.tape = W.tape
  output : W'.output = W.output
  size : W.heap.size ≤ W'.heap.size
  block : ∀ k, k < W.heap.size → (k < s ∨ s + 7 ≤ k) → k ≠ r → W'.heap[k]? = W.heap[k]?
theorem Mt.refl (s r : Nat) (W : World) : Mt s r W W := ⟨rfl, rfl, rfl, Nat.le_refl _, fun _ _ _ _ => rfl⟩
theorem Mt.trans {s r : Nat} {A B C : World} (h : Mt s r A B) (k : Mt s r B C) : Mt s r A C := ⟨k.os.trans h.os, k.tape.trans h.tape, k.output.trans h.output, Nat.le_trans h.size k.size, fun i hi hn hr => (k.block i (Nat.lt_of_lt_of_le hi h.size) hn hr).trans (h.block i hi hn hr)⟩
theorem Mt.p {s r : Nat} {A B : World} (h : Mp s 7 A B) : Mt s r A B := ⟨h.os, h.tape, h.output, h.size, fun k hk hn _ => h.block k hk hn⟩
theorem Mt.r {s r : Nat} {A B : World} (h : Mp r 1 A B) : Mt s r A B := ⟨h.os, h.tape, h.output, h.size, fun k hk _ hr => h.block k hk (by omega)⟩
theorem Mt.below {s r : Nat} {A B : World} (h : Below A.heap.size A B) : Mt s r A B := ⟨h.os, h.tape, h.output, h.size, fun k hk _ _ => h.block k hk⟩
theorem Mt.low {s r N : Nat} {w A B : World} (h : Mt s r A B) (hb : Below N w A) (hN : N ≤ A.heap.size) (hs : N ≤ s) (hr : N ≤ r) : Below N w B :=
  ⟨h.os.trans hb.os, h.tape.trans hb.tape, h.output.trans hb.output, Nat.le_trans hb.size h.size, fun k hk => (h.block k (by omega) (by omega) (by omega)).trans (hb.block k hk)⟩

/-- a Pace and the document's, at the same counts -/
structure Tw (W : World) (C s r : Nat) (b f g : Int) (d : Nat) (p u : Int) (x : Ps) : Prop where
  pz : Pz W C s b f g x
  rz : Rz W r b f g d p u x
  pn : Pn b f g x
  ap : s + 7 ≤ r
theorem Tw.below {W W' : World} {C s r : Nat} {b f g : Int} {d : Nat} {p u : Int} {x : Ps} (h : Tw W C s r b f g d p u x) (hb : Below W.heap.size W W') : Tw W' C s r b f g d p u x := ⟨h.pz.below hb, h.rz.below hb, h.pn, h.ap⟩
/-- another pair's step -/
theorem Tw.mt {W W' : World} {C s r s' r' : Nat} {b f g : Int} {d : Nat} {p u : Int} {x : Ps} (h : Tw W C s r b f g d p u x) (hm : Mt s' r' W W') (h1 : (C < s' ∨ s' + 7 ≤ C) ∧ C ≠ r') (h2 : (s + 7 ≤ s' ∨ s' + 7 ≤ s) ∧ (s + 7 ≤ r' ∨ r' < s)) (h3 : (r < s' ∨ s' + 7 ≤ r) ∧ r ≠ r') : Tw W' C s r b f g d p u x := by
  obtain ⟨dd, pp, uu, hc⟩ := h.pz.cb
  have q := h.pz
  have hk : ∀ (D : Nat) (t : TypeId) (v : Value), Bo W D t v → s ≤ D → D < s + 7 → Bo W' D t v := fun D t v hb h4 h5 => (hm.block D hb.lt (by omega) (by omega)).trans hb
  exact ⟨⟨⟨dd, pp, uu, (hm.block C hc.lt h1.1 h1.2).trans hc⟩, q.lt, hk _ _ _ q.kb (by omega) (by omega), hk _ _ _ q.w1 (by omega) (by omega), hk _ _ _ q.t1 (by omega) (by omega), hk _ _ _ q.l1 (by omega) (by omega), hk _ _ _ q.w2 (by omega) (by omega), hk _ _ _ q.t2 (by omega) (by omega), hk _ _ _ q.l2 (by omega) (by omega)⟩, (hm.block r h.rz.lt h3.1 h3.2).trans h.rz, h.pn, h.ap⟩
/-- the program's step, then the document's -/
theorem Tw.two {W W1 W2 : World} {C s r : Nat} {b f g : Int} {d : Nat} {p u : Int} {x y : Ps} (h : Tw W C s r b f g d p u x) (h1 : Pz W1 C s b f g y) (m1 : Mp s 7 W W1) (h2 : Rz W2 r b f g d p u y) (m2 : Mp r 1 W1 W2) (hn : Pn b f g y) : Tw W2 C s r b f g d p u y ∧ Mt s r W W2 := by
  have hlt := h.pz.lt
  have hap := h.ap
  exact ⟨⟨h1.mp m2 (by omega) (by omega), h2, hn, h.ap⟩, (Mt.p m1).trans (Mt.r m2)⟩
theorem Tw.rz1 {W W1 : World} {C s r : Nat} {b f g : Int} {d : Nat} {p u : Int} {x : Ps} (h : Tw W C s r b f g d p u x) (m1 : Mp s 7 W W1) : Rz W1 r b f g d p u x := h.rz.mp m1 (by have := h.ap; omega)

/-- what a step leaves -/
def TwS (W : World) (C s r : Nat) (b f g : Int) (d : Nat) (p u : Int) (K : Int) (w' : World) : Prop := ∃ y, Tw w' C s r b f g d p u y ∧ y.k ≤ K ∧ Mt s r W w'
end Go.Proofs.Ythcbpdnaocpleaa

/-
  control.Get, walked.
  KEEP: len below nil form rd mono rdz on app start at new trans refl kept own row ap out step each grown block Ap
-/
import Derived.Test.YtblkhkfjaggnfaaDoorCvC
import Derived.Test.YtblkhkfjaggnfaaDoorCtM
set_option linter.unusedSimpArgs false
set_option linter.unusedVariables false
namespace Go.Proofs.YtblkhkfjaggnfaaDoor
open Go Go.RowKit

/-- a field in a box -/
def Fz2 (W : World) (D : Nat) (a b : List UInt8) : Prop := W.heap[D]? = some (.cells #[.string ⟨a.toArray⟩, .string ⟨b.toArray⟩] 37 (0, 0))
theorem Fz2.lt {W : World} {D : Nat} {a b : List UInt8} (h : Fz2 W D a b) : D < W.heap.size := (Array.getElem?_eq_some_iff.1 h).1
theorem Fz2.c0 {W : World} {D : Nat} {a b : List UInt8} (h : Fz2 W D a b) : W.cell? ⟨D, 0, none⟩ = some (.string ⟨a.toArray⟩) := by simp [World.cell?, show W.heap[D]? = _ from h]
theorem Fz2.c1 {W : World} {D : Nat} {a b : List UInt8} (h : Fz2 W D a b) : W.cell? ⟨D, 1, none⟩ = some (.string ⟨b.toArray⟩) := by simp [World.cell?, show W.heap[D]? = _ from h]
theorem Fz2.mk1 (W : World) (a b : List UInt8) : Fz2 (W.alloc (.cells #[.string ⟨a.toArray⟩, .string ⟨b.toArray⟩] 37)) W.heap.size a b := World.alloc_heap_new W _
theorem Fz2.blw {W W' : World} {D : Nat} {a b : List UInt8} (h : Fz2 W D a b) (hb : Below W.heap.size W W') : Fz2 W' D a b := (hb.block D h.lt).trans h

end Go.Proofs.YtblkhkfjaggnfaaDoor

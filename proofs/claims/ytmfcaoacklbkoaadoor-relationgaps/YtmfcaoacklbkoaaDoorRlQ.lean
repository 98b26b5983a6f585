/-
  A relation in a box.
  KEEP: off c0 c1 c2 c3 c4 s0 s1 s2 s3 s4 newS rds lt f t q x len below nil form rd mono on app start at new trans refl kept own row out grown rdz set one more lt size cell some none letL tail next step go add put del get look no yes e c f b k n m box
-/
import Derived.Test.YtmfcaoacklbkoaaDoorRlB
import Derived.Test.YtmfcaoacklbkoaaDoorVsE
set_option linter.unusedSimpArgs false
set_option linter.unusedVariables false
namespace Go.Proofs.YtmfcaoacklbkoaaDoor
open Go Go.RowKit

/-- a relation's box -/
def Rq (W : World) (D : Nat) (n : ByteArray) (o : Int) (v : ByteArray) : Prop := W.heap[D]? = some (.cells #[.string n, .int .i64 o, .string v] 34 (0, 0))
section
variable {W : World} {D : Nat} {n v : ByteArray} {o : Int}
theorem Rq.lt (h : Rq W D n o v) : D < W.heap.size := (Array.getElem?_eq_some_iff.1 h).1
theorem Rq.c0 (h : Rq W D n o v) : W.cell? ⟨D, 0, none⟩ = some (.string n) := by simp [World.cell?, show W.heap[D]? = _ from h]
theorem Rq.c1 (h : Rq W D n o v) : W.cell? ⟨D, 1, none⟩ = some (.int .i64 o) := by simp [World.cell?, show W.heap[D]? = _ from h]
theorem Rq.c2 (h : Rq W D n o v) : W.cell? ⟨D, 2, none⟩ = some (.string v) := by simp [World.cell?, show W.heap[D]? = _ from h]
theorem Rq.f (h : Rq W D n o v) (k : Nat) : W.frozen? ⟨D, k, none⟩ = false := by simp [World.frozen?, show W.heap[D]? = _ from h]
theorem Rq.newS (W : World) (n : ByteArray) (o : Int) (v : ByteArray) (D : Nat) (h : D = W.heap.size) : Rq (W.alloc (.cells #[.string n, .int .i64 o, .string v] 34)) D n o v := by subst h; exact World.alloc_heap_new W _
theorem Rq.below {B : Nat} {W' : World} (h : Rq W D n o v) (hb : Below B W W') (hD : D < B) : Rq W' D n o v := (hb.block D hD).trans h
theorem Rq.set (h : Rq W D n o v) (k : Nat) (z : Value) : (W.setCell ⟨D, k, none⟩ z).heap[D]? = some (.cells (#[.string n, .int .i64 o, .string v].set! k z) 34 (0, 0)) := by
  obtain ⟨hlt, hk⟩ := Array.getElem?_eq_some_iff.1 h
  show (W.heap.modify D _)[D]? = _
  rw [Array.getElem?_eq_getElem (by rw [Array.size_modify]; exact hlt), Array.getElem_modify_self, hk]
  rfl
theorem Rq.s0 (h : Rq W D n o v) (z : ByteArray) : Rq (W.setCell ⟨D, 0, none⟩ (.string z)) D z o v := h.set 0 _
theorem Rq.s1 (h : Rq W D n o v) (z : Int) : Rq (W.setCell ⟨D, 1, none⟩ (.int .i64 z)) D n z v := h.set 1 _
theorem Rq.s2 (h : Rq W D n o v) (z : ByteArray) : Rq (W.setCell ⟨D, 2, none⟩ (.string z)) D n o z := h.set 2 _
theorem Rq.off (h : Rq W D n o v) {E : Nat} (hE : D ≠ E) (k : Nat) (z : Value) : Rq (W.setCell ⟨E, k, none⟩ z) D n o v := (Below.heap_setCell _ _ _ _ hE).trans h
end

end Go.Proofs.YtmfcaoacklbkoaaDoor

/-
  Small laws: boxes; a function that holds a range over a function.
-/
import Derived.Test.YtfklgfdkpmfdnaaDoorModW
set_option linter.unusedSimpArgs false
set_option linter.unusedVariables false
namespace Go.Proofs.YtfklgfdkpmfdnaaDoor
open Go Go.RowKit Go.Shelf

theorem box_new (w : World) (x : Value) (t : TypeId) : (w.alloc (.cells #[x] t)).cell? ⟨w.heap.size, 0, none⟩ = some x := by rw [World.cell?_alloc_at _ _ _ _ rfl]; rfl
theorem box_old {w : World} {a : Addr} {x : Value} (h : w.cell? a = some x) (o : Obj) : (w.alloc o).cell? a = some x := (World.grownBy_alloc w o none).cell h (by simp)
theorem frozen_old {w : World} {a : Addr} {x : Value} (h : w.cell? a = some x) (hf : w.frozen? a = false) (o : Obj) : (w.alloc o).frozen? a = false := (frozen_kept h (World.grownBy_alloc w o none) (fun r e => by cases e)).trans hf
/-- a post-condition under which nothing panics -/
def noPanic (Q : Exit → Act → World → Prop) : Exit → Act → World → Prop
  | .panic _, _, _ => False
  | e, a, w => Q e a w
theorem calls_marks {P : Program} {f : FuncId} {fn : Func} {c : Code} {args : Array Value} {w : World} {R : Ending → World → Prop} (n : Nat) (hf : P.funcs[f]? = some fn) (hb : fn.body = some c)
    (h : c.wp P (noPanic (bodyPostM Fence.wide n P fn R)) { tmps := args ++ Array.replicate (fn.ntmps - args.size) undef, defers := [] } w) : Calls P f args w R :=
  callsIn_wide.1 (callsIn_of_wp_marks hf hb trivial (wpIn_wide.2 (wp_mono h (by intro e a w h; cases e <;> first | exact h | exact h.elim))))
theorem keeps_below {w w' : World} (h : Below w.heap.size w w') : KeepsOthers w w' := KeepsOthers.of_grownBy (grown_below h) (fun _ _ e _ => by cases e)
/-- a box of one cell -/
def B1 (W : World) (D : Nat) (v : Value) : Prop := ∃ t, W.heap[D]? = some (.cells #[v] t (0, 0))
theorem B1.c {W : World} {D : Nat} {v : Value} (h : B1 W D v) : W.cell? ⟨D, 0, none⟩ = some v := by obtain ⟨t, h⟩ := h; simp [World.cell?, h]
theorem B1.f {W : World} {D : Nat} {v : Value} (h : B1 W D v) : W.frozen? ⟨D, 0, none⟩ = false := by obtain ⟨t, h⟩ := h; simp [World.frozen?, h]
theorem B1.lt {W : World} {D : Nat} {v : Value} (h : B1 W D v) : D < W.heap.size := by obtain ⟨t, h⟩ := h; exact (Array.getElem?_eq_some_iff.1 h).1
theorem B1.new (W : World) (t : TypeId) (v : Value) : B1 (W.alloc (.cells #[v] t)) W.heap.size v := ⟨t, World.alloc_heap_new W _⟩
theorem B1.kept {W W' : World} {row : Option Nat} {D : Nat} {v : Value} (h : B1 W D v) (hg : W.grownBy W' row) (hne : some D ≠ row) : B1 W' D v := by
  have hl := h.lt
  obtain ⟨t, h⟩ := h; exact ⟨t, (hg.block D hl hne).trans h⟩
theorem B1.below {W W' : World} {D : Nat} {v : Value} (h : B1 W D v) (hb : Below W.heap.size W W') : B1 W' D v := h.kept (grown_below hb) (by simp)
theorem B1.set {W : World} {D : Nat} {v : Value} (h : B1 W D v) (u : Value) : B1 (W.setCell ⟨D, 0, none⟩ u) D u := by
  obtain ⟨t, h⟩ := h
  refine ⟨t, ?_⟩
  rw [Joins.block_setCell h]; rfl
/-- it stays while marks of loops are put and blocks are made -/
theorem B1.own {β : Type} (B D : Nat) (v : β → Value) : OwnFrom B (fun (s : β) W => B1 W D (v s)) := fun s A A' row h hg hr => h.kept hg (by
  intro e
  obtain ⟨_, o, ho, hc⟩ := hr D e.symm
  obtain ⟨t, h⟩ := h
  rw [h] at ho; cases ho
  simp [Obj.isCells] at hc)
theorem below_grown {B : Nat} {w A A' : World} {row : Option Nat} (h : Below B w A) (hg : A.grownBy A' row) (hs : B ≤ A.heap.size) (hr : ∀ r, row = some r → B ≤ r) : Below B w A' := h.grown hg hs hr
theorem own_below {β : Type} {B C : Nat} {w : World} (hC : B ≤ C) (hs : B ≤ w.heap.size) : OwnFrom C (fun (_ : β) W => Below B w W) := fun s A A' row h hg hr => h.grown hg (Nat.le_trans hs h.size) (fun r e => by have := (hr r e).1; omega)

end Go.Proofs.YtfklgfdkpmfdnaaDoor

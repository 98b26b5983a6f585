/-
  Small laws: boxes, a function that holds a range over a function, stores into a row.
-/
import Derived.Test.YthplkllphpnaoabRes2
set_option linter.unusedSimpArgs false
set_option linter.unusedVariables false
namespace Go.Proofs.Ythplkllphpnaoab
open Go Go.RowKit Go.Shelf

theorem box_new (w : World) (x : Value) (t : TypeId) : (w.alloc (.cells #[x] t)).cell? ⟨w.heap.size, 0, none⟩ = some x := by rw [World.cell?_alloc_at _ _ _ _ rfl]; rfl
theorem szA (w : World) (o : Obj) : w.heap.size < (w.alloc o).heap.size := by simp
theorem box_old {w : World} {a : Addr} {x : Value} (h : w.cell? a = some x) (o : Obj) : (w.alloc o).cell? a = some x := (World.grownBy_alloc w o none).cell h (by simp)
theorem frozen_old {w : World} {a : Addr} {x : Value} (h : w.cell? a = some x) (hf : w.frozen? a = false) (o : Obj) : (w.alloc o).frozen? a = false := (frozen_kept h (World.grownBy_alloc w o none) (fun r e => by cases e)).trans hf
theorem rd_far {N g : Nat} {W : World} {v : Value} {zs : List Int} (h : Own N W v zs) (hl : zs.length * 8 ≤ 140737488351232) (hg : g < N) (x : Value) : Rd (W.setCell ⟨g, 0, none⟩ x) v zs := Own.rd (base := N) (ownsRow_setCell_below h (a := ⟨g, 0, none⟩) hg x) hl
/-- a post-condition under which nothing panics -/
def noPanic (Q : Exit → Act → World → Prop) : Exit → Act → World → Prop
  | .panic _, _, _ => False
  | e, a, w => Q e a w
theorem calls_marks {P : Program} {f : FuncId} {fn : Func} {c : Code} {args : Array Value} {w : World} {R : Ending → World → Prop} (n : Nat) (hf : P.funcs[f]? = some fn) (hb : fn.body = some c)
    (h : c.wp P (noPanic (bodyPostM Fence.wide n P fn R)) { tmps := args ++ Array.replicate (fn.ntmps - args.size) undef, defers := [] } w) : Calls P f args w R :=
  callsIn_wide.1 (callsIn_of_wp_marks hf hb trivial (wpIn_wide.2 (wp_mono h (by intro e a w h; cases e <;> first | exact h | exact h.elim))))
theorem own_store {base : Nat} {w : World} {g cap n m : Nat} {Y : List Int} {z : Int} (h : Own base w (.slice (some ⟨g, 0, none⟩) n cap) Y) (hl : Y.length = n) :
    Own base (w.setCell ⟨g, m, none⟩ (.int .i64 z)) (.slice (some ⟨g, 0, none⟩) n cap) (Y.set m z) := by
  subst hl
  have := (World.ownsRow.stored h m (.int .i64 z)).1
  unfold Own
  rw [List.length_set, List.map_set]
  exact this
theorem own_setCell_other {base : Nat} {w : World} {v : Value} {zs : List Int} {g m : Nat} (h : Own base w v zs) (hg : g < base) (u : Value) : Own base (w.setCell ⟨g, m, none⟩ u) v zs :=
  ownsRow_setCell_below h (a := ⟨g, m, none⟩) hg u
theorem keeps_below {w w' : World} (h : Below w.heap.size w w') : KeepsOthers w w' := KeepsOthers.of_grownBy (grown_of_below h) (fun _ _ e _ => by cases e)

end Go.Proofs.Ythplkllphpnaoab

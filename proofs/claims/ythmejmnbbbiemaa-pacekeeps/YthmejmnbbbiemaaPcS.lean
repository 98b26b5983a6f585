/-
  Small laws: worlds, boxes; a function that holds a range over a function.
  KEEP: putObj alloc same block size os tape output mono lt own new keep
-/
import Derived.Test.YthmejmnbbbiemaaPcR
import Derived.Test.YthmejmnbbbiemaaPcF
import Derived.Laws.EntriesVeiled
set_option linter.unusedSimpArgs false
set_option linter.unusedVariables false
namespace Go.Proofs.Ythmejmnbbbiemaa
open Go Go.RowKit Go.Shelf

/-- a post-condition under which nothing panics -/
def noPanic13 (Q : Exit → Act → World → Prop) : Exit → Act → World → Prop
  | .panic _, _, _ => False
  | e, a, w => Q e a w
theorem calls_marks13 {P : Program} {f : FuncId} {fn : Func} {c : Code} {args : Array Value} {w : World} {R : Ending → World → Prop} (n : Nat) (hf : P.funcs[f]? = some fn) (hb : fn.body = some c)
    (h : c.wp P (noPanic13 (bodyPostM Fence.wide n P fn R)) { tmps := args ++ Array.replicate (fn.ntmps - args.size) undef, defers := [] } w) : Calls P f args w R :=
  callsIn_wide.1 (callsIn_of_wp_marks hf hb trivial (wpIn_wide.2 (wp_mono h (by intro e a w h; cases e <;> first | exact h | exact h.elim))))
theorem below_new (w : World) (o : Obj) : Below w.heap.size w (w.alloc o) := (Below.refl _ _).alloc (Nat.le_refl _) _
theorem grown_bel {w w' : World} (h : Below w.heap.size w w') : w.grownBy w' none := ⟨h.os, h.tape, h.output, h.size, fun k hk _ => h.block k hk⟩
theorem keeps_bel {w w' : World} (h : Below w.heap.size w w') : KeepsOthers w w' := KeepsOthers.of_grownBy (grown_bel h) (fun _ _ e _ => by cases e)
theorem _root_.Go.RowKit.Below.next {B : Nat} {a b c : World} (h : Below B a b) (k : Below b.heap.size b c) (hB : B ≤ a.heap.size) : Below B a c := h.trans (k.mono (Nat.le_trans hB h.size))
/-- a box of one cell -/
def Bo (W : World) (D : Nat) (t : TypeId) (v : Value) : Prop := W.heap[D]? = some (.cells #[v] t (0, 0))
theorem Bo.c {W : World} {D : Nat} {t : TypeId} {v : Value} (h : Bo W D t v) : W.cell? ⟨D, 0, none⟩ = some v := cell_at h rfl
theorem Bo.f {W : World} {D : Nat} {t : TypeId} {v : Value} (h : Bo W D t v) : W.frozen? ⟨D, 0, none⟩ = false := by
  unfold Bo at h; simp [World.frozen?, h]
theorem Bo.lt {W : World} {D : Nat} {t : TypeId} {v : Value} (h : Bo W D t v) : D < W.heap.size := by
  unfold Bo at h; exact (Array.getElem?_eq_some_iff.1 h).1
theorem Bo.new (W : World) (t : TypeId) (v : Value) : Bo (W.alloc (.cells #[v] t)) W.heap.size t v := heap_new W _
theorem Bo.below {W W' : World} {D : Nat} {t : TypeId} {v : Value} (h : Bo W D t v) (hb : Below W.heap.size W W') : Bo W' D t v := (hb.block _ h.lt).trans h
theorem Bo.set {W : World} {D : Nat} {t : TypeId} {v : Value} (h : Bo W D t v) (u : Value) : Bo (W.setCell ⟨D, 0, none⟩ u) D t u := one_setCell h
theorem Bo.other {W : World} {D D' : Nat} {t : TypeId} {v : Value} (h : Bo W D t v) (hne : D ≠ D') (u : Value) (k : Nat) : Bo (W.setCell ⟨D', k, none⟩ u) D t v := (Below.heap_setCell _ _ _ _ hne).trans h
theorem Bo.grown {W W' : World} {row : Option Nat} {D : Nat} {t : TypeId} {v : Value} (h : Bo W D t v) (hg : W.grownBy W' row) (hr : ∀ r, row = some r → ∃ o : Obj, W.heap[r]? = some o ∧ o.isCells = false) : Bo W' D t v := by
  refine (hg.block D h.lt ?_).trans h
  intro e
  obtain ⟨o, ho, hc⟩ := hr D e.symm
  unfold Bo at h
  rw [h] at ho
  cases ho
  simp [Obj.isCells] at hc
theorem keeps_grown {W0 W W' : World} {row : Option Nat} {B : Nat} (h : KeepsOthers W0 W) (hg : W.grownBy W' row) (hr : ∀ r, row = some r → B ≤ r) (hB : W0.heap.size ≤ B) : KeepsOthers W0 W' := by
  refine ⟨Nat.le_trans h.size hg.size, fun k o hk ho => ?_⟩
  have hk2 := h.same k o hk ho
  have hlt := (Array.getElem?_eq_some_iff.1 hk).1
  exact (hg.block k (Nat.lt_of_lt_of_le hlt h.size) (fun e => by have := hr k e.symm; omega)).trans hk2
theorem below_grow {B : Nat} {a A W' : World} {row : Option Nat} (h : Below B a A) (hg : A.grownBy W' row) (hB : B ≤ A.heap.size) (hr : ∀ r, row = some r → B ≤ r) : Below B a W' := h.grown hg hB hr
theorem func_nil13 (k : Nat) (lb : Array Value) (w : World) : (binOp BinOp.eql 41 (.func (.func k) #[] lb) .nilFunc).run Try.prog w = .ok (.bool false) w := by rfl
theorem seq_any (w : World) : Calls Try.prog 10 #[] w fun e w' => e = .returned (.func (.func 19) #[] #[]) ∧ w' = w := by
  go_enter Try.func10, Try.ntmps10
  go_wp2
  go_ret
  exact ⟨rfl, rfl⟩
end Go.Proofs.Ythmejmnbbbiemaa

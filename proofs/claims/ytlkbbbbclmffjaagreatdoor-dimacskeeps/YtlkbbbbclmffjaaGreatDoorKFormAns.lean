/-
  A call that answers a formula and an error: its boxes, its return.
-/
import Derived.Test.YtlkbbbbclmffjaaGreatDoorJGrow
import Derived.Laws.ResultCell
import Derived.Laws.OwnMore
set_option linter.unusedSimpArgs false
set_option linter.unusedVariables false
namespace Go.Proofs.YtlkbbbbclmffjaaGreatDoor
open Go.RowKit

/-- the answer of a call: a formula out of its box, and an error -/
theorem ret_form {fn : Func} {p u : Tmp} {tmps : Array Value} {W : World} {D : Nat} {x y : Value} (h : fn.results = #[.cell p 24, .tmp u]) (hp : tmps.getD p undef = .pointer (some ⟨D, 0, none⟩)) (hb : Bx2 W D 24 x y) :
    (results fn tmps).run Tryz.prog W = .ok (.tuple #[.agg #[x, y], tmps.getD u undef]) W := by
  have c0 := hb.c0
  have c1 := hb.c1
  rw [results_cell_tmp h, hp]
  simp [go_sem, c0, c1]
theorem OwnF.set {B : Nat} {W : World} {s : Value} {css : List (List Int)} {D : Nat} {t : TypeId} {x y : Value} (h : OwnF B W s css) (hb : Bx2 W D t x y) (h1 : t ≠ 43) (h2 : t ≠ 3) (o : Nat) (v : Value) : OwnF B (W.setCell ⟨D, o, none⟩ v) s css := by
  obtain ⟨L, h, e⟩ := h; exact ⟨L, h.set hb h1 h2 o v, e⟩
theorem below_set {w W : World} {D : Nat} (h : Below w.heap.size w W) (hD : w.heap.size ≤ D) (o : Nat) (v : Value) : Below w.heap.size w (W.setCell ⟨D, o, none⟩ v) := h.setCell (p := ⟨D, o, none⟩) hD v

theorem infoR : (Tryz.prog.info? 43).map (fun i => (i.zero, i.size, i.bytes)) = some (some (.slice none 0 0), 1, 24) := by kernel_rfl
/-- a formula's box and the answer's, in a world that has grown -/
structure En (w : World) (n : Int) (s : Value) (css : List (List Int)) (wr : World) : Prop where
  bx : Bx w n s css wr
  ans : Bx2 wr (w.heap.size + 1) 24 (.int .i64 0) (.slice none 0 0)
theorem En.new {w : World} {n : Int} {s : Value} {css : List (List Int)} (hr : Rds w s css) : En w n s css ((w.alloc (.cells #[.int .i64 n, s] 24)).alloc (.cells #[.int .i64 0, .slice none 0 0] 24)) :=
  ⟨(Bx.new hr _).on (below_box _ _), by have := Bx2.new (w.alloc (.cells #[.int .i64 n, s] 24)) 24 (.int .i64 0) (.slice none 0 0); rwa [World.size_alloc] at this⟩
theorem En.on {w : World} {n : Int} {s : Value} {css : List (List Int)} {wr w' : World} (h : En w n s css wr) (hb : Below wr.heap.size wr w') : En w n s css w' := ⟨h.bx.on hb, h.ans.below hb⟩

end Go.Proofs.YtlkbbbbclmffjaaGreatDoor

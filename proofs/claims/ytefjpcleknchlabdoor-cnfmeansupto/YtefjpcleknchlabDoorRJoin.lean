/-
  The document's Join, walked; two formulas' boxes; a formula that is built on.
-/
import Derived.Test.YtefjpcleknchlabDoorCopy
set_option linter.unusedSimpArgs false
set_option linter.unusedVariables false
namespace Go.Proofs.YtefjpcleknchlabDoor
open Go.RowKit

def jnF (n : Int) (css : List (List Int)) (m : Int) (dss : List (List Int)) : Int × List (List Int) × Int := if frm n css && frm m dss then (max n m, css ++ dss, 0) else (0, [], 1)

/-- two formulas' boxes and the answer's, in a world that has grown -/
structure E2 (w : World) (n : Int) (s : Value) (css : List (List Int)) (m : Int) (t : Value) (dss : List (List Int)) (wr : World) : Prop where
  bel : Below w.heap.size w wr
  f0 : wr.cell? ⟨w.heap.size, 0, none⟩ = some (.int .i64 n)
  f1 : wr.cell? ⟨w.heap.size, 1, none⟩ = some s
  g0 : wr.cell? ⟨w.heap.size + 1, 0, none⟩ = some (.int .i64 m)
  g1 : wr.cell? ⟨w.heap.size + 1, 1, none⟩ = some t
  rf : Rds wr s css
  rg : Rds wr t dss
  ans : Bx2 wr (w.heap.size + 1 + 1) 27 (.int .i64 0) (.slice none 0 0)
theorem E2.on {w : World} {n : Int} {s : Value} {css : List (List Int)} {m : Int} {t : Value} {dss : List (List Int)} {wr w' : World} (h : E2 w n s css m t dss wr) (hb : Below wr.heap.size wr w') : E2 w n s css m t dss w' :=
  ⟨h.bel.trans (hb.mono h.bel.size), (hb.cell (p := ⟨w.heap.size, 0, none⟩) (World.block_lt_of_cell? wr _ h.f0)).trans h.f0, (hb.cell (p := ⟨w.heap.size, 1, none⟩) (World.block_lt_of_cell? wr _ h.f1)).trans h.f1,
    (hb.cell (p := ⟨w.heap.size + 1, 0, none⟩) (World.block_lt_of_cell? wr _ h.g0)).trans h.g0, (hb.cell (p := ⟨w.heap.size + 1, 1, none⟩) (World.block_lt_of_cell? wr _ h.g1)).trans h.g1, h.rf.below hb, h.rg.below hb, h.ans.below hb⟩
abbrev w3b (w : World) (n : Int) (s : Value) (m : Int) (t : Value) : World := ((w.alloc (.cells #[.int .i64 n, s] 27)).alloc (.cells #[.int .i64 m, t] 27)).alloc (.cells #[.int .i64 0, .slice none 0 0] 27)
theorem E2.new {w : World} {n : Int} {s : Value} {css : List (List Int)} {m : Int} {t : Value} {dss : List (List Int)} (hr : Rds w s css) (hg : Rds w t dss) : E2 w n s css m t dss (w3b w n s m t) := by
  have A0 := ((Bx.new (n := n) hr 27).on (below_box _ (.cells #[.int .i64 m, t] 27))).on (below_box _ (.cells #[.int .i64 0, .slice none 0 0] 27))
  have A1 := (Bx.new (n := m) (hg.below (below_box w (.cells #[.int .i64 n, s] 27))) 27).on (below_box _ (.cells #[.int .i64 0, .slice none 0 0] 27))
  have A2 := Bx2.new ((w.alloc (.cells #[.int .i64 n, s] 27)).alloc (.cells #[.int .i64 m, t] 27)) 27 (.int .i64 0) (.slice none 0 0)
  have d0 := A1.c0
  have d1 := A1.c1
  rw [World.size_alloc] at d0 d1
  rw [World.size_alloc, World.size_alloc] at A2
  exact ⟨A0.bel, A0.c0, A0.c1, d0, d1, A0.rd, A1.rd, A2⟩

/-- a formula that is being built on: its box at D, its rows from w0 on -/
structure BdG (w0 : World) (D : Nat) (n : Int) (W : World) (rv : Value) (L : List Cls) : Prop where
  hD : w0.heap.size ≤ D
  bel : Below w0.heap.size w0 W
  box : Bx2 W D 27 (.int .i64 n) rv
  own : OwnR w0.heap.size W rv L
theorem BdG.on {w0 : World} {D : Nat} {n : Int} {W W' : World} {rv : Value} {L : List Cls} (h : BdG w0 D n W rv L) (hb : Below W.heap.size W W') : BdG w0 D n W' rv L :=
  ⟨h.hD, h.bel.trans (hb.mono h.bel.size), h.box.below hb, h.own.below hb⟩
theorem BdG.vars {w0 : World} {D : Nat} {n : Int} {W : World} {rv : Value} {L : List Cls} (h : BdG w0 D n W rv L) (m : Int) : BdG w0 D m (W.setCell ⟨D, 0, none⟩ (.int .i64 m)) rv L :=
  ⟨h.hD, h.bel.setCell (p := ⟨D, 0, none⟩) h.hD _, h.box.set0 _, h.own.set h.box (by decide) (by decide) 0 _⟩
theorem BdG.row_alloc {w0 : World} {D : Nat} {n : Int} {W : World} {rv : Value} {L : List Cls} (h : BdG w0 D n W rv L) (o : Obj) : (W.alloc o).ownsRow w0.heap.size 30 1 rv L.length (L.map Prod.fst) := World.ownsRow.alloc h.own.row _
theorem BdG.app {w0 : World} {D : Nat} {n : Int} {W0 W w1 : World} {rv rv' u : Value} {L : List Cls} {z : List Int} {o : Obj} (h : BdG w0 D n W0 rv L) (hb : Below W0.heap.size W0 W) (hu : Own W0.heap.size W u z)
    (own' : w1.ownsRow w0.heap.size 30 1 rv' (L.length + 1) (L.map Prod.fst ++ [u])) (hg : (W.alloc o).grownBy w1 rv.ownBlock) :
    Bx2 w1 D 27 (.int .i64 n) rv ∧ BdG w0 D n (w1.setCell ⟨D, 1, none⟩ rv') rv' (L ++ [(u, z)]) := by
  have h1 := h.on hb
  have ga := World.grownBy_alloc W o none
  have bxa := h1.box.kept ga (by simp)
  have rowa := World.ownsRow.kept h1.own.row ga (one_or _)
  have bx1 := bxa.kept hg (bxa.not_row (by decide) rowa)
  have sW : w0.heap.size ≤ W.heap.size := h1.bel.size
  have hu' : Own w0.heap.size W u z := hu.mono h.bel.size
  have R1 := h1.own.app ga own' hg hu' (ApartC.snoc h.own.ap h.own.own hu (Nat.le_refl _))
  refine ⟨bx1, ⟨h.hD, ?_, bx1.set1 rv', R1.set bx1 (by decide) (by decide) 1 rv'⟩⟩
  exact ((h1.bel.alloc sW o).grown hg (Nat.le_trans sW ga.size) (fun b e => (World.ownsRow.lt rowa b e).1)).setCell (p := ⟨D, 1, none⟩) h.hD _

end Go.Proofs.YtefjpcleknchlabDoor

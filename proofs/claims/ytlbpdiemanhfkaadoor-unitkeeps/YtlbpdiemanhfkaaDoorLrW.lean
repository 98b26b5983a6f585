/-
  depotkit.LentRows: rows that are lent.
  KEEP: set on app at below new trans refl start ap kept rd rds mono lt add none own nil put len pos setF setV putL putR other neV same_any row
-/
import Derived.Test.YtlbpdiemanhfkaaDoorKitQ
import Derived.Test.YtlbpdiemanhfkaaDoorAppK
import Derived.Test.YtlbpdiemanhfkaaDoorCopy
set_option linter.unusedSimpArgs false
set_option linter.unusedVariables false
namespace Go.Proofs.YtlbpdiemanhfkaaDoor
open Go Go.RowKit

def Bx3 (W : World) (D : Nat) (t : TypeId) (x y z : Value) : Prop := W.heap[D]? = some (.cells #[x, y, z] t (0, 0))
section
variable {W W' : World} {D : Nat} {t : TypeId} {x y z : Value}
theorem Bx3.lt (h : Bx3 W D t x y z) : D < W.heap.size := (Array.getElem?_eq_some_iff.1 h).1
theorem Bx3.c0 (h : Bx3 W D t x y z) : W.cell? ⟨D, 0, none⟩ = some x := by simp [World.cell?, show W.heap[D]? = _ from h]
theorem Bx3.c1 (h : Bx3 W D t x y z) : W.cell? ⟨D, 1, none⟩ = some y := by simp [World.cell?, show W.heap[D]? = _ from h]
theorem Bx3.c2 (h : Bx3 W D t x y z) : W.cell? ⟨D, 2, none⟩ = some z := by simp [World.cell?, show W.heap[D]? = _ from h]
theorem Bx3.fz (h : Bx3 W D t x y z) (o : Nat) : W.frozen? ⟨D, o, none⟩ = false := by simp [World.frozen?, show W.heap[D]? = _ from h]
theorem Bx3.kept {row : Option Nat} (h : Bx3 W D t x y z) (hg : W.grownBy W' row) (hne : some D ≠ row) : Bx3 W' D t x y z := (hg.block D h.lt hne).trans h
theorem Bx3.below (h : Bx3 W D t x y z) (hb : Below W.heap.size W W') : Bx3 W' D t x y z := (hb.block D h.lt).trans h
theorem Bx3.set0 (h : Bx3 W D t x y z) (v : Value) : Bx3 (W.setCell ⟨D, 0, none⟩ v) D t v y z := set_heap h 0 v
theorem Bx3.set1 (h : Bx3 W D t x y z) (v : Value) : Bx3 (W.setCell ⟨D, 1, none⟩ v) D t x v z := set_heap h 1 v
theorem Bx3.set2 (h : Bx3 W D t x y z) (v : Value) : Bx3 (W.setCell ⟨D, 2, none⟩ v) D t x y v := set_heap h 2 v
theorem Bx3.not_row {e : TypeId} (h : Bx3 W D t x y z) (hte : t ≠ e) {base size k : Nat} {v : Value} {xs : List Value} (hr : W.ownsRow base e size v k xs) : some D ≠ v.ownBlock := by
  rcases hr.2 with ⟨rfl, _⟩ | ⟨g, cap, cur, rfl, _, hg, _⟩
  · simp [Value.ownBlock]
  · intro e1
    have : D = g := by simpa [Value.ownBlock] using e1
    subst this
    rw [show W.heap[D]? = _ from h] at hg
    injection hg with hg; injection hg with _ h2; exact hte h2
end
def cutV (c : Cls) : Value := match c.1 with
  | .slice a n k => .slice a (n - 64) k
  | v => v
/-- rows that are lent -/
structure Lr (B : Nat) (W : World) (vw vr : Value) (L : List Cls) (ws : List Value) (M : List Cls) : Prop where
  r : OwnR B W vr L
  w : W.ownsRow B 25 1 vw ws.length ws
  m : ∀ x ∈ M, Own B W x.1 x.2
  ne : ∀ g, vw.ownBlock = some g → vr.ownBlock ≠ some g
section
variable {B : Nat} {W Wa W' w1 : World} {vw vr vr' vw' : Value} {L : List Cls} {ws : List Value} {M : List Cls}
theorem Lr.nil (B : Nat) (W : World) : Lr B W (.slice none 0 0) (.slice none 0 0) [] [] [] := ⟨OwnR.nil _ _, World.ownsRow_nil _ _ _ _, fun x hx => (by cases hx), fun g e => by simp [Value.ownBlock] at e⟩
theorem Lr.below (h : Lr B W vw vr L ws M) (hb : Below W.heap.size W W') : Lr B W' vw vr L ws M :=
  ⟨h.r.below hb, row_kept h.w fun k e => hb.block k (h.w.lt k e.symm).2, fun x hx => (h.m x hx).below hb, h.ne⟩
theorem Lr.box {D : Nat} {t : TypeId} {x y z : Value} (h : Lr B W vw vr L ws M) (hb : Bx3 W D t x y z) (h1 : t ≠ 25) (h2 : t ≠ 3) (j : Nat) (v : Value) : Lr B (W.setCell ⟨D, j, none⟩ v) vw vr L ws M := by
  have hg := grown_set W ⟨D, j, none⟩ v
  have go : ∀ {e s n : Nat} {u : Value} {xs : List Value}, t ≠ e → W.ownsRow B e s u n xs → (W.setCell ⟨D, j, none⟩ v).ownsRow B e s u n xs := fun hne hr => row_kept hr fun k e1 => hg.block k (hr.lt k e1.symm).2 (fun e2 => hb.not_row hne hr (by rw [← e1, e2]))
  exact ⟨⟨go h1 h.r.row, fun x hx => go h2 (h.r.own x hx), h.r.ap⟩, go h1 h.w, fun x hx => go h2 (h.m x hx), h.ne⟩
theorem own_rows {e : TypeId} {u v : Value} {n n' : Nat} {xs ys : List Value} (hne : e ≠ 25) (h : W.ownsRow B e 1 u n xs) (hv : W.ownsRow B 25 1 v n' ys) (hg : W.grownBy W' v.ownBlock) : W'.ownsRow B e 1 u n xs := row_apart hne h hv hg
theorem Lr.appR {u : Value} {z : List Int} (h : Lr B W vw vr L ws M) (hga : W.grownBy Wa none) (own' : w1.ownsRow B 25 1 vr' (L.length + 1) (L.map Prod.fst ++ [u])) (ha : Ap Wa vr w1 vr') (hu : Own B W u z) (hap : ApartC (L ++ [(u, z)])) : Lr B w1 vw vr' (L ++ [(u, z)]) ws M := by
  have hra : Wa.ownsRow B 25 1 vr L.length (L.map Prod.fst) := World.ownsRow.kept h.r.row hga (one_or _)
  refine ⟨h.r.app hga own' ha.grown hu hap, ?_, fun x hx => ?_, fun g e1 e2 => ?_⟩
  · refine World.ownsRow.kept (World.ownsRow.kept h.w hga (one_or _)) ha.grown ?_
    cases hv : vw.ownBlock with
    | none => exact .inl rfl
    | some g => exact .inr (fun e => h.ne g hv e.symm)
  · exact own_rows (by decide) (World.ownsRow.kept (h.m x hx) hga (one_or _)) hra ha.grown
  · have hl := (h.w.lt g e1).2
    rcases ha.new with e | e
    · rw [e] at e2; exact h.ne g e1 e2
    · have := e g e2
      have := hga.size
      omega
theorem Lr.appW {x : Value} (h : Lr B W vw vr L ws M) (hga : W.grownBy Wa none) (own' : w1.ownsRow B 25 1 vw' (ws.length + 1) (ws ++ [x])) (ha : Ap Wa vw w1 vw') : Lr B w1 vw' vr L (ws ++ [x]) M := by
  have hwa : Wa.ownsRow B 25 1 vw ws.length ws := World.ownsRow.kept h.w hga (one_or _)
  refine ⟨⟨?_, fun y hy => ?_, h.r.ap⟩, by simpa using own', fun y hy => ?_, fun g e1 e2 => ?_⟩
  · refine World.ownsRow.kept (World.ownsRow.kept h.r.row hga (one_or _)) ha.grown ?_
    cases hv : vr.ownBlock with
    | none => exact .inl rfl
    | some g => exact .inr (fun e => h.ne g e.symm hv)
  · exact own_rows (by decide) (World.ownsRow.kept (h.r.own y hy) hga (one_or _)) hwa ha.grown
  · exact own_rows (by decide) (World.ownsRow.kept (h.m y hy) hga (one_or _)) hwa ha.grown
  · have hl := (h.r.row.lt g e2).2
    rcases ha.new with e | e
    · rw [e] at e1; exact h.ne g e1 e2
    · have := e g e1
      have := hga.size
      omega
theorem Lr.addM {u : Value} {z : List Int} (h : Lr B W vw vr L ws M) (hu : Own B W u z) : Lr B W vw vr L ws (M ++ [(u, z)]) := ⟨h.r, h.w, fun x hx => (List.mem_append.1 hx).elim (h.m x) (fun e => by rw [List.mem_singleton.1 e]; exact hu), h.ne⟩
end
theorem below_of_ap {B : Nat} {w W w1 : World} {o : Obj} {v v' : Value} {e s n : Nat} {xs : List Value} (h : Below B w W) (hB : B ≤ W.heap.size) (ho : W.ownsRow B e s v n xs) (ha : Ap (W.alloc o) v w1 v') : Below B w w1 :=
  (h.alloc hB o).grown ha.grown (Nat.le_trans hB (below_box W o).size) (fun q e => (ho.lt q e).1)
theorem infoLr : (Tryd.prog.info? 25).map (fun i => (i.zero, i.size, i.bytes)) = some (some (.slice none 0 0), 1, 24) := by kernel_rfl
theorem one_newR (w : World) (x : Value) (t : TypeId) : ∀ j y, [x][j]? = some y → (w.alloc (.cells #[x] t)).cell? ((⟨w.heap.size, 0, none⟩ : Addr).add j) = some y := fun j y hy => by
  rw [Addr.add_lit]
  have hh := World.alloc_heap_new w (.cells #[x] t)
  show (match (w.alloc (.cells #[x] t)).heap[w.heap.size]? with | some (Obj.cells c elem frozen) => c[0 + j]? | x => none) = _
  rw [hh]
  simpa using hy
/-- as far as LentRows has come -/
structure Ls1 (w W : World) (vw vr : Value) (L : List Cls) (ws : List Value) (M : List Cls) : Prop where
  x : Bx3 W (w.heap.size + 1) 29 (.slice none 0 0) vw vr
  y : Bx3 W w.heap.size 29 (.slice none 0 0) (.slice none 0 0) (.slice none 0 0)
  l : Lr w.heap.size W vw vr L ws M
  b : Below w.heap.size w W
section
variable {w W W' w1 : World} {vw vr : Value} {L : List Cls} {ws : List Value} {M : List Cls}
theorem Ls1.below (h : Ls1 w W vw vr L ws M) (hb : Below W.heap.size W W') : Ls1 w W' vw vr L ws M := ⟨h.x.below hb, h.y.below hb, h.l.below hb, Below.step h.b hb⟩
theorem Ls1.appR {u vr' : Value} {z : List Int} {o : Obj} (h : Ls1 w W vw vr L ws M) (own' : w1.ownsRow w.heap.size 25 1 vr' (L.length + 1) (L.map Prod.fst ++ [u])) (ha : Ap (W.alloc o) vr w1 vr') (hu : Own w.heap.size W u z) (hap : ApartC (L ++ [(u, z)])) :
    w1.cell? ⟨w.heap.size + 1, 2, none⟩ = some vr ∧ w1.frozen? ⟨w.heap.size + 1, 2, none⟩ = false ∧ Ls1 w (w1.setCell ⟨w.heap.size + 1, 2, none⟩ vr') vw vr' (L ++ [(u, z)]) ws M := by
  have hra : (W.alloc o).ownsRow w.heap.size 25 1 vr L.length (L.map Prod.fst) := World.ownsRow.alloc h.l.r.row o
  have hx0 := h.x.below (below_box W o)
  have hy0 := h.y.below (below_box W o)
  have hx1 := hx0.kept ha.grown (hx0.not_row (by decide) hra)
  have hy1 := hy0.kept ha.grown (hy0.not_row (by decide) hra)
  have hl1 := h.l.appR (World.grownBy_alloc W o none) own' ha hu hap
  refine ⟨hx1.c2, hx1.fz 2, ⟨hx1.set2 vr', hy1.kept (grown_set _ _ _) (by simp), hl1.box hx1 (by decide) (by decide) 2 vr', ?_⟩⟩
  exact (below_of_ap h.b h.b.size h.l.r.row ha).setCell (p := ⟨w.heap.size + 1, 2, none⟩) (Nat.le_succ _) _
theorem Ls1.appW {x vw' : Value} {o : Obj} (h : Ls1 w W vw vr L ws M) (own' : w1.ownsRow w.heap.size 25 1 vw' (ws.length + 1) (ws ++ [x])) (ha : Ap (W.alloc o) vw w1 vw') :
    w1.cell? ⟨w.heap.size + 1, 1, none⟩ = some vw ∧ w1.frozen? ⟨w.heap.size + 1, 1, none⟩ = false ∧ Ls1 w (w1.setCell ⟨w.heap.size + 1, 1, none⟩ vw') vw' vr L (ws ++ [x]) M := by
  have hra : (W.alloc o).ownsRow w.heap.size 25 1 vw ws.length ws := World.ownsRow.alloc h.l.w o
  have hx0 := h.x.below (below_box W o)
  have hy0 := h.y.below (below_box W o)
  have hx1 := hx0.kept ha.grown (hx0.not_row (by decide) hra)
  have hy1 := hy0.kept ha.grown (hy0.not_row (by decide) hra)
  have hl1 := h.l.appW (World.grownBy_alloc W o none) own' ha
  refine ⟨hx1.c1, hx1.fz 1, ⟨hx1.set1 vw', hy1.kept (grown_set _ _ _) (by simp), hl1.box hx1 (by decide) (by decide) 1 vw', ?_⟩⟩
  exact (below_of_ap h.b h.b.size h.l.w ha).setCell (p := ⟨w.heap.size + 1, 1, none⟩) (Nat.le_succ _) _
end
end Go.Proofs.YtlbpdiemanhfkaaDoor

/-
  depotkit.LentEntries: trails that are lent, in memory.
  KEEP: set on app at below new trans refl start ap kept rd rds mono lt add none own nil put len pos setF setV putL putR other neV same_any row
-/
import Derived.Test.YtgngdohhlhlcpaaKitQ
import Derived.Test.YtgngdohhlhlcpaaLnC
set_option linter.unusedSimpArgs false
set_option linter.unusedVariables false
namespace Go.Proofs.Ytgngdohhlhlcpaa
open Go Go.RowKit

def Bt3 (W : World) (D : Nat) (t : TypeId) (x y z : Value) : Prop := W.heap[D]? = some (.cells #[x, y, z] t (0, 0))
section
variable {W W' : World} {D : Nat} {t : TypeId} {x y z : Value}
theorem Bt3.lt (h : Bt3 W D t x y z) : D < W.heap.size := (Array.getElem?_eq_some_iff.1 h).1
theorem Bt3.c0 (h : Bt3 W D t x y z) : W.cell? ⟨D, 0, none⟩ = some x := by simp [World.cell?, show W.heap[D]? = _ from h]
theorem Bt3.c1 (h : Bt3 W D t x y z) : W.cell? ⟨D, 1, none⟩ = some y := by simp [World.cell?, show W.heap[D]? = _ from h]
theorem Bt3.c2 (h : Bt3 W D t x y z) : W.cell? ⟨D, 2, none⟩ = some z := by simp [World.cell?, show W.heap[D]? = _ from h]
theorem Bt3.fz (h : Bt3 W D t x y z) (o : Nat) : W.frozen? ⟨D, o, none⟩ = false := by simp [World.frozen?, show W.heap[D]? = _ from h]
theorem Bt3.kept {row : Option Nat} (h : Bt3 W D t x y z) (hg : W.grownBy W' row) (hne : some D ≠ row) : Bt3 W' D t x y z := (hg.block D h.lt hne).trans h
theorem Bt3.below (h : Bt3 W D t x y z) (hb : Below W.heap.size W W') : Bt3 W' D t x y z := (hb.block D h.lt).trans h
theorem Bt3.set0 (h : Bt3 W D t x y z) (v : Value) : Bt3 (W.setCell ⟨D, 0, none⟩ v) D t v y z := set_heap h 0 v
theorem Bt3.set1 (h : Bt3 W D t x y z) (v : Value) : Bt3 (W.setCell ⟨D, 1, none⟩ v) D t x v z := set_heap h 1 v
theorem Bt3.set2 (h : Bt3 W D t x y z) (v : Value) : Bt3 (W.setCell ⟨D, 2, none⟩ v) D t x y v := set_heap h 2 v
theorem Bt3.not_row {e : TypeId} (h : Bt3 W D t x y z) (hte : t ≠ e) {base size k : Nat} {v : Value} {xs : List Value} (hr : W.ownsRow base e size v k xs) : some D ≠ v.ownBlock := by
  rcases hr.2 with ⟨rfl, _⟩ | ⟨g, cap, cur, rfl, _, hg, _⟩
  · simp [Value.ownBlock]
  · intro e1
    have : D = g := by simpa [Value.ownBlock] using e1
    subst this
    rw [show W.heap[D]? = _ from h] at hg
    injection hg with hg; injection hg with _ h2; exact hte h2
end
abbrev EW := Int × Int × Value
/-- the cells of a row of entries -/
def ecC (E : List EW) : List Value := E.flatMap fun x => [.int .i64 x.1, .int .i64 x.2.1, x.2.2]
theorem ecC_len (E : List EW) : (ecC E).length = E.length * 3 := by
  induction E with
  | nil => rfl
  | cons x r ih => simp only [ecC, List.flatMap_cons, List.length_append, List.length_cons, List.length_nil] at ih ⊢; omega
theorem ecC_snoc (E : List EW) (x : EW) : ecC (E ++ [x]) = ecC E ++ [.int .i64 x.1, .int .i64 x.2.1, x.2.2] := by simp [ecC]
theorem ecC_at : ∀ (E : List EW) (j : Nat) (h : j < E.length), (ecC E)[j * 3]? = some (.int .i64 E[j].1) ∧ (ecC E)[j * 3 + 1]? = some (.int .i64 E[j].2.1) ∧ (ecC E)[j * 3 + 2]? = some E[j].2.2
  | x :: r, 0, _ => ⟨rfl, rfl, rfl⟩
  | x :: r, j + 1, h => by
    have := ecC_at r j (by simpa using h)
    have e : ecC (x :: r) = .int .i64 x.1 :: .int .i64 x.2.1 :: x.2.2 :: ecC r := rfl
    rw [e, show (j + 1) * 3 = j * 3 + 1 + 1 + 1 by omega, show j * 3 + 1 + 1 + 1 + 1 = (j * 3 + 1) + 1 + 1 + 1 by omega, show j * 3 + 1 + 1 + 1 + 2 = (j * 3 + 2) + 1 + 1 + 1 by omega]
    simpa using this
/-- a list without the 64 marks behind it -/
def cutE (c : Cls) : Value := match c.1 with
  | .slice a n k => .slice a (n - 64) k
  | v => v
/-- the entries that are lent, and the marks behind them -/
def enW (t : List Ent) (L : List Cls) : List EW := List.zipWith (fun e c => (e.1, e.2.1, cutE c)) t L
noncomputable def mkE (j : Nat) : List EW := (List.range j).map fun i => (mrk 1 i, 0, .slice none 0 0)
theorem enW_len {t : List Ent} {L : List Cls} (h : L.length = t.length) : (enW t L).length = t.length := by unfold enW; rw [List.length_zipWith]; omega
theorem enW_snoc {t : List Ent} {L : List Cls} {k : Nat} (hk : k < t.length) (h : L.length = k) (c : Cls) : enW (t.take (k + 1)) (L ++ [c]) = enW (t.take k) L ++ [((t.getD k e0).1, (t.getD k e0).2.1, cutE c)] := by
  unfold enW
  rw [take_succ_getD t e0 k hk, List.zipWith_append (by simp; omega)]
  rfl
theorem enW_at {t : List Ent} {L : List Cls} (h : L.length = t.length) {k : Nat} (hk : k < t.length) : (enW t L)[k]'(by rw [enW_len h]; exact hk) = ((t.getD k e0).1, (t.getD k e0).2.1, cutE (L[k]'(by omega))) := by
  unfold enW
  rw [List.getElem_zipWith]
  simp [List.getD_eq_getElem?_getD, hk]
theorem mkE_len (j : Nat) : (mkE j).length = j := by simp [mkE]
theorem mkE_snoc (j : Nat) : mkE (j + 1) = mkE j ++ [(mrk 1 j, 0, .slice none 0 0)] := by unfold mkE; rw [List.range_succ, List.map_append]; rfl
/-- a trail that is lent: its rows and its whole -/
structure Le (B : Nat) (W : World) (vw vr : Value) (L : List Cls) (E : List EW) : Prop where
  r : OwnR B W vr L
  w : W.ownsRow B 47 3 vw E.length (ecC E)
section
variable {B : Nat} {W Wa W' w1 : World} {vw vr vr' vw' : Value} {L : List Cls} {E : List EW}
theorem Le.nil (B : Nat) (W : World) : Le B W (.slice none 0 0) (.slice none 0 0) [] [] := ⟨OwnR.nil _ _, World.ownsRow_nil _ _ _ _⟩
theorem Le.below (h : Le B W vw vr L E) (hb : Below W.heap.size W W') : Le B W' vw vr L E :=
  ⟨h.r.below hb, row_kept h.w fun k e => hb.block k (h.w.lt k e.symm).2⟩
theorem Le.box {D : Nat} {t : TypeId} {x y z : Value} (h : Le B W vw vr L E) (hb : Bt3 W D t x y z) (h1 : t ≠ 23) (h2 : t ≠ 3) (h3 : t ≠ 47) (j : Nat) (v : Value) : Le B (W.setCell ⟨D, j, none⟩ v) vw vr L E := by
  have hg := grown_set W ⟨D, j, none⟩ v
  have go : ∀ {e s n : Nat} {u : Value} {xs : List Value}, t ≠ e → W.ownsRow B e s u n xs → (W.setCell ⟨D, j, none⟩ v).ownsRow B e s u n xs := fun hne hr => row_kept hr fun k e1 => hg.block k (hr.lt k e1.symm).2 (fun e2 => hb.not_row hne hr (by rw [← e1, e2]))
  exact ⟨⟨go h1 h.r.row, fun x hx => go h2 (h.r.own x hx), h.r.ap⟩, go h3 h.w⟩
theorem Le.appR {u : Value} {z : List Int} (h : Le B W vw vr L E) (hga : W.grownBy Wa none) (own' : w1.ownsRow B 23 1 vr' (L.length + 1) (L.map Prod.fst ++ [u])) (hg : Wa.grownBy w1 vr.ownBlock) (hu : Own B W u z) (hap : ApartC (L ++ [(u, z)])) : Le B w1 vw vr' (L ++ [(u, z)]) E := by
  have hra : Wa.ownsRow B 23 1 vr L.length (L.map Prod.fst) := World.ownsRow.kept h.r.row hga (one_or _)
  exact ⟨h.r.app hga own' hg hu hap, row_apart (by decide) (World.ownsRow.kept h.w hga (one_or _)) hra hg⟩
theorem Le.appW {x : EW} (h : Le B W vw vr L E) (hga : W.grownBy Wa none) (own' : w1.ownsRow B 47 3 vw' (E.length + 1) (ecC E ++ [.int .i64 x.1, .int .i64 x.2.1, x.2.2])) (hg : Wa.grownBy w1 vw.ownBlock) : Le B w1 vw' vr L (E ++ [x]) := by
  have hwa : Wa.ownsRow B 47 3 vw E.length (ecC E) := World.ownsRow.kept h.w hga (one_or _)
  refine ⟨⟨row_apart (by decide) (World.ownsRow.kept h.r.row hga (one_or _)) hwa hg, fun y hy => row_apart (by decide) (World.ownsRow.kept (h.r.own y hy) hga (one_or _)) hwa hg, h.r.ap⟩, by rw [ecC_snoc]; simpa using own'⟩
end
theorem infoLe : (Try.prog.info? 23).map (fun i => (i.zero, i.size, i.bytes)) = some (some (.slice none 0 0), 1, 24) := by kernel_rfl
theorem one_newE (w : World) (x : Value) (t : TypeId) : ∀ j y, [x][j]? = some y → (w.alloc (.cells #[x] t)).cell? ((⟨w.heap.size, 0, none⟩ : Addr).add j) = some y := fun j y hy => by
  rw [Addr.add_lit]
  have hh := World.alloc_heap_new w (.cells #[x] t)
  show (match (w.alloc (.cells #[x] t)).heap[w.heap.size]? with | some (Obj.cells c elem frozen) => c[0 + j]? | x => none) = _
  rw [hh]
  simpa using hy
/-- as far as LentEntries has come -/
structure Es1 (w W : World) (vw vr : Value) (L : List Cls) (E : List EW) : Prop where
  x : Bt3 W (w.heap.size + 1) 28 (.slice none 0 0) vw vr
  y : Bt3 W w.heap.size 28 (.slice none 0 0) (.slice none 0 0) (.slice none 0 0)
  l : Le w.heap.size W vw vr L E
  b : Below w.heap.size w W
section
variable {w W W' w1 : World} {vw vr : Value} {L : List Cls} {E : List EW}
theorem Es1.below (h : Es1 w W vw vr L E) (hb : Below W.heap.size W W') : Es1 w W' vw vr L E := ⟨h.x.below hb, h.y.below hb, h.l.below hb, Below.step h.b hb⟩
theorem Es1.appR {u vr' : Value} {z : List Int} {o : Obj} (h : Es1 w W vw vr L E) (own' : w1.ownsRow w.heap.size 23 1 vr' (L.length + 1) (L.map Prod.fst ++ [u])) (hg : (W.alloc o).grownBy w1 vr.ownBlock) (hu : Own w.heap.size W u z) (hap : ApartC (L ++ [(u, z)])) :
    w1.cell? ⟨w.heap.size + 1, 2, none⟩ = some vr ∧ w1.frozen? ⟨w.heap.size + 1, 2, none⟩ = false ∧ Es1 w (w1.setCell ⟨w.heap.size + 1, 2, none⟩ vr') vw vr' (L ++ [(u, z)]) E := by
  have hra : (W.alloc o).ownsRow w.heap.size 23 1 vr L.length (L.map Prod.fst) := World.ownsRow.alloc h.l.r.row o
  have hx0 := h.x.below (below_box W o)
  have hy0 := h.y.below (below_box W o)
  have hx1 := hx0.kept hg (hx0.not_row (by decide) hra)
  have hy1 := hy0.kept hg (hy0.not_row (by decide) hra)
  have hl1 := h.l.appR (World.grownBy_alloc W o none) own' hg hu hap
  refine ⟨hx1.c2, hx1.fz 2, ⟨hx1.set2 vr', hy1.kept (grown_set _ _ _) (by simp), hl1.box hx1 (by decide) (by decide) (by decide) 2 vr', ?_⟩⟩
  exact ((h.b.alloc h.b.size o).grown hg (Nat.le_trans h.b.size (below_box W o).size) (fun q e => (h.l.r.row.lt q e).1)).setCell (p := ⟨w.heap.size + 1, 2, none⟩) (Nat.le_succ _) _
theorem Es1.appW {x : EW} {vw' : Value} {o : Obj} (h : Es1 w W vw vr L E) (own' : w1.ownsRow w.heap.size 47 3 vw' (E.length + 1) (ecC E ++ [.int .i64 x.1, .int .i64 x.2.1, x.2.2])) (hg : (W.alloc o).grownBy w1 vw.ownBlock) :
    w1.cell? ⟨w.heap.size + 1, 1, none⟩ = some vw ∧ w1.frozen? ⟨w.heap.size + 1, 1, none⟩ = false ∧ Es1 w (w1.setCell ⟨w.heap.size + 1, 1, none⟩ vw') vw' vr L (E ++ [x]) := by
  have hra : (W.alloc o).ownsRow w.heap.size 47 3 vw E.length (ecC E) := World.ownsRow.alloc h.l.w o
  have hx0 := h.x.below (below_box W o)
  have hy0 := h.y.below (below_box W o)
  have hx1 := hx0.kept hg (hx0.not_row (by decide) hra)
  have hy1 := hy0.kept hg (hy0.not_row (by decide) hra)
  have hl1 := h.l.appW (World.grownBy_alloc W o none) own' hg
  refine ⟨hx1.c1, hx1.fz 1, ⟨hx1.set1 vw', hy1.kept (grown_set _ _ _) (by simp), hl1.box hx1 (by decide) (by decide) (by decide) 1 vw', ?_⟩⟩
  exact ((h.b.alloc h.b.size o).grown hg (Nat.le_trans h.b.size (below_box W o).size) (fun q e => (h.l.w.lt q e).1)).setCell (p := ⟨w.heap.size + 1, 1, none⟩) (Nat.le_succ _) _
end
theorem m64_app_lenE (z : List Int) : (z ++ m64).length = z.length + 64 := by rw [List.length_append, m64_len]
/-- what LentEntries answers -/
structure Lf (w W : World) (vi vw vr : Value) (t : List Ent) (L : List Cls) : Prop where
  l : Le w.heap.size W vw vr L (enW t L ++ mkE 64)
  ls : L.map Prod.snd = t.map (fun e => e.2.2 ++ m64)
  b : Below w.heap.size w W
  i : ∃ a c, vw = .slice a (t.length + 64) c ∧ vi = .slice a t.length c
end Go.Proofs.Ytgngdohhlhlcpaa

/-
  joined: StW StK StO
-/
import Derived.Test.YtilcokpaeapmeaaDoorJAparQ
import Derived.Test.YtilcokpaeapmeaaDoorKDrC
import Derived.BigQuiet
import Derived.Test.YtilcokpaeapmeaaDoorKSmall
set_option linter.unusedSimpArgs false
set_option linter.unusedVariables false
namespace Go.Proofs.YtilcokpaeapmeaaDoor
open Go Go.RowKit

def Zt3 (W : World) (D : Nat) (t : TypeId) (x y z : Value) : Prop := W.heap[D]? = some (.cells #[x, y, z] t (0, 0))
section
variable {W W' : World} {D : Nat} {t : TypeId} {x y z : Value}
theorem Zt3.lt (h : Zt3 W D t x y z) : D < W.heap.size := (Array.getElem?_eq_some_iff.1 h).1
theorem Zt3.c0 (h : Zt3 W D t x y z) : W.cell? ⟨D, 0, none⟩ = some x := by simp [World.cell?, show W.heap[D]? = _ from h]
theorem Zt3.c1 (h : Zt3 W D t x y z) : W.cell? ⟨D, 1, none⟩ = some y := by simp [World.cell?, show W.heap[D]? = _ from h]
theorem Zt3.c2 (h : Zt3 W D t x y z) : W.cell? ⟨D, 2, none⟩ = some z := by simp [World.cell?, show W.heap[D]? = _ from h]
theorem Zt3.fz (h : Zt3 W D t x y z) (o : Nat) : W.frozen? ⟨D, o, none⟩ = false := by simp [World.frozen?, show W.heap[D]? = _ from h]
theorem Zt3.kept {row : Option Nat} (h : Zt3 W D t x y z) (hg : W.grownBy W' row) (hne : some D ≠ row) : Zt3 W' D t x y z := (hg.block D h.lt hne).trans h
theorem Zt3.below (h : Zt3 W D t x y z) (hb : Below W.heap.size W W') : Zt3 W' D t x y z := (hb.block D h.lt).trans h
theorem Zt3.set0 (h : Zt3 W D t x y z) (v : Value) : Zt3 (W.setCell ⟨D, 0, none⟩ v) D t v y z := set_heap h 0 v
theorem Zt3.set1 (h : Zt3 W D t x y z) (v : Value) : Zt3 (W.setCell ⟨D, 1, none⟩ v) D t x v z := set_heap h 1 v
theorem Zt3.set2 (h : Zt3 W D t x y z) (v : Value) : Zt3 (W.setCell ⟨D, 2, none⟩ v) D t x y v := set_heap h 2 v
theorem Zt3.not_row {e : TypeId} (h : Zt3 W D t x y z) (hte : t ≠ e) {base size k : Nat} {v : Value} {xs : List Value} (hr : W.ownsRow base e size v k xs) : some D ≠ v.ownBlock := by
  rcases hr.2 with ⟨rfl, _⟩ | ⟨g, cap, cur, rfl, _, hg, _⟩
  · simp [Value.ownBlock]
  · intro e1
    have : D = g := by simpa [Value.ownBlock] using e1
    subst this
    rw [show W.heap[D]? = _ from h] at hg
    injection hg with hg; injection hg with _ h2; exact hte h2
end
/-- a list without the 64 marks behind it -/
def cutZ (c : Cls) : Value := match c.1 with
  | .slice a n k => .slice a (n - 64) k
  | v => v
/-- the steps that are lent, and the marks behind them -/
def stZ (t : List Stp) (L : List Cls) : List SV := List.zipWith (fun e c => (e.1, cutZ c, e.2)) t L
def mkZ (M : List Cls) : List SV := M.map (fun c => (false, c))
/-- the first j marks -/
def MksZ (M : List Cls) (j : Nat) : Prop := M.length = j ∧ ∀ (i : Nat) (h : i < M.length), (M[i]).2 = [mrk 1 i]
theorem MksZ.snoc {M : List Cls} {j : Nat} (h : MksZ M j) (u : Value) : MksZ (M ++ [(u, [mrk 1 j])]) (j + 1) := by
  refine ⟨by rw [List.length_append, h.1]; rfl, fun i hi => ?_⟩
  by_cases e : i < M.length
  · rw [List.getElem_append_left e]; exact h.2 i e
  · have e2 : i = M.length := by rw [List.length_append] at hi; simp at hi; omega
    subst e2
    rw [List.getElem_append_right (Nat.le_refl _)]
    simp [h.1]
theorem stZ_len {t : List Stp} {L : List Cls} (h : L.length = t.length) : (stZ t L).length = t.length := by unfold stZ; rw [List.length_zipWith]; omega
theorem stZ_snoc {t : List Stp} {L : List Cls} {k : Nat} (hk : k < t.length) (h : L.length = k) (c : Cls) : stZ (t.take (k + 1)) (L ++ [c]) = stZ (t.take k) L ++ [((t.getD k (false, [])).1, cutZ c, (t.getD k (false, [])).2)] := by
  unfold stZ
  rw [take_succ_getD t (false, []) k hk, List.zipWith_append (by simp; omega)]
  rfl
theorem stZ_at {t : List Stp} {L : List Cls} (h : L.length = t.length) {k : Nat} (hk : k < t.length) : (stZ t L)[k]'(by rw [stZ_len h]; exact hk) = ((t.getD k (false, [])).1, cutZ (L[k]'(by omega)), (t.getD k (false, [])).2) := by
  unfold stZ
  rw [List.getElem_zipWith]
  simp [List.getD_eq_getElem?_getD, hk]
theorem mkZ_len (M : List Cls) : (mkZ M).length = M.length := by simp [mkZ]
theorem mkZ_snoc (M : List Cls) (c : Cls) : mkZ (M ++ [c]) = mkZ M ++ [(false, c)] := by unfold mkZ; rw [List.map_append]; rfl
/-- steps that are lent: their rows, their whole, and the marks' lists -/
structure Lz (B : Nat) (W : World) (vw vr : Value) (L : List Cls) (E : List SV) (M : List Cls) : Prop where
  r : OwnR B W vr L
  w : W.ownsRow B 61 2 vw E.length (svC E)
  m : ∀ x ∈ M, Own B W x.1 x.2
section
variable {B : Nat} {W Wa W' w1 : World} {vw vr vr' vw' : Value} {L : List Cls} {E : List SV} {M : List Cls}
theorem Lz.nil (B : Nat) (W : World) : Lz B W (.slice none 0 0) (.slice none 0 0) [] [] [] := ⟨OwnR.nil _ _, World.ownsRow_nil _ _ _ _, fun x hx => (by cases hx)⟩
theorem Lz.below (h : Lz B W vw vr L E M) (hb : Below W.heap.size W W') : Lz B W' vw vr L E M :=
  ⟨h.r.below hb, row_kept h.w fun k e => hb.block k (h.w.lt k e.symm).2, fun x hx => (h.m x hx).below hb⟩
theorem Lz.box {D : Nat} {t : TypeId} {x y z : Value} (h : Lz B W vw vr L E M) (hb : Zt3 W D t x y z) (h1 : t ≠ 58) (h2 : t ≠ 3) (h3 : t ≠ 61) (j : Nat) (v : Value) : Lz B (W.setCell ⟨D, j, none⟩ v) vw vr L E M := by
  have hg := grown_set W ⟨D, j, none⟩ v
  have go : ∀ {e s n : Nat} {u : Value} {xs : List Value}, t ≠ e → W.ownsRow B e s u n xs → (W.setCell ⟨D, j, none⟩ v).ownsRow B e s u n xs := fun hne hr => row_kept hr fun k e1 => hg.block k (hr.lt k e1.symm).2 (fun e2 => hb.not_row hne hr (by rw [← e1, e2]))
  exact ⟨⟨go h1 h.r.row, fun x hx => go h2 (h.r.own x hx), h.r.ap⟩, go h3 h.w, fun x hx => go h2 (h.m x hx)⟩
theorem Lz.appR {u : Value} {z : List Int} (h : Lz B W vw vr L E M) (hga : W.grownBy Wa none) (own' : w1.ownsRow B 58 1 vr' (L.length + 1) (L.map Prod.fst ++ [u])) (hg : Wa.grownBy w1 vr.ownBlock) (hu : Own B W u z) (hap : ApartC (L ++ [(u, z)])) : Lz B w1 vw vr' (L ++ [(u, z)]) E M := by
  have hra : Wa.ownsRow B 58 1 vr L.length (L.map Prod.fst) := World.ownsRow.kept h.r.row hga (one_or _)
  exact ⟨h.r.app hga own' hg hu hap, row_apart (by decide) (World.ownsRow.kept h.w hga (one_or _)) hra hg, fun y hy => row_apart (by decide) (World.ownsRow.kept (h.m y hy) hga (one_or _)) hra hg⟩
theorem Lz.appW {x : SV} (h : Lz B W vw vr L E M) (hga : W.grownBy Wa none) (own' : w1.ownsRow B 61 2 vw' (E.length + 1) (svC E ++ [.bool x.1, x.2.1])) (hg : Wa.grownBy w1 vw.ownBlock) : Lz B w1 vw' vr L (E ++ [x]) M := by
  have hwa : Wa.ownsRow B 61 2 vw E.length (svC E) := World.ownsRow.kept h.w hga (one_or _)
  refine ⟨⟨row_apart (by decide) (World.ownsRow.kept h.r.row hga (one_or _)) hwa hg, fun y hy => row_apart (by decide) (World.ownsRow.kept (h.r.own y hy) hga (one_or _)) hwa hg, h.r.ap⟩, by rw [svC_snoc]; simpa using own', fun y hy => row_apart (by decide) (World.ownsRow.kept (h.m y hy) hga (one_or _)) hwa hg⟩
theorem Lz.addM {u : Value} {z : List Int} (h : Lz B W vw vr L E M) (hu : Own B W u z) : Lz B W vw vr L E (M ++ [(u, z)]) := ⟨h.r, h.w, fun x hx => (List.mem_append.1 hx).elim (h.m x) (fun e => by rw [List.mem_singleton.1 e]; exact hu)⟩
end
theorem infoLz : (Tryd.prog.info? 58).map (fun i => (i.zero, i.size, i.bytes)) = some (some (.slice none 0 0), 1, 24) := by kernel_rfl
theorem one_newZ (w : World) (x : Value) (t : TypeId) : ∀ j y, [x][j]? = some y → (w.alloc (.cells #[x] t)).cell? ((⟨w.heap.size, 0, none⟩ : Addr).add j) = some y := fun j y hy => by
  rw [Addr.add_lit]
  have hh := World.alloc_heap_new w (.cells #[x] t)
  show (match (w.alloc (.cells #[x] t)).heap[w.heap.size]? with | some (Obj.cells c elem frozen) => c[0 + j]? | x => none) = _
  rw [hh]
  simpa using hy
/-- as far as LentSteps has come -/
structure Zs1 (w W : World) (vw vr : Value) (L : List Cls) (E : List SV) (M : List Cls) : Prop where
  x : Zt3 W (w.heap.size + 1) 25 (.slice none 0 0) vw vr
  y : Zt3 W w.heap.size 25 (.slice none 0 0) (.slice none 0 0) (.slice none 0 0)
  l : Lz w.heap.size W vw vr L E M
  b : Below w.heap.size w W
section
variable {w W W' w1 Wa : World} {vw vr : Value} {L : List Cls} {E : List SV} {M : List Cls}
theorem Zs1.below (h : Zs1 w W vw vr L E M) (hb : Below W.heap.size W W') : Zs1 w W' vw vr L E M := ⟨h.x.below hb, h.y.below hb, h.l.below hb, Below.step h.b hb⟩
theorem Zs1.addM {u : Value} {z : List Int} (h : Zs1 w W vw vr L E M) (hu : Own w.heap.size W u z) : Zs1 w W vw vr L E (M ++ [(u, z)]) := ⟨h.x, h.y, h.l.addM hu, h.b⟩
theorem Zs1.appR {u vr' : Value} {z : List Int} {o : Obj} (h : Zs1 w W vw vr L E M) (own' : w1.ownsRow w.heap.size 58 1 vr' (L.length + 1) (L.map Prod.fst ++ [u])) (hg : (W.alloc o).grownBy w1 vr.ownBlock) (hu : Own w.heap.size W u z) (hap : ApartC (L ++ [(u, z)])) :
    w1.cell? ⟨w.heap.size + 1, 2, none⟩ = some vr ∧ w1.frozen? ⟨w.heap.size + 1, 2, none⟩ = false ∧ Zs1 w (w1.setCell ⟨w.heap.size + 1, 2, none⟩ vr') vw vr' (L ++ [(u, z)]) E M := by
  have hra : (W.alloc o).ownsRow w.heap.size 58 1 vr L.length (L.map Prod.fst) := World.ownsRow.alloc h.l.r.row o
  have hx0 := h.x.below (below_box W o)
  have hy0 := h.y.below (below_box W o)
  have hx1 := hx0.kept hg (hx0.not_row (by decide) hra)
  have hy1 := hy0.kept hg (hy0.not_row (by decide) hra)
  have hl1 := h.l.appR (World.grownBy_alloc W o none) own' hg hu hap
  refine ⟨hx1.c2, hx1.fz 2, ⟨hx1.set2 vr', hy1.kept (grown_set _ _ _) (by simp), hl1.box hx1 (by decide) (by decide) (by decide) 2 vr', ?_⟩⟩
  exact ((h.b.alloc h.b.size o).grown hg (Nat.le_trans h.b.size (below_box W o).size) (fun q e => (h.l.r.row.lt q e).1)).setCell (p := ⟨w.heap.size + 1, 2, none⟩) (Nat.le_succ _) _
theorem Zs1.appW {x : SV} {vw' : Value} (h : Zs1 w W vw vr L E M) (hb : Below W.heap.size W Wa) (own' : w1.ownsRow w.heap.size 61 2 vw' (E.length + 1) (svC E ++ [.bool x.1, x.2.1])) (hg : Wa.grownBy w1 vw.ownBlock) :
    w1.cell? ⟨w.heap.size + 1, 1, none⟩ = some vw ∧ w1.frozen? ⟨w.heap.size + 1, 1, none⟩ = false ∧ Zs1 w (w1.setCell ⟨w.heap.size + 1, 1, none⟩ vw') vw' vr L (E ++ [x]) M := by
  have hra : Wa.ownsRow w.heap.size 61 2 vw E.length (svC E) := (h.l.below hb).w
  have hx0 := h.x.below hb
  have hy0 := h.y.below hb
  have hx1 := hx0.kept hg (hx0.not_row (by decide) hra)
  have hy1 := hy0.kept hg (hy0.not_row (by decide) hra)
  have hl1 := h.l.appW (grown_below hb) own' hg
  refine ⟨hx1.c1, hx1.fz 1, ⟨hx1.set1 vw', hy1.kept (grown_set _ _ _) (by simp), hl1.box hx1 (by decide) (by decide) (by decide) 1 vw', ?_⟩⟩
  exact ((Below.step h.b hb).grown hg (Nat.le_trans h.b.size hb.size) (fun q e => (h.l.w.lt q e).1)).setCell (p := ⟨w.heap.size + 1, 1, none⟩) (Nat.le_succ _) _
end
theorem m64_app_lenZ (z : List Int) : (z ++ m64).length = z.length + 64 := by rw [List.length_append, m64_len]
/-- what LentSteps answers -/
structure Lzf (w W : World) (vi vw vr : Value) (t : List Stp) (L M : List Cls) : Prop where
  l : Lz w.heap.size W vw vr L (stZ t L ++ mkZ M) M
  ls : L.map Prod.snd = t.map (fun e => e.2 ++ m64)
  ms : MksZ M 64
  b : Below w.heap.size w W
  i : ∃ a c, vw = .slice a (t.length + 64) c ∧ vi = .slice a t.length c
end Go.Proofs.YtilcokpaeapmeaaDoor
set_option linter.unusedSimpArgs false
set_option linter.unusedVariables false
namespace Go.Proofs.YtilcokpaeapmeaaDoor
open Go Go.RowKit Go.Shelf
attribute [local go_sem] Oper.semAt_some

set_option maxRecDepth 100000 in
set_option maxHeartbeats 2000000 in
theorem keptZ_any (B : Nat) (x v : Value) (zs : List Int) (w : World) (ho : Own B w x (zs ++ m64)) (hr : Rd w v zs) :
    Calls Tryd.prog 35 #[x, v] w fun e w' => e = .returned (.bool true) ∧ ∃ n, w' = w.drewN n := by
  have hl := hr.len
  have HR : Hid (∀ W, Below w.heap.size w W → Rd W v zs) := fun W h => hr.below h
  have HO : Hid (∀ W, Below w.heap.size w W → Own B W x (zs ++ m64)) := fun W h => ho.below h
  obtain ⟨_, av, cv, rfl, -⟩ := id hr
  obtain ⟨ax, cx, e⟩ := row_slice1 ho
  rw [List.length_append, m64_len] at e
  subst e
  clear hr ho
  go_enter Tryd.func35, Tryd.ntmps35
  go_wp2
  go_loopg [5] zs.length (fun g i wr => ∃ k : Nat, k + g = zs.length ∧ i = .int .i64 k ∧ ∃ n, wr = w.drewN n)
  case atStart => exact ⟨0, by omega, rfl, 0, rfl⟩
  case round =>
  obtain ⟨k, hk, rfl, n0, hn0⟩ := hrel
  have bel : Below w.heap.size w wr := by rw [hn0]; exact below_drewN _ _
  have HK : Hid (k + gk = zs.length) := hk
  by_cases hlt : k < zs.length
  · obtain ⟨_, _, _, e, _, _, _, h2⟩ := HR.out wr bel
    cases e
    obtain ⟨b, off, e, hb, hcell⟩ := h2 (by intro h; rw [h] at hlt; simp at hlt)
    have hck := hcell k hlt
    subst e
    obtain ⟨g, cap, e, hcap, hcg⟩ := cell_app_left (HO.out wr bel) hlt
    rw [m64_len] at e hcap
    cases e
    have BE : Hid (wr = w.drewN n0) := hn0
    clear hcell h2 hk bel hn0
    generalize zs.getD k 0 = z at *
    go_wp2
    go_quiet (fail)
    go_wp2
    go_roundg (gk - 1)
    case measure => have := HK.out; omega
    case rel => exact ⟨k + 1, by have := HK.out; omega, by go_num, _, by rw [BE.out, World.drewN_drewN]⟩
  have e : k = zs.length := by omega
  subst e
  clear hk hlt HK
  have BEL : Hid (∃ n, wr = w.drewN n) := ⟨n0, hn0⟩
  clear bel hn0
  generalize wr = w2 at *
  go_wp2
  go_loopg [6] 64 (fun g i wr => ∃ k : Nat, k + g = 64 ∧ i = .int .i64 k ∧ ∃ n, wr = w.drewN n)
  case atStart => exact ⟨0, by omega, rfl, BEL.out⟩
  case round =>
  obtain ⟨k, hk, rfl, n0, hn0⟩ := hrel
  have bel : Below w.heap.size w wr := by rw [hn0]; exact below_drewN _ _
  have HK : Hid (k + gk = 64) := hk
  by_cases hlt : k < 64
  · obtain ⟨g, cap, e, hcap, hcg⟩ := cell_app_right (HO.out wr bel) (i := k) (by rw [m64_len]; exact hlt)
    rw [m64_len] at e hcap
    cases e
    rw [m64_at hlt] at hcg
    have HM : Hid (∀ W, Calls Tryd.prog 30 #[.int .i64 0, .int .i64 k] W fun e w' => e = .returned (.int .i64 (mrk 0 k)) ∧ w' = W) := fun W => mark_any 0 k W (by omega) (by omega)
    have BE : Hid (wr = w.drewN n0) := hn0
    clear hk bel hn0
    generalize mrk 0 k = z at *
    go_wp2
    go_quiet ((go_at_call 30; exact Calls.quiet_of_same (HM.out _)))
    go_wp2
    go_roundg (gk - 1)
    case measure => have := HK.out; omega
    case rel => exact ⟨k + 1, by have := HK.out; omega, by go_num, _, by rw [BE.out, World.drewN_drewN]⟩
  have e : k = 64 := by omega
  subst e
  clear hk hlt HK
  go_wp2
  go_ret
  first
  | exact ⟨rfl, n0, rfl⟩
  | exact ⟨rfl, n0, hn0⟩



theorem cut64z {B : Nat} {W : World} {a : Option Addr} {z : List Int} {c : Nat} (h : Own B W (.slice a (z.length + 64) c) (z ++ m64)) : Own B W (.slice a z.length c) z := by
  have h1 : W.ownsRow B 3 1 (.slice a (z.length + 64) c) (z.length + 64) ((z ++ m64).map (Value.int .i64)) := by
    have h2 := h
    unfold Own at h2
    rw [m64_app_lenZ] at h2
    exact h2
  obtain ⟨g, rfl⟩ : ∃ g, a = some ⟨g, 0, none⟩ := by
    rcases h1.2 with ⟨e, e2⟩ | ⟨g, cap, cur, e, _⟩
    · omega
    · injection e with e1 _ _; exact ⟨g, e1⟩
  have h3 := own_cut h1 (m := z.length) (by omega)
  have e : ((z ++ m64).map (Value.int .i64)).take (z.length * 1) = z.map (Value.int .i64) := by
    rw [Nat.mul_one, List.map_append, List.take_left' (by simp)]
  rw [e] at h3
  exact h3
/-- what KeptSteps reads -/
structure Kz (B : Nat) (W : World) (vw vr : Value) (t : List Stp) (L M : List Cls) : Prop where
  l : Lz B W vw vr L (stZ t L ++ mkZ M) M
  ls : L.map Prod.snd = t.map (fun e => e.2 ++ m64)
  ms : MksZ M 64
theorem Kz.below {B : Nat} {W W' : World} {vw vr : Value} {t : List Stp} {L M : List Cls} (h : Kz B W vw vr t L M) (hb : Below W.heap.size W W') : Kz B W' vw vr t L M := ⟨h.l.below hb, h.ls, h.ms⟩
theorem Lzf.k {w W : World} {vi vw vr : Value} {t : List Stp} {L M : List Cls} (h : Lzf w W vi vw vr t L M) : Kz w.heap.size W vw vr t L M := ⟨h.l, h.ls, h.ms⟩
theorem box_atZ {w W : World} {cs : Array Value} {t : TypeId} {k : Nat} {x : Value} (h : Below (w.alloc (.cells cs t)).heap.size (w.alloc (.cells cs t)) W) (hk : cs[k]? = some x) : W.cell? ⟨w.heap.size, k, none⟩ = some x := by
  rw [h.cell (p := ⟨w.heap.size, k, none⟩) (by show w.heap.size < _; simp), World.cell?_alloc_mark]; exact hk
section
variable {B gw cw : Nat} {W : World} {vw vr : Value} {t : List Stp} {L M : List Cls}
theorem Kz.len (h : Kz B W vw vr t L M) : L.length = t.length := by
  have h1 := congrArg List.length h.ls
  simpa only [List.length_map] using h1
theorem Kz.whole (h : Kz B W vw vr t L M) : (stZ t L ++ mkZ M).length = t.length + 64 := by rw [List.length_append, stZ_len h.len, mkZ_len, h.ms.1]
theorem Kz.vwF (h : Kz B W vw vr t L M) : ∃ gw cw, vw = .slice (some ⟨gw, 0, none⟩) (t.length + 64) cw ∧ t.length + 64 ≤ cw ∧ cw ≤ maxLen ∧ gw < W.heap.size ∧ B ≤ gw := by
  have hw := h.l.w
  rw [h.whole] at hw
  rcases hw.2 with ⟨_, e2⟩ | ⟨g', cap', cur, hv, hb', hg', r1, r2, r3, r4⟩
  · omega
  · exact ⟨g', cap', hv, r1, r2, (Array.getElem?_eq_some_iff.1 hg').1, hb'⟩
theorem Kz.wcell (h : Kz B W (.slice (some ⟨gw, 0, none⟩) (t.length + 64) cw) vr t L M) {k : Nat} (hk : k < t.length + 64) (x : SV) (hx : (stZ t L ++ mkZ M)[k]? = some x) : W.cell? ⟨gw, k * 2, none⟩ = some (.bool x.1) ∧ W.cell? ⟨gw, k * 2 + 1, none⟩ = some x.2.1 := by
  have hl := h.whole
  have hk' : k < (stZ t L ++ mkZ M).length := by omega
  have hxe : (stZ t L ++ mkZ M)[k] = x := by rw [List.getElem?_eq_getElem hk'] at hx; exact Option.some.inj hx
  obtain ⟨a0, a1⟩ := svC_at (stZ t L ++ mkZ M) k hk'
  rw [hxe] at a0 a1
  have hw := h.l.w
  rw [hl] at hw
  exact ⟨row_cell hw a0, row_cell hw a1⟩
/-- the k-th step -/
theorem Kz.at (h : Kz B W (.slice (some ⟨gw, 0, none⟩) (t.length + 64) cw) vr t L M) {k : Nat} (hk : k < t.length) : ∃ gr cr a c, vr = .slice (some ⟨gr, 0, none⟩) t.length cr ∧ t.length ≤ cr ∧ W.cell? ⟨gw, k * 2, none⟩ = some (.bool (t.getD k (false, [])).1) ∧ W.cell? ⟨gw, k * 2 + 1, none⟩ = some (.slice a (t.getD k (false, [])).2.length c) ∧ W.cell? ⟨gr, k, none⟩ = some (.slice a ((t.getD k (false, [])).2.length + 64) c) ∧ Own B W (.slice a ((t.getD k (false, [])).2.length + 64) c) ((t.getD k (false, [])).2 ++ m64) := by
  have l1 := h.len
  have hkL : k < L.length := by omega
  have hx : L[k] ∈ L := List.getElem_mem hkL
  have ho := h.l.r.own _ hx
  have hz : (L[k]).2 = (t.getD k (false, [])).2 ++ m64 := by
    have h3 := congrArg (fun l => l[k]?) h.ls
    simp only [List.getElem?_map, List.getElem?_eq_getElem hkL, List.getElem?_eq_getElem hk, Option.map_some] at h3
    injection h3 with h3
    rw [h3, List.getD_eq_getElem?_getD, List.getElem?_eq_getElem hk]; rfl
  obtain ⟨a, c, e⟩ := own_form ho
  rw [hz, m64_app_lenZ] at e
  obtain ⟨gr, cr, er, r1, -, -⟩ := row_some h.l.r.row (by omega)
  have hr := h.l.r.row
  rw [er] at hr
  have c1 := row_cell hr (j := k) (x := (L[k]).1) (by rw [List.getElem?_map, List.getElem?_eq_getElem hkL]; rfl)
  have hEk : (stZ t L ++ mkZ M)[k]? = some ((t.getD k (false, [])).1, cutZ (L[k]), (t.getD k (false, [])).2) := by
    rw [List.getElem?_append_left (by rw [stZ_len l1]; exact hk), List.getElem?_eq_getElem (by rw [stZ_len l1]; exact hk), stZ_at l1 hk]
  obtain ⟨b0, b1⟩ := h.wcell (by omega) _ hEk
  have ecut : cutZ (L[k]) = .slice a (t.getD k (false, [])).2.length c := by unfold cutZ; rw [e]; simp
  simp only at b0 b1
  rw [ecut] at b1
  rw [e] at c1 ho
  rw [l1] at er r1
  rw [hz] at ho
  exact ⟨gr, cr, a, c, er, r1, b0, b1, c1, ho⟩
/-- the i-th mark -/
theorem Kz.mrkAt (h : Kz B W (.slice (some ⟨gw, 0, none⟩) (t.length + 64) cw) vr t L M) {i : Nat} (hi : i < 64) : ∃ g c, W.cell? ⟨gw, (t.length + i) * 2, none⟩ = some (.bool false) ∧ W.cell? ⟨gw, (t.length + i) * 2 + 1, none⟩ = some (.slice (some ⟨g, 0, none⟩) 1 c) ∧ 1 ≤ c ∧ W.cell? ⟨g, 0, none⟩ = some (.int .i64 (mrk 1 i)) := by
  have hiM : i < M.length := by rw [h.ms.1]; exact hi
  have ho := h.l.m _ (List.getElem_mem hiM)
  rw [h.ms.2 i hiM] at ho
  obtain ⟨g, c, e, o1, -, -⟩ := row_some ho (by simp)
  have e' : (M[i]).1 = .slice (some ⟨g, 0, none⟩) 1 c := e
  obtain ⟨b0, b1⟩ := h.wcell (k := t.length + i) (by omega) (false, M[i]) (by
    rw [List.getElem?_append_right (by rw [stZ_len h.len]; omega), stZ_len h.len, show t.length + i - t.length = i by omega]
    unfold mkZ
    rw [List.getElem?_map, List.getElem?_eq_getElem hiM]; rfl)
  simp only at b1
  rw [e'] at b1 ho
  exact ⟨g, c, b0, b1, o1, row_cell ho (j := 0) rfl⟩
/-- it reads the steps -/
theorem Kz.rdz (h : Kz B W (.slice (some ⟨gw, 0, none⟩) (t.length + 64) cw) vr t L M) (hb : t.length ≤ 1073741824) (h8 : ∀ k, k < t.length → (t.getD k (false, [])).2.length * 8 ≤ 140737488351232) : RdZ W (.slice (some ⟨gw, 0, none⟩) t.length cw) t := by
  obtain ⟨gw', cw', e, h1, h2, h3, _⟩ := h.vwF
  injection e with e1 e2 e3
  injection e1 with e1; injection e1 with e1
  subst e1; subst e3
  refine ⟨by omega, _, cw, rfl, by omega, h2, fun _ => ⟨gw, 0, rfl, h3, fun j hj => ?_⟩⟩
  obtain ⟨gr, cr, a, c, -, -, b0, b1, -, ho⟩ := h.at hj
  exact ⟨_, by rw [Nat.zero_add]; exact b0, by rw [Nat.zero_add]; exact b1, (cut64z ho).rd (h8 j hj)⟩
end
theorem m64_leftZ (z : List Int) {j : Nat} (h : j < z.length) : (z ++ m64).getD j 0 = z.getD j 0 := by
  rw [List.getD_eq_getElem?_getD, List.getD_eq_getElem?_getD, List.getElem?_append_left h]
set_option maxRecDepth 100000 in
set_option maxHeartbeats 6400000 in
theorem keptSteps_any (B : Nat) (vi vw vr v : Value) (t : List Stp) (L M : List Cls) (w : World) (hk : Kz B w vw vr t L M) (hr : RdZ w v t) (hb : t.length ≤ 1073741824) :
    Calls Tryd.prog 8 #[.agg #[vi, vw, vr], v] w fun e w' => e = .returned (.bool true) ∧ Below w.heap.size w w' := by
  obtain ⟨a, c, rfl, h1, h2, hAT⟩ := hr.form
  have HAT : Hid (∀ (k : Nat), k < t.length → ∃ bb off u cu, a = some ⟨bb, off, none⟩ ∧ ∀ W, Below w.heap.size w W → W.cell? ⟨bb, off + k * 2, none⟩ = some (.bool (t.getD k (false, [])).1) ∧ W.cell? ⟨bb, off + k * 2 + 1, none⟩ = some (.slice u (t.getD k (false, [])).2.length cu) ∧ Rd W (.slice u (t.getD k (false, [])).2.length cu) (t.getD k (false, [])).2) := fun k hk => by
    obtain ⟨bb, off, u, e, kl, k0, k1, hrd⟩ := hAT k hk
    obtain ⟨au, cu, eu, -, -, -⟩ := hrd.form
    subst eu
    exact ⟨bb, off, au, cu, e, fun W hW => ⟨(hW.cell (p := ⟨bb, off + k * 2, none⟩) kl).trans k0, (hW.cell (p := ⟨bb, off + k * 2 + 1, none⟩) kl).trans k1, hrd.below hW⟩⟩
  obtain ⟨gw, cw, ew, hcw, -, -, -⟩ := hk.vwF
  have er : ∃ ar cr, vr = .slice ar t.length cr := by
    obtain ⟨ar, cr, e⟩ := row_form hk.l.r.row
    exact ⟨ar, cr, by rw [e, hk.len]⟩
  obtain ⟨ar, cr, er⟩ := er
  subst ew; subst er
  have HL : Hid (∀ W, Below w.heap.size w W → Kz B W (.slice (some ⟨gw, 0, none⟩) (t.length + 64) cw) (.slice ar t.length cr) t L M) := fun W hW => hk.below hW
  have HX : Hid (Zt3 (w.alloc (.cells #[vi, .slice (some ⟨gw, 0, none⟩) (t.length + 64) cw, .slice ar t.length cr] 25)) w.heap.size 25 vi (.slice (some ⟨gw, 0, none⟩) (t.length + 64) cw) (.slice ar t.length cr)) := World.alloc_heap_new w _
  have HB0 : Hid (Below w.heap.size w (w.alloc (.cells #[vi, .slice (some ⟨gw, 0, none⟩) (t.length + 64) cw, .slice ar t.length cr] 25))) := below_box _ _
  have x1 := HX.out.c1
  have x2 := HX.out.c2
  clear hr hAT hk
  generalize hCL : t.length = CL at *
  have HCL : Hid (t.length = CL) := hCL
  clear hCL
  go_enter Tryd.func8, Tryd.ntmps8
  go_wp2
  generalize w.alloc (.cells #[vi, .slice (some ⟨gw, 0, none⟩) (CL + 64) cw, .slice ar CL cr] 25) = W0 at *
  clear x1 x2
  go_loopg [5, 6, 7] CL (fun q i' r' j' wr => ∃ k : Nat, k + q = CL ∧ i' = .int .i64 k ∧ Below W0.heap.size W0 wr)
  case atStart => exact ⟨0, by omega, rfl, Below.refl _ _⟩
  case round =>
    obtain ⟨k, hk, rfl, hbw⟩ := hrel
    have HK : Hid (k + gk = CL) := hk
    have HW : Hid (Below W0.heap.size W0 wr ∧ Below w.heap.size w wr) := ⟨hbw, Below.step HB0.out hbw⟩
    have x1 := (HX.out.below hbw).c1
    have x2 := (HX.out.below hbw).c2
    clear hk hbw
    by_cases hlt : k < CL
    · have hltc : k < t.length := by rw [HCL.out]; exact hlt
      obtain ⟨bb, off, au, cu, rfl, hcr⟩ := HAT.out k hlt
      obtain ⟨gr, cr', a1, c1, e2, h5, c0, c2, c3, ho⟩ := (show Kz B wr (.slice (some ⟨gw, 0, none⟩) (t.length + 64) cw) (.slice ar t.length cr) t L M by rw [HCL.out]; exact HL.out wr HW.out.2).at hltc
      rw [HCL.out] at e2 h5
      injection e2 with e2 _ e2c
      subst e2; subst e2c
      obtain ⟨kc0, kc, hrd⟩ := hcr wr HW.out.2
      have HKe : Hid (∀ n, Calls Tryd.prog 35 #[.slice a1 ((t.getD k (false, [])).2.length + 64) c1, .slice au (t.getD k (false, [])).2.length cu] (wr.drewN n) fun e w' => e = .returned (.bool true) ∧ ∃ m, w' = (wr.drewN n).drewN m) := fun n => keptZ_any B _ _ (t.getD k (false, [])).2 (wr.drewN n) (ho.below (below_drewN _ _)) (hrd.below (below_drewN _ _))
      have HCo : Hid (∀ j, j < (t.getD k (false, [])).2.length → ∃ g, a1 = some ⟨g, 0, none⟩ ∧ (t.getD k (false, [])).2.length + 64 ≤ c1 ∧ ∀ W, Below wr.heap.size wr W → W.cell? ⟨g, j, none⟩ = some (.int .i64 ((t.getD k (false, [])).2.getD j 0))) := fun j hj => by
        obtain ⟨g, cc, e, h6, h7⟩ := own_at ho (i := j) (by rw [m64_app_lenZ]; omega)
        rw [m64_app_lenZ] at e h6
        injection e with e _ e3
        subst e; subst e3
        rw [m64_leftZ _ hj] at h7
        exact ⟨g, rfl, h6, fun W hW => (hW.cell (p := ⟨g, j, none⟩) (World.block_lt_of_cell? wr _ h7)).trans h7⟩
      have HCr : Hid (∀ j, j < (t.getD k (false, [])).2.length → ∃ g o, au = some ⟨g, o, none⟩ ∧ ∀ W, Below wr.heap.size wr W → W.cell? ⟨g, o + j, none⟩ = some (.int .i64 ((t.getD k (false, [])).2.getD j 0))) := fun j hj => by
        obtain ⟨a9, c9, e9, -, -, h9⟩ := hrd.form
        injection e9 with e9 _ _
        subst e9
        obtain ⟨g, o, e, h7⟩ := h9 j hj
        exact ⟨g, o, e, fun W hW => (hW.cell (p := ⟨g, o + j, none⟩) (World.block_lt_of_cell? wr _ h7)).trans h7⟩
      have HKc : Hid (∀ W, Below w.heap.size w W → W.cell? ⟨bb, off + k * 2 + 1, none⟩ = some (.slice au (t.getD k (false, [])).2.length cu)) := fun W hW => (hcr W hW).2.1
      have HLT : Hid (k < CL) := hlt
      have hzl := hrd.len
      clear hcr hrd ho
      generalize (t.getD k (false, [])).2 = z at *
      generalize (t.getD k (false, [])).1 = dd at *
      go_wp2
      go_quiet ((go_at_call 35; exact Calls.quiet_of (HKe.out _)))
      go_wp2
      rename_i nq
      generalize wr = w5 at *
      generalize gk = G at *
      go_loopg [7] z.length (fun q j' wx => ∃ j : Nat, j + q = z.length ∧ j' = .int .i64 j ∧ Below w5.heap.size w5 wx)
      case atStart => exact ⟨0, by omega, rfl, below_drewN _ _⟩
      case round =>
        obtain ⟨j, hj, rfl, hbx⟩ := hrel
        have HJ : Hid (j + gk = z.length) := hj
        have HBx : Hid (Below w5.heap.size w5 wr) := hbx
        by_cases hjl : j < z.length
        · obtain ⟨g1, rfl, h6, d1⟩ := HCo.out j hjl
          obtain ⟨g2, o2, rfl, d2⟩ := HCr.out j hjl
          have k1 := d1 wr hbx
          have k2 := d2 wr hbx
          have k3 := HKc.out wr (HW.out.2.trans (hbx.mono HW.out.2.size))
          have HJL : Hid (j < z.length) := hjl
          clear d1 d2 hbx hj kc kc0 c0 c2 c3 x1 x2
          generalize z.getD j 0 = y at *
          go_wp2
          go_quiet (fail)
          go_wp2
          go_roundg (gk - 1)
          case measure => have := HJ.out; have := HJL.out; omega
          case rel => exact ⟨j + 1, by have := HJ.out; have := HJL.out; omega, by go_num, HBx.out.trans ((below_drewN _ _).mono HBx.out.size)⟩
        · have HBy : Hid (Below W0.heap.size W0 wr) := Below.step HW.out.1 hbx
          clear hbx hj kc kc0 c0 c2 c3 x1 x2
          go_wp2
          go_roundg (G - 1)
          case measure => have := HK.out; have := HLT.out; omega
          case rel => exact ⟨k + 1, by have := HK.out; have := HLT.out; omega, by go_num, HBy.out⟩
    · obtain rfl : k = CL := by have := HK.out; omega
      clear x1 x2
      go_wp2
      generalize wr = w5 at *
      generalize gk = G at *
      go_loopg [8, 9] 64 (fun q i' r' wx => ∃ i : Nat, i + q = 64 ∧ i' = .int .i64 i ∧ Below W0.heap.size W0 wx)
      case atStart => exact ⟨0, by omega, rfl, HW.out.1⟩
      case round =>
        obtain ⟨i, hi, rfl, hbx⟩ := hrel
        have HJ : Hid (i + gk = 64) := hi
        have HBx : Hid (Below W0.heap.size W0 wr ∧ Below w.heap.size w wr) := ⟨hbx, Below.step HB0.out hbx⟩
        by_cases hil : i < 64
        · obtain ⟨g, cg, m0, m1, hcg, m2⟩ := (show Kz B wr (.slice (some ⟨gw, 0, none⟩) (t.length + 64) cw) (.slice ar t.length cr) t L M by rw [HCL.out]; exact HL.out wr HBx.out.2).mrkAt hil
          rw [HCL.out] at m0 m1
          have x1 := (HX.out.below hbx).c1
          have HM : Hid (∀ W, Calls Tryd.prog 30 #[.int .i64 1, .int .i64 i] W fun e w' => e = .returned (.int .i64 (mrk 1 i)) ∧ w' = W) := fun W => mark_any 1 i W (by omega) (by omega)
          have HIL : Hid (i < 64) := hil
          clear hbx hi
          generalize mrk 1 i = mk at *
          go_upto_region 18 with fail
          have HE : Hid (∀ W, Below (wr.alloc (.cells #[.bool false, .slice (some ⟨g, 0, none⟩) 1 cg] 61)).heap.size (wr.alloc (.cells #[.bool false, .slice (some ⟨g, 0, none⟩) 1 cg] 61)) W → W.cell? ⟨wr.heap.size, 0, none⟩ = some (.bool false) ∧ W.cell? ⟨wr.heap.size, 1, none⟩ = some (.slice (some ⟨g, 0, none⟩) 1 cg) ∧ W.cell? ⟨g, 0, none⟩ = some (.int .i64 mk) ∧ Below W0.heap.size W0 W) := fun W hW => ⟨box_atZ hW rfl, box_atZ hW rfl, ((Below.step (below_box wr _) hW).cell (p := ⟨g, 0, none⟩) (World.block_lt_of_cell? wr _ m2)).trans m2, Below.step HBx.out.1 (Below.step (below_box _ _) hW)⟩
          clear m0 m1 m2 x1
          generalize wr.alloc (.cells #[.bool false, .slice (some ⟨g, 0, none⟩) 1 cg] 61) = we at *
          obtain ⟨d0, d1, d2, -⟩ := HE.out we (Below.refl _ _)
          go_quiet ((go_at_call 30; exact Calls.quiet_of_same (HM.out _)))
          go_wp2
          go_roundg (gk - 1)
          case measure => have := HJ.out; have := HIL.out; omega
          case rel => exact ⟨i + 1, by have := HJ.out; have := HIL.out; omega, by go_num, (HE.out _ (below_drewN _ _)).2.2.2⟩
        · clear hbx hi
          go_wp2
          go_ret
          exact ⟨rfl, HBx.out.2⟩
end Go.Proofs.YtilcokpaeapmeaaDoor
set_option linter.unusedSimpArgs false
set_option linter.unusedVariables false
namespace Go.Proofs.YtilcokpaeapmeaaDoor
open Go Go.RowKit Go.Shelf

/-- a step that leaves all but a set of blocks -/
structure Fz (Q : Nat → Prop) (w W : World) : Prop where
  os : W.os = w.os
  tape : W.tape = w.tape
  output : W.output = w.output
  size : w.heap.size ≤ W.heap.size
  block : ∀ k, k < w.heap.size → ¬ Q k → W.heap[k]? = w.heap[k]?
theorem Fz.refl (Q : Nat → Prop) (w : World) : Fz Q w w := ⟨rfl, rfl, rfl, Nat.le_refl _, fun _ _ _ => rfl⟩
theorem Fz.below {Q : Nat → Prop} {w W W' : World} (h : Fz Q w W) (hb : Below W.heap.size W W') : Fz Q w W' := ⟨hb.os.trans h.os, hb.tape.trans h.tape, hb.output.trans h.output, Nat.le_trans h.size hb.size, fun k hk hq => (hb.block k (Nat.lt_of_lt_of_le hk h.size)).trans (h.block k hk hq)⟩
theorem Fz.grown {Q : Nat → Prop} {w W W' : World} {row : Option Nat} (h : Fz Q w W) (hg : W.grownBy W' row) (hq : ∀ g, row = some g → Q g) : Fz Q w W' := ⟨hg.os.trans h.os, hg.tape.trans h.tape, hg.output.trans h.output, Nat.le_trans h.size hg.size, fun k hk hn => (hg.block k (Nat.lt_of_lt_of_le hk h.size) (fun e => hn (hq k e.symm))).trans (h.block k hk hn)⟩
/-- the blocks of steps that are lent -/
def Lzn (vw : Value) (L : List Cls) (k : Nat) : Prop := some k = vw.ownBlock ∨ ∃ x ∈ L, some k = x.1.ownBlock
structure Oz1 (B : Nat) (w W : World) (D : Nat) (vi vw vr : Value) (L : List Cls) (N : Nat) (ws : List Value) : Prop where
  x : Zt3 W D 25 vi vw vr
  r : W.ownsRow B 58 1 vr L.length (L.map Prod.fst)
  wh : W.ownsRow B 61 2 vw N ws
  o : ∀ (j : Nat) (hj : j < L.length), ∃ Z, Z.length = (L[j]).2.length ∧ Own B W (L[j]).1 Z
  f : Fz (Lzn vw L) w W
theorem Oz1.over {B D N : Nat} {w W W' : World} {vi vw vr : Value} {L : List Cls} {ws : List Value} {k : Nat} {Z X : List Int} (h : Oz1 B w W D vi vw vr L N ws) (hap : ApartC L) (hk : k < L.length) (ho : Own B W (L[k]).1 X) (hz : Z.length = (L[k]).2.length) (hz' : Own B W' (L[k]).1 Z) (hg : W.grownBy W' (L[k]).1.ownBlock) : Oz1 B w W' D vi vw vr L N ws := by
  refine ⟨h.x.kept hg (h.x.not_row (by decide) ho), row_apart (by decide) h.r ho hg, row_apart (by decide) h.wh ho hg, fun j hj => ?_, h.f.grown hg fun g e => .inr ⟨L[k], List.getElem_mem hk, e.symm⟩⟩
  by_cases e : j = k
  · subst e; exact ⟨Z, hz, hz'⟩
  · obtain ⟨Y, h1, h2⟩ := h.o j hj
    refine ⟨Y, h1, World.ownsRow.kept h2 hg ?_⟩
    have hp := List.pairwise_iff_getElem.1 hap
    rcases Nat.lt_or_gt_of_ne e with h3 | h3
    · exact hp j k hj hk h3
    · rcases hp k j hk hj h3 with h4 | h4
      · cases hv : (L[j]).1.ownBlock with
        | none => exact .inl rfl
        | some g => exact .inr (by rw [h4]; simp)
      · exact .inr (Ne.symm h4)
/-- the steps that are written -/
def ovZ (k : Nat) : Stp := ((k : Int) % 2 == 0, [1, -1])
def ovS (n : Nat) : List Stp := (List.range n).map ovZ
theorem ovS_len (n : Nat) : (ovS n).length = n := by simp [ovS]
theorem ovS_at {n k : Nat} (h : k < n) : (ovS n).getD k (false, []) = ovZ k := by
  unfold ovS
  rw [List.getD_eq_getElem?_getD, List.getElem?_map, List.getElem?_range h]; rfl
structure Oz2 (B : Nat) (w W : World) (D : Nat) (vi vw vr : Value) (L : List Cls) (N k : Nat) (xs : List Value) : Prop where
  x : Zt3 W D 25 vi vw vr
  wh : W.ownsRow B 61 2 vw N xs
  o : ∀ j, j < k → ∃ u, xs[j * 2]? = some (.bool ((j : Int) % 2 == 0)) ∧ xs[j * 2 + 1]? = some u ∧ Own B W u [1, -1] ∧ ∀ g, u.ownBlock = some g → w.heap.size ≤ g
  f : Fz (Lzn vw L) w W
theorem Oz2.step {B D N : Nat} {w W : World} {vi vr : Value} {L : List Cls} {k gw cw : Nat} {xs : List Value} (h : Oz2 B w W D vi (.slice (some ⟨gw, 0, none⟩) N cw) vr L N k xs) (hk : k < N) (hB : B ≤ w.heap.size) :
    Oz2 B w (((W.alloc (.cells #[.int .i64 1, .int .i64 (-1)] 3)).setCell ⟨gw, k * 2, none⟩ (.bool ((k : Int) % 2 == 0))).setCell ⟨gw, k * 2 + 1, none⟩ (.slice (some ⟨W.heap.size, 0, none⟩) 2 2)) D vi (.slice (some ⟨gw, 0, none⟩) N cw) vr L N (k + 1) ((xs.set (k * 2) (.bool ((k : Int) % 2 == 0))).set (k * 2 + 1) (.slice (some ⟨W.heap.size, 0, none⟩) 2 2)) := by
  have hxl : xs.length = N * 2 := h.wh.1
  have hal := below_box W (.cells #[.int .i64 1, .int .i64 (-1)] 3)
  have hnew : Own B (W.alloc (.cells #[.int .i64 1, .int .i64 (-1)] 3)) (.slice (some ⟨W.heap.size, 0, none⟩) 2 2) [1, -1] := (ownTwo W 1 (-1)).mono (Nat.le_trans hB h.f.size)
  have one : ∀ {W1 : World} {ys : List Value} (j : Nat) (v : Value), j < N * 2 → Zt3 W1 D 25 vi (.slice (some ⟨gw, 0, none⟩) N cw) vr → W1.ownsRow B 61 2 (.slice (some ⟨gw, 0, none⟩) N cw) N ys → Fz (Lzn (.slice (some ⟨gw, 0, none⟩) N cw) L) w W1 → Zt3 (W1.setCell ⟨gw, j, none⟩ v) D 25 vi (.slice (some ⟨gw, 0, none⟩) N cw) vr ∧ (W1.setCell ⟨gw, j, none⟩ v).ownsRow B 61 2 (.slice (some ⟨gw, 0, none⟩) N cw) N (ys.set j v) ∧ Fz (Lzn (.slice (some ⟨gw, 0, none⟩) N cw) L) w (W1.setCell ⟨gw, j, none⟩ v) ∧ ∀ {u : Value} {Z : List Int}, Own B W1 u Z → Own B (W1.setCell ⟨gw, j, none⟩ v) u Z := fun {W1 ys} j v hj hx hw hf => by
    have hg := grown_set W1 ⟨gw, j, none⟩ v
    exact ⟨hx.kept hg (hx.not_row (by decide) hw), own_cell hw hj v, hf.grown hg fun g e => .inl e.symm, fun ho => row_apart (by decide) ho hw hg⟩
  obtain ⟨x1, w1, f1, o1⟩ := one (k * 2) (.bool ((k : Int) % 2 == 0)) (by omega) (h.x.below hal) (World.ownsRow.alloc h.wh _) (h.f.below hal)
  obtain ⟨x2, w2, f2, o2⟩ := one (k * 2 + 1) (.slice (some ⟨W.heap.size, 0, none⟩) 2 2) (by omega) x1 w1 f1
  refine ⟨x2, w2, fun j hj => ?_, f2⟩
  by_cases e : j = k
  · subst e
    refine ⟨_, ?_, ?_, o2 (o1 hnew), fun g e => by cases e; exact h.f.size⟩
    · rw [List.getElem?_set_ne (by omega), List.getElem?_set_self (by omega)]
    · rw [List.getElem?_set_self (by simp; omega)]
  · obtain ⟨u, q0, q1, q2, q3⟩ := h.o j (by omega)
    refine ⟨u, ?_, ?_, o2 (o1 (q2.below hal)), q3⟩
    · rw [List.getElem?_set_ne (by omega), List.getElem?_set_ne (by omega)]; exact q0
    · rw [List.getElem?_set_ne (by omega), List.getElem?_set_ne (by omega)]; exact q1
/-- what was written over reads as it does whatever becomes of other lists -/
theorem Oz2.rdz {B D N n : Nat} {w W W' : World} {vi vr : Value} {L : List Cls} {gw cw : Nat} {xs : List Value} {Q : Nat → Prop} (h : Oz2 B w W D vi (.slice (some ⟨gw, 0, none⟩) N cw) vr L N N xs) (hn : n ≤ N) (hN : N ≤ 2147483648) (hf : Fz Q W W') (hq : ∀ k, Q k → k < w.heap.size ∧ k ≠ gw) : RdZ W' (.slice (some ⟨gw, 0, none⟩) n cw) (ovS n) := by
  have hw : W'.ownsRow B 61 2 (.slice (some ⟨gw, 0, none⟩) N cw) N xs := row_kept h.wh fun k e => by
    have e1 : k = gw := by simpa [Value.ownBlock] using e
    exact hf.block k (h.wh.lt k e.symm).2 (fun hk => (hq k hk).2 e1)
  obtain ⟨h1, h2⟩ : N ≤ cw ∧ cw ≤ maxLen := by
    rcases hw.2 with ⟨e1, _⟩ | ⟨g', cap', cur, hv, hb', hg', r1, r2, r3, r4⟩
    · simp at e1
    · injection hv with _ _ e3; subst e3; exact ⟨r1, r2⟩
  refine ⟨by rw [ovS_len]; omega, _, cw, by rw [ovS_len], by rw [ovS_len]; omega, h2, fun _ => ⟨gw, 0, rfl, (hw.lt gw rfl).2, fun j hj => ?_⟩⟩
  rw [ovS_len] at hj
  obtain ⟨u, q0, q1, q2, q3⟩ := h.o j (by omega)
  rw [ovS_at hj, Nat.zero_add]
  refine ⟨u, row_cell hw q0, row_cell hw q1, ?_⟩
  have h5 : Own B W' u [1, -1] := row_kept q2 fun k e => hf.block k (q2.lt k e.symm).2 (fun hk => by have := (hq k hk).1; have := q3 k e.symm; omega)
  exact h5.rd (by decide)
set_option maxRecDepth 100000 in
set_option maxHeartbeats 6400000 in
theorem overSteps_any (B : Nat) (vi vr : Value) (gw cw N : Nat) (L : List Cls) (E : List SV) (M : List Cls) (w : World) (h : Lz B w (.slice (some ⟨gw, 0, none⟩) N cw) vr L E M) (hN : E.length = N) (hN2 : N ≤ 2147483648) (hLn : L.length ≤ 2147483648) (hl : ∀ x ∈ L, x.2.length ≤ 35184372088832) (hB : B ≤ w.heap.size) :
    Calls Tryd.prog 10 #[.agg #[vi, .slice (some ⟨gw, 0, none⟩) N cw, vr]] w fun e w' => e = .returned (.tuple #[]) ∧ Fz (Lzn (.slice (some ⟨gw, 0, none⟩) N cw) L) w w' ∧ ∀ n, n ≤ N → ∀ (Q : Nat → Prop) W', Fz Q w' W' → (∀ k, Q k → k < w.heap.size ∧ k ≠ gw) → RdZ W' (.slice (some ⟨gw, 0, none⟩) n cw) (ovS n) := by
  have H0 : Hid (Oz1 B w (w.alloc (.cells #[vi, .slice (some ⟨gw, 0, none⟩) N cw, vr] 25)) w.heap.size vi (.slice (some ⟨gw, 0, none⟩) N cw) vr L N (svC E)) := by
    have h2 := h.below (below_box w (.cells #[vi, .slice (some ⟨gw, 0, none⟩) N cw, vr] 25))
    have h3 := h2.w
    rw [hN] at h3
    exact ⟨World.alloc_heap_new w _, h2.r.row, h3, fun j hj => ⟨_, rfl, h2.r.own _ (List.getElem_mem hj)⟩, (Fz.refl _ _).below (below_box _ _)⟩
  have HAp : Hid (ApartC L ∧ (∀ x ∈ L, x.2.length ≤ 35184372088832) ∧ B ≤ w.heap.size) := ⟨h.r.ap, hl, hB⟩
  obtain ⟨ar, cr, er⟩ := row_form h.r.row
  subst er
  have x1 := H0.out.x.c1
  have x2 := H0.out.x.c2
  clear h hl hN hB
  generalize svC E = ws at *
  go_enter Tryd.func10, Tryd.ntmps10
  go_wp2
  generalize w.alloc (.cells #[vi, .slice (some ⟨gw, 0, none⟩) N cw, .slice ar L.length cr] 25) = W0 at *
  generalize hD : w.heap.size = D at H0 x1 x2 ⊢
  have HD : Hid (w.heap.size = D) := hD
  clear hD x1 x2
  go_loopg [2] L.length (fun q i' wr => ∃ k : Nat, k + q = L.length ∧ i' = .int .i64 k ∧ Oz1 B w wr D vi (.slice (some ⟨gw, 0, none⟩) N cw) (.slice ar L.length cr) L N ws)
  case atStart => exact ⟨0, by omega, rfl, H0.out⟩
  case round =>
    obtain ⟨k, hk, rfl, hov⟩ := hrel
    have HK : Hid (k + gk = L.length) := hk
    have H1 : Hid (Oz1 B w wr D vi (.slice (some ⟨gw, 0, none⟩) N cw) (.slice ar L.length cr) L N ws) := hov
    have x1 := hov.x.c1
    have x2 := hov.x.c2
    by_cases hlt : k < L.length
    · obtain ⟨X, hXl, hX⟩ := hov.o k hlt
      obtain ⟨gr, cr', er, r1, -, -⟩ := row_some hov.r (by omega)
      injection er with er _ er3
      subst er; subst er3
      have kc := row_cell hov.r (j := k) (x := (L[k]).1) (by rw [List.getElem?_map, List.getElem?_eq_getElem hlt]; rfl)
      obtain ⟨a1, c1, e1⟩ := own_form hX
      have HOv : Hid (Calls Tryd.prog 37 #[.slice a1 X.length c1] wr fun e w' => (∃ v, e = .returned v) ∧ Oz1 B w w' D vi (.slice (some ⟨gw, 0, none⟩) N cw) (.slice (some ⟨gr, 0, none⟩) L.length cr) L N ws) := by
        have h5 := over_any B (L[k]).1 X wr hX (by rw [hXl]; exact HAp.out.2.1 _ (List.getElem_mem hlt))
        rw [e1] at h5
        refine h5.mono ?_
        rintro e w' ⟨h6, ⟨Z, h7, h8⟩, h9⟩
        refine ⟨h6, H1.out.over HAp.out.1 hlt hX (h7.trans hXl) (by rw [e1]; exact h8) (by rw [e1]; exact h9)⟩
      rw [e1] at kc
      have HLT : Hid (k < L.length) := hlt
      clear hX hXl hov hk e1
      generalize X.length = xl at *
      go_wp2_with fail
      refine Calls.mono HOv.out ?_
      rintro e w1 ⟨⟨v1, rfl⟩, hov1⟩
      have H2 : Hid (Oz1 B w w1 D vi (.slice (some ⟨gw, 0, none⟩) N cw) (.slice (some ⟨gr, 0, none⟩) L.length cr) L N ws) := hov1
      clear hov1
      go_wp2
      go_roundg (gk - 1)
      case measure => have := HK.out; have := HLT.out; omega
      case rel => exact ⟨k + 1, by have := HK.out; have := HLT.out; omega, by go_num, H2.out⟩
    · have H3 : Hid (Oz2 B w wr D vi (.slice (some ⟨gw, 0, none⟩) N cw) (.slice ar L.length cr) L N 0 ws) := ⟨hov.x, hov.wh, fun j hj => (by omega), hov.f⟩
      clear hov hk
      go_wp2
      generalize wr = w5 at *
      generalize gk = G at *
      clear x1 x2
      go_loopg [3] N (fun q i' wr => ∃ (k2 : Nat) (xs : List Value), k2 + q = N ∧ i' = .int .i64 k2 ∧ Oz2 B w wr D vi (.slice (some ⟨gw, 0, none⟩) N cw) (.slice ar L.length cr) L N k2 xs)
      case atStart => exact ⟨0, ws, by omega, rfl, H3.out⟩
      case round =>
        obtain ⟨k2, xs, hk2, rfl, how⟩ := hrel
        have HJ : Hid (k2 + gk = N) := hk2
        have H4 : Hid (Oz2 B w wr D vi (.slice (some ⟨gw, 0, none⟩) N cw) (.slice ar L.length cr) L N k2 xs) := how
        have x1 := how.x.c1
        by_cases hl2 : k2 < N
        · have H5 := (show Hid _ from how.step hl2 HAp.out.2.2)
          have hxl : xs.length = N * 2 := how.wh.1
          have hcw : N ≤ cw := by
            rcases how.wh.2 with ⟨e1, _⟩ | ⟨g', cap', cur, hv, hb', hg', r1, r2, r3, r4⟩
            · simp at e1
            · injection hv with _ _ e3; omega
          obtain ⟨y0, hy0⟩ : ∃ y, xs[k2 * 2]? = some y := ⟨_, List.getElem?_eq_getElem (by omega)⟩
          obtain ⟨y1, hy1⟩ : ∃ y, xs[k2 * 2 + 1]? = some y := ⟨_, List.getElem?_eq_getElem (by omega)⟩
          have hwa : (wr.alloc (.cells #[.int .i64 1, .int .i64 (-1)] 3)).ownsRow B 61 2 (.slice (some ⟨gw, 0, none⟩) N cw) N xs := World.ownsRow.alloc how.wh _
          have k0 := row_cell hwa hy0
          have k1 := row_cell hwa hy1
          have z0 := row_fz hwa (k2 * 2)
          have z1 := row_fz hwa (k2 * 2 + 1)
          have hmod : ((k2 : Int)).tmod 2 = (k2 : Int) % 2 := by rw [Int.tmod_eq_emod_of_nonneg (by omega)]
          have HL2 : Hid (k2 < N) := hl2
          clear how hk2 hxl hy0 hy1 hwa
          go_wp2
          go_roundg (gk - 1)
          case measure => have := HJ.out; have := HL2.out; omega
          case rel => exact ⟨k2 + 1, _, by have := HJ.out; have := HL2.out; omega, by go_num, H5.out⟩
        · obtain rfl : k2 = N := by omega
          have HF : Hid (Fz (Lzn (.slice (some ⟨gw, 0, none⟩) k2 cw) L) w wr ∧ ∀ n, n ≤ k2 → ∀ (Q : Nat → Prop) W', Fz Q wr W' → (∀ k, Q k → k < w.heap.size ∧ k ≠ gw) → RdZ W' (.slice (some ⟨gw, 0, none⟩) n cw) (ovS n)) := ⟨how.f, fun n hn Q W' hf hq => how.rdz hn hN2 hf hq⟩
          clear how hk2
          go_wp2
          go_end0
          exact ⟨rfl, HF.out⟩
end Go.Proofs.YtilcokpaeapmeaaDoor

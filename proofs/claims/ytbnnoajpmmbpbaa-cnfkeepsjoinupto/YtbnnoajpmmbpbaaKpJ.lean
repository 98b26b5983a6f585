/-
  Two rows that are lent, each in its box, in whatever order they are made.
  KEEP: set on app at below new trans refl start ap kept rd rds mono lt add none own nil put len pos setF setV putL putR other neV same_any row
-/
import Derived.Test.YtbnnoajpmmbpbaaKpL
set_option linter.unusedSimpArgs false
set_option linter.unusedVariables false
namespace Go.Proofs.Ytbnnoajpmmbpbaa
open Go Go.RowKit Go.Shelf

structure Lt where
  B : Nat
  vi : Value
  vw : Value
  vr : Value
  css : List (List Int)
  L : List Cls
  M : List Cls
def Lt.own (l : Lt) (k : Nat) : Prop := Lown l.vw l.vr l.L k
/-- what the value of a row that is lent looks like -/
def Lt.val (l : Lt) : Prop := ∃ g c, l.vw = .slice (some ⟨g, 0, none⟩) (l.css.length + 64) c ∧ l.vi = .slice (some ⟨g, 0, none⟩) l.css.length c ∧ l.css.length + 64 ≤ c ∧ c ≤ maxLen
abbrev Br4 := Nat × Value × Value × Value
def Bxr (W : World) (b : Br4) : Prop := Bx3 W b.1 30 b.2.1 b.2.2.1 b.2.2.2
structure Kj (w0 W : World) (ox oy : Option Br4) (ls : List Lt) : Prop where
  bel : Below w0.heap.size w0 W
  x : ∀ b, ox = some b → Bxr W b ∧ w0.heap.size ≤ b.1
  y : ∀ b, oy = some b → Bxr W b ∧ w0.heap.size ≤ b.1
  ne : ∀ b c, ox = some b → oy = some c → b.1 ≠ c.1
  lk : ∀ l ∈ ls, Lk l.B W l.vw l.vr l.css l.L l.M ∧ w0.heap.size ≤ l.B ∧ l.val
  ap : ls.Pairwise (fun n o => ∀ k, o.own k → k < n.B)
section
variable {w0 W W' : World} {ox oy : Option Br4} {ls : List Lt}
theorem Kj.start (w0 : World) : Kj w0 w0 none none [] := ⟨Below.refl _ _, fun b h => (by cases h), fun b h => (by cases h), fun b c h => (by cases h), fun l h => (by cases h), List.Pairwise.nil⟩
theorem Kj.below (h : Kj w0 W ox oy ls) (hb : Below W.heap.size W W') : Kj w0 W' ox oy ls :=
  ⟨Below.step h.bel hb, fun b e => ⟨(h.x b e).1.below hb, (h.x b e).2⟩, fun b e => ⟨(h.y b e).1.below hb, (h.y b e).2⟩, h.ne, fun l hl => ⟨(h.lk l hl).1.below hb, (h.lk l hl).2⟩, h.ap⟩
theorem Kj.drew (h : Kj w0 W ox oy ls) : Kj w0 W.drew ox oy ls := h.below (Below.refl _ _).drew
theorem Kj.boxX (h : Kj w0 W none oy ls) (x y z : Value) : Kj w0 (W.alloc (.cells #[x, y, z] 30)) (some (W.heap.size, x, y, z)) oy ls := by
  have h1 := h.below (below_box W (.cells #[x, y, z] 30))
  refine ⟨h1.bel, fun b e => ?_, h1.y, fun b c e e2 => ?_, h1.lk, h1.ap⟩
  · cases e
    exact ⟨World.alloc_heap_new W _, h.bel.size⟩
  · cases e
    have := (h.y c e2).1.lt
    show W.heap.size ≠ _
    omega
theorem Kj.boxY (h : Kj w0 W ox none ls) (x y z : Value) : Kj w0 (W.alloc (.cells #[x, y, z] 30)) ox (some (W.heap.size, x, y, z)) ls := by
  have h1 := h.below (below_box W (.cells #[x, y, z] 30))
  refine ⟨h1.bel, h1.x, fun b e => ?_, fun b c e e2 => ?_, h1.lk, h1.ap⟩
  · cases e
    exact ⟨World.alloc_heap_new W _, h.bel.size⟩
  · cases e2
    have := (h.x b e).1.lt
    show _ ≠ W.heap.size
    omega
theorem Kj.boxX' {D : Nat} {x y z : Value} (h : Kj w0 W none oy ls) (hD : D = W.heap.size) : Kj w0 (W.alloc (.cells #[x, y, z] 30)) (some (D, x, y, z)) oy ls := by
  subst hD
  exact h.boxX x y z
theorem Kj.boxY' {D : Nat} {x y z : Value} (h : Kj w0 W ox none ls) (hD : D = W.heap.size) : Kj w0 (W.alloc (.cells #[x, y, z] 30)) ox (some (D, x, y, z)) ls := by
  subst hD
  exact h.boxY x y z
theorem Bxr.set {D : Nat} {x0 y0 z0 : Value} (h : Bxr W (D, x0, y0, z0)) (x y z : Value) : Bxr (((W.setCell ⟨D, 0, none⟩ x).setCell ⟨D, 1, none⟩ y).setCell ⟨D, 2, none⟩ z) (D, x, y, z) := ((h.set0 x).set1 y).set2 z
theorem Bxr.other {D : Nat} {b : Br4} (h : Bxr W b) (hne : b.1 ≠ D) (x y z : Value) : Bxr (((W.setCell ⟨D, 0, none⟩ x).setCell ⟨D, 1, none⟩ y).setCell ⟨D, 2, none⟩ z) b :=
  ((h.kept (grown_set W ⟨D, 0, none⟩ x) (by simpa using hne)).kept (grown_set _ ⟨D, 1, none⟩ y) (by simpa using hne)).kept (grown_set _ ⟨D, 2, none⟩ z) (by simpa using hne)
theorem Lk.fill {D B : Nat} {x0 y0 z0 vw vr : Value} {css : List (List Int)} {L M : List Cls} (h : Lk B W vw vr css L M) (hb : Bxr W (D, x0, y0, z0)) (x y z : Value) : Lk B (((W.setCell ⟨D, 0, none⟩ x).setCell ⟨D, 1, none⟩ y).setCell ⟨D, 2, none⟩ z) vw vr css L M :=
  ⟨((h.l.box hb (by decide) (by decide) 0 x).box (hb.set0 x) (by decide) (by decide) 1 y).box ((hb.set0 x).set1 y) (by decide) (by decide) 2 z, h.ls, h.ms⟩
theorem Kj.fillX {D : Nat} {x0 y0 z0 : Value} (h : Kj w0 W (some (D, x0, y0, z0)) oy ls) (x y z : Value) : Kj w0 (((W.setCell ⟨D, 0, none⟩ x).setCell ⟨D, 1, none⟩ y).setCell ⟨D, 2, none⟩ z) (some (D, x, y, z)) oy ls := by
  obtain ⟨hb, hD⟩ := h.x _ rfl
  have hD' : w0.heap.size ≤ D := hD
  refine ⟨below_set (below_set (below_set h.bel hD' _ _) hD' _ _) hD' _ _, fun b e => ?_, fun b e => ⟨(h.y b e).1.other (fun e2 => h.ne _ b rfl e e2.symm) x y z, (h.y b e).2⟩, fun b c e e2 => ?_, fun l hl => ⟨(h.lk l hl).1.fill hb x y z, (h.lk l hl).2⟩, h.ap⟩
  · cases e
    exact ⟨hb.set x y z, hD⟩
  · cases e
    exact h.ne (D, x0, y0, z0) c rfl e2
theorem Kj.fillY {D : Nat} {x0 y0 z0 : Value} (h : Kj w0 W ox (some (D, x0, y0, z0)) ls) (x y z : Value) : Kj w0 (((W.setCell ⟨D, 0, none⟩ x).setCell ⟨D, 1, none⟩ y).setCell ⟨D, 2, none⟩ z) ox (some (D, x, y, z)) ls := by
  obtain ⟨hb, hD⟩ := h.y _ rfl
  have hD' : w0.heap.size ≤ D := hD
  refine ⟨below_set (below_set (below_set h.bel hD' _ _) hD' _ _) hD' _ _, fun b e => ⟨(h.x b e).1.other (fun e2 => h.ne b _ e rfl e2) x y z, (h.x b e).2⟩, fun b e => ?_, fun b c e e2 => ?_, fun l hl => ⟨(h.lk l hl).1.fill hb x y z, (h.lk l hl).2⟩, h.ap⟩
  · cases e
    exact ⟨hb.set x y z, hD⟩
  · cases e2
    exact h.ne b (D, x0, y0, z0) e rfl
theorem Kj.lent {vi vw vr : Value} {css : List (List Int)} {L M : List Cls} (h : Kj w0 W ox oy ls) (hq : Lq W W' vi vw vr css L M) : Kj w0 W' ox oy (⟨W.heap.size, vi, vw, vr, css, L, M⟩ :: ls) := by
  have h1 := h.below hq.b
  refine ⟨h1.bel, h1.x, h1.y, h1.ne, fun l hl => ?_, List.pairwise_cons.2 ⟨fun o ho k hk => ?_, h.ap⟩⟩
  · rcases List.mem_cons.1 hl with e | e
    · subst e
      exact ⟨hq.k, h.bel.size, hq.vals⟩
    · exact h1.lk l e
  · exact (lown_le (h.lk o ho).1.l k hk).2
end
theorem Bxr.fr {Q : Nat → Prop} {W W' : World} {b : Br4} (h : Bxr W b) (hf : Fr Q W W') (hq : ¬ Q b.1) : Bxr W' b := (hf.block b.1 h.lt hq).trans h
theorem lk_out {B : Nat} {Q : Nat → Prop} {W W' : World} {vw vr : Value} {css : List (List Int)} {L M : List Cls} (h : Lk B W vw vr css L M) (hf : Fr Q W W') (hq : ∀ k, Q k → k < B) : Lk B W' vw vr css L M := ⟨lr_out h.l hf hq, h.ls, h.ms⟩
theorem Bxr.notLown {B : Nat} {W : World} {b : Br4} {vw vr : Value} {L M : List Cls} {ws : List Value} (h : Bxr W b) (hl : Lr B W vw vr L ws M) : ¬ Lown vw vr L b.1 := by
  rintro (e | e | ⟨x, hx, e⟩)
  · exact Bx3.not_row h (by decide) hl.w e
  · exact Bx3.not_row h (by decide) hl.r.row e
  · exact Bx3.not_row h (by decide) (hl.r.own x hx) e
/-- the first row turned -/
structure Kt (bx bz : Br4) (lx ly : Lt) (W : World) : Prop where
  x : Bxr W bx
  y : Bxr W bz
  lr : Lr lx.B W lx.vw lx.vr (lx.L.map (tnC m64)) (lx.L.map cutV ++ lx.M.map Prod.fst) []
  ix : Rds W lx.vi (lx.css.map (·.map ngv))
  ky : Lk ly.B W ly.vw ly.vr ly.css ly.L ly.M
theorem Kt.below {bx bz : Br4} {lx ly : Lt} {W W' : World} (h : Kt bx bz lx ly W) (hb : Below W.heap.size W W') : Kt bx bz lx ly W' := ⟨h.x.below hb, h.y.below hb, h.lr.below hb, h.ix.below hb, h.ky.below hb⟩
theorem Kj.turned {w0 W W' : World} {bx bz : Br4} {lx ly : Lt} (h : Kj w0 W (some bx) (some bz) [ly, lx]) (hf : Fr (TnB lx.L) W W') {g c : Nat} (ht : Tn lx.B W' (some ⟨g, 0, none⟩) (lx.css.map (·.map ngv)) m64 (lx.L.map (tnC m64)))
    (e : lx.vi = .slice (some ⟨g, 0, none⟩) lx.css.length c) (h1 : lx.css.length ≤ c) (h2 : c ≤ maxLen) (h3 : lx.css.length * 24 ≤ 140737488351232) (h4 : ∀ z ∈ lx.css.map (·.map ngv), z.length * 8 ≤ 140737488351232) : Kt bx bz lx ly W' := by
  have hx := (h.lk lx (by simp)).1
  have hy := (h.lk ly (by simp)).1
  have hsub : ∀ k, TnB lx.L k → lx.own k := fun k ⟨x, hx, e⟩ => .inr (.inr ⟨x, hx, e⟩)
  refine ⟨(h.x _ rfl).1.fr hf (fun hk => (h.x _ rfl).1.notLown hx.l (hsub _ hk)), (h.y _ rfl).1.fr hf (fun hk => (h.y _ rfl).1.notLown hx.l (hsub _ hk)), hx.l.turned hf ht, ?_, lk_out hy hf (fun k hk => (List.pairwise_cons.1 h.ap).1 lx (by simp) k (hsub k hk))⟩
  have h5 := ht.rds (c := c) (by rw [List.length_map]; exact h1) h2 (by simp) (by rw [List.length_map]; exact h3) h4
  rw [List.length_map] at h5
  rw [e]
  exact h5
theorem Kt.over {w0 W0 W W' : World} {bx bz : Br4} {lx ly : Lt} (h : Kt bx bz lx ly W) (h0 : Kj w0 W0 (some bx) (some bz) [ly, lx]) (hf : Fr (Lown lx.vw lx.vr (lx.L.map (tnC m64))) W W') : Bxr W' bz ∧ Lk ly.B W' ly.vw ly.vr ly.css ly.L ly.M :=
  ⟨h.y.fr hf (h.y.notLown h.lr), lk_out h.ky hf (fun k hk => (List.pairwise_cons.1 h0.ap).1 lx (by simp) k (lown_turned hk))⟩
theorem Kj.lo {w0 W : World} {ox oy : Option Br4} {ls : List Lt} (h : Kj w0 W ox oy ls) {l : Lt} (hl : l ∈ ls) : ∀ k, l.own k → w0.heap.size ≤ k ∧ k < W.heap.size := fun k hk => by
  have h1 := lown_le (h.lk l hl).1.l k hk
  have h2 := (h.lk l hl).2.1
  omega
/-- two boxes in a Kx, in whatever order they are made and filled -/
abbrev Br3 := Nat × Value × Value
structure Ky (w0 : World) (S : Nat) (Wr W : World) (ox oy : Option Br3) : Prop where
  k : Kx w0 S Wr W [] []
  x : ∀ b, ox = some b → Bx2 W b.1 24 b.2.1 b.2.2 ∧ S ≤ b.1 ∧ Wr.heap.size ≤ b.1
  y : ∀ b, oy = some b → Bx2 W b.1 24 b.2.1 b.2.2 ∧ S ≤ b.1 ∧ Wr.heap.size ≤ b.1
  ne : ∀ b c, ox = some b → oy = some c → b.1 ≠ c.1
section
variable {w0 Wr W W' : World} {S : Nat} {ox oy : Option Br3}
theorem Ky.start (h : Kx w0 S Wr W [] []) : Ky w0 S Wr W none none := ⟨h, fun b h => (by cases h), fun b h => (by cases h), fun b c h => (by cases h)⟩
theorem Ky.below (h : Ky w0 S Wr W ox oy) (hb : Below W.heap.size W W') : Ky w0 S Wr W' ox oy := ⟨h.k.below hb, fun b e => ⟨(h.x b e).1.below hb, (h.x b e).2⟩, fun b e => ⟨(h.y b e).1.below hb, (h.y b e).2⟩, h.ne⟩
theorem Ky.drew (h : Ky w0 S Wr W ox oy) : Ky w0 S Wr W.drew ox oy := h.below (Below.refl _ _).drew
theorem Ky.boxX (h : Ky w0 S Wr W none oy) (x y : Value) : Ky w0 S Wr (W.alloc (.cells #[x, y] 24)) (some (W.heap.size, x, y)) oy := by
  have h1 := h.below (below_box W (.cells #[x, y] 24))
  refine ⟨h1.k, fun b e => ?_, h1.y, fun b c e e2 => ?_⟩
  · cases e
    exact ⟨Bx2.new _ _ _ _, h.k.sz, h.k.ref.size⟩
  · cases e
    have := (h.y c e2).1.lt
    show W.heap.size ≠ _
    omega
theorem Ky.boxY (h : Ky w0 S Wr W ox none) (x y : Value) : Ky w0 S Wr (W.alloc (.cells #[x, y] 24)) ox (some (W.heap.size, x, y)) := by
  have h1 := h.below (below_box W (.cells #[x, y] 24))
  refine ⟨h1.k, h1.x, fun b e => ?_, fun b c e e2 => ?_⟩
  · cases e
    exact ⟨Bx2.new _ _ _ _, h.k.sz, h.k.ref.size⟩
  · cases e2
    have := (h.x b e).1.lt
    show _ ≠ W.heap.size
    omega
theorem Bx2.set {D : Nat} {t : TypeId} {x0 y0 : Value} (h : Bx2 W D t x0 y0) (x y : Value) : Bx2 ((W.setCell ⟨D, 0, none⟩ x).setCell ⟨D, 1, none⟩ y) D t x y := (h.set0 x).set1 y
theorem Bx2.other {D E : Nat} {t : TypeId} {x0 y0 : Value} (h : Bx2 W E t x0 y0) (hne : E ≠ D) (x y : Value) : Bx2 ((W.setCell ⟨D, 0, none⟩ x).setCell ⟨D, 1, none⟩ y) E t x0 y0 :=
  (h.kept (grown_set W ⟨D, 0, none⟩ x) (by simpa using hne)).kept (grown_set _ ⟨D, 1, none⟩ y) (by simpa using hne)
theorem Ky.fillX {D : Nat} {x0 y0 : Value} (h : Ky w0 S Wr W (some (D, x0, y0)) oy) (x y : Value) : Ky w0 S Wr ((W.setCell ⟨D, 0, none⟩ x).setCell ⟨D, 1, none⟩ y) (some (D, x, y)) oy := by
  obtain ⟨hb, h1, h2⟩ := h.x _ rfl
  have hk := h.k.fill hb h1 h2 (fun b hb => by cases hb) x y
  refine ⟨⟨hk.bel, hk.lo, hk.sz, fun b hb => (by cases hb), hk.own, hk.apR, hk.apL, hk.ref⟩, fun b e => ?_, fun b e => ⟨(h.y b e).1.other (fun e2 => h.ne _ b rfl e e2.symm) x y, (h.y b e).2⟩, fun b c e e2 => ?_⟩
  · cases e
    exact ⟨hb.set x y, h1, h2⟩
  · cases e
    exact h.ne (D, x0, y0) c rfl e2
theorem Ky.fillY {D : Nat} {x0 y0 : Value} (h : Ky w0 S Wr W ox (some (D, x0, y0))) (x y : Value) : Ky w0 S Wr ((W.setCell ⟨D, 0, none⟩ x).setCell ⟨D, 1, none⟩ y) ox (some (D, x, y)) := by
  obtain ⟨hb, h1, h2⟩ := h.y _ rfl
  have hk := h.k.fill hb h1 h2 (fun b hb => by cases hb) x y
  refine ⟨⟨hk.bel, hk.lo, hk.sz, fun b hb => (by cases hb), hk.own, hk.apR, hk.apL, hk.ref⟩, fun b e => ⟨(h.x b e).1.other (fun e2 => h.ne b _ e rfl e2) x y, (h.x b e).2⟩, fun b e => ?_, fun b c e e2 => ?_⟩
  · cases e
    exact ⟨hb.set x y, h1, h2⟩
  · cases e2
    exact h.ne b (D, x0, y0) e rfl
theorem Ky.out {bx bz : Br3} (h : Ky w0 S Wr W (some bx) (some bz)) : Kx w0 S Wr W [bx, bz] [] :=
  ⟨h.k.bel, h.k.lo, h.k.sz, fun b hb => by
    rcases List.mem_cons.1 hb with e | e
    · subst e; exact ⟨(h.x _ rfl).1, (h.x _ rfl).2.1⟩
    · rw [List.mem_singleton.1 e]; exact ⟨(h.y _ rfl).1, (h.y _ rfl).2.1⟩, fun x hx => (by cases hx), List.Pairwise.nil, List.Pairwise.nil, h.k.ref⟩
end
/-- both boxes -/
def Duo (w0 : World) (S : Nat) (Wr : World) (x y x' y' : Value) (p q : Value) (W : World) : Prop :=
  ∃ D E, p = .pointer (some ⟨D, 0, none⟩) ∧ q = .pointer (some ⟨E, 0, none⟩) ∧ Kx w0 S Wr W [(D, x, y), (E, x', y')] []
/-- both rows, lent and boxed -/
def Two (w0 : World) (css dss : List (List Int)) (p q : Value) (W : World) : Prop :=
  ∃ Dx Dy lx ly, p = .pointer (some ⟨Dx, 0, none⟩) ∧ q = .pointer (some ⟨Dy, 0, none⟩) ∧ lx.css = css ∧ ly.css = dss ∧ Kj w0 W (some (Dx, lx.vi, lx.vw, lx.vr)) (some (Dy, ly.vi, ly.vw, ly.vr)) [ly, lx]
theorem Two.open {w0 W : World} {css dss : List (List Int)} {p q : Value} (h : Two w0 css dss p q W) : ∃ Dx Dy Bx gx cx arx crx Lx Mx By gy cy ary cry Ly My, p = .pointer (some ⟨Dx, 0, none⟩) ∧ q = .pointer (some ⟨Dy, 0, none⟩) ∧ (css.length + 64 ≤ cx ∧ cx ≤ maxLen) ∧ (dss.length + 64 ≤ cy ∧ cy ≤ maxLen) ∧
    Kj w0 W (some (Dx, .slice (some ⟨gx, 0, none⟩) css.length cx, .slice (some ⟨gx, 0, none⟩) (css.length + 64) cx, .slice arx (List.length (α := Cls) Lx) crx)) (some (Dy, .slice (some ⟨gy, 0, none⟩) dss.length cy, .slice (some ⟨gy, 0, none⟩) (dss.length + 64) cy, .slice ary (List.length (α := Cls) Ly) cry))
      [⟨By, .slice (some ⟨gy, 0, none⟩) dss.length cy, .slice (some ⟨gy, 0, none⟩) (dss.length + 64) cy, .slice ary (List.length (α := Cls) Ly) cry, dss, Ly, My⟩, ⟨Bx, .slice (some ⟨gx, 0, none⟩) css.length cx, .slice (some ⟨gx, 0, none⟩) (css.length + 64) cx, .slice arx (List.length (α := Cls) Lx) crx, css, Lx, Mx⟩] := by
  obtain ⟨Dx, Dy, ⟨Bx, vix, vwx, vrx, cssx, Lx, Mx⟩, ⟨By, viy, vwy, vry, cssy, Ly, My⟩, h1, h2, ex, ey, hk⟩ := h
  simp only at ex ey hk
  subst ex; subst ey
  obtain ⟨gx, cx, e1, e2, e3, e4⟩ := (hk.lk ⟨Bx, vix, vwx, vrx, cssx, Lx, Mx⟩ (by simp)).2.2
  obtain ⟨gy, cy, f1, f2, f3, f4⟩ := (hk.lk ⟨By, viy, vwy, vry, cssy, Ly, My⟩ (by simp)).2.2
  simp only at e1 e2 e3 f1 f2 f3
  obtain ⟨arx, crx, er⟩ := row_form (hk.lk ⟨Bx, vix, vwx, vrx, cssx, Lx, Mx⟩ (by simp)).1.l.r.row
  obtain ⟨ary, cry, fr⟩ := row_form (hk.lk ⟨By, viy, vwy, vry, cssy, Ly, My⟩ (by simp)).1.l.r.row
  simp only at er fr
  subst e1; subst e2; subst f1; subst f2; subst er; subst fr
  exact ⟨Dx, Dy, Bx, gx, cx, arx, crx, Lx, Mx, By, gy, cy, ary, cry, Ly, My, h1, h2, ⟨e3, e4⟩, ⟨f3, f4⟩, hk⟩
end Go.Proofs.Ytbnnoajpmmbpbaa

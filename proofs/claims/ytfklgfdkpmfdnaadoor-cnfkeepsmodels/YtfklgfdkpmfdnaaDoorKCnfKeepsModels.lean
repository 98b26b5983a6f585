/-
  CnfKeepsModels, walked.
  KEEP: other lk below put cells step lt fin bx0 main walk mono rd rds on below len lt row bel own of set new trans refl out block size at from kept item next each form c0 c1 f0 f1 c f max some none more map keep step after cell alloc same box k q i l x tn app nil put pos ap start
-/
import Derived.Test.YtfklgfdkpmfdnaaDoorKCkP
import Derived.Test.YtfklgfdkpmfdnaaDoorRangeZ
import Derived.Test.YtfklgfdkpmfdnaaDoorSames
import Derived.Test.YtfklgfdkpmfdnaaDoorQuietX
import Derived.Deep.LoopGhost
import Derived.Test.YtfklgfdkpmfdnaaDoorJAparQ
import Derived.Test.YtfklgfdkpmfdnaaDoorEntW
import Derived.Test.YtfklgfdkpmfdnaaDoorFalses
import Derived.Test.YtfklgfdkpmfdnaaDoorSmall
import Derived.Test.YtfklgfdkpmfdnaaDoorJAparQW
import Derived.Sort.AtCallIn
import Derived.OwnWalkIn
import Derived.Sort.CutIn
import Derived.Deep.RegionHeld
import Derived.Deep.CutRange
set_option linter.unusedSimpArgs false
set_option linter.unusedVariables false
namespace Go.Proofs.YtfklgfdkpmfdnaaDoor.cnfKeepsModels
open Go Go.RowKit Go.Shelf

attribute [local go_sem] Oper.semAt_some
set_option maxRecDepth 20000 in
theorem fn_not_nil (gf : Nat) (lb : Array Value) (w : World) : (binOp BinOp.eql 29 (Value.func (Fn.func gf) #[] lb) Value.nilFunc).run Tryd.prog w = .ok (.bool false) w := by rfl
theorem cell_ofB {W : World} {D j : Nat} {cs : Array Value} {t : TypeId} {f : Nat × Nat} {x : Value} (h : W.heap[D]? = some (.cells cs t f)) (hj : cs[j]? = some x) : W.cell? ⟨D, j, none⟩ = some x := by
  simp only [World.cell?, h]
  simpa using hj

theorem res_tmp {fn : Func} {p : Tmp} {tmps : Array Value} {W : World} {x : Value} (h : fn.results = #[.tmp p]) (hp : tmps.getD p undef = x) : (results fn tmps).run Tryd.prog W = .ok x W := by
  have hp' : tmps[p]?.getD undef = x := by simpa using hp
  simp only [results, h]
  simp [go_sem, hp']
/-- what is lent; x y z: what its box holds -/
structure R3 (w2 : World) (css : List (List Int)) (zs : List Int) (ms : List Bool) (B D gw cw : Nat) (ar : Option Addr) (cr : Nat) (L M : List Cls) (gq cq gm cm : Nat) (x y z : Value) (W : World) : Prop where
  bel : Below w2.heap.size w2 W
  lb : w2.heap.size ≤ B
  lr : Lr B W (.slice (some ⟨gw, 0, none⟩) (css.length + 64) cw) (.slice ar L.length cr) L (L.map cutV ++ M.map Prod.fst) M
  ls : L.map Prod.snd = css.map (· ++ m64)
  lm : M.map Prod.snd = mks 64
  x : Bx3 W D 40 x y z
  ld : w2.heap.size ≤ D
  q : Own w2.heap.size W (.slice (some ⟨gq, 0, none⟩) (zs.length + 64) cq) (zs ++ m64)
  m : Obn w2.heap.size W (.slice (some ⟨gm, 0, none⟩) (ms.length + 64) cm) (ms ++ b64)
  hcw : css.length + 64 ≤ cw ∧ cw ≤ maxLen
  hcq : zs.length + 64 ≤ cq
  hcm : ms.length + 64 ≤ cm
  lo : ∀ k, Lown (.slice (some ⟨gw, 0, none⟩) (css.length + 64) cw) (.slice ar L.length cr) L k → w2.heap.size ≤ k ∧ k < W.heap.size ∧ k ≠ gm
abbrev R3f (w2 : World) (css : List (List Int)) (zs : List Int) (ms : List Bool) (B D gw cw : Nat) (ar : Option Addr) (cr : Nat) (L M : List Cls) (gq cq gm cm : Nat) (W : World) : Prop :=
  R3 w2 css zs ms B D gw cw ar cr L M gq cq gm cm (.slice (some ⟨gw, 0, none⟩) css.length cw) (.slice (some ⟨gw, 0, none⟩) (css.length + 64) cw) (.slice ar L.length cr) W
/-- after the first of the three calls -/
structure Q1 (css : List (List Int)) (gw cw : Nat) (ar : Option Addr) (cr : Nat) (L M : List Cls) (W w' : World) : Prop where
  q : Lq W w' (.slice (some ⟨gw, 0, none⟩) css.length cw) (.slice (some ⟨gw, 0, none⟩) (css.length + 64) cw) (.slice ar L.length cr) css L M
  hcw : css.length + 64 ≤ cw ∧ cw ≤ maxLen
/-- after the second, the third -/
structure Q2 (zs : List Int) (gq cq : Nat) (W w' : World) : Prop where
  o : Own W.heap.size w' (.slice (some ⟨gq, 0, none⟩) (zs.length + 64) cq) (zs ++ m64)
  hc : zs.length + 64 ≤ cq
  b : Below W.heap.size W w'
structure Q3 (ms : List Bool) (gm cm : Nat) (W w' : World) : Prop where
  o : Obn W.heap.size w' (.slice (some ⟨gm, 0, none⟩) (ms.length + 64) cm) (ms ++ b64)
  hc : ms.length + 64 ≤ cm
  b : Below W.heap.size W w'
section
variable {w2 W w4 W4 w5 W5 w6 w7 : World} {css : List (List Int)} {zs : List Int} {ms : List Bool} {gw cw : Nat} {ar : Option Addr} {cr : Nat} {L M : List Cls} {gq cq gm cm D B : Nat} {x y z : Value}
theorem R3.of (hB : Below w2.heap.size w2 W) (q1 : Q1 css gw cw ar cr L M W w4) (h4 : Below w4.heap.size w4 W4) (q2 : Q2 zs gq cq W4 w5) (h5' : Below w5.heap.size w5 W5) (q3 : Q3 ms gm cm W5 w6) (h7 : Below w6.heap.size w6 w7)
    (hx : w7.heap[D]? = some (.cells #[x, y, z] 40 (0, 0))) (hD : w2.heap.size ≤ D) :
    R3 w2 css zs ms W.heap.size D gw cw ar cr L M gq cq gm cm x y z w7 := by
  have b45 := Below.step h4 q2.b
  have b46 := Below.step b45 (Below.step h5' q3.b)
  have b47 := Below.step b46 h7
  have s4 := q1.q.b.size
  have s5 := b45.size
  have s6 := b46.size
  have s7 := h7.size
  have hs := hB.size
  have hW4 := h4.size
  have hw5 := q2.b.size
  have hW5 := h5'.size
  have hgm := (World.ownsRow.lt q3.o gm rfl)
  refine ⟨Below.step hB (Below.step q1.q.b b47), hs, q1.q.l.below b47, q1.q.ls, q1.q.ms, hx, hD, (q2.o.mono (by omega)).below (Below.step (Below.step h5' q3.b) h7), World.ownsRow.kept (row_mono q3.o (by omega)) (grown_below h7) (none_or _), q1.hcw, q2.hc, q3.hc, fun k hk => ?_⟩
  have := lown_le q1.q.l k hk
  refine ⟨by omega, by omega, fun e => ?_⟩
  subst e
  omega
theorem R3.put (h : R3 w2 css zs ms B D gw cw ar cr L M gq cq gm cm x y z W) (x' y' z' : Value) : R3 w2 css zs ms B D gw cw ar cr L M gq cq gm cm x' y' z' (((W.setCell ⟨D, 0, none⟩ x').setCell ⟨D, 1, none⟩ y').setCell ⟨D, 2, none⟩ z') := by
  have b0 : Bx3 (W.setCell ⟨D, 0, none⟩ x') D 40 x' y z := by have := heap_set h.x 0 x'; rw [Bx3, this]; simp
  have b1 : Bx3 ((W.setCell ⟨D, 0, none⟩ x').setCell ⟨D, 1, none⟩ y') D 40 x' y' z := by have := heap_set b0 1 y'; rw [Bx3, this]; simp
  have b2 : Bx3 (((W.setCell ⟨D, 0, none⟩ x').setCell ⟨D, 1, none⟩ y').setCell ⟨D, 2, none⟩ z') D 40 x' y' z' := by have := heap_set b1 2 z'; rw [Bx3, this]; simp
  have one : ∀ {W : World} {x y z : Value} (hb : Bx3 W D 40 x y z) {e s n : Nat} {base : Nat} {u : Value} {xs : List Value} (j : Nat) (v : Value), 40 ≠ e → W.ownsRow base e s u n xs → (W.setCell ⟨D, j, none⟩ v).ownsRow base e s u n xs := fun {W x y z} hb {e s n base u xs} j v hne hr =>
    World.ownsRow.kept hr (grown_set W ⟨D, j, none⟩ v) (.inr (fun e1 => hb.not_row hne hr e1.symm))
  refine ⟨((h.bel.setCell (p := ⟨D, 0, none⟩) h.ld _).setCell (p := ⟨D, 1, none⟩) h.ld _).setCell (p := ⟨D, 2, none⟩) h.ld _, h.lb, ((h.lr.box h.x (by decide) (by decide) 0 x').box b0 (by decide) (by decide) 1 y').box b1 (by decide) (by decide) 2 z', h.ls, h.lm, b2, h.ld, one b1 2 z' (by decide) (one b0 1 y' (by decide) (one h.x 0 x' (by decide) h.q)), one b1 2 z' (by decide) (one b0 1 y' (by decide) (one h.x 0 x' (by decide) h.m)), h.hcw, h.hcq, h.hcm, fun k hk => ?_⟩
  rw [World.size_setCell, World.size_setCell, World.size_setCell]
  exact h.lo k hk
theorem R3.below (h : R3 w2 css zs ms B D gw cw ar cr L M gq cq gm cm x y z W) (hb : Below W.heap.size W w4) : R3 w2 css zs ms B D gw cw ar cr L M gq cq gm cm x y z w4 :=
  ⟨Below.step h.bel hb, h.lb, h.lr.below hb, h.ls, h.lm, (hb.block _ (Array.getElem?_eq_some_iff.1 h.x).1).trans h.x, h.ld, h.q.below hb, Obn.below h.m hb, h.hcw, h.hcq, h.hcm, fun k hk => by have := h.lo k hk; have := hb.size; refine ⟨by omega, by omega, by omega⟩⟩
theorem obn_hd {g N c : Nat} {T : List Bool} (h : Obn B W (.slice (some ⟨g, 0, none⟩) N c) (ms ++ T)) (hl : ms.length ≤ 140737488351232) : RdB W (.slice (some ⟨g, 0, none⟩) ms.length c) ms := by
  refine ⟨hl, _, _, rfl, fun hne => ⟨g, 0, rfl, (World.ownsRow.lt h g rfl).2, fun j hj => ?_⟩⟩
  rw [Nat.zero_add, (Orw.at h.obw (by rw [List.length_append]; omega)).1, List.map_append, List.getElem?_append_left (by simpa using hj)]
  simp [List.getD_eq_getElem?_getD, hj]
theorem flsA_len (n : Int) (css : List (List Int)) (ms : List Bool) (h : css.length ≤ 1048576) : (flsA n css ms).length ≤ 1048576 := by
  unfold flsA
  split
  · unfold flsK
    refine Nat.le_trans ?_ h
    simp only [List.length_map]
    exact Nat.le_trans (List.length_filter_le _ _) (by simp)
  · simp
/-- what the two calls of False leave -/
structure R10 (w8 : World) (F : List Int) (p q : Value) (W : World) : Prop where
  a : ∃ a c, p = .slice a F.length c
  b : ∃ a c, q = .slice a F.length c
  oa : Own w8.heap.size W p F
  ob : Own w8.heap.size W q F
  ap : p.ownBlock = none ∨ p.ownBlock ≠ q.ownBlock
  bel : Below w8.heap.size w8 W
/-- what the two calls of Models leave -/
structure R13 (w8 : World) (R : List (List Bool)) (p q : Value) (wa wb W : World) (l1 l2 : Nat) : Prop where
  g1 : GivesB l1 R p wa
  g2 : GivesB l2 R q wb
  b1 : Below w8.heap.size w8 wa
  b2 : Below wa.heap.size wa wb
  b3 : Below wb.heap.size wb W
  h1 : w8.heap.size ≤ l1 ∧ l1 ≤ wa.heap.size
  h2 : wa.heap.size ≤ l2 ∧ l2 ≤ wb.heap.size
theorem am_fr {D B N : Nat} {W W' : World} {v : Value} {L : List Itb} {Q : Nat → Prop} (h : Am D B N W v L) (hf : Fr Q W W') (hq : ∀ k, Q k → k < D) (hD : D ≤ B) : Am D B N W' v L := by
  have key : ∀ k, D ≤ k → k < W.heap.size → W'.heap[k]? = W.heap[k]? := fun k h1 h2 => hf.block k h2 (fun e => by have := hq k e; omega)
  refine ⟨?_, ?_, fun x hx => ?_, h.ap, h.nv, h.nx⟩
  · have hl := h.box.lt
    obtain ⟨t, hb⟩ := h.box
    exact ⟨t, (key D (Nat.le_refl _) hl).trans hb⟩
  · exact own_out h.row hf (fun k e => by have := hq k e; omega)
  · obtain ⟨g, m⟩ := h.each x hx
    exact ⟨g, m.kept (key g (by have := m.1; omega) m.lt)⟩
theorem eq_at {P R : List (List Bool)} (hp : P <+: R) {k : Nat} (hk : k < P.length + P.length) : (P ++ P)[k]? = R[k % P.length]? := by
  obtain ⟨T, rfl⟩ := hp
  by_cases h : k < P.length
  · rw [List.getElem?_append_left h, Nat.mod_eq_of_lt h, List.getElem?_append_left h]
  · have h1 : k % P.length = k - P.length := by
      rw [Nat.mod_eq_sub_mod (by omega), Nat.mod_eq_of_lt (by omega)]
    rw [List.getElem?_append_right (by omega), h1, List.getElem?_append_left (by omega)]
theorem am_at {D B N k : Nat} {W : World} {a7 : Option Addr} {k7 : Nat} {L7 : List Itb} (h : Am D B N W (.slice a7 L7.length k7) L7) (hk : k < L7.length) : ∃ g, a7 = some ⟨g, 0, none⟩ ∧ L7.length ≤ k7 ∧ W.cell? ⟨g, k, none⟩ = some (L7[k]).1 ∧ RdB W (L7[k]).1 (L7[k]).2 ∧ (L7[k]).2.length ≤ 16 := by
  have row := h.row
  obtain ⟨g0, m⟩ := h.each _ (List.getElem_mem hk)
  rcases id row.2 with ⟨e, h0⟩ | ⟨g, cap, cur, e, _, _, hc, _⟩
  · omega
  · obtain ⟨rfl, rfl⟩ : a7 = some ⟨g, 0, none⟩ ∧ k7 = cap := by injection e with q1 q2 q3; exact ⟨q1, q3⟩
    refine ⟨g, rfl, hc, ?_, m.rd, m.2.2.1⟩
    rw [World.ownsRow.cellAt row k (by simpa using hk)]
    simp [hk]
theorem om_at {B k : Nat} {W : World} {a7 : Option Addr} {k7 : Nat} {L7 : List Itb} (h : OwnM B W (.slice a7 L7.length k7) L7) (hk : k < L7.length) : ∃ g, a7 = some ⟨g, 0, none⟩ ∧ L7.length ≤ k7 ∧ W.cell? ⟨g, k, none⟩ = some (L7[k]).1 ∧ OwnB B W (L7[k]).1 (L7[k]).2 := by
  have row := h.row
  rcases id row.2 with ⟨e, h0⟩ | ⟨g, cap, cur, e, _, _, hc, _⟩
  · omega
  · obtain ⟨rfl, rfl⟩ : a7 = some ⟨g, 0, none⟩ ∧ k7 = cap := by injection e with q1 q2 q3; exact ⟨q1, q3⟩
    refine ⟨g, rfl, hc, ?_, h.each _ (List.getElem_mem hk)⟩
    rw [World.ownsRow.cellAt row k (by simpa using hk)]
    simp [hk]
theorem two_row (W : World) {B : Nat} (hB : B ≤ W.heap.size) (x y : Value) : (W.alloc (.cells #[x, y] 31)).ownsRow B 31 1 (.slice (some ⟨W.heap.size, 0, none⟩) 2 2) 2 ((List.range 2).map (fun j => if j = 0 then x else y)) :=
  ⟨rfl, .inr ⟨W.heap.size, 2, #[x, y], rfl, hB, World.alloc_heap_new W _, Nat.le_refl _, by unfold maxLen; omega, rfl, rfl⟩⟩
theorem mid_in {l h l' h' : Nat} {A B : World} (m : Mid l h A B) (h1 : l ≤ l') (h2 : h' ≤ h) : Mid l' h' A B := ⟨m.size, fun k a b => m.block k (by omega) (by omega)⟩
theorem R3.lk (h : R3 w2 css zs ms B D gw cw ar cr L M gq cq gm cm x y z W) : Lk B W (.slice (some ⟨gw, 0, none⟩) (css.length + 64) cw) (.slice ar L.length cr) css L M := ⟨h.lr, h.ls, h.lm⟩
def bx0 : Obj := .cells #[.slice none 0 0, .slice none 0 0, .slice none 0 0] 40
theorem bx0_at (A : World) {A' : World} (h : Below (A.alloc bx0).heap.size (A.alloc bx0) A') : A'.heap[A.heap.size]? = some (.cells #[.slice none 0 0, .slice none 0 0, .slice none 0 0] 40 (0, 0)) := (h.block _ (by simp)).trans (World.alloc_heap_new A _)
theorem bx_facts {W : World} {D : Nat} {x y z : Value} {t : TypeId} (h : W.heap[D]? = some (.cells #[x, y, z] t (0, 0))) : W.cell? ⟨D, 0, none⟩ = some x ∧ W.cell? ⟨D, 1, none⟩ = some y ∧ W.cell? ⟨D, 2, none⟩ = some z ∧ W.frozen? ⟨D, 0, none⟩ = false ∧ W.frozen? ⟨D, 1, none⟩ = false ∧ W.frozen? ⟨D, 2, none⟩ = false :=
  ⟨cell_ofB h rfl, cell_ofB h rfl, cell_ofB h rfl, by simp [World.frozen?, h], by simp [World.frozen?, h], by simp [World.frozen?, h]⟩
theorem fin_e (q1 : Q1 css gw cw ar cr L M w2.drew w4) (q2 : Q2 zs gq cq w4 w5) (q3 : Q3 ms gm cm w5 w6) : R3f w2 css zs ms w2.heap.size w6.heap.size gw cw ar cr L M gq cq gm cm (w6.alloc (.cells #[.slice (some ⟨gw, 0, none⟩) css.length cw, .slice (some ⟨gw, 0, none⟩) (css.length + 64) cw, .slice ar L.length cr] 40)) :=
  R3.of (W := w2.drew) (Below.refl _ _).drew q1 (Below.refl _ _) q2 (Below.refl _ _) q3 (below_box _ _) (World.alloc_heap_new _ _) (by have h1 := q1.q.b.size; have h2 := q2.b.size; have h3 := q3.b.size; have h4 : w2.drew.heap.size = w2.heap.size := rfl; omega)
theorem fin_d (q1 : Q1 css gw cw ar cr L M w2.drew w4) (q2 : Q2 zs gq cq w4 w5) (q3 : Q3 ms gm cm w5 w6) : R3f w2 css zs ms w2.heap.size w6.heap.size gw cw ar cr L M gq cq gm cm ((((w6.alloc bx0).setCell ⟨w6.heap.size, 0, none⟩ (.slice (some ⟨gw, 0, none⟩) css.length cw)).setCell ⟨w6.heap.size, 1, none⟩ (.slice (some ⟨gw, 0, none⟩) (css.length + 64) cw)).setCell ⟨w6.heap.size, 2, none⟩ (.slice ar L.length cr)) :=
  R3.put (R3.of (W := w2.drew) (Below.refl _ _).drew q1 (Below.refl _ _) q2 (Below.refl _ _) q3 (below_box _ bx0) (World.alloc_heap_new _ _) (by have h1 := q1.q.b.size; have h2 := q2.b.size; have h3 := q3.b.size; have h4 : w2.drew.heap.size = w2.heap.size := rfl; omega)) _ _ _
theorem fin_c (q1 : Q1 css gw cw ar cr L M w2.drew w4) (q2 : Q2 zs gq cq w4 w5) (q3 : Q3 ms gm cm (w5.alloc bx0) w6) : R3f w2 css zs ms w2.heap.size w5.heap.size gw cw ar cr L M gq cq gm cm (((w6.setCell ⟨w5.heap.size, 0, none⟩ (.slice (some ⟨gw, 0, none⟩) css.length cw)).setCell ⟨w5.heap.size, 1, none⟩ (.slice (some ⟨gw, 0, none⟩) (css.length + 64) cw)).setCell ⟨w5.heap.size, 2, none⟩ (.slice ar L.length cr)) :=
  R3.put (R3.of (W := w2.drew) (Below.refl _ _).drew q1 (Below.refl _ _) q2 (below_box _ bx0) q3 (Below.refl _ _) (bx0_at _ q3.b) (by have h1 := q1.q.b.size; have h2 := q2.b.size; have h4 : w2.drew.heap.size = w2.heap.size := rfl; omega)) _ _ _
theorem fin_b (q1 : Q1 css gw cw ar cr L M w2.drew w4) (q2 : Q2 zs gq cq (w4.alloc bx0) w5) (q3 : Q3 ms gm cm w5 w6) : R3f w2 css zs ms w2.heap.size w4.heap.size gw cw ar cr L M gq cq gm cm (((w6.setCell ⟨w4.heap.size, 0, none⟩ (.slice (some ⟨gw, 0, none⟩) css.length cw)).setCell ⟨w4.heap.size, 1, none⟩ (.slice (some ⟨gw, 0, none⟩) (css.length + 64) cw)).setCell ⟨w4.heap.size, 2, none⟩ (.slice ar L.length cr)) :=
  R3.put (R3.of (W := w2.drew) (Below.refl _ _).drew q1 (below_box _ bx0) q2 (Below.refl _ _) q3 (Below.refl _ _) (bx0_at _ (Below.step q2.b q3.b)) (by have h1 := q1.q.b.size; have h4 : w2.drew.heap.size = w2.heap.size := rfl; omega)) _ _ _
theorem fin_a (q1 : Q1 css gw cw ar cr L M (w2.alloc bx0).drew w4) (q2 : Q2 zs gq cq w4 w5) (q3 : Q3 ms gm cm w5 w6) : R3f w2 css zs ms (w2.heap.size + 1) w2.heap.size gw cw ar cr L M gq cq gm cm (((w6.setCell ⟨w2.heap.size, 0, none⟩ (.slice (some ⟨gw, 0, none⟩) css.length cw)).setCell ⟨w2.heap.size, 1, none⟩ (.slice (some ⟨gw, 0, none⟩) (css.length + 64) cw)).setCell ⟨w2.heap.size, 2, none⟩ (.slice ar L.length cr)) := by
  have h0 := R3.put (R3.of (W := (w2.alloc bx0).drew) (w2 := w2) (D := w2.heap.size) (below_box w2 bx0).drew q1 (Below.refl _ _) q2 (Below.refl _ _) q3 (Below.refl _ _) (bx0_at w2 (Below.step (Below.step (Below.step (Below.refl _ _).drew q1.q.b) q2.b) q3.b)) (Nat.le_refl _)) (.slice (some ⟨gw, 0, none⟩) css.length cw) (.slice (some ⟨gw, 0, none⟩) (css.length + 64) cw) (.slice ar L.length cr)
  have hs : (w2.alloc bx0).drew.heap.size = w2.heap.size + 1 := World.size_alloc _ _
  rw [hs] at h0
  exact h0
end

set_option maxRecDepth 100000 in
set_option maxHeartbeats 12800000 in
theorem main (n : Int) (s : Value) (css : List (List Int)) (m : Value) (t : Value) (vp : Value) (zs : List Int) (vb : Value) (ms : List Bool) (w : World) (hr : Rds w s css) (hp : Rd w vp zs) (hm : RdB w vb ms) (hb : css.length ≤ 1048576) (ht : Tens w) :
    Calls Tryd.prog 4 #[.agg #[.int .i64 n, s, m, t, vp, vb]] w fun e w' => e = .returned (.bool true) ∧ Below w.heap.size w w' := by
  have H8 : Hid ((∀ z ∈ css, z.length * 8 ≤ 140737488351232) ∧ css.length ≤ 1048576) := ⟨rds_each hr, hb⟩
  obtain ⟨iB, hiB, hzB0, hzB1, hzB2⟩ := info_parts infoBr
  obtain ⟨ap, cp, rfl, -, -, -⟩ := hp.form
  obtain ⟨ab, cb, rfl, -⟩ := hm.form
  obtain ⟨a, c, rfl, -, -, -⟩ := hr.form
  have HX : Hid (∀ W, Below w.heap.size w W → W.heap[w.heap.size]? = some (.cells #[.int .i64 n, .slice a css.length c, m, t, .slice ap zs.length cp, .slice ab ms.length cb] 36 (0, 0)) → Rds W (.slice a css.length c) css ∧ Rd W (.slice ap zs.length cp) zs ∧ RdB W (.slice ab ms.length cb) ms ∧ Tens W ∧ W.cell? ⟨w.heap.size, 0, none⟩ = some (.int .i64 n) ∧ W.cell? ⟨w.heap.size, 1, none⟩ = some (.slice a css.length c) ∧ W.cell? ⟨w.heap.size, 4, none⟩ = some (.slice ap zs.length cp) ∧ W.cell? ⟨w.heap.size, 5, none⟩ = some (.slice ab ms.length cb)) :=
    fun W h h1 => ⟨hr.below h, hp.below h, hm.below h, ht.below h, cell_ofB h1 rfl, cell_ofB h1 rfl, cell_ofB h1 rfl, cell_ofB h1 rfl⟩
  have HZl : Hid (zs.length * 8 ≤ 140737488351232 ∧ ms.length ≤ 140737488351232) := ⟨hp.len, hm.len⟩
  have HB0 : Hid (Below w.heap.size w (w.alloc (.cells #[.int .i64 n, .slice a css.length c, m, t, .slice ap zs.length cp, .slice ab ms.length cb] 36)) ∧ (w.alloc (.cells #[.int .i64 n, .slice a css.length c, m, t, .slice ap zs.length cp, .slice ab ms.length cb] 36)).heap[w.heap.size]? = some (.cells #[.int .i64 n, .slice a css.length c, m, t, .slice ap zs.length cp, .slice ab ms.length cb] 36 (0, 0))) := ⟨below_box _ _, World.alloc_heap_new w _⟩
  clear hr hp hm ht hb
  refine calls_marks 12 Tryd.func4 rfl ?_
  simp only [Tryd.ntmps4, List.size_toArray, List.length_cons, List.length_nil, Nat.reduceAdd, Nat.reduceSub, Array.replicate_succ, Array.replicate_zero, List.push_toArray, List.append_toArray, List.nil_append, List.cons_append]
  go_wp2_with fail
  generalize w.alloc (.cells #[.int .i64 n, .slice a css.length c, m, t, .slice ap zs.length cp, .slice ab ms.length cb] 36) = W0 at *
  refine (small_any W0).mono ?_
  rintro e w1 ⟨s1, rfl, rs1, bel1⟩
  have HS1 : Hid (Rds w1 s1 smallF) := rs1
  have HB1 : Hid (Below W0.heap.size W0 w1) := bel1
  clear rs1 bel1
  go_wp2_with fail
  refine (cnfFormed_any 2 s1 smallF _ HS1.out).mono ?_
  rw [show frm 2 smallF = true by decide]
  rintro e w2 ⟨rfl, bel2⟩
  have HB2 : Hid (Below W0.heap.size W0 w2) := Below.step HB1.out bel2
  have HAx : Hid (∀ W, Below w2.heap.size w2 W → Below w.heap.size w W ∧ W.heap[w.heap.size]? = some (.cells #[.int .i64 n, .slice a css.length c, m, t, .slice ap zs.length cp, .slice ab ms.length cb] 36 (0, 0)) ∧ w.heap.size < w2.heap.size) := fun W h =>
    ⟨Below.step HB0.out.1 (Below.step HB2.out h), ((Below.step HB2.out h).block _ (Array.getElem?_eq_some_iff.1 HB0.out.2).1).trans HB0.out.2, Nat.lt_of_lt_of_le (Array.getElem?_eq_some_iff.1 HB0.out.2).1 HB2.out.size⟩
  have HY : Hid (∀ W, Below w2.heap.size w2 W → Rds W (.slice a css.length c) css ∧ Rd W (.slice ap zs.length cp) zs ∧ RdB W (.slice ab ms.length cb) ms ∧ Tens W ∧ W.cell? ⟨w.heap.size, 0, none⟩ = some (.int .i64 n) ∧ W.cell? ⟨w.heap.size, 1, none⟩ = some (.slice a css.length c) ∧ W.cell? ⟨w.heap.size, 4, none⟩ = some (.slice ap zs.length cp) ∧ W.cell? ⟨w.heap.size, 5, none⟩ = some (.slice ab ms.length cb)) := fun W h => HX.out W (HAx.out W h).1 (HAx.out W h).2.1
  clear HX HB0 HB1 HB2 HS1 bel2
  have HC1 : Hid (∀ W, Below w2.heap.size w2 W → Calls Tryd.prog 11 #[.slice a css.length c] W fun e w' => ∃ gw cw ar cr L M, e = .returned (.agg #[.slice (some ⟨gw, 0, none⟩) css.length cw, .slice (some ⟨gw, 0, none⟩) (css.length + 64) cw, .slice ar (List.length L) cr]) ∧ Q1 css gw cw ar cr L M W w') := fun W h => by
    refine (lentRows_any _ css W (HY.out W h).1 (by have := H8.out.2; omega)).mono ?_
    rintro e w4 ⟨vi, vw, vr, L, M, rfl, hq⟩
    obtain ⟨gw, cw, evw, evi, hcw, hcm⟩ := hq.vals
    subst evw; subst evi
    obtain ⟨ar, cr, er⟩ := row_form hq.l.r.row
    subst er
    exact ⟨gw, cw, ar, cr, L, M, rfl, hq, hcw, hcm⟩
  have HC2 : Hid (∀ W, Below w2.heap.size w2 W → Calls Tryd.prog 12 #[.slice ap zs.length cp] W fun e w' => ∃ gq cq, e = .returned (.slice (some ⟨gq, 0, none⟩) (zs.length + 64) cq) ∧ Q2 zs gq cq W w') := fun W h => by
    refine (lent_any _ zs W (HY.out W h).2.1).mono ?_
    rintro e w5 ⟨vq, rfl, own5, bel5⟩
    obtain ⟨gq, cq, eq, hcq, -, -⟩ := row_some own5 (by rw [List.length_append, m64_len]; omega)
    rw [List.length_append, m64_len] at eq hcq
    subst eq
    exact ⟨gq, cq, rfl, own5, hcq, bel5⟩
  have HC3 : Hid (∀ W, Below w2.heap.size w2 W → Calls Tryd.prog 13 #[.slice ab ms.length cb] W fun e w' => ∃ gm cm, e = .returned (.slice (some ⟨gm, 0, none⟩) (ms.length + 64) cm) ∧ Q3 ms gm cm W w') := fun W h => by
    refine (lentB_any _ ms W (HY.out W h).2.2.1).mono ?_
    rintro e w5 ⟨vq, rfl, own5, bel5⟩
    obtain ⟨gm, cm, eq, -, hcm⟩ := Orw.form own5.obw (by rw [List.length_append, b64_len]; omega)
    rw [List.length_append, b64_len] at eq hcm
    subst eq
    exact ⟨gm, cm, rfl, own5, hcm, bel5⟩
  have HBs : Hid (∀ W, Below w2.heap.size w2 W → ∀ (D : Nat) (x y z : Value), w2.heap.size ≤ D → Below w2.heap.size w2 (((W.setCell ⟨D, 0, none⟩ x).setCell ⟨D, 1, none⟩ y).setCell ⟨D, 2, none⟩ z)) := fun W h D x y z hD => ((h.setCell (p := ⟨D, 0, none⟩) hD _).setCell (p := ⟨D, 1, none⟩) hD _).setCell (p := ⟨D, 2, none⟩) hD _
  have HBa : Hid (∀ W, Below w2.heap.size w2 W → ∀ o, Below w2.heap.size w2 (W.alloc o)) := fun W h o => Below.step h (below_box _ _)
  go_upto_region 3 with fail
  go_cut [3, 4, 5] from 23 to 32 (fun p3 p4 p5 wx => ∃ B D gw cw ar cr L M gq cq gm cm, p3 = .pointer (some ⟨D, 0, none⟩) ∧ p4 = .slice (some ⟨gq, 0, none⟩) (zs.length + 64) cq ∧ p5 = .slice (some ⟨gm, 0, none⟩) (ms.length + 64) cm ∧ R3f w2 css zs ms B D gw cw ar cr L M gq cq gm cm wx)
  case first =>
    have T0 : Hid (∀ W, Below w2.heap.size w2 W → W.cell? ⟨w.heap.size, 1, none⟩ = some (.slice a css.length c) ∧ W.cell? ⟨w.heap.size, 4, none⟩ = some (.slice ap zs.length cp) ∧ W.cell? ⟨w.heap.size, 5, none⟩ = some (.slice ab ms.length cb)) := fun W h => ⟨(HY.out W h).2.2.2.2.2.1, (HY.out W h).2.2.2.2.2.2⟩
    go_region_held (fun W => W.cell? ⟨w.heap.size, 1, none⟩ = some (.slice a css.length c) ∧ W.cell? ⟨w.heap.size, 4, none⟩ = some (.slice ap zs.length cp) ∧ W.cell? ⟨w.heap.size, 5, none⟩ = some (.slice ab ms.length cb))
      (first
        | with_reducible exact T0.out _ (Below.refl _ _).drew | with_reducible exact T0.out _ (below_box _ _).drew
        | with_reducible exact T0.out _ HB4.out | with_reducible exact T0.out _ (HBa.out _ HB4.out _)
        | with_reducible exact T0.out _ HB5.out | with_reducible exact T0.out _ (HBa.out _ HB5.out _)
        | with_reducible exact T0.out _ HB6.out | with_reducible exact T0.out _ (HBa.out _ HB6.out _)
        | with_reducible exact T0.out _ (HBs.out _ HB6.out _ _ _ _ (Nat.le_refl _)) | with_reducible exact T0.out _ (HBs.out _ HB6.out _ _ _ _ HB4.out.size) | with_reducible exact T0.out _ (HBs.out _ HB6.out _ _ _ _ HB5.out.size)
        | with_reducible exact T0.out _ (HBs.out _ (HBa.out _ HB6.out _) _ _ _ _ HB6.out.size))
      (first
        | (go_at_call 11; (with_reducible refine Calls.mono (HC1.out _ (Below.refl _ _).drew) ?_); rintro e w4 ⟨gw, cw, ar, cr, L, M, rfl, hq1⟩; have HQ1 : Hid (Q1 css gw cw ar cr L M _ w4) := hq1; have HB4 : Hid (Below w2.heap.size w2 w4) := Below.step (Below.refl _ _).drew hq1.q.b; clear hq1)
        | (go_at_call 11; (with_reducible refine Calls.mono (HC1.out _ (below_box _ _).drew) ?_); rintro e w4 ⟨gw, cw, ar, cr, L, M, rfl, hq1⟩; have HQ1 : Hid (Q1 css gw cw ar cr L M _ w4) := hq1; have HB4 : Hid (Below w2.heap.size w2 w4) := Below.step (below_box _ _).drew hq1.q.b; have HD4 : Hid (∀ A, Below w4.heap.size w4 A → A.heap[w2.heap.size]? = some (.cells #[.slice none 0 0, .slice none 0 0, .slice none 0 0] 40 (0, 0))) := fun A h => bx0_at w2 (Below.step (Below.step (Below.refl _ _).drew hq1.q.b) h); clear hq1)
        | (go_at_call 13; have g5 := HB5; clear g5; have gd := HD5; clear gd; (with_reducible refine Calls.mono (HC3.out _ HB5.out) ?_); rintro e w6 ⟨gm, cm, rfl, hq3⟩; have HQ3 : Hid (Q3 ms gm cm _ w6) := hq3; have HB6 : Hid (Below w2.heap.size w2 w6) := Below.step HB5.out hq3.b; obtain ⟨k0, k1, k2, k3, k4, k5⟩ := bx_facts (HD5.out _ hq3.b); clear hq3)
        | (go_at_call 13; have g5 := HB5; clear g5; have gd := HD4; clear gd; (with_reducible refine Calls.mono (HC3.out _ HB5.out) ?_); rintro e w6 ⟨gm, cm, rfl, hq3⟩; have HQ3 : Hid (Q3 ms gm cm _ w6) := hq3; have HB6 : Hid (Below w2.heap.size w2 w6) := Below.step HB5.out hq3.b; obtain ⟨k0, k1, k2, k3, k4, k5⟩ := bx_facts (HD4.out _ (Below.step HQ2.out.b hq3.b)); clear hq3)
        | (go_at_call 13; have g5 := HB5; clear g5; (with_reducible refine Calls.mono (HC3.out _ HB5.out) ?_); rintro e w6 ⟨gm, cm, rfl, hq3⟩; have HQ3 : Hid (Q3 ms gm cm _ w6) := hq3; have HB6 : Hid (Below w2.heap.size w2 w6) := Below.step HB5.out hq3.b; clear hq3)
        | (go_at_call 13; have g5 := HB5; clear g5; (with_reducible refine Calls.mono (HC3.out _ (HBa.out _ HB5.out _)) ?_); rintro e w6 ⟨gm, cm, rfl, hq3⟩; have HQ3 : Hid (Q3 ms gm cm _ w6) := hq3; have HB6 : Hid (Below w2.heap.size w2 w6) := Below.step (HBa.out _ HB5.out _) hq3.b; obtain ⟨k0, k1, k2, k3, k4, k5⟩ := bx_facts (bx0_at w5 hq3.b); clear hq3)
        | (go_at_call 12; have g4 := HB4; clear g4; (with_reducible refine Calls.mono (HC2.out _ HB4.out) ?_); rintro e w5 ⟨gq, cq, rfl, hq2⟩; have HQ2 : Hid (Q2 zs gq cq _ w5) := hq2; have HB5 : Hid (Below w2.heap.size w2 w5) := Below.step HB4.out hq2.b; clear hq2)
        | (go_at_call 12; have g4 := HB4; clear g4; (with_reducible refine Calls.mono (HC2.out _ (HBa.out _ HB4.out _)) ?_); rintro e w5 ⟨gq, cq, rfl, hq2⟩; have HQ2 : Hid (Q2 zs gq cq _ w5) := hq2; have HB5 : Hid (Below w2.heap.size w2 w5) := Below.step (HBa.out _ HB4.out _) hq2.b; have HD5 : Hid (∀ A, Below w5.heap.size w5 A → A.heap[w4.heap.size]? = some (.cells #[.slice none 0 0, .slice none 0 0, .slice none 0 0] 40 (0, 0))) := fun A h => bx0_at w4 (Below.step hq2.b h); clear hq2))
    all_goals go_wp2_with fail
    all_goals go_meet
    all_goals first
      | exact ⟨_, _, _, _, _, _, _, _, _, _, _, _, rfl, rfl, rfl, fin_e HQ1.out HQ2.out HQ3.out⟩
      | exact ⟨_, _, _, _, _, _, _, _, _, _, _, _, rfl, rfl, rfl, fin_d HQ1.out HQ2.out HQ3.out⟩
      | exact ⟨_, _, _, _, _, _, _, _, _, _, _, _, rfl, rfl, rfl, fin_c HQ1.out HQ2.out HQ3.out⟩
      | exact ⟨_, _, _, _, _, _, _, _, _, _, _, _, rfl, rfl, rfl, fin_b HQ1.out HQ2.out HQ3.out⟩
      | exact ⟨_, _, _, _, _, _, _, _, _, _, _, _, rfl, rfl, rfl, fin_a HQ1.out HQ2.out HQ3.out⟩
  case rest =>
  obtain ⟨B, D, gw, cw, ar, cr, L, M, gq, cq, gm, cm, rfl, rfl, rfl, r3⟩ := hcut
  generalize wc = w3 at *
  have HR : Hid (R3f w2 css zs ms B D gw cw ar cr L M gq cq gm cm w3) := r3
  have x0 := cell_ofB r3.x (j := 0) rfl
  have c0 := (HY.out w3 r3.bel).2.2.2.2.1
  have hcw1 : css.length ≤ cw := by have := r3.hcw.1; omega
  have hcq1 : zs.length ≤ cq := by have := r3.hcq; omega
  have hcm1 : ms.length ≤ cm := by have := r3.hcm; omega
  have HW4 : Hid (Below w3.heap.size w3 (w3.alloc (.cells #[.int .i64 n, .slice (some ⟨gw, 0, none⟩) css.length cw] 24)) ∧ (w3.alloc (.cells #[.int .i64 n, .slice (some ⟨gw, 0, none⟩) css.length cw] 24)).heap[w3.heap.size]? = some (.cells #[.int .i64 n, .slice (some ⟨gw, 0, none⟩) css.length cw] 24 (0, 0)) ∧ (w3.alloc (.cells #[.int .i64 n, .slice (some ⟨gw, 0, none⟩) css.length cw] 24)).heap.size = w3.heap.size + 1) := ⟨below_box _ _, World.alloc_heap_new _ _, World.size_alloc _ _⟩
  have e0 : (w3.alloc (.cells #[.int .i64 n, .slice (some ⟨gw, 0, none⟩) css.length cw] 24)).cell? ⟨w3.heap.size, 0, none⟩ = some (.int .i64 n) := cell_ofB HW4.out.2.1 rfl
  have e1 : (w3.alloc (.cells #[.int .i64 n, .slice (some ⟨gw, 0, none⟩) css.length cw] 24)).cell? ⟨w3.heap.size, 1, none⟩ = some (.slice (some ⟨gw, 0, none⟩) css.length cw) := cell_ofB HW4.out.2.1 rfl
  clear r3
  go_wp2_with fail
  generalize w3.alloc (.cells #[.int .i64 n, .slice (some ⟨gw, 0, none⟩) css.length cw] 24) = w4 at *
  clear e0 e1 x0 c0
  have HZ : Hid (∀ W, Below w4.heap.size w4 W → (W.cell? ⟨w3.heap.size, 0, none⟩ = some (.int .i64 n) ∧ W.cell? ⟨w3.heap.size, 1, none⟩ = some (.slice (some ⟨gw, 0, none⟩) css.length cw) ∧ W.cell? ⟨w.heap.size, 4, none⟩ = some (.slice ap zs.length cp) ∧ W.cell? ⟨w.heap.size, 5, none⟩ = some (.slice ab ms.length cb)) ∧ Rds W (.slice (some ⟨gw, 0, none⟩) css.length cw) css ∧ Rd W (.slice (some ⟨gq, 0, none⟩) zs.length cq) zs ∧ RdB W (.slice (some ⟨gm, 0, none⟩) ms.length cm) ms ∧ Tens W) := fun W h => by
    have hb := Below.step HW4.out.1 h
    have r := HR.out.below hb
    have hx := (h.block _ (Array.getElem?_eq_some_iff.1 HW4.out.2.1).1).trans HW4.out.2.1
    have hy := HY.out W r.bel
    exact ⟨⟨cell_ofB hx rfl, cell_ofB hx rfl, hy.2.2.2.2.2.2⟩, r.lk.tn.rds (by have := r.hcw.1; omega) r.hcw.2 (by simp) (by have := H8.out.2; omega) H8.out.1, own_hd r.q (by omega) HZl.out.1, obn_hd r.m HZl.out.2, hy.2.2.2.1⟩
  refine (cnfFormed_any n _ css w4 (HZ.out w4 (Below.refl _ _)).2.1).mono ?_
  rintro e w5 ⟨rfl, b5⟩
  have HB5 : Hid (Below w4.heap.size w4 w5) := b5
  have e0 := (HZ.out w5 b5).1.1
  have e1 := (HZ.out w5 b5).1.2.1
  clear b5
  go_wp2_with fail
  refine (cnfSize_any n _ css w5 (HZ.out w5 HB5.out).2.1).mono ?_
  rintro e w6 ⟨rfl, b6⟩
  have HB6 : Hid (Below w4.heap.size w4 w6) := Below.step HB5.out b6
  clear b6 e0 e1 HB5
  go_upto_region 7 with fail
  go_cut [43] from 44 to 49 (fun p wx => Below w4.heap.size w4 wx)
  case first =>
    have T0 : Hid (∀ W, Below w4.heap.size w4 W → W.cell? ⟨w3.heap.size, 0, none⟩ = some (.int .i64 n) ∧ W.cell? ⟨w3.heap.size, 1, none⟩ = some (.slice (some ⟨gw, 0, none⟩) css.length cw) ∧ W.cell? ⟨w.heap.size, 4, none⟩ = some (.slice ap zs.length cp) ∧ W.cell? ⟨w.heap.size, 5, none⟩ = some (.slice ab ms.length cb)) := fun W h => (HZ.out W h).1
    go_region_held (fun W => W.cell? ⟨w3.heap.size, 0, none⟩ = some (.int .i64 n) ∧ W.cell? ⟨w3.heap.size, 1, none⟩ = some (.slice (some ⟨gw, 0, none⟩) css.length cw) ∧ W.cell? ⟨w.heap.size, 4, none⟩ = some (.slice ap zs.length cp) ∧ W.cell? ⟨w.heap.size, 5, none⟩ = some (.slice ab ms.length cb)) (first | with_reducible exact T0.out _ HB6.out.drew | with_reducible exact T0.out _ HBz.out)
      (first | (go_at_call 15; (with_reducible refine Calls.mono (cnfSatisfies_any n _ _ css ms _ (HZ.out _ HB6.out.drew).2.1 (HZ.out _ HB6.out.drew).2.2.2.1) ?_); rintro e wz ⟨rfl, bz⟩; have HBz : Hid (Below w4.heap.size w4 wz) := Below.step HB6.out.drew bz; clear bz))
    go_wp2_with fail
    go_meet
    exact HBz.out
  case rest =>
  have HB7 : Hid (Below w4.heap.size w4 wc) := hcut
  clear hcut HB6
  generalize wc = w7 at *
  have e0 := (HZ.out w7 HB7.out).1.1
  have e1 := (HZ.out w7 HB7.out).1.2.1
  go_wp2_with fail
  refine (cnfCount_any n _ css w7 (HZ.out w7 HB7.out).2.1 (HZ.out w7 HB7.out).2.2.2.2).mono ?_
  rintro e w8 ⟨rfl, b8⟩
  have HB8 : Hid (Below w4.heap.size w4 w8) := Below.step HB7.out b8
  clear b8 e0 e1 HB7
  generalize (modF n css).length = q1 at *
  generalize cntE n css = q2 at *
  go_upto_region 9 with fail
  go_cut [52] from 53 to 58 (fun p wx => Below w4.heap.size w4 wx)
  case first =>
    have T0 : Hid (∀ W, Below w4.heap.size w4 W → W.cell? ⟨w3.heap.size, 0, none⟩ = some (.int .i64 n) ∧ W.cell? ⟨w3.heap.size, 1, none⟩ = some (.slice (some ⟨gw, 0, none⟩) css.length cw) ∧ W.cell? ⟨w.heap.size, 4, none⟩ = some (.slice ap zs.length cp) ∧ W.cell? ⟨w.heap.size, 5, none⟩ = some (.slice ab ms.length cb)) := fun W h => (HZ.out W h).1
    go_region_held (fun W => W.cell? ⟨w3.heap.size, 0, none⟩ = some (.int .i64 n) ∧ W.cell? ⟨w3.heap.size, 1, none⟩ = some (.slice (some ⟨gw, 0, none⟩) css.length cw) ∧ W.cell? ⟨w.heap.size, 4, none⟩ = some (.slice ap zs.length cp) ∧ W.cell? ⟨w.heap.size, 5, none⟩ = some (.slice ab ms.length cb)) (first | with_reducible exact T0.out _ HB8.out.drew | with_reducible exact T0.out _ HBz.out)
      (first | (go_at_call 17; (with_reducible refine Calls.mono (cnfEntails_any n _ _ css zs _ (HZ.out _ HB8.out.drew).2.1 (HZ.out _ HB8.out.drew).2.2.1 (HZ.out _ HB8.out.drew).2.2.2.2) ?_); rintro e wz ⟨rfl, bz⟩; have HBz : Hid (Below w4.heap.size w4 wz) := Below.step HB8.out.drew bz; clear bz))
    go_wp2_with fail
    go_meet
    exact HBz.out
  case rest =>
  have HB9 : Hid (Below w4.heap.size w4 wc) := hcut
  clear hcut HB8
  generalize wc = w9 at *
  obtain ⟨F, hF⟩ : ∃ F, flsA n css ms = F := ⟨_, rfl⟩
  have HFl : Hid (∀ W, Below w4.heap.size w4 W → Calls Tryd.prog 18 #[.agg #[.int .i64 n, .slice (some ⟨gw, 0, none⟩) css.length cw], .slice (some ⟨gm, 0, none⟩) ms.length cm] W fun e w' => ∃ a c, e = .returned (.slice a F.length c) ∧ Own W.heap.size w' (.slice a F.length c) F ∧ Below W.heap.size W w') := fun W h => by
    refine (cnfFalse_any n _ _ css ms W (HZ.out W h).2.1 (HZ.out W h).2.2.2.1).mono ?_
    rintro e w' ⟨v, rfl, ho, hb⟩
    rw [hF] at ho
    obtain ⟨az, cz, hz⟩ := own_form ho
    subst hz
    exact ⟨az, cz, rfl, ho, hb⟩
  have HFr : Hid (flsA n css ms = F ∧ F.length ≤ 1048576) := ⟨hF, by rw [← hF]; exact flsA_len n css ms H8.out.2⟩
  clear hF
  go_upto_region 10 with fail
  go_cut [7, 8] from 59 to 72 (fun p q wx => R10 w9 F p q wx)
  case first =>
    have T0 : Hid (∀ W, Below w4.heap.size w4 W → W.cell? ⟨w3.heap.size, 0, none⟩ = some (.int .i64 n) ∧ W.cell? ⟨w3.heap.size, 1, none⟩ = some (.slice (some ⟨gw, 0, none⟩) css.length cw) ∧ W.cell? ⟨w.heap.size, 4, none⟩ = some (.slice ap zs.length cp) ∧ W.cell? ⟨w.heap.size, 5, none⟩ = some (.slice ab ms.length cb)) := fun W h => (HZ.out W h).1
    go_region_held (fun W => W.cell? ⟨w3.heap.size, 0, none⟩ = some (.int .i64 n) ∧ W.cell? ⟨w3.heap.size, 1, none⟩ = some (.slice (some ⟨gw, 0, none⟩) css.length cw) ∧ W.cell? ⟨w.heap.size, 4, none⟩ = some (.slice ap zs.length cp) ∧ W.cell? ⟨w.heap.size, 5, none⟩ = some (.slice ab ms.length cb)) (first | with_reducible exact T0.out _ HB9.out.drew | with_reducible exact T0.out _ HBy.out | with_reducible exact T0.out _ HBz.out)
      (first
        | (go_at_call 18; have g1 := HBy; clear g1; (with_reducible refine Calls.mono (HFl.out _ HBy.out) ?_); rintro e wz ⟨a2, c2, rfl, o2, bz⟩; have HO2 : Hid (Own wy.heap.size wz (.slice a2 F.length c2) F ∧ Below wy.heap.size wy wz) := ⟨o2, bz⟩; have HBz : Hid (Below w4.heap.size w4 wz) := Below.step HBy.out bz; clear o2 bz)
        | (go_at_call 18; (with_reducible refine Calls.mono (HFl.out _ HB9.out.drew) ?_); rintro e wy ⟨a1, c1, rfl, o1, by1⟩; have HO1 : Hid (Own w9.drew.heap.size wy (.slice a1 F.length c1) F ∧ Below w9.drew.heap.size w9.drew wy) := ⟨o1, by1⟩; have HBy : Hid (Below w4.heap.size w4 wy) := Below.step HB9.out.drew by1; clear o1 by1))
    go_wp2_with fail
    go_meet
    have l1 := HO1.out.1.lt
    have l2 := HO2.out.1.lt
    have s1 : w9.heap.size ≤ wy.heap.size := HO1.out.2.size
    refine ⟨⟨_, _, rfl⟩, ⟨_, _, rfl⟩, HO1.out.1.below HO2.out.2, HO2.out.1.mono s1, ?_, Below.step (Below.step (Below.refl _ _).drew HO1.out.2) HO2.out.2⟩
    cases hb : (Value.slice a1 F.length c1).ownBlock with
    | none => exact .inl rfl
    | some k =>
      refine .inr (fun e => ?_)
      have h1 := l1 k hb
      have h2 := l2 k e.symm
      omega
  case rest =>
  generalize wc = w10 at *
  obtain ⟨⟨a1, c1, rfl⟩, ⟨a2, c2, rfl⟩, o1, o2, oap, b10⟩ := hcut
  have HO : Hid (R10 w9 F (.slice a1 F.length c1) (.slice a2 F.length c2) w10) := ⟨⟨_, _, rfl⟩, ⟨_, _, rfl⟩, o1, o2, oap, b10⟩
  have HB10 : Hid (Below w4.heap.size w4 w10) := Below.step HB9.out b10
  clear o1 o2 oap b10 HFl
  have HB11 : Hid (Below w10.heap.size w10 ((w10.alloc (.cells #[.slice none 0 0] 25)).alloc (.cells #[.int .i64 0] 3))) := Below.step (below_box _ _) (below_box _ _)
  have HM0 : Hid (B1 ((w10.alloc (.cells #[.slice none 0 0] 25)).alloc (.cells #[.int .i64 0] 3)) w10.heap.size (.slice none 0 0)) := (B1.new w10 25 (.slice none 0 0)).below (below_box _ _)
  have HN0 : Hid (((w10.alloc (.cells #[.slice none 0 0] 25)).alloc (.cells #[.int .i64 0] 3)).heap[w10.heap.size + 1]? = some (.cells #[.int .i64 0] 3 (0, 0))) := by
    have := World.alloc_heap_new (w10.alloc (.cells #[.slice none 0 0] 25)) (.cells #[.int .i64 0] 3)
    rw [World.size_alloc] at this
    exact this
  have hs11 : ((w10.alloc (.cells #[.slice none 0 0] 25)).alloc (.cells #[.int .i64 0] 3)).heap.size = w10.heap.size + 2 := by simp
  go_upto_region 13 with fail
  generalize (w10.alloc (.cells #[.slice none 0 0] 25)).alloc (.cells #[.int .i64 0] 3) = w11 at *
  have HB11' : Hid (Below w4.heap.size w4 w11) := Below.step HB10.out HB11.out
  have HMd : Hid (∀ W, Below w4.heap.size w4 W → Calls Tryd.prog 7 #[.agg #[.int .i64 n, .slice (some ⟨gw, 0, none⟩) css.length cw]] W fun e w' => ∃ gf lb, e = .returned (.func (.func gf) #[] lb) ∧ GivesB W.heap.size (modF n css) (.func (.func gf) #[] lb) w' ∧ Below W.heap.size W w') := fun W h => by
    refine (models_any n _ css W (HZ.out W h).2.1 (HZ.out W h).2.2.2.2).mono ?_
    rintro e w' ⟨f, rfl, hg, hb⟩
    obtain ⟨gf, lb, e1, -, -⟩ := id hg
    subst e1
    exact ⟨gf, lb, rfl, hg, hb⟩
  go_cut [11, 12] from 73 to 76 (fun p q wx => ∃ f1 lb1 f2 lb2 wa wb l1 l2, p = .func (.func f1) #[] lb1 ∧ q = .func (.func f2) #[] lb2 ∧ R13 w11 (modF n css) p q wa wb wx l1 l2)
  case first =>
    have T0 : Hid (∀ W, Below w4.heap.size w4 W → W.cell? ⟨w3.heap.size, 0, none⟩ = some (.int .i64 n) ∧ W.cell? ⟨w3.heap.size, 1, none⟩ = some (.slice (some ⟨gw, 0, none⟩) css.length cw)) := fun W h => ⟨(HZ.out W h).1.1, (HZ.out W h).1.2.1⟩
    go_region_held (fun W => W.cell? ⟨w3.heap.size, 0, none⟩ = some (.int .i64 n) ∧ W.cell? ⟨w3.heap.size, 1, none⟩ = some (.slice (some ⟨gw, 0, none⟩) css.length cw)) (first | with_reducible exact T0.out _ HB11'.out.drew | with_reducible exact T0.out _ HBy.out | with_reducible exact T0.out _ HBz.out)
      (first
        | (go_at_call 7; have g1 := HBy; clear g1; (with_reducible refine Calls.mono (HMd.out _ HBy.out) ?_); rintro e wz ⟨f2, lb2, rfl, hg2, bz⟩; have HG2 : Hid (GivesB wy.heap.size (modF n css) (.func (.func f2) #[] lb2) wz ∧ Below wy.heap.size wy wz) := ⟨hg2, bz⟩; have HBz : Hid (Below w4.heap.size w4 wz) := Below.step HBy.out bz; clear hg2 bz)
        | (go_at_call 7; (with_reducible refine Calls.mono (HMd.out _ HB11'.out.drew) ?_); rintro e wy ⟨f1, lb1, rfl, hg1, by1⟩; have HG1 : Hid (GivesB w11.heap.size (modF n css) (.func (.func f1) #[] lb1) wy ∧ Below w11.heap.size w11.drew wy) := ⟨hg1, by1⟩; have HBy : Hid (Below w4.heap.size w4 wy) := Below.step HB11'.out.drew by1; clear hg1 by1))
    go_wp2_with fail
    go_meet
    have s1 : w11.heap.size ≤ wy.heap.size := HG1.out.2.size
    have s2 : wy.heap.size ≤ wz.heap.size := HG2.out.2.size
    exact ⟨_, _, _, _, wy, wz, w11.heap.size, wy.heap.size, rfl, rfl, HG1.out.1, HG2.out.1, Below.step (Below.refl _ _).drew HG1.out.2, HG2.out.2, Below.refl _ _, ⟨Nat.le_refl _, s1⟩, ⟨Nat.le_refl _, s2⟩⟩
  case rest =>
  generalize wc = w12 at *
  obtain ⟨f1, lb1, f2, lb2, wa, wb, l1, l2, rfl, rfl, r13⟩ := hcut
  have HR13 : Hid (R13 w11 (modF n css) (.func (.func f1) #[] lb1) (.func (.func f2) #[] lb2) wa wb w12 l1 l2) := r13
  have hn1 := fn_not_nil f1 lb1
  have hn2 := fn_not_nil f2 lb2
  have HB12 : Hid (Below w11.heap.size w11 w12) := Below.step (Below.step r13.b1 r13.b2) r13.b3
  have s12 : w10.heap.size + 2 ≤ w12.heap.size := by have := HB12.out.size; omega
  have HMx0 : Hid (Mx w10 w12 (w12.heap.size + 2) (.slice none 0 0) [] 0 w12) :=
    ⟨Below.step HB11.out HB12.out, Mid.refl _ _ _, ⟨HM0.out.below HB12.out, World.ownsRow_nil _ _ _ _, fun x hx => (by cases hx), List.Pairwise.nil, (by simp [Value.ownBlock]), fun x hx => (by cases hx)⟩, (HB12.out.block _ (by omega)).trans HN0.out, s12, by omega⟩
  have HA1 : Hid (Mid l1 wa.heap.size wa w12 ∧ Mid l2 wb.heap.size wb w12 ∧ w10.heap.size + 2 ≤ l1 ∧ w10.heap.size + 2 ≤ l2 ∧ wa.heap.size ≤ w12.heap.size ∧ wb.heap.size ≤ w12.heap.size) := by
    have k1 := r13.b1.size
    have k2 := r13.b2.size
    have k3 := r13.b3.size
    exact ⟨(Mid.of_below (Below.step r13.b2 r13.b3) (Nat.le_refl _)), Mid.of_below r13.b3 (Nat.le_refl _), by have := r13.h1.1; omega, by have := r13.h2.1; omega, by omega, k3⟩
  clear r13 HM0 HN0 HMd HB11 hs11
  go_wp2
  obtain ⟨f1', lb1', e', heg, hseq⟩ := HR13.out.g1
  cases e'
  have HLm : Hid ((modF n css).length ≤ 65536) := modF_len n css
  obtain ⟨R, hR⟩ : ∃ R, modF n css = R := ⟨_, rfl⟩
  have HRe : Hid (modF n css = R) := hR
  rw [hR] at hseq HR13 HLm
  clear hR
  refine (wpIn_wide (n := 12)).1 ?_
  refine' wpIn_rangeNz_brk rfl (by omega) (gf := f1) (lb := lb1) rfl trivial heg (hseq (12 - 1) (by omega) _) Mid.trans (midK_b (by have := HA1.out.2.2.2.2.1; omega)) (fun W o h => h.alloc (Nat.le_refl _) o) HA1.out.1 (fun _ => rfl)
    (fun pre W => ∃ v L, L.map Prod.snd = pre.map Prod.snd ∧ pre.length ≤ 8 ∧ Mx w10 w12 (w12.heap.size + 2) v L (pre.length : Int) W)
    (fun W => ∃ v L, L.map Prod.snd <+: R ∧ (L.length ≤ 9 ∧ (L.length = 0 → R = [])) ∧ Mx w10 w12 (w12.heap.size + 2) v L (L.length : Int) W)
    0
    (fun s X Y row h hg hr => by obtain ⟨v, L, e1, e2, h⟩ := h; exact ⟨v, L, e1, e2, h.own hg hr⟩)
    (fun s X Y h hg => by obtain ⟨v, L, e1, e2, h⟩ := h; exact ⟨v, L, e1, e2, h.box hg⟩)
    (fun s X Y row h hg hr => by obtain ⟨v, L, e1, e2, h⟩ := h; exact ⟨v, L, e1, e2, h.own hg hr⟩)
    (fun m pre => VB.own _ _ _ pre)
    ⟨_, [], rfl, by simp, HMx0.out⟩
    _ ?assign1 ?body1 ?done1 (fun a w h => h) ?tail1
  case assign1 =>
    intro l x W K hK
    gi_wp2
    exact hK
  case done1 =>
    rintro xs W hS ⟨v, L, e1, e2, h⟩
    have e3 : L.length = xs.length := by have := congrArg List.length e1; simpa using this
    refine ⟨v, L, by rw [e1, hS]; exact List.prefix_refl _, ⟨by omega, fun h0 => by rw [← hS, ← e1, List.eq_nil_of_length_eq_zero h0]; rfl⟩, by rw [e3]; exact h⟩
  case body1 =>
    rintro l pre ⟨xv, xm⟩ W0 W ⟨v, L, e1, e2, mx0⟩ hZ hsz hsz0 hV
    have mx : Mx w10 w12 (w12.heap.size + 2) v L (pre.length : Int) W := hZ (fun W => Mx w10 w12 (w12.heap.size + 2) v L (pre.length : Int) W) (fun _ X Y row h hg hr => h.own hg hr) (fun A B h hg => h.box hg) mx0
    obtain ⟨hpx, hx16, g, hg0, hxe, hbt⟩ := hV
    dsimp only at hxe hbt hx16
    subst hxe
    have hmg : Mg w12.heap.size W ((.slice (some ⟨g, 0, none⟩) xm.length 16, xm) : Itb) g := ⟨by omega, rfl, hx16, hbt⟩
    have hS : ∀ y ∈ L, ∀ b, y.1.ownBlock = some b → b < g := fun y hy b e => Nat.lt_of_lt_of_le (mx0.am.lt.2 y hy b e) hg0
    have eL : L.length = pre.length := by have := congrArg List.length e1; simpa using this
    obtain ⟨av, kv, rfl⟩ : ∃ a c, v = .slice a L.length c := row_sliceB mx.am.row
    obtain ⟨q1, q2, q3, q4⟩ := mx.cells
    have HMg := (show Hid (Mg w12.heap.size W ((.slice (some ⟨g, 0, none⟩) xm.length 16, xm) : Itb) g ∧ (∀ y ∈ L, ∀ b, y.1.ownBlock = some b → b < g) ∧ g ≠ w12.heap.size + 2 ∧ w12.heap.size + 2 < W.heap.size) from ⟨hmg, hS, by omega, hsz⟩)
    have HMx : Hid (Mx w10 w12 (w12.heap.size + 2) (.slice av L.length kv) L (pre.length : Int) W) := mx
    have HeL : Hid (L.length = pre.length ∧ L.map Prod.snd = pre.map Prod.snd ∧ pre.length ≤ 8 ∧ (pre ++ [((.slice (some ⟨g, 0, none⟩) xm.length 16, xm) : Itb)]).map Prod.snd <+: R) := ⟨eL, e1, e2, hpx⟩
    have hLb : L.length ≤ 8 := by omega
    have hsw : w12.heap.size ≤ W.heap.size := mx.lt
    obtain ⟨kp, hkp⟩ : ∃ kp, pre.length = kp := ⟨_, rfl⟩
    have HKp : Hid (pre.length = kp) := hkp
    have hkb : kp ≤ 8 := by omega
    rw [hkp] at q3
    clear mx mx0 hZ hpx hbt hmg hS eL e1 e2 hsz hsz0 hg0 hkp
    gi_wp2_with (gi_at_builtin; refine wpListIn_append_two _ rfl _ _ 25 rfl w12.heap.size 32 iB (.slice none 0 0) 24 Tryd.underlying25 hiB hzB0 hzB1 hzB2 rfl _ L.length (L.map Prod.fst) rfl (World.ownsRow.alloc HMx.out.am.row _) ⟨W.heap.size, 0, none⟩ 1 1 [.slice (some ⟨g, 0, none⟩) xm.length 16] rfl rfl (cell_one_new _ _ _) (by simp [Value.oneCell']) (by omega) (by unfold maxLen; omega) (by omega) (by simp; omega) ?_; intro v' w1 own' h2; obtain ⟨p1, p2, p3, p4⟩ := HMx.out.step HMg.out.2.2.2 (World.grownBy_alloc _ _ none) HMg.out.1 HMg.out.2.2.1 HMg.out.2.1 own' h2; obtain ⟨av', kv', ev'⟩ := row_sliceB own'; subst ev'; have HP2 := (show Hid _ from p2); rw [HKp.out] at p3; have p1c := p1.c; have p1f := p1.f; clear own' h2 p1 p2)
    all_goals
      have HEnd : Hid (KeepsOthers W ((w1.setCell ⟨w10.heap.size, 0, none⟩ (.slice av' (L.length + 1) kv')).setCell ⟨w10.heap.size + 1, 0, none⟩ (.int .i64 ((kp : Int) + 1))) ∧ (Mid l1 wa.heap.size W ((w1.setCell ⟨w10.heap.size, 0, none⟩ (.slice av' (L.length + 1) kv')).setCell ⟨w10.heap.size + 1, 0, none⟩ (.int .i64 ((kp : Int) + 1))) ∧ ((w1.setCell ⟨w10.heap.size, 0, none⟩ (.slice av' (L.length + 1) kv')).setCell ⟨w10.heap.size + 1, 0, none⟩ (.int .i64 ((kp : Int) + 1))).heap[w12.heap.size + 2]? = W.heap[w12.heap.size + 2]?) ∧ Mx w10 w12 (w12.heap.size + 2) (.slice av' (L.length + 1) kv') (L ++ [((.slice (some ⟨g, 0, none⟩) xm.length 16, xm) : Itb)]) ((kp : Int) + 1) ((w1.setCell ⟨w10.heap.size, 0, none⟩ (.slice av' (L.length + 1) kv')).setCell ⟨w10.heap.size + 1, 0, none⟩ (.int .i64 ((kp : Int) + 1)))) := by
        obtain ⟨k1, k2, k3, k4⟩ := HP2.out ((kp : Int) + 1)
        exact ⟨k2, ⟨mid_in k3 HA1.out.2.2.1 HA1.out.2.2.2.2.1, k4⟩, k1⟩
      have HEl : Hid ((L ++ [((.slice (some ⟨g, 0, none⟩) xm.length 16, xm) : Itb)]).map Prod.snd = (pre ++ [((.slice (some ⟨g, 0, none⟩) xm.length 16, xm) : Itb)]).map Prod.snd ∧ (pre ++ [((.slice (some ⟨g, 0, none⟩) xm.length 16, xm) : Itb)]).length = kp + 1 ∧ (L ++ [((.slice (some ⟨g, 0, none⟩) xm.length 16, xm) : Itb)]).length = kp + 1) := ⟨by rw [List.map_append, List.map_append, HeL.out.2.1], by rw [List.length_append, HKp.out]; rfl, by rw [List.length_append, HeL.out.1, HKp.out]; rfl⟩
      first
        | (refine ⟨HEnd.out.1, rfl, .slice av' (L.length + 1) kv', L ++ [((.slice (some ⟨g, 0, none⟩) xm.length 16, xm) : Itb)], by rw [HEl.out.1]; exact HeL.out.2.2.2, ⟨by rw [HEl.out.2.2]; omega, fun h0 => by rw [HEl.out.2.2] at h0; omega⟩, ?_⟩
           rw [HEl.out.2.2]
           exact HEnd.out.2.2)
        | (refine ⟨HEnd.out.1, HEnd.out.2.1, .slice av' (L.length + 1) kv', L ++ [((.slice (some ⟨g, 0, none⟩) xm.length 16, xm) : Itb)], HEl.out.1, by rw [HEl.out.2.1]; rename_i h9; simp at h9; omega, ?_⟩
           rw [HEl.out.2.1]
           exact HEnd.out.2.2)
  case tail1 =>
    rintro D1 W5 hD1 ⟨v5, L5, hpr5, ⟨hl5, hl50⟩, mx5⟩ hK5
    have HK5 : Hid (W5.heap[D1]? = some (.deferred (some []))) := hK5
    have hD5 : D1 < W5.heap.size := (Array.getElem?_eq_some_iff.1 hK5).1
    have HMx5 : Hid (Mx w10 w12 (W5.heap.size + 2) v5 L5 (L5.length : Int) W5) := ⟨mx5.bel, mx5.mid, mx5.am.other (by omega), mx5.nb, mx5.s1, by have := mx5.lt; omega⟩
    have HPr5 : Hid (L5.map Prod.snd <+: R ∧ (L5.length = 0 → R = [])) := ⟨hpr5, hl50⟩
    have hlt5 : w12.heap.size ≤ W5.heap.size := mx5.lt
    clear mx5 hK5 hpr5 hl50 HMx0
    go_wp2
    obtain ⟨f2', lb2', e', heg2, hseq2⟩ := HR13.out.g2
    cases e'
    refine (wpIn_wide (n := 12)).1 ?_
    refine' wpIn_rangeNz_brk rfl (by omega) (gf := f2) (lb := lb2) rfl trivial heg2 (hseq2 (12 - 1) (by omega) _) Mid.trans (midK_b (by have := HA1.out.2.2.2.2.2; omega)) (fun W o h => h.alloc (Nat.le_refl _) o) (HA1.out.2.1.trans (mid_in HMx5.out.mid HA1.out.2.2.2.1 HA1.out.2.2.2.2.2)) (fun _ => rfl)
      (fun pre W => ∃ v L, L.map Prod.snd = L5.map Prod.snd ++ pre.map Prod.snd ∧ (pre.length < L5.length ∨ pre = []) ∧ Mx w10 w12 (W5.heap.size + 2) v L ((L5.length : Int) - (pre.length : Int)) W ∧ W.heap[D1]? = some (.deferred (some [])))
      (fun W => ∃ v L cnt, L.map Prod.snd = L5.map Prod.snd ++ L5.map Prod.snd ∧ Mx w10 w12 (W5.heap.size + 2) v L cnt W ∧ W.heap[D1]? = some (.deferred (some [])))
      2
      (fun s X Y row h hg hr => by obtain ⟨v, L, e1, e2, h, hd⟩ := h; exact ⟨v, L, e1, e2, h.own hg (fun r e => ⟨by have := (hr r e).1; omega, (hr r e).2⟩), (hg.block _ (Array.getElem?_eq_some_iff.1 hd).1 (fun e => by have := (hr _ e.symm).1; omega)).trans hd⟩)
      (fun s X Y h hg => by obtain ⟨v, L, e1, e2, h, hd⟩ := h; exact ⟨v, L, e1, e2, h.box hg, (hg.block _ (Array.getElem?_eq_some_iff.1 hd).1 (fun e => by have e9 : D1 = W5.heap.size + 2 := Option.some.inj e; omega)).trans hd⟩)
      (fun s X Y row h hg hr => by obtain ⟨v, L, cnt, e1, h, hd⟩ := h; exact ⟨v, L, cnt, e1, h.own hg (fun r e => ⟨by have := (hr r e).1; omega, (hr r e).2⟩), (hg.block _ (Array.getElem?_eq_some_iff.1 hd).1 (fun e => by have := (hr _ e.symm).1; omega)).trans hd⟩)
      (fun m pre => VB.own _ _ _ pre)
      ⟨v5, L5, by simp, .inr rfl, by simpa using HMx5.out, HK5.out⟩
      _ ?assign2 ?body2 ?done2 (fun a w h => h) ?tail2
    case assign2 =>
      intro l x W K hK
      gi_wp2
      exact hK
    case done2 =>
      rintro xs W hS ⟨v, L, e1, e2, h, hd⟩
      refine ⟨v, L, _, ?_, h, hd⟩
      have hp := HPr5.out.1.length_le
      rw [List.length_map] at hp
      have hx : xs.length = R.length := by have := congrArg List.length hS; simpa using this
      have h0 : L5.length = 0 ∧ xs = [] := by
        rcases e2 with e2 | e2
        · omega
        · subst e2; simp at hx; exact ⟨by omega, rfl⟩
      have h5 : L5 = [] := List.eq_nil_of_length_eq_zero h0.1
      rw [e1, h0.2, h5]
    case body2 =>
      rintro l pre ⟨xv, xm⟩ W0 W ⟨v, L, e1, e2, mx0, hd0⟩ hZ hsz hsz0 hV
      have mx : Mx w10 w12 (W5.heap.size + 2) v L ((L5.length : Int) - (pre.length : Int)) W := hZ (fun W => Mx w10 w12 (W5.heap.size + 2) v L ((L5.length : Int) - (pre.length : Int)) W) (fun _ X Y row h hg hr => h.own hg (fun r e => ⟨by have := (hr r e).1; omega, (hr r e).2⟩)) (fun A B h hg => h.box hg) mx0
      have hd : W.heap[D1]? = some (.deferred (some [])) := hZ (fun W => W.heap[D1]? = some (.deferred (some []))) (fun _ X Y row h hg hr => (hg.block _ (Array.getElem?_eq_some_iff.1 h).1 (fun e => by have := (hr _ e.symm).1; omega)).trans h) (fun A B h hg => (hg.block _ (Array.getElem?_eq_some_iff.1 h).1 (fun e => by have e9 : D1 = W5.heap.size + 2 := Option.some.inj e; omega)).trans h) hd0
      obtain ⟨hpx, hx16, g, hg0, hxe, hbt⟩ := hV
      dsimp only at hxe hbt hx16
      subst hxe
      have hmg : Mg w12.heap.size W ((.slice (some ⟨g, 0, none⟩) xm.length 16, xm) : Itb) g := ⟨by omega, rfl, hx16, hbt⟩
      have hS : ∀ y ∈ L, ∀ b, y.1.ownBlock = some b → b < g := fun y hy b e => Nat.lt_of_lt_of_le (mx0.am.lt.2 y hy b e) hg0
      have eL : L.length = L5.length + pre.length := by have := congrArg List.length e1; simpa using this
      have hpl : pre.length ≤ 9 := by rcases e2 with e2 | e2; omega; subst e2; simp
      obtain ⟨av, kv, rfl⟩ : ∃ a c, v = .slice a L.length c := row_sliceB mx.am.row
      obtain ⟨q1, q2, q3, q4⟩ := mx.cells
      have HMg := (show Hid (Mg w12.heap.size W ((.slice (some ⟨g, 0, none⟩) xm.length 16, xm) : Itb) g ∧ (∀ y ∈ L, ∀ b, y.1.ownBlock = some b → b < g) ∧ g ≠ W5.heap.size + 2 ∧ W5.heap.size + 2 < W.heap.size) from ⟨hmg, hS, by omega, hsz⟩)
      have HMx : Hid (Mx w10 w12 (W5.heap.size + 2) (.slice av L.length kv) L ((L5.length : Int) - (pre.length : Int)) W ∧ W.heap[D1]? = some (.deferred (some []))) := ⟨mx, hd⟩
      have hpp : pre.length < R.length := by have := hpx.length_le; simp at this; omega
      have HeL : Hid (L.length = L5.length + pre.length ∧ L.map Prod.snd = L5.map Prod.snd ++ pre.map Prod.snd ∧ (pre.length < L5.length ∨ pre = []) ∧ (pre ++ [((.slice (some ⟨g, 0, none⟩) xm.length 16, xm) : Itb)]).map Prod.snd <+: R) := ⟨eL, e1, e2, hpx⟩
      have hLb : L.length ≤ 18 := by omega
      have hsw : w12.heap.size ≤ W.heap.size := mx.lt
      obtain ⟨c0, hc0⟩ : ∃ c0 : Int, (L5.length : Int) - (pre.length : Int) = c0 := ⟨_, rfl⟩
      have HC0 : Hid ((L5.length : Int) - (pre.length : Int) = c0) := hc0
      have hcb : -9 ≤ c0 ∧ c0 ≤ 9 := by omega
      have hcb1 := hcb.1
      have hcb2 := hcb.2
      rw [hc0] at q3
      clear mx mx0 hZ hpx hbt hmg hS eL e1 e2 hsz hsz0 hg0 hc0 hd hd0 hcb hpp hpl
      gi_wp2_with (gi_at_builtin; refine wpListIn_append_two _ rfl _ _ 25 rfl w12.heap.size 32 iB (.slice none 0 0) 24 Tryd.underlying25 hiB hzB0 hzB1 hzB2 rfl _ L.length (L.map Prod.fst) rfl (World.ownsRow.alloc HMx.out.1.am.row _) ⟨W.heap.size, 0, none⟩ 1 1 [.slice (some ⟨g, 0, none⟩) xm.length 16] rfl rfl (cell_one_new _ _ _) (by simp [Value.oneCell']) (by omega) (by unfold maxLen; omega) (by omega) (by simp; omega) ?_; intro v' w1 own' h2; obtain ⟨p1, p2, p3, p4⟩ := HMx.out.1.step HMg.out.2.2.2 (World.grownBy_alloc _ _ none) HMg.out.1 HMg.out.2.2.1 HMg.out.2.1 own' h2; obtain ⟨av', kv', ev'⟩ := row_sliceB own'; subst ev'; have HP2 := (show Hid _ from p2); rw [HC0.out] at p3; have p1c := p1.c; have p1f := p1.f; clear own' h2 p1 p2)
      all_goals
        have HEnd : Hid (KeepsOthers W ((w1.setCell ⟨w10.heap.size, 0, none⟩ (.slice av' (L.length + 1) kv')).setCell ⟨w10.heap.size + 1, 0, none⟩ (.int .i64 (c0 - 1))) ∧ (Mid l2 wb.heap.size W ((w1.setCell ⟨w10.heap.size, 0, none⟩ (.slice av' (L.length + 1) kv')).setCell ⟨w10.heap.size + 1, 0, none⟩ (.int .i64 (c0 - 1))) ∧ ((w1.setCell ⟨w10.heap.size, 0, none⟩ (.slice av' (L.length + 1) kv')).setCell ⟨w10.heap.size + 1, 0, none⟩ (.int .i64 (c0 - 1))).heap[W5.heap.size + 2]? = W.heap[W5.heap.size + 2]?) ∧ Mx w10 w12 (W5.heap.size + 2) (.slice av' (L.length + 1) kv') (L ++ [((.slice (some ⟨g, 0, none⟩) xm.length 16, xm) : Itb)]) (c0 - 1) ((w1.setCell ⟨w10.heap.size, 0, none⟩ (.slice av' (L.length + 1) kv')).setCell ⟨w10.heap.size + 1, 0, none⟩ (.int .i64 (c0 - 1))) ∧ ((w1.setCell ⟨w10.heap.size, 0, none⟩ (.slice av' (L.length + 1) kv')).setCell ⟨w10.heap.size + 1, 0, none⟩ (.int .i64 (c0 - 1))).heap[D1]? = some (.deferred (some []))) := by
          obtain ⟨k1, k2, k3, k4⟩ := HP2.out (c0 - 1)
          exact ⟨k2, ⟨mid_in k3 HA1.out.2.2.2.1 HA1.out.2.2.2.2.2, k4⟩, k1, k2.same D1 _ HMx.out.2 rfl⟩
        have HEl : Hid ((L ++ [((.slice (some ⟨g, 0, none⟩) xm.length 16, xm) : Itb)]).map Prod.snd = L5.map Prod.snd ++ (pre ++ [((.slice (some ⟨g, 0, none⟩) xm.length 16, xm) : Itb)]).map Prod.snd ∧ (pre ++ [((.slice (some ⟨g, 0, none⟩) xm.length 16, xm) : Itb)]).length = pre.length + 1) := ⟨by rw [List.map_append, List.map_append, HeL.out.2.1, List.append_assoc], by rw [List.length_append]; rfl⟩
        have HEq : Hid (pre.length < R.length) := by have h5 := HeL.out.2.2.2.length_le; simp at h5; exact h5
        first
          | (refine ⟨HEnd.out.1, rfl, .slice av' (L.length + 1) kv', L ++ [((.slice (some ⟨g, 0, none⟩) xm.length 16, xm) : Itb)], _, ?_, HEnd.out.2.2⟩
             rw [HEl.out.1]
             congr 1
             have hpl : pre.length + 1 = L5.length := by
               have h0 := HC0.out
               rcases HeL.out.2.2.1 with h5 | h5
               · omega
               · have h6 := HEq.out
                 rw [h5] at h6 h0 ⊢
                 rcases Nat.eq_zero_or_pos L5.length with h7 | h7
                 · rw [HPr5.out.2 h7] at h6; simp at h6
                 · simp at h0 ⊢; omega
             exact (List.prefix_of_prefix_length_le HeL.out.2.2.2 HPr5.out.1 (by rw [List.length_map, HEl.out.2, List.length_map]; omega)).eq_of_length (by rw [List.length_map, HEl.out.2, List.length_map]; omega))
          | (refine ⟨HEnd.out.1, HEnd.out.2.1, .slice av' (L.length + 1) kv', L ++ [((.slice (some ⟨g, 0, none⟩) xm.length 16, xm) : Itb)], HEl.out.1, .inl (by rw [HEl.out.2]; have := HC0.out; omega), ?_, HEnd.out.2.2.2⟩
             rw [HEl.out.2, show (L5.length : Int) - ((pre.length + 1 : Nat) : Int) = c0 - 1 by have := HC0.out; omega]
             exact HEnd.out.2.2.1)
    case tail2 =>
      rintro D2 W7 hD2 ⟨v7, L7, cnt7, e7, mx7, hd7⟩ hK7
      have HMk : Hid (∀ W, KeepsOthers W7 W → W.heap[D1]? = some (.deferred (some [])) ∧ W.heap[D2]? = some (.deferred (some []))) := fun W h => ⟨h.same D1 _ hd7 rfl, h.same D2 _ hK7 rfl⟩
      have HDs : Hid (w12.heap.size ≤ D1 ∧ D1 < W5.heap.size ∧ W5.heap.size ≤ D2) := ⟨hD1, hD5, hD2⟩
      have HAm : Hid (Am w10.heap.size w12.heap.size (W5.heap.size + 2) W7 v7 L7) := mx7.am
      have HB7 : Hid (Below w10.heap.size w10 W7) := mx7.bel
      have HE7 : Hid (L7.map Prod.snd = L5.map Prod.snd ++ L5.map Prod.snd) := e7
      have HB37 : Hid (Below w3.heap.size w3 W7) := Below.step HW4.out.1 (Below.step HB10.out HB7.out)
      have HR7 : Hid (∀ W, Below W7.heap.size W7 W → R3f w2 css zs ms B D gw cw ar cr L M gq cq gm cm W) := fun W h => HR.out.below (Below.step HB37.out h)
      have hm9 : L5.length ≤ 9 := hl5
      obtain ⟨a7, k7, rfl⟩ : ∃ a c, v7 = .slice a L7.length c := row_sliceB mx7.am.row
      clear mx7 hd7 hK7 e7 HMx5 HK5
      have hxb := bx_facts (HR7.out W7 (Below.refl _ _)).x
      have x0 := hxb.1
      have x1 := hxb.2.1
      have x2 := hxb.2.2.1
      have y1 := (HY.out W7 (HR7.out W7 (Below.refl _ _)).bel).2.2.2.2.2.1
      clear hxb
      go_wp2_with fail
      refine (keptRows_any B _ _ _ _ css L M W7 (HR7.out W7 (Below.refl _ _)).lk (HY.out W7 (HR7.out W7 (Below.refl _ _)).bel).1 (by have := H8.out.2; omega)).mono ?_
      rintro e y8 ⟨rfl, b8⟩
      have HB8 : Hid (Below W7.heap.size W7 y8) := b8
      have y4 := (HY.out y8 (HR7.out y8 b8).bel).2.2.2.2.2.2.1
      clear b8 x0 x1 x2 y1
      go_wp2_with fail
      refine (kept_any _ _ _ zs y8 (HR7.out y8 HB8.out).q (HY.out y8 (HR7.out y8 HB8.out).bel).2.1).mono ?_
      rintro e y9 ⟨rfl, b9⟩
      have HB9' : Hid (Below W7.heap.size W7 y9) := Below.step HB8.out b9
      have y5 := (HY.out y9 (HR7.out y9 HB9'.out).bel).2.2.2.2.2.2.2
      clear b9 y4
      go_wp2_with fail
      refine (keptB_any _ _ _ ms y9 (HR7.out y9 HB9'.out).m (HY.out y9 (HR7.out y9 HB9'.out).bel).2.2.1).mono ?_
      rintro e z1 ⟨rfl, bz1⟩
      have HZ1 : Hid (Below W7.heap.size W7 z1) := Below.step HB9'.out bz1
      clear bz1 y5 HB8 HB9'
      have hxb := bx_facts (HR7.out z1 HZ1.out).x
      have x0 := hxb.1
      have x1 := hxb.2.1
      have x2 := hxb.2.2.1
      clear hxb
      go_wp2_with fail
      have HLr1 : Hid (Lr B z1 (.slice (some ⟨gw, 0, none⟩) (css.length + 64) cw) (.slice ar L.length cr) L (L.map cutV ++ M.map Prod.fst) M ∧ (L.map cutV ++ M.map Prod.fst).length = css.length + 64 ∧ L.length = css.length ∧ (∀ x ∈ L, x.2.length ≤ 35184372088832) ∧ B ≤ z1.heap.size) := by
        have r := HR7.out z1 HZ1.out
        have hl := r.lk.len
        refine ⟨r.lr, by rw [List.length_append, List.length_map, List.length_map, hl.1, hl.2], hl.1, fun x hx => ?_, Nat.le_of_lt (Nat.lt_of_le_of_lt (r.lr.w.lt gw rfl).1 (r.lr.w.lt gw rfl).2)⟩
        have h5 : x.2 ∈ css.map (· ++ m64) := by rw [← r.ls]; exact List.mem_map.2 ⟨x, hx, rfl⟩
        obtain ⟨zz, hzz, e5⟩ := List.mem_map.1 h5
        have h6 := H8.out.1 zz hzz
        rw [← e5, List.length_append, m64_len]
        omega
      refine (overRows_any B _ _ gw cw (css.length + 64) L _ M z1 HLr1.out.1 HLr1.out.2.1 (by have := H8.out.2; omega) (by rw [HLr1.out.2.2.1]; have := H8.out.2; omega) HLr1.out.2.2.2.1 HLr1.out.2.2.2.2).mono ?_
      rintro e z2 ⟨rfl, hf2, -⟩
      have HF2 : Hid (Fr (Lown (.slice (some ⟨gw, 0, none⟩) (css.length + 64) cw) (.slice ar L.length cr) L) z1 z2) := hf2
      have HM2 : Hid (Obn w2.heap.size z2 (.slice (some ⟨gm, 0, none⟩) (ms.length + 64) cm) (ms ++ b64)) := by
        have r := HR7.out z1 HZ1.out
        refine row_kept r.m fun k e => hf2.block k (World.ownsRow.lt r.m k e.symm).2 (fun hk => ?_)
        have e5 : k = gm := Option.some.inj e
        exact (r.lo k hk).2.2 e5
      clear hf2 x0 x1 x2 HLr1
      go_wp2_with fail
      refine (overB_any _ _ _ z2 HM2.out (by rw [List.length_append, b64_len]; have := HZl.out.2; omega)).mono ?_
      rintro e z3 ⟨⟨ve, rfl⟩, -, hg3⟩
      have HQl : Hid (∀ k, (Lown (.slice (some ⟨gw, 0, none⟩) (css.length + 64) cw) (.slice ar L.length cr) L k ∨ k = gm) → w2.heap.size ≤ k ∧ k < w3.heap.size) := fun k hk => by
        rcases hk with hk | hk
        · exact ⟨(HR.out.lo k hk).1, (HR.out.lo k hk).2.1⟩
        · subst hk; exact World.ownsRow.lt HR.out.m _ rfl
      have HF3 : Hid (Fr (fun k => Lown (.slice (some ⟨gw, 0, none⟩) (css.length + 64) cw) (.slice ar L.length cr) L k ∨ k = gm) z1 z3) := ⟨hg3.os.trans HF2.out.os, hg3.tape.trans HF2.out.tape, hg3.output.trans HF2.out.output, Nat.le_trans HF2.out.size hg3.size, fun k hk hq => (hg3.block k (Nat.lt_of_lt_of_le hk HF2.out.size) (fun e => hq (.inr (Option.some.inj e)))).trans (HF2.out.block k hk (fun h => hq (.inl h)))⟩
      have hs3 : w3.heap.size < w4.heap.size := by have := HW4.out.2.2; omega
      have hs9 : w4.heap.size ≤ w9.heap.size := HB9.out.size
      have hs10 : w9.heap.size ≤ w10.heap.size := HO.out.bel.size
      have HU : Hid (∀ W, Below z3.heap.size z3 W → Below w2.heap.size w2 W ∧ Own w9.heap.size W (.slice a1 F.length c1) F ∧ Own w9.heap.size W (.slice a2 F.length c2) F ∧ Am w10.heap.size w12.heap.size (W5.heap.size + 2) W (.slice a7 L7.length k7) L7 ∧ W.heap[D1]? = some (.deferred (some [])) ∧ W.heap[D2]? = some (.deferred (some []))) := fun W h => by
        have hb3 : Below w2.heap.size w2 z3 := HF3.out.toBelow2 (HR7.out z1 HZ1.out).bel (HR7.out z1 HZ1.out).bel.size (fun k hk => (HQl.out k hk).1)
        have ho1 : Own w9.heap.size z1 (.slice a1 F.length c1) F := (HO.out.oa.below HB7.out).below HZ1.out
        have ho2 : Own w9.heap.size z1 (.slice a2 F.length c2) F := (HO.out.ob.below HB7.out).below HZ1.out
        have hmk := HMk.out z1 (keeps_below HZ1.out)
        have kk : ∀ k, w3.heap.size ≤ k → k < z1.heap.size → z3.heap[k]? = z1.heap[k]? := fun k h1 h2 => HF3.out.block k h2 (fun hq => by have := (HQl.out k hq).2; omega)
        have hd1 := (kk D1 (by have := HDs.out.1; omega) (Array.getElem?_eq_some_iff.1 hmk.1).1).trans hmk.1
        have hd2 := (kk D2 (by have := HDs.out; omega) (Array.getElem?_eq_some_iff.1 hmk.2).1).trans hmk.2
        exact ⟨Below.step hb3 h, Own.below (own_out ho1 HF3.out (fun k hk => by have := (HQl.out k hk).2; omega)) h, Own.below (own_out ho2 HF3.out (fun k hk => by have := (HQl.out k hk).2; omega)) h, (am_fr (HAm.out.below HZ1.out) HF3.out (fun k hk => by have := (HQl.out k hk).2; omega) (by omega)).below h, (h.block _ (Array.getElem?_eq_some_iff.1 hd1).1).trans hd1, (h.block _ (Array.getElem?_eq_some_iff.1 hd2).1).trans hd2⟩
      clear hg3 HF2 HM2 HMk HAm HR7 HF3 HQl HZ1 HB7 HB37
      have y0 := (HY.out z3 (HU.out z3 (Below.refl _ _)).1).2.2.2.2.1
      have y1 := (HY.out z3 (HU.out z3 (Below.refl _ _)).1).2.2.2.2.2.1
      have y5 := (HY.out z3 (HU.out z3 (Below.refl _ _)).1).2.2.2.2.2.2.2
      go_wp2_with fail
      refine (rFalse_any n _ _ css ms z3 (HY.out z3 (HU.out z3 (Below.refl _ _)).1).1 (HY.out z3 (HU.out z3 (Below.refl _ _)).1).2.2.1).mono ?_
      rintro e z4 ⟨vf, rfl, of4, b4⟩
      rw [HFr.out.1] at of4
      obtain ⟨af, cf, rfl⟩ := own_form of4
      have HOf : Hid (∀ W, Below z4.heap.size z4 W → Rd W (.slice af F.length cf) F) := fun W h => (of4.below h).rd (by have := HFr.out.2; omega)
      have HB4 : Hid (Below z3.heap.size z3 z4) := b4
      clear of4 b4 y0 y1 y5
      have HSm : Hid (∀ W v, Below z3.heap.size z3 W → Below z4.heap.size z4 W → Rd W v F → Calls Tryd.prog 25 #[v, .slice af F.length cf] W fun e w' => e = .returned (.bool true) ∧ Below W.heap.size W w') := fun W v h h4 hv => by
        have h5 := sameInts_any v _ F F W hv (HOf.out W h4)
        rw [show (F == F) = true from beq_self_eq_true F] at h5
        exact h5
      go_wp2_with fail
      refine (HSm.out z4 _ HB4.out (Below.refl _ _) ((HU.out z4 HB4.out).2.1.rd (by have := HFr.out.2; omega))).mono ?_
      rintro e z5 ⟨rfl, b5⟩
      have HB5 : Hid (Below z3.heap.size z3 z5 ∧ Below z4.heap.size z4 z5) := ⟨Below.step HB4.out b5, b5⟩
      clear b5
      go_wp2_with fail
      refine (HSm.out z5 _ HB5.out.1 HB5.out.2 ((HU.out z5 HB5.out.1).2.2.1.rd (by have := HFr.out.2; omega))).mono ?_
      rintro e z6 ⟨rfl, b6⟩
      have HB6 : Hid (Below z3.heap.size z3 z6) := Below.step HB5.out.1 b6
      clear b6 HB5 HB4 HOf HSm
      have y0 := (HY.out z6 (HU.out z6 HB6.out).1).2.2.2.2.1
      have y1 := (HY.out z6 (HU.out z6 HB6.out).1).2.2.2.2.2.1
      go_wp2_with fail
      refine (rModels_any n _ css z6 (HY.out z6 (HU.out z6 HB6.out).1).1).mono ?_
      rintro e u7 ⟨vu, Lu, rfl, om7, hLu, bu7⟩
      rw [HRe.out] at hLu
      obtain ⟨au, ku, rfl⟩ : ∃ a c, vu = .slice a Lu.length c := row_sliceB om7.row
      have HOm : Hid (∀ W, Below u7.heap.size u7 W → OwnM z6.heap.size W (.slice au Lu.length ku) Lu) := fun W h => om7.below h
      have HLu : Hid (Lu.map Prod.snd = R) := hLu
      have HBu : Hid (Below z3.heap.size z3 u7) := Below.step HB6.out bu7
      clear om7 hLu bu7 y0 y1
      go_wp2
      have HL7 : Hid (L7.length = L5.length + L5.length) := by have h5 := congrArg List.length HE7.out; rw [List.length_map, List.length_append, List.length_map] at h5; exact h5
      have hL7b : L7.length ≤ 18 := by have := HL7.out; omega
      go_loopg [17] L7.length (fun g i wr => ∃ k : Nat, k + g = L7.length ∧ i = .int .i64 k ∧ Hid (Below u7.heap.size u7 wr))
      case atStart => exact ⟨0, by omega, rfl, Below.refl _ _⟩
      case round =>
        obtain ⟨k, hk, rfl, HBr⟩ := hrel
        have HK : Hid (k + gk = L7.length) := hk
        have HUr : Hid (Below z3.heap.size z3 wr) := Below.step HBu.out HBr.out
        have mc := (HU.out wr HUr.out).2.2.2.1.box.c
        clear hk
        by_cases hlt : k < L7.length
        · obtain ⟨mm, hmm⟩ : ∃ mm, L5.length = mm := ⟨_, rfl⟩
          have hm1 : 1 ≤ mm := by have := HL7.out; omega
          have hm9' : mm ≤ 9 := by omega
          obtain ⟨g7, hg7, hcap7, cm7, rd7, ln7⟩ := am_at (HU.out wr HUr.out).2.2.2.1 hlt
          subst hg7
          have hpl : mm ≤ R.length := by have h5 := HPr5.out.1.length_le; rw [List.length_map, hmm] at h5; exact h5
          have hRl : Lu.length = R.length := by rw [← HLu.out, List.length_map]
          have hjm : k % mm < mm := Nat.mod_lt _ (by omega)
          obtain ⟨gu, hgu, hcapu, cu7, ou7⟩ := om_at (HOm.out wr HBr.out) (k := k % mm) (by omega)
          subst hgu
          have heq : (L7[k]).2 = (Lu[k % mm]'(by omega)).2 := by
            have h5 := eq_at HPr5.out.1 (k := k) (by rw [List.length_map]; have := HL7.out; omega)
            rw [← HE7.out, ← HLu.out, List.length_map, hmm, List.getElem?_map, List.getElem?_map, List.getElem?_eq_getElem hlt, List.getElem?_eq_getElem (by omega : k % mm < Lu.length)] at h5
            simpa using h5
          have rdu : RdB wr (Lu[k % mm]'(by omega)).1 (L7[k]).2 := by rw [heq]; exact OwnB.rd ou7 (by rw [← heq]; omega)
          obtain ⟨x1, hx1⟩ : ∃ x, (L7[k]).1 = x := ⟨_, rfl⟩
          obtain ⟨x2, hx2⟩ : ∃ x, (Lu[k % mm]'(by omega)).1 = x := ⟨_, rfl⟩
          obtain ⟨xm, hxm⟩ : ∃ x, (L7[k]).2 = x := ⟨_, rfl⟩
          rw [hx1] at cm7 rd7
          rw [hx2] at cu7 rdu
          rw [hxm] at rd7 rdu
          obtain ⟨b1, d1, rfl, -⟩ := rd7.form
          obtain ⟨b2, d2, rfl, -⟩ := rdu.form
          have HSB : Hid (∀ W, Below wr.heap.size wr W → Calls Tryd.prog 8 #[.slice b1 xm.length d1, .slice b2 xm.length d2] W fun e w' => e = .returned (.bool true) ∧ Below W.heap.size W w') := fun W h => by
            have h5 := sameBools_any _ _ xm xm W (rd7.below h) (rdu.below h)
            rw [show (xm == xm) = true from beq_self_eq_true xm] at h5
            exact h5
          obtain ⟨jj, hjj⟩ : ∃ jj, k % mm = jj := ⟨_, rfl⟩
          rw [hjj] at cu7 hjm
          have hjl : jj < Lu.length := by omega
          have hji : (jj : Int) < (Lu.length : Int) := by omega
          have hge : decide ((Lu.length : Int) ≤ (jj : Int)) = false := decide_eq_false (by omega)
          have hki : (k : Int) < (L7.length : Int) := by omega
          have hkm : (k : Int) % (mm : Int) = (jj : Int) := by rw [← hjj]; rfl
          have hdiv : ((L7.length : Int) + 1) / 2 = (mm : Int) := by have := HL7.out; omega
          have hdivt : ((L7.length : Int) + 1).tdiv 2 = (mm : Int) := by rw [Int.tdiv_eq_ediv_of_nonneg (by omega)]; exact hdiv
          have hmodt : (k : Int).tmod (mm : Int) = (jj : Int) := by rw [Int.tmod_eq_emod_of_nonneg (by omega)]; exact hkm
          have hm0 : ((mm : Int) == 0) = false := by rw [beq_eq_false_iff_ne]; omega
          have hm0' : (mm : Int) ≠ 0 := by omega
          have HJ : Hid (k < L7.length) := hlt
          clear hx1 hx2 hxm heq rd7 rdu ou7 hjj hpl hRl hmm hjm ln7 hm1
          haveI hne := xt_ne wr
          have y1 := Wx.cell mc
          have y2 := Wx.cell cm7
          have y3 := Wx.cell cu7
          have HQx : Hid (∀ x, Calls Tryd.prog 8 #[.slice b1 xm.length d1, .slice b2 xm.length d2] (Wx wr x) fun e w'' => e = .returned (.bool true) ∧ ∃ y, w'' = Wx wr y) := fun x => (HSB.out (Wx wr x) x.be).mono fun e w' ⟨q1, q2⟩ => ⟨q1, ⟨w', Below.step x.be q2⟩, rfl⟩
          go_upto_region 38 with fail
          clear mc cm7 cu7 HSB
          refine (wpIn_wide (n := 1)).1 ?_
          refine region_quietX (by kernel_rfl) (by kernel_rfl) (by kernel_rfl) ?_
          repeat (refine wpQuietIn_step (fun _ _ _ _ => trivial) (fun Kqz hKqz => ?_); go_simp; first | (refine hKqz _ ?_; clear hKqz Kqz) | (apply Exists.intro; refine ⟨fun _ => ?_, hKqz _ ?_⟩; (first | (gi_at_call 8; with_reducible exact callsIn_wide.2 (HQx.out _))); clear hKqz Kqz))
          refine wpQuietIn_nil ?_
          intro _ hwq1
          obtain ⟨xq, hwq2⟩ := hwq1
          subst hwq2
          have HBq : Hid (Below wr.heap.size wr (Wx wr xq)) := xq.be
          clear y1 y2 y3 HQx
          generalize Wx wr xq = wq at *
          go_wp2
          go_roundg (gk - 1)
          case measure => have := HK.out; have := HJ.out; omega
          case rel => exact ⟨k + 1, by have := HK.out; have := HJ.out; omega, by go_num, Below.step HBr.out HBq.out⟩
        · obtain rfl : k = L7.length := by have := HK.out; omega
          have HBx : Hid (Below z3.heap.size z3 (wr.alloc (.cells #[.slice a1 F.length c1, .slice a2 F.length c2] 31))) := Below.step HUr.out (below_box _ _)
          have hs9r : w9.heap.size ≤ wr.heap.size := by have h5 := World.block_lt_of_cell? _ _ mc; have h6 : w10.heap.size < wr.heap.size := h5; omega
          have HRow : Hid ((wr.alloc (.cells #[.slice a1 F.length c1, .slice a2 F.length c2] 31)).ownsRow w9.heap.size 31 1 (.slice (some ⟨wr.heap.size, 0, none⟩) 2 2) 2 ((List.range 2).map (fun j => if j = 0 then .slice a1 F.length c1 else .slice a2 F.length c2))) := two_row wr hs9r _ _
          have hszx : (wr.alloc (.cells #[.slice a1 F.length c1, .slice a2 F.length c2] 31)).heap.size = wr.heap.size + 1 := World.size_alloc _ _
          have HXr : Hid (Below wr.heap.size wr (wr.alloc (.cells #[.slice a1 F.length c1, .slice a2 F.length c2] 31))) := below_box _ _
          go_wp2_with fail
          generalize wr.alloc (.cells #[.slice a1 F.length c1, .slice a2 F.length c2] 31) = wX at *
          have HLt : Hid (∀ b, ((Value.slice a1 F.length c1).ownBlock = some b ∨ (Value.slice a2 F.length c2).ownBlock = some b) → b < w10.heap.size) := fun b hb => by
            rcases hb with hb | hb
            · exact (HO.out.oa.lt b hb).2
            · exact (HO.out.ob.lt b hb).2
          refine (apart_q (fun k => w10.heap.size ≤ k ∧ k < wr.heap.size) w9.heap.size _ 2 (fun j => if j = 0 then .slice a1 F.length c1 else .slice a2 F.length c2) (fun _ => F.length) wX (by omega) HRow.out
            (fun j hj => by
              by_cases h0 : j = 0
              · rw [if_pos h0]; exact ⟨F, (HU.out wX HBx.out).2.1, rfl⟩
              · rw [if_neg h0]; exact ⟨F, (HU.out wX HBx.out).2.2.1, rfl⟩)
            (fun i j hi hj hij => by
              by_cases h0 : i = 0
              · rw [if_pos h0, if_neg (by omega)]; exact HO.out.ap
              · rw [if_neg h0, if_pos (by omega)]
                rcases HO.out.ap with h5 | h5
                · cases h6 : (Value.slice a2 F.length c2).ownBlock with
                  | none => exact .inl rfl
                  | some b => exact .inr (by rw [h5]; simp)
                · exact .inr (fun e => h5 e.symm))
            (by omega) (fun j hj => by have := HFr.out.2; omega)
            (fun j hj b hb => by
              intro hq
              have h5 : b < w10.heap.size := HLt.out b (by
                by_cases h0 : j = 0
                · rw [if_pos h0] at hb; exact .inl hb
                · rw [if_neg h0] at hb; exact .inr hb)
              omega)
            (fun k hk => by omega)).mono ?_
          rintro e wY ⟨rfl, bY, kY⟩
          have HAmY : Hid (Am w10.heap.size w12.heap.size (W5.heap.size + 2) wY (.slice a7 L7.length k7) L7 ∧ wY.heap[D1]? = some (.deferred (some [])) ∧ wY.heap[D2]? = some (.deferred (some [])) ∧ Below w2.heap.size w2 wY ∧ wr.heap.size < wY.heap.size) := by
            have kk : ∀ k, w10.heap.size ≤ k → k < wr.heap.size → wY.heap[k]? = wr.heap[k]? := fun k h1 h2 => (kY k ⟨h1, h2⟩).trans (HXr.out.block k h2)
            obtain ⟨u1, u2, u3, u4, u5, u6⟩ := HU.out wr HUr.out
            have hds := HDs.out
            have hYs : wr.heap.size < wY.heap.size := by have := bY.size; omega
            have h12 : w10.heap.size ≤ w12.heap.size := by omega
            refine ⟨⟨?_, ?_, fun x hx => ?_, u4.ap, u4.nv, u4.nx⟩, (kk D1 (by omega) (Array.getElem?_eq_some_iff.1 u5).1).trans u5, (kk D2 (by omega) (Array.getElem?_eq_some_iff.1 u6).1).trans u6, ?_, hYs⟩
            · have hl := u4.box.lt
              obtain ⟨tt, hb⟩ := u4.box
              exact ⟨tt, (kk _ (Nat.le_refl _) hl).trans hb⟩
            · exact row_kept u4.row fun k e => kk k (by have := (u4.row.lt k e.symm).1; omega) (u4.row.lt k e.symm).2
            · obtain ⟨g, m⟩ := u4.each x hx
              exact ⟨g, m.kept (kk g (by have := m.1; omega) m.lt)⟩
            · exact (Below.step u1 HXr.out).trans (bY.mono (by have := HR.out.bel.size; omega))
          clear bY kY mc HRow HLt HXr hszx
          have mY := HAmY.out.1.box.c
          go_wp2_with fail
          have hget : ∀ j, j < L7.length → L7[j]? = some (L7.getD j (.slice none 0 0, [])) := fun j hj => by rw [List.getD_eq_getElem?_getD, List.getElem?_eq_getElem hj]; rfl
          have hmem : ∀ j, j < L7.length → L7.getD j (.slice none 0 0, []) ∈ L7 := fun j hj => List.mem_of_getElem? (hget j hj)
          refine (apart_b (fun k => k = D1 ∨ k = D2) w12.heap.size _ L7.length (fun j => (L7.getD j (.slice none 0 0, [])).1) (fun j => (L7.getD j (.slice none 0 0, [])).2.length) wY (by have h5 := (Array.getElem?_eq_some_iff.1 HAmY.out.2.1).1; have := HDs.out.1; omega)
            (by
              have h5 := HAmY.out.1.row
              rw [show (List.range L7.length).map (fun j => (L7.getD j (.slice none 0 0, [])).1) = L7.map Prod.fst from by
                apply List.ext_getElem?
                intro j
                by_cases hj : j < L7.length
                · rw [List.getElem?_map, List.getElem?_range hj, List.getElem?_map, hget j hj]; rfl
                · rw [List.getElem?_eq_none (by simp; omega), List.getElem?_eq_none (by simp; omega)]]
              exact h5)
            (fun j hj => by
              obtain ⟨g, m⟩ := HAmY.out.1.each _ (hmem j hj)
              exact ⟨_, m.obw, rfl⟩)
            (fun i j hi hj hij => by
              refine .inr ?_
              have hp := HAmY.out.1.ap
              rw [List.pairwise_iff_getElem] at hp
              have e1 : L7.getD i (.slice none 0 0, []) = L7[i] := by rw [List.getD_eq_getElem?_getD, List.getElem?_eq_getElem hi]; rfl
              have e2 : L7.getD j (.slice none 0 0, []) = L7[j] := by rw [List.getD_eq_getElem?_getD, List.getElem?_eq_getElem hj]; rfl
              rw [e1, e2]
              rcases Nat.lt_or_gt_of_ne hij with h5 | h5
              · exact hp i j hi hj h5
              · exact fun e => hp j i hj hi h5 e.symm)
            (by omega)
            (fun j hj => by
              obtain ⟨g, m⟩ := HAmY.out.1.each _ (hmem j hj)
              have := m.2.2.1
              omega)
            (fun j hj b hb hq => by
              obtain ⟨g, m⟩ := HAmY.out.1.each _ (hmem j hj)
              have e5 : b = g := by rw [m.2.1] at hb; exact (Option.some.inj hb).symm
              have h6 := m.2.2.2.1
              rcases hq with hq | hq
              · have h7 := HAmY.out.2.1; rw [← hq, e5, h6] at h7; cases h7
              · have h7 := HAmY.out.2.2.1; rw [← hq, e5, h6] at h7; cases h7)
            (fun k hk => by
              rcases hk with hk | hk
              · rw [hk]; exact (Array.getElem?_eq_some_iff.1 HAmY.out.2.1).1
              · rw [hk]; exact (Array.getElem?_eq_some_iff.1 HAmY.out.2.2.1).1)).mono ?_
          rintro e wZ ⟨rfl, bZ, kZ⟩
          have d1 := (kZ D1 (.inl rfl)).trans HAmY.out.2.1
          have d2 := (kZ D2 (.inr rfl)).trans HAmY.out.2.2.1
          have HBz : Hid (Below w2.heap.size w2 wZ) := HAmY.out.2.2.2.1.trans (bZ.mono (by have := HR.out.bel.size; omega))
          go_wp2
          have hne12 : D1 ≠ D2 := by have := HDs.out; omega
          have hk1 := (World.putObj_heap_other (w := wZ) (o := .deferred none) hne12).trans d1
          have hwl : w.heap.size ≤ w2.heap.size := Nat.le_of_lt (HAx.out w2 (Below.refl _ _)).2.2
          have hwl2 : w2.heap.size ≤ w3.heap.size := HR.out.bel.size
          have hdd := HDs.out
          refine ⟨by simp, .inl ⟨_, _, rfl, run_takeDeferred d2, ?_⟩⟩
          refine ⟨by simp, .inl ⟨_, _, rfl, run_takeDeferred hk1, ?_⟩⟩
          exact ⟨_, res_tmp rfl rfl, rfl, (((HAx.out wZ HBz.out).1).trans (belowK_b (w := w) (Nat.le_refl _) _ D2 _ _ (by omega) d2 rfl rfl)).trans (belowK_b (w := w) (Nat.le_refl _) _ D1 _ _ (by omega) hk1 rfl rfl)⟩

theorem walk (n : Int) (s : Value) (css : List (List Int)) (m : Int) (t : Value) (dss : List (List Int)) (vp : Value) (zs : List Int) (vb : Value) (ms : List Bool) (w : World) (wn : (Lit.int .i64 n).wf = true) (hr : Rds w s css) (wm : (Lit.int .i64 m).wf = true) (hr2 : Rds w t dss) (hp : Rd w vp zs) (hm : RdB w vb ms) (hsum : css.length + dss.length ≤ 1048576) (ht : Tens w) :
    Calls Tryd.prog 4 #[.agg #[.int .i64 n, s, .int .i64 m, t, vp, vb]] w fun e w' => e = .returned (.bool true) ∧ Below w.heap.size w w' := main n s css (.int .i64 m) t vp zs vb ms w hr hp hm (by omega) ht

end Go.Proofs.YtfklgfdkpmfdnaaDoor.cnfKeepsModels

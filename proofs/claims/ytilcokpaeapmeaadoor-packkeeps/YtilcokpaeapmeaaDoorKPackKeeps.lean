/-
  PackKeeps, walked.
  KEEP: set on app at below new trans refl start ap kept rd rds mono own row cells lt box from cell of nil len ans add none keep rdz form ob q keepB ltB cellsB snoc k walk main i l ls ms b s m x y f apart alloc other slice
-/
import Derived.Test.YtilcokpaeapmeaaDoorKPkZ
import Derived.Test.YtilcokpaeapmeaaDoorKStL
import Derived.Test.YtilcokpaeapmeaaDoorJPkM
import Derived.Test.YtilcokpaeapmeaaDoorKPkR
import Derived.Test.YtilcokpaeapmeaaDoorKOpenZ
set_option linter.unusedSimpArgs false
set_option linter.unusedVariables false
namespace Go.Proofs.YtilcokpaeapmeaaDoor
open Go Go.RowKit Go.Shelf
namespace packKeeps
attribute [local go_sem] Oper.semAt_some

theorem cell_ofY {W : World} {D j : Nat} {cs : Array Value} {t : TypeId} {f : Nat × Nat} {x : Value} (h : W.heap[D]? = some (.cells cs t f)) (hj : cs[j]? = some x) : W.cell? ⟨D, j, none⟩ = some x := by
  simp only [World.cell?, h]
  simpa using hj
theorem numB_posY (n : Nat) : 0 < (numB n).length := by
  unfold numB
  split <;> simp
theorem rd_ofY {B : Nat} {W : World} {u : Value} {l : List Stp} (h : OwnS B W u l) (h1 : l.length ≤ 1048576) (h2 : ∀ x ∈ l, x.2.length ≤ 1048576) : RdZ W u l := h.rdz (by omega) (fun x hx => by have := h2 x hx; omega)

set_option maxRecDepth 100000 in
set_option maxHeartbeats 12800000 in
theorem walk (sl : Value) (l : List Stp) (sb : Value) (b : List UInt8) (n : Nat) (w : World) (hl : RdZ w sl l) (hb : RdY w sb b) (hn : n < 18446744073709551616) (hbl : stpN l ≤ 1048576) (hbb : b.length ≤ 1048576) (he : Env w) :
    Calls Tryd.prog 4 #[sl, sb, .int .u64 n] w fun e w' => e = .returned (.bool true) ∧ Below w.heap.size w w' := by
  unfold stpN at hbl
  obtain ⟨al, cl, rfl, -, -, -⟩ := hl.form
  obtain ⟨ab, cb, rfl, -, -, -⟩ := hb.form
  have H8 : Hid ((∀ x ∈ l, x.2.length * 8 ≤ 140737488351232) ∧ l.length ≤ 1048576 ∧ b.length ≤ 1048576 ∧ (numB n).length ≤ 10 ∧ 0 < (numB n).length ∧ l.length * 32 ≤ 140737488351232) := ⟨rdz_each hl, by omega, hbb, numB_10 hn, numB_posY n, hl.len⟩
  have HA : Hid (∀ W, Below w.heap.size w W → RdZ W (.slice al l.length cl) l ∧ RdY W (.slice ab b.length cb) b ∧ Env W) := fun W h => ⟨hl.below h, hb.below h, Env.below he h⟩
  obtain ⟨E1, hE1⟩ : ∃ E : List UInt8, (if sndS l then encB l else []) = E := ⟨_, rfl⟩
  obtain ⟨c1, hc1⟩ : ∃ e : Int, (if sndS l then (0 : Int) else 1) = e := ⟨_, rfl⟩
  obtain ⟨E3, hE3⟩ : ∃ E : List UInt8, (if sndS (ovS l.length) then encB (ovS l.length) else []) = E := ⟨_, rfl⟩
  obtain ⟨c3, hc3⟩ : ∃ e : Int, (if sndS (ovS l.length) then (0 : Int) else 1) = e := ⟨_, rfl⟩
  have HEn : Hid (∀ W s', RdZ W s' l → Calls Tryd.prog 19 #[s'] W fun e w' => ∃ v, e = .returned (.tuple #[v, .int .i64 c1]) ∧ OwnT W.heap.size w' v E1 ∧ Below W.heap.size W w') := fun W s' h => by
    have q := encode_any s' l W h (by have := ez_st hbl; omega)
    rw [hE1, hc1] at q; exact q
  have HEo : Hid (∀ W s', RdZ W s' (ovS l.length) → Calls Tryd.prog 19 #[s'] W fun e w' => ∃ v, e = .returned (.tuple #[v, .int .i64 c3]) ∧ OwnT W.heap.size w' v E3 ∧ Below W.heap.size W w') := fun W s' h => by
    have q := encode_any s' _ W h (by have := ez_ov l.length (by omega); omega)
    rw [hE3, hc3] at q; exact q
  have HLe : Hid (E1.length ≤ 33554432 ∧ E3.length ≤ 33554432) := by
    refine ⟨?_, ?_⟩
    · rw [← hE1]; have h1 := enc_len l; have h2 := ez_st hbl; omega
    · rw [← hE3]; have h1 := enc_len (ovS l.length); have h2 := ez_ov l.length (by omega); omega
  have HLent := (show Hid _ from lentSteps_any (.slice al l.length cl) l w hl (by omega))
  have HNu : Hid (∀ W, Calls Tryd.prog 23 #[.int .u64 n] W fun e w' => ∃ g, e = .returned (.slice (some ⟨g, 0, none⟩) (numB n).length 10) ∧ W.heap.size ≤ g ∧ w'.heap[g]? = some (.cells (padA (numB n)) 78 (0, 0)) ∧ RdY w' (.slice (some ⟨g, 0, none⟩) (numB n).length 10) (numB n) ∧ Below W.heap.size W w') := fun W => number2_any n W hn
  obtain ⟨D1, hD1⟩ : ∃ D, decB b = D := ⟨_, rfl⟩
  obtain ⟨O1, hO1⟩ : ∃ D, opB b = D := ⟨_, rfl⟩
  obtain ⟨D3, hD3⟩ : ∃ D, decB (ovY b.length) = D := ⟨_, rfl⟩
  have HDe : Hid (∀ W u, RdY W u b → Calls Tryd.prog 20 #[u] W fun e w' => ∃ v, e = .returned (.tuple #[v, .int .i64 D1.2.1, .int .i64 D1.2.2]) ∧ OwnS W.heap.size w' v D1.1 ∧ Below W.heap.size W w') := fun W u h => by
    have q := decode_any W u b h (by omega)
    rw [hD1] at q; exact q
  have HOp : Hid (∀ W u, RdY W u b → Env W → Calls Tryd.prog 21 #[u] W fun e w' => ∃ v, e = .returned (.tuple #[v, .int .i64 O1.2.1, .int .i64 O1.2.2]) ∧ OwnS W.heap.size w' v O1.1 ∧ Below W.heap.size W w') := fun W u h h5 => by
    have q := open_any W u b h (by omega) h5
    rw [hO1] at q; exact q
  have HDo : Hid (∀ W u, RdY W u (ovY b.length) → Calls Tryd.prog 20 #[u] W fun e w' => ∃ v, e = .returned (.tuple #[v, .int .i64 D3.2.1, .int .i64 D3.2.2]) ∧ OwnS W.heap.size w' v D3.1 ∧ Below W.heap.size W w') := fun W u h => by
    have q := decode_any W u _ h (by rw [ovY_len]; omega)
    rw [hD3] at q; exact q
  have HLd : Hid ((D1.1.length ≤ 1048576 ∧ ∀ x ∈ D1.1, x.2.length ≤ 1048576) ∧ (O1.1.length ≤ 1048576 ∧ ∀ x ∈ O1.1, x.2.length ≤ 1048576) ∧ (D3.1.length ≤ 1048576 ∧ ∀ x ∈ D3.1, x.2.length ≤ 1048576)) := by
    have h1 := dec_lenZ b
    have h2 := op_lenZ b
    have h3 := dec_lenZ (ovY b.length)
    rw [hD1] at h1
    rw [hO1] at h2
    rw [hD3, ovY_len] at h3
    exact ⟨⟨by omega, fun x hx => by have := h1.2 x hx; omega⟩, ⟨by omega, fun x hx => by have := h2.2 x hx; omega⟩, ⟨by omega, fun x hx => by have := h3.2 x hx; omega⟩⟩
  obtain ⟨t1, t2, t3, ht1⟩ : ∃ (t1 : Nat) (t2 t3 : Int), ∀ W u, RdY W u b → Calls Tryd.prog 22 #[u] W fun e w' => e = .returned (.tuple #[.int .u64 t1, .int .i64 t2, .int .i64 t3]) ∧ w' = W := ⟨_, _, _, fun W u h => take_any u b W h⟩
  obtain ⟨t4, t5, t6, ht4⟩ : ∃ (t1 : Nat) (t2 t3 : Int), ∀ W u, RdY W u (ovY b.length) → Calls Tryd.prog 22 #[u] W fun e w' => e = .returned (.tuple #[.int .u64 t1, .int .i64 t2, .int .i64 t3]) ∧ w' = W := ⟨_, _, _, fun W u h => take_any u _ W h⟩
  have HTa : Hid (∀ W u, RdY W u b → Calls Tryd.prog 22 #[u] W fun e w' => e = .returned (.tuple #[.int .u64 t1, .int .i64 t2, .int .i64 t3]) ∧ w' = W) := ht1
  have HTo : Hid (∀ W u, RdY W u (ovY b.length) → Calls Tryd.prog 22 #[u] W fun e w' => e = .returned (.tuple #[.int .u64 t4, .int .i64 t5, .int .i64 t6]) ∧ w' = W) := ht4
  have HSS : Hid (∀ (L : List Stp), (L.length ≤ 1048576 ∧ ∀ x ∈ L, x.2.length ≤ 1048576) → ∀ W B1 B2 u v, OwnS B1 W u L → OwnS B2 W v L → Calls Tryd.prog 16 #[u, v] W fun e w' => e = .returned (.bool true) ∧ Below W.heap.size W w') := fun L hL W B1 B2 u v h1 h2 => by
    have := sameSteps_any u v L L W (rd_ofY h1 hL.1 hL.2) (rd_ofY h2 hL.1 hL.2)
    rw [show (L == L) = true from beq_self_eq_true L] at this
    exact this
  have HSY : Hid (∀ (T : List UInt8) W u v, RdY W u T → RdY W v T → Calls Tryd.prog 27 #[u, v] W fun e w' => e = .returned (.bool true) ∧ Below W.heap.size W w') := fun T W u v h1 h2 => by
    have := sameY_any u v T T W h1 h2
    rw [show (T == T) = true from beq_self_eq_true T] at this
    exact this
  have HCo : Hid (∀ (T : List UInt8) W u, T.length ≤ 1048576 → RdY W u T → Calls Tryd.prog 26 #[u] W fun e w' => ∃ v, e = .returned v ∧ RdY w' v T ∧ Below W.heap.size W w') := fun T W u h h1 => (copiedY_any u T W h1).mono fun e w' ⟨v, q1, q2, q3⟩ => ⟨v, q1, q2.rd (by omega), q3⟩
  have HCs : Hid (∀ (L : List Stp) W u, (L.length * 32 ≤ 140737488351232) → (∀ x ∈ L, x.2.length * 8 ≤ 140737488351232) → RdZ W u L → Calls Tryd.prog 9 #[u] W fun e w' => ∃ v, e = .returned v ∧ RdZ w' v L ∧ Below W.heap.size W w') := fun L W u h1 h2 h => (copySteps_any u L W h).mono fun e w' ⟨v, q1, q2, q3⟩ => ⟨v, q1, q2.rdz h1 h2, q3⟩
  clear hl hb hbl hbb hn he hE1 hc1 hE3 hc3 hD1 hO1 hD3 ht1 ht4
  go_enter Tryd.func4, Tryd.ntmps4
  go_wp2_with fail
  refine Calls.mono HLent.out ?_
  rintro e w1 ⟨vi, vw, vr, L, M, rfl, hq⟩
  clear HLent
  obtain ⟨gw, cw, evw, hcw, hcm, -, -⟩ := hq.k.vwF
  obtain ⟨aw', cw', evw', evi⟩ := hq.i
  rw [evw] at evw'
  have e9 : aw' = some ⟨gw, 0, none⟩ ∧ cw' = cw := by injection evw' with q1 q2 q3; exact ⟨q1.symm, q3.symm⟩
  obtain ⟨rfl, rfl⟩ := e9
  subst evw; subst evi
  obtain ⟨ar, cr, er⟩ := row_form hq.l.r.row
  subst er
  have HQ : Hid (Lzf w w1 (.slice (some ⟨gw, 0, none⟩) l.length cw') (.slice (some ⟨gw, 0, none⟩) (l.length + 64) cw') (.slice ar L.length cr) l L M) := hq
  have HX1 : Hid (Below w.heap.size w (w1.alloc (.cells #[.slice (some ⟨gw, 0, none⟩) l.length cw', .slice (some ⟨gw, 0, none⟩) (l.length + 64) cw', .slice ar L.length cr] 25)) ∧ (w1.alloc (.cells #[.slice (some ⟨gw, 0, none⟩) l.length cw', .slice (some ⟨gw, 0, none⟩) (l.length + 64) cw', .slice ar L.length cr] 25)).heap[w1.heap.size]? = some (.cells #[.slice (some ⟨gw, 0, none⟩) l.length cw', .slice (some ⟨gw, 0, none⟩) (l.length + 64) cw', .slice ar L.length cr] 25 (0, 0)) ∧ w1.heap.size < (w1.alloc (.cells #[.slice (some ⟨gw, 0, none⟩) l.length cw', .slice (some ⟨gw, 0, none⟩) (l.length + 64) cw', .slice ar L.length cr] 25)).heap.size) := ⟨Below.step hq.b (below_box _ _), World.alloc_heap_new _ _, (by simp)⟩
  have HX : Hid (∀ W, Below (w1.alloc (.cells #[.slice (some ⟨gw, 0, none⟩) l.length cw', .slice (some ⟨gw, 0, none⟩) (l.length + 64) cw', .slice ar L.length cr] 25)).heap.size (w1.alloc (.cells #[.slice (some ⟨gw, 0, none⟩) l.length cw', .slice (some ⟨gw, 0, none⟩) (l.length + 64) cw', .slice ar L.length cr] 25)) W →
      W.heap[w1.heap.size]? = some (.cells #[.slice (some ⟨gw, 0, none⟩) l.length cw', .slice (some ⟨gw, 0, none⟩) (l.length + 64) cw', .slice ar L.length cr] 25 (0, 0)) ∧ Kz w.heap.size W (.slice (some ⟨gw, 0, none⟩) (l.length + 64) cw') (.slice ar L.length cr) l L M ∧ RdZ W (.slice (some ⟨gw, 0, none⟩) l.length cw') l ∧ Below w.heap.size w W) := fun W h => by
    have hx := (h.block _ HX1.out.2.2).trans HX1.out.2.1
    have lk := HQ.out.k.below (Below.step (below_box _ _) h)
    refine ⟨hx, lk, lk.rdz (by have := H8.out.2.1; omega) (fun k hk => ?_), Below.step HX1.out.1 h⟩
    have := H8.out.1 (l.getD k (false, [])) (by rw [List.getD_eq_getElem?_getD, List.getElem?_eq_getElem hk]; exact List.getElem_mem hk)
    exact this
  clear hq hcw hcm evw'
  go_wp2_with fail
  generalize w1.alloc (.cells #[.slice (some ⟨gw, 0, none⟩) l.length cw', .slice (some ⟨gw, 0, none⟩) (l.length + 64) cw', .slice ar L.length cr] 25) = x1 at *
  refine Calls.mono (lentY_any (.slice ab b.length cb) (nuY b) x1 (RdI8.of (HA.out x1 HX1.out.1).2.1 (by have := H8.out.2.2.1; omega))) ?_
  rintro e w2 ⟨vb, rfl, ob, b2⟩
  have hob : x1.heap.size ≤ w2.heap.size := b2.size
  obtain ⟨ay, cy, evb⟩ := row_sliceY ob
  have evb2 : vb = .slice ay (b.length + 64) cy := by rw [evb, List.length_append, nuY_len, y64_len]
  clear evb
  obtain ⟨gb, rfl⟩ : ∃ gb, ay = some ⟨gb, 0, none⟩ := by
    have h5 := ob
    unfold Onb at h5
    rw [evb2] at h5
    rcases h5.2 with ⟨e1, e2⟩ | ⟨g, cap, cur, e, _⟩
    · rw [List.length_append, y64_len] at e2; omega
    · injection e with e1 _ _; exact ⟨g, e1⟩
  subst evb2
  have hgb : x1.heap.size ≤ gb ∧ gb < w2.heap.size := (show w2.ownsRow x1.heap.size 5 1 _ _ _ from ob).lt gb rfl
  have hcy : b.length ≤ cy := by
    have h5 := ob
    unfold Onb at h5
    rcases h5.2 with ⟨e1, e2⟩ | ⟨g, cap, cur, e, _, _, h6, _⟩
    · rw [List.length_append, y64_len] at e2; omega
    · injection e with _ e2 e3
      rw [List.length_append, nuY_len, y64_len] at h6
      omega
  have HGb : Hid (x1.heap.size ≤ gb ∧ gb < w2.heap.size ∧ w1.heap.size < x1.heap.size ∧ w.heap.size ≤ x1.heap.size) := ⟨hgb.1, hgb.2, HX1.out.2.2, HX1.out.1.size⟩
  have HX2 : Hid (∀ W, Below w2.heap.size w2 W → W.heap[w1.heap.size]? = some (.cells #[.slice (some ⟨gw, 0, none⟩) l.length cw', .slice (some ⟨gw, 0, none⟩) (l.length + 64) cw', .slice ar L.length cr] 25 (0, 0)) ∧ Kz w.heap.size W (.slice (some ⟨gw, 0, none⟩) (l.length + 64) cw') (.slice ar L.length cr) l L M ∧ RdZ W (.slice (some ⟨gw, 0, none⟩) l.length cw') l ∧ Below w.heap.size w W ∧ Onb x1.heap.size W (.slice (some ⟨gb, 0, none⟩) (b.length + 64) cy) (nuY b ++ y64) ∧ RdY W (.slice (some ⟨gb, 0, none⟩) b.length cy) b ∧ Env W) := fun W h => by
    obtain ⟨q1, q2, q3, q4⟩ := HX.out W (Below.step b2 h)
    have q5 := ob.below h
    exact ⟨q1, q2, q3, q4, q5, lent_rdy q5 H8.out.2.2.1, (HA.out W q4).2.2⟩
  clear ob b2 hob hgb HX
  have d0 := cell_ofY (j := 0) (HX2.out w2 (Below.refl _ _)).1 rfl
  go_wp2_with fail
  clear d0
  refine Calls.mono (HEn.out w2 _ (HX2.out w2 (Below.refl _ _)).2.2.1) ?_
  rintro e w3 ⟨v1, rfl, o1, b3⟩
  have H3 : Hid (Below w2.heap.size w2 w3 ∧ Gm w2.heap.size w3 [(v1, E1)]) := ⟨b3, (Gm.nil w2.heap.size w2).ins (A := []) (C := []) o1.obz b3 (Nat.le_refl _) (Nat.le_refl _)⟩
  clear o1 b3
  have d0 := cell_ofY (j := 0) (HX2.out w3 H3.out.1).1 rfl
  go_wp2_with fail
  clear d0
  refine Calls.mono (HEn.out w3 _ (HX2.out w3 H3.out.1).2.2.1) ?_
  rintro e w4 ⟨v2, rfl, o2, b4⟩
  have H4 : Hid (Below w2.heap.size w2 w4 ∧ Gm w2.heap.size w4 [(v1, E1), (v2, E1)]) := ⟨Below.step H3.out.1 b4, H3.out.2.ins (A := [(v1, E1)]) (C := []) o2.obz b4 (Nat.le_refl _) H3.out.1.size⟩
  clear o2 b4 H3
  go_wp2_with fail
  refine Calls.mono (HDe.out w4 _ (HX2.out w4 H4.out.1).2.2.2.2.2.1) ?_
  rintro e w5 ⟨vd1, rfl, ⟨Ld1, od1, ed1⟩, b5⟩
  have H5 : Hid (Below w2.heap.size w2 w5 ∧ Gm w2.heap.size w5 [(v1, E1), (v2, E1)] ∧ Fm w2.heap.size w5 [(vd1, Ld1)]) := ⟨Below.step H4.out.1 b5, H4.out.2.below b5, (Fm.nil w2.heap.size w4).ins (A := []) (C := []) od1 b5 (Nat.le_refl _) H4.out.1.size⟩
  clear od1 b5 H4
  go_wp2_with fail
  refine Calls.mono (HDe.out w5 _ (HX2.out w5 H5.out.1).2.2.2.2.2.1) ?_
  rintro e w6 ⟨vd2, rfl, ⟨Ld2, od2, ed2⟩, b6⟩
  have H6 : Hid (Below w2.heap.size w2 w6 ∧ Gm w2.heap.size w6 [(v1, E1), (v2, E1)] ∧ Fm w2.heap.size w6 [(vd1, Ld1), (vd2, Ld2)]) := ⟨Below.step H5.out.1 b6, H5.out.2.1.below b6, H5.out.2.2.ins (A := [(vd1, Ld1)]) (C := []) od2 b6 (Nat.le_refl _) H5.out.1.size⟩
  clear od2 b6 H5
  go_wp2_with fail
  refine Calls.mono (HOp.out w6 _ (HX2.out w6 H6.out.1).2.2.2.2.2.1 (HX2.out w6 H6.out.1).2.2.2.2.2.2) ?_
  rintro e w7 ⟨vo1, rfl, ⟨Lo1, oo1, eo1⟩, b7⟩
  have H7 : Hid (Below w2.heap.size w2 w7 ∧ Gm w2.heap.size w7 [(v1, E1), (v2, E1)] ∧ Fm w2.heap.size w7 [(vd1, Ld1), (vd2, Ld2), (vo1, Lo1)]) := ⟨Below.step H6.out.1 b7, H6.out.2.1.below b7, H6.out.2.2.ins (A := [(vd1, Ld1), (vd2, Ld2)]) (C := []) oo1 b7 (Nat.le_refl _) H6.out.1.size⟩
  clear oo1 b7 H6
  go_wp2_with fail
  refine Calls.mono (HOp.out w7 _ (HX2.out w7 H7.out.1).2.2.2.2.2.1 (HX2.out w7 H7.out.1).2.2.2.2.2.2) ?_
  rintro e w8 ⟨vo2, rfl, ⟨Lo2, oo2, eo2⟩, b8⟩
  have H8w : Hid (Below w2.heap.size w2 w8 ∧ Gm w2.heap.size w8 [(v1, E1), (v2, E1)] ∧ Fm w2.heap.size w8 [(vd1, Ld1), (vd2, Ld2), (vo1, Lo1), (vo2, Lo2)]) := ⟨Below.step H7.out.1 b8, H7.out.2.1.below b8, H7.out.2.2.ins (A := [(vd1, Ld1), (vd2, Ld2), (vo1, Lo1)]) (C := []) oo2 b8 (Nat.le_refl _) H7.out.1.size⟩
  clear oo2 b8 H7
  go_wp2_with fail
  refine Calls.mono (HTa.out w8 _ (HX2.out w8 H8w.out.1).2.2.2.2.2.1) ?_
  rintro e w9' ⟨rfl, hw⟩
  obtain rfl := hw.symm
  clear hw
  go_wp2_with fail
  refine Calls.mono (HNu.out w8) ?_
  rintro e w9 ⟨gn1, rfl, hg1, hh1, hr1, b9⟩
  have H9 : Hid (Below w2.heap.size w2 w9 ∧ Gm w2.heap.size w9 [(v1, E1), (v2, E1), (.slice (some ⟨gn1, 0, none⟩) (numB n).length 10, numB n)] ∧ Fm w2.heap.size w9 [(vd1, Ld1), (vd2, Ld2), (vo1, Lo1), (vo2, Lo2)]) := ⟨Below.step H8w.out.1 b9, H8w.out.2.1.ins (A := [(v1, E1), (v2, E1)]) (C := []) (num_obz hh1 hg1 H8.out.2.2.2.1) b9 (Nat.le_refl _) H8w.out.1.size, H8w.out.2.2.below b9⟩
  clear hg1 hh1 hr1 b9 H8w
  go_wp2_with fail
  refine Calls.mono (HNu.out w9) ?_
  rintro e w10 ⟨gn2, rfl, hg2, hh2, hr2, b10⟩
  have H10 : Hid (Below w2.heap.size w2 w10 ∧ Gm w2.heap.size w10 [(v1, E1), (v2, E1), (.slice (some ⟨gn1, 0, none⟩) (numB n).length 10, numB n), (.slice (some ⟨gn2, 0, none⟩) (numB n).length 10, numB n)] ∧ Fm w2.heap.size w10 [(vd1, Ld1), (vd2, Ld2), (vo1, Lo1), (vo2, Lo2)]) := ⟨Below.step H9.out.1 b10, H9.out.2.1.ins (A := [(v1, E1), (v2, E1), (.slice (some ⟨gn1, 0, none⟩) (numB n).length 10, numB n)]) (C := []) (num_obz hh2 hg2 H8.out.2.2.2.1) b10 (Nat.le_refl _) H9.out.1.size, H9.out.2.2.below b10⟩
  clear hg2 hh2 hr2 b10 H9
  have d0 := cell_ofY (j := 0) (HX2.out w10 H10.out.1).1 rfl
  have d1 := cell_ofY (j := 1) (HX2.out w10 H10.out.1).1 rfl
  have d2 := cell_ofY (j := 2) (HX2.out w10 H10.out.1).1 rfl
  go_wp2_with fail
  clear d0 d1 d2
  refine Calls.mono (keptSteps_any w.heap.size _ _ _ _ l L M w10 (HX2.out w10 H10.out.1).2.1 (HA.out w10 (HX2.out w10 H10.out.1).2.2.2.1).1 (by have := H8.out.2.1; omega)) ?_
  rintro e w11 ⟨rfl, b11⟩
  have H11 : Hid (Below w2.heap.size w2 w11 ∧ Gm w2.heap.size w11 [(v1, E1), (v2, E1), (.slice (some ⟨gn1, 0, none⟩) (numB n).length 10, numB n), (.slice (some ⟨gn2, 0, none⟩) (numB n).length 10, numB n)] ∧ Fm w2.heap.size w11 [(vd1, Ld1), (vd2, Ld2), (vo1, Lo1), (vo2, Lo2)]) := ⟨Below.step H10.out.1 b11, H10.out.2.1.below b11, H10.out.2.2.below b11⟩
  clear b11 H10
  go_wp2_with fail
  refine Calls.mono (keptY_any x1.heap.size _ _ (nuY b) w11 (HX2.out w11 H11.out.1).2.2.2.2.1 (RdI8.of (HA.out w11 (HX2.out w11 H11.out.1).2.2.2.1).2.1 (by have := H8.out.2.2.1; omega))) ?_
  rintro e w12 ⟨rfl, b12⟩
  have H12 : Hid (Below w2.heap.size w2 w12 ∧ Gm w2.heap.size w12 [(v1, E1), (v2, E1), (.slice (some ⟨gn1, 0, none⟩) (numB n).length 10, numB n), (.slice (some ⟨gn2, 0, none⟩) (numB n).length 10, numB n)] ∧ Fm w2.heap.size w12 [(vd1, Ld1), (vd2, Ld2), (vo1, Lo1), (vo2, Lo2)]) := ⟨Below.step H11.out.1 b12, H11.out.2.1.below b12, H11.out.2.2.below b12⟩
  clear b12 H11
  have d0 := cell_ofY (j := 0) (HX2.out w12 H12.out.1).1 rfl
  have d1 := cell_ofY (j := 1) (HX2.out w12 H12.out.1).1 rfl
  have d2 := cell_ofY (j := 2) (HX2.out w12 H12.out.1).1 rfl
  have HLl : Hid (L.length = l.length ∧ (stZ l L ++ mkZ M).length = l.length + 64 ∧ ∀ x ∈ L, x.2.length ≤ 35184372088832) := by
    refine ⟨HQ.out.k.len, HQ.out.k.whole, fun x hx => ?_⟩
    have h5 : x.2 ∈ L.map Prod.snd := List.mem_map_of_mem hx
    rw [HQ.out.ls] at h5
    obtain ⟨y, hy, h6⟩ := List.mem_map.1 h5
    have h7 := H8.out.1 y hy
    rw [← h6, m64_app_lenZ]
    omega
  go_wp2_with fail
  clear d0 d1 d2
  refine Calls.mono (overSteps_any w.heap.size _ _ gw cw' (l.length + 64) L (stZ l L ++ mkZ M) M w12 (HX2.out w12 H12.out.1).2.1.l HLl.out.2.1 (by have := H8.out.2.1; omega) (by have := H8.out.2.1; have := HLl.out.1; omega) HLl.out.2.2 (HX2.out w12 H12.out.1).2.2.2.1.size) ?_
  rintro e w13 ⟨rfl, hf13, hr13⟩
  have HLz : Hid (∀ k, Lzn (.slice (some ⟨gw, 0, none⟩) (l.length + 64) cw') L k → k < w1.heap.size) := fun k hk => by
    rcases hk with e | ⟨x, hx, e⟩
    · exact (HQ.out.l.w.lt k e.symm).2
    · exact ((HQ.out.l.r.own x hx).lt k e.symm).2
  have hk13 : ∀ k, w1.heap.size ≤ k → k < w12.heap.size → w13.heap[k]? = w12.heap[k]? := fun k h1 h2 => hf13.block k h2 (fun hh => by have := HLz.out k hh; omega)
  have hs12 : x1.heap.size ≤ w12.heap.size ∧ w2.heap.size ≤ w12.heap.size := ⟨by have h5 := HGb.out.1; have h6 := HGb.out.2.1; have h7 := H12.out.1.size; omega, H12.out.1.size⟩
  have H13 : Hid (Below w.heap.size w w13 ∧ w13.heap[w1.heap.size]? = some (.cells #[.slice (some ⟨gw, 0, none⟩) l.length cw', .slice (some ⟨gw, 0, none⟩) (l.length + 64) cw', .slice ar L.length cr] 25 (0, 0)) ∧ Gm w2.heap.size w13 [(v1, E1), (v2, E1), (.slice (some ⟨gn1, 0, none⟩) (numB n).length 10, numB n), (.slice (some ⟨gn2, 0, none⟩) (numB n).length 10, numB n)] ∧ Fm w2.heap.size w13 [(vd1, Ld1), (vd2, Ld2), (vo1, Lo1), (vo2, Lo2)] ∧ Onb x1.heap.size w13 (.slice (some ⟨gb, 0, none⟩) (b.length + 64) cy) (nuY b ++ y64) ∧ w2.heap.size ≤ w13.heap.size) := by
    have h7 := HGb.out.2.2.1
    have h5 := HGb.out.1
    have h6 := HGb.out.2.1
    refine ⟨(over_below (HX2.out w12 H12.out.1).2.1.l (HX2.out w12 H12.out.1).2.2.2.1 hf13).1, (hk13 _ (Nat.le_refl _) (by omega)).trans (HX2.out w12 H12.out.1).1, H12.out.2.1.keep fun k h1 h2 => hk13 k (by omega) h2, H12.out.2.2.keep fun k h1 h2 => hk13 k (by omega) h2, ?_, Nat.le_trans hs12.2 hf13.size⟩
    exact row_keptH (HX2.out w12 H12.out.1).2.2.2.2.1 fun k e => by
      have e1 : k = gb := by simpa [Value.ownBlock] using e
      have h5 := HGb.out.1; have h6 := HGb.out.2.1
      exact hk13 k (by omega) (by omega)
  have HR13 : Hid (∀ (Q : Nat → Prop) W', Fz Q w13 W' → (∀ k, Q k → k < w12.heap.size ∧ k ≠ gw) → RdZ W' (.slice (some ⟨gw, 0, none⟩) l.length cw') (ovS l.length)) := fun Q W' h1 h2 => hr13 l.length (by omega) Q W' h1 h2
  have HS12 : Hid (gb < w12.heap.size ∧ gb ≠ gw) := by
    have h5 := HGb.out.1; have h6 := HGb.out.2.1; have h7 := HGb.out.2.2.1
    have h8 := HLz.out gw (.inl rfl)
    exact ⟨by omega, by omega⟩
  clear hf13 hr13 hk13 hs12 HX2 H12 HLl HQ HX1
  have d0 := cell_ofY (j := 0) H13.out.2.1 rfl
  go_wp2_with fail
  clear d0
  refine Calls.mono (HEo.out w13 _ (HR13.out (fun _ => False) w13 (Fz.refl _ _) (fun k hk => hk.elim))) ?_
  rintro e w14 ⟨v3, rfl, o3, b14⟩
  have H14 : Hid (Below w13.heap.size w13 w14 ∧ Gm w2.heap.size w14 [(v1, E1), (v2, E1), (v3, E3), (.slice (some ⟨gn1, 0, none⟩) (numB n).length 10, numB n), (.slice (some ⟨gn2, 0, none⟩) (numB n).length 10, numB n)]) := ⟨b14, H13.out.2.2.1.ins (A := [(v1, E1), (v2, E1)]) (C := [(.slice (some ⟨gn1, 0, none⟩) (numB n).length 10, numB n), (.slice (some ⟨gn2, 0, none⟩) (numB n).length 10, numB n)]) o3.obz b14 (Nat.le_refl _) H13.out.2.2.2.2.2⟩
  clear o3 b14
  go_wp2_with fail
  have HOvB : Hid (Calls Tryd.prog 25 #[.slice (some ⟨gb, 0, none⟩) (b.length + 64) cy] w14 fun e w' => e = .returned (.tuple #[]) ∧ w14.grownBy w' (some gb) ∧ (∃ Z, Z.length = b.length + 64 ∧ Onb x1.heap.size w' (.slice (some ⟨gb, 0, none⟩) (b.length + 64) cy) Z ∧ ∀ t, t < b.length + 64 → Z.getD t 0 = (7 * (t : Int)) % 256)) := by
    have hlen : (nuY b ++ y64).length = b.length + 64 := by rw [List.length_append, nuY_len, y64_len]
    have := overY_any x1.heap.size (.slice (some ⟨gb, 0, none⟩) (b.length + 64) cy) (nuY b ++ y64) w14 (H13.out.2.2.2.2.1.below H14.out.1) (by rw [hlen]; have := H8.out.2.2.1; omega)
    rw [hlen] at this
    exact this.mono fun e w' ⟨q1, ⟨Z, z1, z2, z3⟩, q3⟩ => ⟨q1, q3, Z, z1, z2, z3⟩
  refine Calls.mono HOvB.out ?_
  rintro e w15 ⟨rfl, hg15, Z, hz1, hz2, hz3⟩
  have hk15 : ∀ k, k < w14.heap.size → k ≠ gb → w15.heap[k]? = w14.heap[k]? := fun k h1 h2 => hg15.block k h1 (by simpa using h2)
  have H15 : Hid (Below w.heap.size w w15 ∧ w15.heap[w1.heap.size]? = some (.cells #[.slice (some ⟨gw, 0, none⟩) l.length cw', .slice (some ⟨gw, 0, none⟩) (l.length + 64) cw', .slice ar L.length cr] 25 (0, 0)) ∧ Gm w2.heap.size w15 [(v1, E1), (v2, E1), (v3, E3), (.slice (some ⟨gn1, 0, none⟩) (numB n).length 10, numB n), (.slice (some ⟨gn2, 0, none⟩) (numB n).length 10, numB n)] ∧ Fm w2.heap.size w15 [(vd1, Ld1), (vd2, Ld2), (vo1, Lo1), (vo2, Lo2)] ∧ w2.heap.size ≤ w15.heap.size ∧ RdZ w15 (.slice (some ⟨gw, 0, none⟩) l.length cw') (ovS l.length) ∧ RdY w15 (.slice (some ⟨gb, 0, none⟩) b.length cy) (ovY b.length) ∧ Onb x1.heap.size w15 (.slice (some ⟨gb, 0, none⟩) (b.length + 64) cy) (nuY (ovY (b.length + 64)))) := by
    have h5 := HGb.out.1; have h6 := HGb.out.2.1; have h7 := HGb.out.2.2.1
    have hb14 : Below w.heap.size w w14 := H13.out.1.trans (H14.out.1.mono H13.out.1.size)
    have s14 : w2.heap.size ≤ w14.heap.size := Nat.le_trans H13.out.2.2.2.2.2 H14.out.1.size
    have hx0 := World.block_lt_of_cell? w13 _ (cell_ofY (j := 0) H13.out.2.1 rfl)
    have hwx : w.heap.size ≤ gb := by have h9 := HGb.out.2.2.2; omega
    refine ⟨hb14.grown hg15 hb14.size (fun k e => by cases e; exact hwx), ?_, H14.out.2.keep fun k k1 k2 => hk15 k k2 (by omega), (H13.out.2.2.2.1.below H14.out.1).keep fun k k1 k2 => hk15 k k2 (by omega), Nat.le_trans s14 hg15.size, HR13.out (fun k => k = gb) w15 (((Fz.refl _ _).below H14.out.1).grown hg15 (fun g e => by cases e; rfl)) (fun k hk => by rw [hk]; exact HS12.out), ov_rdy hz2 hz1 hz3 (by omega) (by have := H8.out.2.2.1; omega), by rw [← ov_eq hz1 hz3]; exact hz2⟩
    exact (hk15 _ (by omega) (by omega)).trans ((H14.out.1.block _ hx0).trans H13.out.2.1)
  clear hg15 hz1 hz2 hz3 hk15 H13 H14 HR13 HS12 HOvB HLz
  have HX15 : Hid (∀ W, Below w15.heap.size w15 W → W.cell? ⟨w1.heap.size, 0, none⟩ = some (.slice (some ⟨gw, 0, none⟩) l.length cw') ∧ Below w.heap.size w W ∧ RdZ W (.slice (some ⟨gw, 0, none⟩) l.length cw') (ovS l.length) ∧ RdY W (.slice (some ⟨gb, 0, none⟩) b.length cy) (ovY b.length) ∧ RdZ W (.slice al l.length cl) l ∧ RdY W (.slice ab b.length cb) b ∧ Env W) := fun W h => by
    have d0 := cell_ofY (j := 0) H15.out.2.1 rfl
    have hbw : Below w.heap.size w W := H15.out.1.trans (h.mono H15.out.1.size)
    obtain ⟨q1, q2, q3⟩ := HA.out W hbw
    exact ⟨(h.cell (p := ⟨w1.heap.size, 0, none⟩) (World.block_lt_of_cell? w15 _ d0)).trans d0, hbw, H15.out.2.2.2.2.2.1.below h, H15.out.2.2.2.2.2.2.1.below h, q1, q2, q3⟩
  go_wp2_with fail
  refine Calls.mono (HCo.out _ w15 _ (by rw [ovY_len]; exact H8.out.2.2.1) (HX15.out w15 (Below.refl _ _)).2.2.2.1) ?_
  rintro e w16 ⟨vn, rfl, on, b16⟩
  have H16 : Hid (Below w15.heap.size w15 w16 ∧ RdY w16 vn (ovY b.length)) := ⟨b16, on⟩
  clear on b16
  go_wp2_with fail
  refine Calls.mono (HDo.out w16 _ (HX15.out w16 H16.out.1).2.2.2.1) ?_
  rintro e w17 ⟨vd3, rfl, ⟨Ld3, od3, ed3⟩, b17⟩
  have H17 : Hid (Below w15.heap.size w15 w17 ∧ RdY w17 vn (ovY b.length) ∧ Gm w2.heap.size w17 [(v1, E1), (v2, E1), (v3, E3), (.slice (some ⟨gn1, 0, none⟩) (numB n).length 10, numB n), (.slice (some ⟨gn2, 0, none⟩) (numB n).length 10, numB n)] ∧ Fm w2.heap.size w17 [(vd1, Ld1), (vd2, Ld2), (vd3, Ld3), (vo1, Lo1), (vo2, Lo2)]) := ⟨Below.step H16.out.1 b17, H16.out.2.below b17, H15.out.2.2.1.below (Below.step H16.out.1 b17), (H15.out.2.2.2.1.below H16.out.1).ins (A := [(vd1, Ld1), (vd2, Ld2)]) (C := [(vo1, Lo1), (vo2, Lo2)]) od3 b17 (Nat.le_refl _) (Nat.le_trans H15.out.2.2.2.2.1 H16.out.1.size)⟩
  clear od3 b17 H16
  go_wp2_with fail
  refine Calls.mono (HTo.out w17 _ (HX15.out w17 H17.out.1).2.2.2.1) ?_
  rintro e w17' ⟨rfl, hw⟩
  obtain rfl := hw.symm
  clear hw
  have HF : Hid (∀ W, Below w17.heap.size w17 W → Below w15.heap.size w15 W ∧ RdY W vn (ovY b.length) ∧ Gm w2.heap.size W [(v1, E1), (v2, E1), (v3, E3), (.slice (some ⟨gn1, 0, none⟩) (numB n).length 10, numB n), (.slice (some ⟨gn2, 0, none⟩) (numB n).length 10, numB n)] ∧ Fm w2.heap.size W [(vd1, Ld1), (vd2, Ld2), (vd3, Ld3), (vo1, Lo1), (vo2, Lo2)]) := fun W h => ⟨Below.step H17.out.1 h, H17.out.2.1.below h, H17.out.2.2.1.below h, H17.out.2.2.2.below h⟩
  have HG : Hid (∀ W, Below w17.heap.size w17 W → RdY W v1 E1 ∧ RdY W v2 E1 ∧ RdY W v3 E3 ∧ RdY W (.slice (some ⟨gn1, 0, none⟩) (numB n).length 10) (numB n) ∧ RdY W (.slice (some ⟨gn2, 0, none⟩) (numB n).length 10) (numB n)) := fun W h => by
    obtain ⟨-, -, g, -⟩ := HF.out W h
    have l1 := HLe.out.1; have l3 := HLe.out.2; have l4 := H8.out.2.2.2.1
    exact ⟨oby_rdy (g.own (v1, E1) (by simp)).1 (by omega), oby_rdy (g.own (v2, E1) (by simp)).1 (by omega), oby_rdy (g.own (v3, E3) (by simp)).1 (by omega), oby_rdy (g.own (.slice (some ⟨gn1, 0, none⟩) (numB n).length 10, numB n) (by simp)).1 (by omega), oby_rdy (g.own (.slice (some ⟨gn2, 0, none⟩) (numB n).length 10, numB n) (by simp)).1 (by omega)⟩
  have Hs : Hid (svS Ld1 = D1.1 ∧ svS Ld2 = D1.1 ∧ svS Ld3 = D3.1 ∧ svS Lo1 = O1.1 ∧ svS Lo2 = O1.1) := ⟨ed1, ed2, ed3, eo1, eo2⟩
  clear ed1 ed2 ed3 eo1 eo2
  go_wp2_with fail
  refine Calls.mono (HCs.out l w17 _ H8.out.2.2.2.2.2 H8.out.1 (HX15.out w17 H17.out.1).2.2.2.2.1) ?_
  rintro e w18 ⟨vl, rfl, ol, b18⟩
  have H18 : Hid (Below w17.heap.size w17 w18 ∧ RdZ w18 vl l) := ⟨b18, ol⟩
  clear b18 ol H17
  go_wp2_with fail
  refine Calls.mono (HEn.out w18 _ H18.out.2) ?_
  rintro e w19 ⟨ve, rfl, oe, b19⟩
  have H19 : Hid (Below w17.heap.size w17 w19 ∧ RdY w19 ve E1) := ⟨Below.step H18.out.1 b19, oe.rd (by have := HLe.out.1; omega)⟩
  clear b19 oe H18
  go_wp2_with fail
  refine Calls.mono (HCo.out b w19 _ H8.out.2.2.1 (HX15.out w19 (HF.out w19 H19.out.1).1).2.2.2.2.2.1) ?_
  rintro e w20 ⟨vc1, rfl, oc1, b20⟩
  have H20 : Hid (Below w17.heap.size w17 w20 ∧ RdY w20 ve E1 ∧ RdY w20 vc1 b) := ⟨Below.step H19.out.1 b20, H19.out.2.below b20, oc1⟩
  clear b20 oc1 H19
  go_wp2_with fail
  refine Calls.mono (HDe.out w20 _ H20.out.2.2) ?_
  rintro e w21 ⟨vd, rfl, od, b21⟩
  have H21 : Hid (Below w17.heap.size w17 w21 ∧ RdY w21 ve E1 ∧ OwnS w20.heap.size w21 vd D1.1) := ⟨Below.step H20.out.1 b21, H20.out.2.1.below b21, od⟩
  clear b21 od H20
  go_wp2_with fail
  refine Calls.mono (HCo.out b w21 _ H8.out.2.2.1 (HX15.out w21 (HF.out w21 H21.out.1).1).2.2.2.2.2.1) ?_
  rintro e w22 ⟨vc2, rfl, oc2, b22⟩
  have H22 : Hid (Below w17.heap.size w17 w22 ∧ RdY w22 ve E1 ∧ OwnS w20.heap.size w22 vd D1.1 ∧ RdY w22 vc2 b) := ⟨Below.step H21.out.1 b22, H21.out.2.1.below b22, H21.out.2.2.below b22, oc2⟩
  clear b22 oc2 H21
  go_wp2_with fail
  refine Calls.mono (HOp.out w22 _ H22.out.2.2.2 (HX15.out w22 (HF.out w22 H22.out.1).1).2.2.2.2.2.2) ?_
  rintro e w23 ⟨vo, rfl, oo, b23⟩
  have H23 : Hid (∀ W, Below w23.heap.size w23 W → Below w17.heap.size w17 W ∧ RdY W ve E1 ∧ OwnS w20.heap.size W vd D1.1 ∧ OwnS w22.heap.size W vo O1.1) := fun W h => ⟨Below.step H22.out.1 (Below.step b23 h), H22.out.2.1.below (Below.step b23 h), H22.out.2.2.1.below (Below.step b23 h), oo.below h⟩
  clear b23 oo H22
  go_wp2_with fail
  refine Calls.mono (HSY.out E1 w23 _ _ (HG.out w23 (H23.out w23 (Below.refl _ _)).1).1 (H23.out w23 (Below.refl _ _)).2.1) ?_
  rintro e w24 ⟨rfl, b24⟩
  have H24 : Hid (Below w23.heap.size w23 w24) := b24
  clear b24
  go_wp2_with fail
  refine Calls.mono (HSY.out E1 w24 _ _ (HG.out w24 (H23.out w24 H24.out).1).2.1 (H23.out w24 H24.out).2.1) ?_
  rintro e w25 ⟨rfl, b25⟩
  have H25 : Hid (Below w23.heap.size w23 w25) := Below.step H24.out b25
  clear b25 H24
  go_wp2_with fail
  refine Calls.mono (HSS.out D1.1 HLd.out.1 w25 w2.heap.size w20.heap.size vd1 vd ⟨Ld1, (HF.out w25 (H23.out w25 H25.out).1).2.2.2.own (vd1, Ld1) (by simp), Hs.out.1⟩ (H23.out w25 H25.out).2.2.1) ?_
  rintro e w26 ⟨rfl, b26⟩
  have H26 : Hid (Below w23.heap.size w23 w26) := Below.step H25.out b26
  clear b26 H25
  go_wp2_with fail
  refine Calls.mono (HSS.out D1.1 HLd.out.1 w26 w2.heap.size w20.heap.size vd2 vd ⟨Ld2, (HF.out w26 (H23.out w26 H26.out).1).2.2.2.own (vd2, Ld2) (by simp), Hs.out.2.1⟩ (H23.out w26 H26.out).2.2.1) ?_
  rintro e w27 ⟨rfl, b27⟩
  have H27 : Hid (Below w23.heap.size w23 w27) := Below.step H26.out b27
  clear b27 H26
  go_wp2_with fail
  refine Calls.mono (HSS.out O1.1 HLd.out.2.1 w27 w2.heap.size w22.heap.size vo1 vo ⟨Lo1, (HF.out w27 (H23.out w27 H27.out).1).2.2.2.own (vo1, Lo1) (by simp), Hs.out.2.2.2.1⟩ (H23.out w27 H27.out).2.2.2) ?_
  rintro e w28 ⟨rfl, b28⟩
  have H28 : Hid (Below w23.heap.size w23 w28) := Below.step H27.out b28
  clear b28 H27
  go_wp2_with fail
  refine Calls.mono (HSS.out O1.1 HLd.out.2.1 w28 w2.heap.size w22.heap.size vo2 vo ⟨Lo2, (HF.out w28 (H23.out w28 H28.out).1).2.2.2.own (vo2, Lo2) (by simp), Hs.out.2.2.2.2⟩ (H23.out w28 H28.out).2.2.2) ?_
  rintro e w29 ⟨rfl, b29⟩
  have H29 : Hid (Below w23.heap.size w23 w29) := Below.step H28.out b29
  clear b29 H28
  go_wp2_with fail
  refine Calls.mono (HSY.out (numB n) w29 _ _ (HG.out w29 (H23.out w29 H29.out).1).2.2.2.1 (HG.out w29 (H23.out w29 H29.out).1).2.2.2.2) ?_
  rintro e w30 ⟨rfl, b30⟩
  have H30 : Hid (Below w17.heap.size w17 w30) := (H23.out w30 (Below.step H29.out b30)).1
  clear b30 H29 H23
  have hpos := H8.out.2.2.2.2.1
  go_wp2_with fail
  clear hpos
  refine Calls.mono (HCo.out b w30 _ H8.out.2.2.1 (HX15.out w30 (HF.out w30 H30.out).1).2.2.2.2.2.1) ?_
  rintro e w31 ⟨vc3, rfl, oc3, b31⟩
  have H31 : Hid (Below w17.heap.size w17 w31 ∧ RdY w31 vc3 b) := ⟨Below.step H30.out b31, oc3⟩
  clear b31 oc3 H30
  go_wp2_with fail
  refine Calls.mono (HTa.out w31 _ H31.out.2) ?_
  rintro e w31' ⟨rfl, hw⟩
  obtain rfl := hw.symm
  clear hw
  go_wp2_with fail
  refine Calls.mono (HCo.out _ w31 _ (by rw [ovY_len]; exact H8.out.2.2.1) (HF.out w31 H31.out.1).2.1) ?_
  rintro e w32 ⟨vc4, rfl, oc4, b32⟩
  have H32 : Hid (Below w17.heap.size w17 w32 ∧ RdY w32 vc4 (ovY b.length)) := ⟨Below.step H31.out.1 b32, oc4⟩
  clear b32 oc4 H31
  go_wp2_with fail
  refine Calls.mono (HTo.out w32 _ H32.out.2) ?_
  rintro e w32' ⟨rfl, hw⟩
  obtain rfl := hw.symm
  clear hw
  go_wp2_with fail
  refine Calls.mono (HCo.out _ w32 _ (by rw [ovY_len]; exact H8.out.2.2.1) (HF.out w32 H32.out.1).2.1) ?_
  rintro e w33 ⟨vc5, rfl, oc5, b33⟩
  have H33 : Hid (Below w17.heap.size w17 w33 ∧ RdY w33 vc5 (ovY b.length)) := ⟨Below.step H32.out.1 b33, oc5⟩
  clear b33 oc5 H32
  go_wp2_with fail
  refine Calls.mono (HDo.out w33 _ H33.out.2) ?_
  rintro e w34 ⟨vd4, rfl, od4, b34⟩
  have H34 : Hid (Below w17.heap.size w17 w34 ∧ OwnS w33.heap.size w34 vd4 D3.1) := ⟨Below.step H33.out.1 b34, od4⟩
  clear b34 od4 H33
  have d0 := (HX15.out w34 (HF.out w34 H34.out.1).1).1
  go_wp2_with fail
  clear d0
  have HOl : Hid ((ovS l.length).length * 32 ≤ 140737488351232 ∧ ∀ x ∈ ovS l.length, x.2.length * 8 ≤ 140737488351232) := by
    refine ⟨by rw [ovS_len]; exact H8.out.2.2.2.2.2, fun x hx => ?_⟩
    obtain ⟨k, _, rfl⟩ := List.mem_map.1 hx
    show 2 * 8 ≤ _
    omega
  refine Calls.mono (HCs.out (ovS l.length) w34 _ HOl.out.1 HOl.out.2 (HX15.out w34 (HF.out w34 H34.out.1).1).2.2.1) ?_
  rintro e w35 ⟨vl2, rfl, ol2, b35⟩
  have H35 : Hid (Below w17.heap.size w17 w35 ∧ OwnS w33.heap.size w35 vd4 D3.1 ∧ RdZ w35 vl2 (ovS l.length)) := ⟨Below.step H34.out.1 b35, H34.out.2.below b35, ol2⟩
  clear b35 ol2 H34
  go_wp2_with fail
  refine Calls.mono (HEo.out w35 _ H35.out.2.2) ?_
  rintro e w36 ⟨ve4, rfl, oe4, b36⟩
  have H36 : Hid (Below w17.heap.size w17 w36 ∧ OwnS w33.heap.size w36 vd4 D3.1 ∧ RdY w36 ve4 E3) := ⟨Below.step H35.out.1 b36, H35.out.2.1.below b36, oe4.rd (by have := HLe.out.2; omega)⟩
  clear b36 oe4 H35
  go_wp2_with fail
  refine Calls.mono (HSS.out D3.1 HLd.out.2.2 w36 w2.heap.size w33.heap.size vd3 vd4 ⟨Ld3, (HF.out w36 H36.out.1).2.2.2.own (vd3, Ld3) (by simp), Hs.out.2.2.1⟩ H36.out.2.1) ?_
  rintro e w37 ⟨rfl, b37⟩
  have H37 : Hid (Below w17.heap.size w17 w37 ∧ RdY w37 ve4 E3) := ⟨Below.step H36.out.1 b37, H36.out.2.2.below b37⟩
  clear b37 H36
  go_wp2_with fail
  refine Calls.mono (HSY.out E3 w37 _ _ (HG.out w37 H37.out.1).2.2.1 H37.out.2) ?_
  rintro e w38 ⟨rfl, b38⟩
  have H38 : Hid (Below w17.heap.size w17 w38) := Below.step H37.out.1 b38
  clear b38 H37
  obtain ⟨ad1, cd1, ev1⟩ : ∃ a c, vd1 = .slice a Ld1.length c := row_formz ((HF.out w38 H38.out).2.2.2.own (vd1, Ld1) (by simp)).row
  obtain ⟨ad2, cd2, ev2⟩ : ∃ a c, vd2 = .slice a Ld2.length c := row_formz ((HF.out w38 H38.out).2.2.2.own (vd2, Ld2) (by simp)).row
  obtain ⟨ad3, cd3, ev3⟩ : ∃ a c, vd3 = .slice a Ld3.length c := row_formz ((HF.out w38 H38.out).2.2.2.own (vd3, Ld3) (by simp)).row
  obtain ⟨ao1, co1, ev4⟩ : ∃ a c, vo1 = .slice a Lo1.length c := row_formz ((HF.out w38 H38.out).2.2.2.own (vo1, Lo1) (by simp)).row
  obtain ⟨ao2, co2, ev5⟩ : ∃ a c, vo2 = .slice a Lo2.length c := row_formz ((HF.out w38 H38.out).2.2.2.own (vo2, Lo2) (by simp)).row
  obtain ⟨ae1, ce1, ev6⟩ : ∃ a c, v1 = .slice a E1.length c := by
    have h5 := Ory.slice ((HF.out w38 H38.out).2.2.1.own (v1, E1) (by simp)).1
    rw [nuY_len] at h5; exact h5
  obtain ⟨ae2, ce2, ev7⟩ : ∃ a c, v2 = .slice a E1.length c := by
    have h5 := Ory.slice ((HF.out w38 H38.out).2.2.1.own (v2, E1) (by simp)).1
    rw [nuY_len] at h5; exact h5
  obtain ⟨ae3, ce3, ev8⟩ : ∃ a c, v3 = .slice a E3.length c := by
    have h5 := Ory.slice ((HF.out w38 H38.out).2.2.1.own (v3, E3) (by simp)).1
    rw [nuY_len] at h5; exact h5
  subst ev1 ev2 ev3 ev4 ev5 ev6 ev7 ev8
  have HAP : Hid (Calls Tryd.prog 17 #[.slice (some ⟨w38.heap.size, 0, none⟩) 5 5] (w38.alloc (.cells #[.slice ad1 Ld1.length cd1, .slice ad2 Ld2.length cd2, .slice ad3 Ld3.length cd3, .slice ao1 Lo1.length co1, .slice ao2 Lo2.length co2] 22)) fun e w' => e = .returned (.bool true) ∧ Below w.heap.size w w' ∧ Gm w2.heap.size w' [(.slice ae1 E1.length ce1, E1), (.slice ae2 E1.length ce2, E1), (.slice ae3 E3.length ce3, E3), (.slice (some ⟨gn1, 0, none⟩) (numB n).length 10, numB n), (.slice (some ⟨gn2, 0, none⟩) (numB n).length 10, numB n)] ∧ Obz x1.heap.size w' (.slice (some ⟨gb, 0, none⟩) (b.length + 64) cy) (ovY (b.length + 64)) ∧ w2.heap.size ≤ w'.heap.size) := by
    have hb := below_box w38 (.cells #[.slice ad1 Ld1.length cd1, .slice ad2 Ld2.length cd2, .slice ad3 Ld3.length cd3, .slice ao1 Lo1.length co1, .slice ao2 Lo2.length co2] 22)
    have hbb := Below.step H38.out hb
    obtain ⟨b15, -, gm, fm⟩ := HF.out _ hbb
    have s8 : w2.heap.size ≤ w38.heap.size := Nat.le_trans H15.out.2.2.2.2.1 (HF.out w38 H38.out).1.size
    have hrow : (w38.alloc (.cells #[.slice ad1 Ld1.length cd1, .slice ad2 Ld2.length cd2, .slice ad3 Ld3.length cd3, .slice ao1 Lo1.length co1, .slice ao2 Lo2.length co2] 22)).ownsRow w2.heap.size 22 1 (.slice (some ⟨w38.heap.size, 0, none⟩) 5 5) 5 [.slice ad1 Ld1.length cd1, .slice ad2 Ld2.length cd2, .slice ad3 Ld3.length cd3, .slice ao1 Lo1.length co1, .slice ao2 Lo2.length co2] := ⟨rfl, .inr ⟨w38.heap.size, 5, _, rfl, s8, World.alloc_heap_new w38 _, Nat.le_refl _, by unfold maxLen; decide, rfl, rfl⟩⟩
    have l1 : Ld1.length = D1.1.length := by rw [← Hs.out.1, svS_len]
    have l2 : Ld2.length = D1.1.length := by rw [← Hs.out.2.1, svS_len]
    have l3 : Ld3.length = D3.1.length := by rw [← Hs.out.2.2.1, svS_len]
    have l4 : Lo1.length = O1.1.length := by rw [← Hs.out.2.2.2.1, svS_len]
    have l5 : Lo2.length = O1.1.length := by rw [← Hs.out.2.2.2.2, svS_len]
    have hfl := HLd.out
    have hone : ∀ (P : List SV) (R : List Stp), svS P = R → (∀ x ∈ R, x.2.length ≤ 1048576) → ∀ x ∈ P.map Prod.snd, x.2.length * 8 ≤ 140737488353280 := fun P R e h x hx => by
      obtain ⟨y, hy, rfl⟩ := List.mem_map.1 hx
      have h5 : (y.1, y.2.2) ∈ svS P := List.mem_map_of_mem (f := fun x : SV => (x.1, x.2.2)) hy
      rw [e] at h5
      have := h _ h5
      simp only at this
      omega
    have hby := (onb_obz H15.out.2.2.2.2.2.2.2).keep (W' := w38.alloc (.cells #[.slice ad1 Ld1.length cd1, .slice ad2 Ld2.length cd2, .slice ad3 Ld3.length cd3, .slice ao1 Lo1.length co1, .slice ao2 Lo2.length co2] 22)) (fun k e => b15.block k ((Ory.lt (onb_obz H15.out.2.2.2.2.2.2.2).1 k e.symm).2))
    refine (proofs_of (W0 := w) (fun k => ∃ y ∈ [(Value.slice ae1 E1.length ce1, E1), (.slice ae2 E1.length ce2, E1), (.slice ae3 E3.length ce3, E3), (.slice (some ⟨gn1, 0, none⟩) (numB n).length 10, numB n), (.slice (some ⟨gn2, 0, none⟩) (numB n).length 10, numB n)], some k = y.1.ownBlock) _ fm (Nat.le_trans s8 hb.size) hrow (by simp) ?_ ?_ (fun k hk => ?_) ?_).mono ?_
    · simp only [flZ, List.flatMap_cons, List.flatMap_nil, List.length_append, List.length_map, List.length_nil]
      omega
    · intro x hx
      simp only [flZ, List.flatMap_cons, List.flatMap_nil, List.mem_append, List.append_nil] at hx
      rcases hx with hx | hx | hx | hx | hx
      · exact hone Ld1 _ Hs.out.1 hfl.1.2 x hx
      · exact hone Ld2 _ Hs.out.2.1 hfl.1.2 x hx
      · exact hone Ld3 _ Hs.out.2.2.1 hfl.2.2.2 x hx
      · exact hone Lo1 _ Hs.out.2.2.2.1 hfl.2.1.2 x hx
      · exact hone Lo2 _ Hs.out.2.2.2.2 hfl.2.1.2 x hx
    · obtain ⟨y, hy, e⟩ := hk
      exact (gm.lt hy e).2
    · rintro x hx k hk ⟨y, hy, e⟩
      exact steps_bytes fm gm hx hy hk e
    · rintro e w' ⟨h1, h2, h3⟩
      have hww : Below w.heap.size w (w38.alloc (.cells #[.slice ad1 Ld1.length cd1, .slice ad2 Ld2.length cd2, .slice ad3 Ld3.length cd3, .slice ao1 Lo1.length co1, .slice ao2 Lo2.length co2] 22)) := (HX15.out _ b15).2.1
      have h5 := HGb.out.1; have h6 := HGb.out.2.1; have h7 := HGb.out.2.2.2
      refine ⟨h1, hww.trans (h2.mono (by omega)), gm.keepB fun y hy k e => h3 k ⟨y, hy, e⟩, hby.keep fun k e => ?_, Nat.le_trans (Nat.le_trans s8 hb.size) h2.size⟩
      have e4 : k = gb := by simpa [Value.ownBlock] using e
      exact h2.block k (by omega)
  go_wp2_with fail
  refine Calls.mono HAP.out ?_
  rintro e w39 ⟨rfl, b39, gm, oby9, s39⟩
  have HAY : Hid (Calls Tryd.prog 28 #[.slice (some ⟨w39.heap.size, 0, none⟩) 6 6] (w39.alloc (.cells #[.slice ae1 E1.length ce1, .slice ae2 E1.length ce2, .slice ae3 E3.length ce3, .slice (some ⟨gn1, 0, none⟩) (numB n).length 10, .slice (some ⟨gn2, 0, none⟩) (numB n).length 10, .slice (some ⟨gb, 0, none⟩) (b.length + 64) cy] 44)) fun e w' => e = .returned (.bool true) ∧ Below w.heap.size w w') := by
    have hb := below_box w39 (.cells #[.slice ae1 E1.length ce1, .slice ae2 E1.length ce2, .slice ae3 E3.length ce3, .slice (some ⟨gn1, 0, none⟩) (numB n).length 10, .slice (some ⟨gn2, 0, none⟩) (numB n).length 10, .slice (some ⟨gb, 0, none⟩) (b.length + 64) cy] 44)
    have h5 := HGb.out.1; have h6 := HGb.out.2.1; have h7 := HGb.out.2.2.2
    have g2 := (gm.old oby9 (by omega) (fun k e => by
      have e4 : gb = k := by simpa [Value.ownBlock] using e
      omega)).below hb
    have hrow : (w39.alloc (.cells #[.slice ae1 E1.length ce1, .slice ae2 E1.length ce2, .slice ae3 E3.length ce3, .slice (some ⟨gn1, 0, none⟩) (numB n).length 10, .slice (some ⟨gn2, 0, none⟩) (numB n).length 10, .slice (some ⟨gb, 0, none⟩) (b.length + 64) cy] 44)).ownsRow x1.heap.size 44 1 (.slice (some ⟨w39.heap.size, 0, none⟩) 6 6) 6 [.slice ae1 E1.length ce1, .slice ae2 E1.length ce2, .slice ae3 E3.length ce3, .slice (some ⟨gn1, 0, none⟩) (numB n).length 10, .slice (some ⟨gn2, 0, none⟩) (numB n).length 10, .slice (some ⟨gb, 0, none⟩) (b.length + 64) cy] := ⟨rfl, .inr ⟨w39.heap.size, 6, _, rfl, by omega, World.alloc_heap_new w39 _, Nat.le_refl _, by unfold maxLen; decide, rfl, rfl⟩⟩
    refine (bytes_of _ g2 (Nat.le_trans (by omega) hb.size) hrow (by simp) (fun x hx => ?_)).mono fun e w' ⟨q1, q2⟩ => ⟨q1, (b39.trans (hb.mono (by have := b39.size; omega))).trans (q2.mono (by omega))⟩
    have q1 := HLe.out.1; have q2 := HLe.out.2; have q3 := H8.out.2.2.2.1; have q4 := H8.out.2.2.1
    simp only [List.cons_append, List.nil_append, List.mem_cons, List.not_mem_nil, or_false] at hx
    rcases hx with rfl | rfl | rfl | rfl | rfl | rfl
    · show E1.length ≤ _; omega
    · show E1.length ≤ _; omega
    · show E3.length ≤ _; omega
    · show (numB n).length ≤ _; omega
    · show (numB n).length ≤ _; omega
    · show (ovY _).length ≤ _; rw [ovY_len]; omega
  clear gm oby9 HAP
  go_wp2_with fail
  refine Calls.mono HAY.out ?_
  rintro e w40 ⟨rfl, b40⟩
  have HBF : Hid (Below w.heap.size w w40) := b40
  clear b40
  go_wp2
  go_ret
  exact ⟨rfl, HBF.out⟩

end packKeeps
end Go.Proofs.YtilcokpaeapmeaaDoor

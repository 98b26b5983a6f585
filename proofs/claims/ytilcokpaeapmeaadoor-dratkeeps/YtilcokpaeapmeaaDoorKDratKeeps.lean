/-
  DratKeeps, walked.
  KEEP: set on app at below new trans refl start ap kept rd rds mono own row cells lt box from cell of nil len ans add none keep rdz form ob q keepB ltB cellsB snoc k walk main i l ls ms b s m x y f
-/
import Derived.Test.YtilcokpaeapmeaaDoorKDkZ
import Derived.Test.YtilcokpaeapmeaaDoorKStL
import Derived.Test.YtilcokpaeapmeaaDoorKRDrW
import Derived.Test.YtilcokpaeapmeaaDoorKDrRe
import Derived.Test.YtilcokpaeapmeaaDoorJDrR
import Derived.Test.YtilcokpaeapmeaaDoorKOpenZ
set_option linter.unusedSimpArgs false
set_option linter.unusedVariables false
namespace Go.Proofs.YtilcokpaeapmeaaDoor
open Go Go.RowKit Go.Shelf
namespace dratKeeps
attribute [local go_sem] Oper.semAt_some

theorem cell_ofZ {W : World} {D j : Nat} {cs : Array Value} {t : TypeId} {f : Nat × Nat} {x : Value} (h : W.heap[D]? = some (.cells cs t f)) (hj : cs[j]? = some x) : W.cell? ⟨D, j, none⟩ = some x := by
  simp only [World.cell?, h]
  simpa using hj
set_option maxRecDepth 20000 in
theorem func_nilZ (k : Nat) (lb : Array Value) (w : World) : (binOp BinOp.eql 36 (.func (.func k) #[] lb) .nilFunc).run Tryd.prog w = .ok (.bool false) w := by rfl
theorem env_below {w W : World} (h : Env w) (hb : Below w.heap.size w W) : Env W := Env.below h hb
/-- the steps that a text says -/
def FRz (s : ByteArray) : List Stp := if (parD s.data.toList).2 = 0 then (parD s.data.toList).1 else []
theorem fr_len (s : ByteArray) (h : s.data.toList.length ≤ 1048576) : (FRz s).length ≤ 1048576 ∧ ∀ x ∈ FRz s, x.2.length ≤ 1048576 := by
  obtain ⟨h1, h2⟩ := par_len s.data.toList
  unfold FRz
  split
  · exact ⟨by omega, fun x hx => by have := h2 x hx; omega⟩
  · exact ⟨by simp, fun x hx => by cases hx⟩
theorem red_fr (s : ByteArray) : (redB s.data.toList).1 = FRz s := by unfold redB FRz; split <;> rfl
theorem ba_lenZ (s : ByteArray) : s.data.toList.length = s.size := Array.length_toList
theorem rd_ofS {B : Nat} {W : World} {u : Value} {l : List Stp} (h : OwnS B W u l) (h1 : l.length ≤ 1048576) (h2 : ∀ x ∈ l, x.2.length ≤ 1048576) : RdZ W u l := h.rdz (by omega) (fun x hx => by have := h2 x hx; omega)

set_option maxRecDepth 100000 in
set_option maxHeartbeats 12800000 in
theorem walk (sl : Value) (l : List Stp) (sm : Value) (m : List Stp) (S T : ByteArray) (w : World) (hl : RdZ w sl l) (hm : RdZ w sm m) (hbl : stpN l ≤ 1048576) (hbm : stpN m ≤ 1048576) (hS : S.data.toList.length ≤ 1048576) (hT : T.data.toList.length ≤ 1048576) (he : Env w) :
    Calls Tryd.prog 3 #[sl, sm, .string S, .string T] w fun e w' => e = .returned (.bool true) ∧ Below w.heap.size w w' := by
  unfold stpN at hbl hbm
  obtain ⟨al, cl, rfl, -, -, -⟩ := hl.form
  obtain ⟨am, cm, rfl, -, -, -⟩ := hm.form
  have H8l : Hid ((∀ x ∈ l, x.2.length * 8 ≤ 140737488351232) ∧ (∀ x ∈ m, x.2.length * 8 ≤ 140737488351232) ∧ l.length ≤ 1048576 ∧ m.length * 32 ≤ 140737488351232) := ⟨rdz_each hl, rdz_each hm, by omega, hm.len⟩
  have HA : Hid (∀ W, Below w.heap.size w W → RdZ W (.slice al l.length cl) l ∧ RdZ W (.slice am m.length cm) m ∧ Env W) := fun W h => ⟨hl.below h, hm.below h, env_below he h⟩
  obtain ⟨t1, ht1⟩ : ∃ t : ByteArray, (⟨(if sndS l then drW l else []).toArray⟩ : ByteArray) = t := ⟨_, rfl⟩
  obtain ⟨e1, he1⟩ : ∃ e : Int, (if sndS l then (0 : Int) else 1) = e := ⟨_, rfl⟩
  have HW1 : Hid (∀ W s', RdZ W s' l → Env W → (Calls Tryd.prog 6 #[s'] W fun e w' => e = .returned (.tuple #[.string t1, .int .i64 e1]) ∧ Below W.heap.size W w') ∧ (Calls Tryd.prog 7 #[s'] W fun e w' => e = .returned (.tuple #[.string t1, .int .i64 e1]) ∧ Below W.heap.size W w')) := fun W s' h h5 => by
    have q1 := drWrite_any s' l W h (wz_st hbl) h5.1
    have q2 := rDrWrite_any s' l W h (wz_st hbl) h5.1
    rw [ht1, he1] at q1 q2; exact ⟨q1, q2⟩
  obtain ⟨t2, ht2⟩ : ∃ t : ByteArray, (⟨(if sndS (ovS l.length) then drW (ovS l.length) else []).toArray⟩ : ByteArray) = t := ⟨_, rfl⟩
  obtain ⟨e2, he2⟩ : ∃ e : Int, (if sndS (ovS l.length) then (0 : Int) else 1) = e := ⟨_, rfl⟩
  have HW2 : Hid (∀ W s', RdZ W s' (ovS l.length) → Env W → (Calls Tryd.prog 6 #[s'] W fun e w' => e = .returned (.tuple #[.string t2, .int .i64 e2]) ∧ Below W.heap.size W w') ∧ (Calls Tryd.prog 7 #[s'] W fun e w' => e = .returned (.tuple #[.string t2, .int .i64 e2]) ∧ Below W.heap.size W w')) := fun W s' h h5 => by
    have q1 := drWrite_any s' _ W h (wz_ov _ (by omega)) h5.1
    have q2 := rDrWrite_any s' _ W h (wz_ov _ (by omega)) h5.1
    rw [ht2, he2] at q1 q2; exact ⟨q1, q2⟩
  obtain ⟨t3, ht3⟩ : ∃ t : ByteArray, (⟨(if sndS m then drW m else []).toArray⟩ : ByteArray) = t := ⟨_, rfl⟩
  obtain ⟨e3, he3⟩ : ∃ e : Int, (if sndS m then (0 : Int) else 1) = e := ⟨_, rfl⟩
  have HW3 : Hid (∀ W s', RdZ W s' m → Env W → Calls Tryd.prog 6 #[s'] W fun e w' => e = .returned (.tuple #[.string t3, .int .i64 e3]) ∧ Below W.heap.size W w') := fun W s' h h5 => by
    have q1 := drWrite_any s' m W h (wz_st hbm) h5.1
    rw [ht3, he3] at q1; exact q1
  have hSs : S.size ≤ 1099511627776 := by rw [← ba_lenZ]; omega
  have hTs : T.size ≤ 1099511627776 := by rw [← ba_lenZ]; omega
  have HRe : Hid (∀ s : ByteArray, s.size ≤ 1099511627776 → ∀ W, Env W → Calls Tryd.prog 11 #[.string s] W fun e w' => ∃ (v : Value) (e2 e3 : Int), e = .returned (.tuple #[v, .int .i64 e2, .int .i64 e3]) ∧ OwnS W.heap.size w' v (FRz s) ∧ Below W.heap.size W w') := fun s h W h5 => (readD_any s W h h5).mono fun e w' ⟨v, q1, q2, q3, q4⟩ => ⟨v, _, _, q1, q2, q4⟩
  have HRr : Hid (∀ s : ByteArray, s.size ≤ 1099511627776 → ∀ W, Calls Tryd.prog 15 #[.string s] W fun e w' => ∃ (v : Value) (e2 e3 : Int), e = .returned (.tuple #[v, .int .i64 e2, .int .i64 e3]) ∧ OwnS W.heap.size w' v (FRz s) ∧ Below W.heap.size W w') := fun s h W => (rRead_any s W h).mono fun e w' ⟨v, q1, q2, q3⟩ => ⟨v, _, _, q1, by rw [← red_fr]; exact q2, q3⟩
  obtain ⟨FS, hFS⟩ : ∃ FS, FS = (parD S.data.toList).1 := ⟨_, rfl⟩
  have HFl : Hid ((FS.length ≤ 1048576 ∧ ∀ x ∈ FS, x.2.length ≤ 1048576) ∧ ((FRz S).length ≤ 1048576 ∧ ∀ x ∈ FRz S, x.2.length ≤ 1048576) ∧ ((FRz T).length ≤ 1048576 ∧ ∀ x ∈ FRz T, x.2.length ≤ 1048576)) := by
    refine ⟨?_, fr_len S hS, fr_len T hT⟩
    obtain ⟨h1, h2⟩ := par_len S.data.toList
    rw [hFS]
    exact ⟨by omega, fun x hx => by have := h2 x hx; omega⟩
  have HSt : Hid (∀ W, Calls Tryd.prog 13 #[.string S] W fun e w' => ∃ v, e = .returned v ∧ OwnS W.heap.size w' v FS ∧ Below W.heap.size W w') := fun W => by rw [hFS]; exact rSteps_any S W hSs
  have HHd : Hid (∀ W Bs, W.cell? ⟨Bs, 0, none⟩ = some (.string S) → Env W → Calls Tryd.prog 14 #[.func (.func 40) #[] #[.pointer (some ⟨Bs, 0, none⟩)], .int .i64 FS.length] W fun e w' => ∃ u, e = .returned u ∧ OwnS W.heap.size w' u FS ∧ Below W.heap.size W w') := fun W Bs h h5 => handed_any S Bs FS W hFS h hSs (by have := HFl.out.1.1; omega) h5
  have HSS : Hid (∀ (L : List Stp), (L.length ≤ 1048576 ∧ ∀ x ∈ L, x.2.length ≤ 1048576) → ∀ W B1 B2 u v, OwnS B1 W u L → OwnS B2 W v L → Calls Tryd.prog 16 #[u, v] W fun e w' => e = .returned (.bool true) ∧ Below W.heap.size W w') := fun L hL W B1 B2 u v h1 h2 => by
    have := sameSteps_any u v L L W (rd_ofS h1 hL.1 hL.2) (rd_ofS h2 hL.1 hL.2)
    rw [show (L == L) = true from beq_self_eq_true L] at this
    exact this
  have hnil := func_nilZ 40
  have HRS : Hid (∀ W, Env W → Calls Tryd.prog 11 #[.string S] W fun e w' => ∃ (v : Value) (e2 e3 : Int), e = .returned (.tuple #[v, .int .i64 e2, .int .i64 e3]) ∧ OwnS W.heap.size w' v (FRz S) ∧ Below W.heap.size W w') := HRe.out S hSs
  have HRT : Hid (∀ W, Env W → Calls Tryd.prog 11 #[.string T] W fun e w' => ∃ (v : Value) (e2 e3 : Int), e = .returned (.tuple #[v, .int .i64 e2, .int .i64 e3]) ∧ OwnS W.heap.size w' v (FRz T) ∧ Below W.heap.size W w') := HRe.out T hTs
  have HDS : Hid (∀ W, Calls Tryd.prog 15 #[.string S] W fun e w' => ∃ (v : Value) (e2 e3 : Int), e = .returned (.tuple #[v, .int .i64 e2, .int .i64 e3]) ∧ OwnS W.heap.size w' v (FRz S) ∧ Below W.heap.size W w') := HRr.out S hSs
  have HDT : Hid (∀ W, Calls Tryd.prog 15 #[.string T] W fun e w' => ∃ (v : Value) (e2 e3 : Int), e = .returned (.tuple #[v, .int .i64 e2, .int .i64 e3]) ∧ OwnS W.heap.size w' v (FRz T) ∧ Below W.heap.size W w') := HRr.out T hTs
  have HLent := (show Hid _ from lentSteps_any (.slice al l.length cl) l w hl (by omega))
  clear hl hm hbl hbm hS hT he ht1 he1 ht2 he2 ht3 he3 hSs hTs hFS HRe HRr
  go_enter Tryd.func3, Tryd.ntmps3
  go_wp2_with fail
  refine Calls.mono HLent.out ?_
  rintro e w1 ⟨vi, vw, vr, L, M, rfl, hq⟩
  clear HLent
  obtain ⟨gw, cw, evw, hcw, hcm, -, -⟩ := hq.k.vwF
  obtain ⟨aw', cw', evw', evi⟩ := hq.i
  rw [evw] at evw'
  have e9 : aw' = some ⟨gw, 0, none⟩ ∧ cw' = cw := by injection evw' with q1 q2 q3; exact ⟨q1.symm, q3.symm⟩
  obtain ⟨rfl, rfl⟩ := e9
  subst evw; subst evi
  obtain ⟨ar, cr, er⟩ := row_form hq.l.r.row
  subst er
  have HQ : Hid (Lzf w w1 (.slice (some ⟨gw, 0, none⟩) l.length cw') (.slice (some ⟨gw, 0, none⟩) (l.length + 64) cw') (.slice ar L.length cr) l L M) := hq
  have HX1 : Hid (Below w.heap.size w (w1.alloc (.cells #[.slice (some ⟨gw, 0, none⟩) l.length cw', .slice (some ⟨gw, 0, none⟩) (l.length + 64) cw', .slice ar L.length cr] 25)) ∧ (w1.alloc (.cells #[.slice (some ⟨gw, 0, none⟩) l.length cw', .slice (some ⟨gw, 0, none⟩) (l.length + 64) cw', .slice ar L.length cr] 25)).heap[w1.heap.size]? = some (.cells #[.slice (some ⟨gw, 0, none⟩) l.length cw', .slice (some ⟨gw, 0, none⟩) (l.length + 64) cw', .slice ar L.length cr] 25 (0, 0)) ∧ w1.heap.size < (w1.alloc (.cells #[.slice (some ⟨gw, 0, none⟩) l.length cw', .slice (some ⟨gw, 0, none⟩) (l.length + 64) cw', .slice ar L.length cr] 25)).heap.size) := ⟨Below.step hq.b (below_box _ _), World.alloc_heap_new _ _, (by simp)⟩
  have HX : Hid (∀ W, Below (w1.alloc (.cells #[.slice (some ⟨gw, 0, none⟩) l.length cw', .slice (some ⟨gw, 0, none⟩) (l.length + 64) cw', .slice ar L.length cr] 25)).heap.size (w1.alloc (.cells #[.slice (some ⟨gw, 0, none⟩) l.length cw', .slice (some ⟨gw, 0, none⟩) (l.length + 64) cw', .slice ar L.length cr] 25)) W →
      W.heap[w1.heap.size]? = some (.cells #[.slice (some ⟨gw, 0, none⟩) l.length cw', .slice (some ⟨gw, 0, none⟩) (l.length + 64) cw', .slice ar L.length cr] 25 (0, 0)) ∧ Kz w.heap.size W (.slice (some ⟨gw, 0, none⟩) (l.length + 64) cw') (.slice ar L.length cr) l L M ∧ RdZ W (.slice (some ⟨gw, 0, none⟩) l.length cw') l ∧ Below w.heap.size w W) := fun W h => by
    have hx := (h.block _ HX1.out.2.2).trans HX1.out.2.1
    have lk := HQ.out.k.below (Below.step (below_box _ _) h)
    refine ⟨hx, lk, lk.rdz (by have := H8l.out.2.2.1; omega) (fun k hk => ?_), Below.step HX1.out.1 h⟩
    have := H8l.out.1 (l.getD k (false, [])) (by rw [List.getD_eq_getElem?_getD, List.getElem?_eq_getElem hk]; exact List.getElem_mem hk)
    exact this
  clear hq hcw hcm evw'
  have d0 := cell_ofZ (j := 0) HX1.out.2.1 rfl
  go_wp2_with fail
  generalize w1.alloc (.cells #[.slice (some ⟨gw, 0, none⟩) l.length cw', .slice (some ⟨gw, 0, none⟩) (l.length + 64) cw', .slice ar L.length cr] 25) = x1 at *
  clear d0
  refine Calls.mono (HW1.out x1 _ (HX.out x1 (Below.refl _ _)).2.2.1 (HA.out x1 HX1.out.1).2.2).1 ?_
  rintro e w2 ⟨rfl, b2⟩
  have HB2 : Hid (Below x1.heap.size x1 w2) := b2
  clear b2
  go_wp2_with fail
  refine Calls.mono (HW1.out w2 _ (HA.out w2 (HX.out w2 HB2.out).2.2.2).1 (HA.out w2 (HX.out w2 HB2.out).2.2.2).2.2).2 ?_
  rintro e w3 ⟨rfl, b3⟩
  have HB3 : Hid (Below x1.heap.size x1 w3) := Below.step HB2.out b3
  clear b3 HB2
  have d0 := cell_ofZ (j := 0) (HX.out w3 HB3.out).1 rfl
  have d1 := cell_ofZ (j := 1) (HX.out w3 HB3.out).1 rfl
  have d2 := cell_ofZ (j := 2) (HX.out w3 HB3.out).1 rfl
  go_wp2_with fail
  refine Calls.mono (keptSteps_any w.heap.size _ _ _ _ l L M w3 (HX.out w3 HB3.out).2.1 (HA.out w3 (HX.out w3 HB3.out).2.2.2).1 (by have := H8l.out.2.2.1; omega)) ?_
  rintro e w4 ⟨rfl, b4⟩
  have HB4 : Hid (Below x1.heap.size x1 w4) := Below.step HB3.out b4
  clear b4 HB3 d0 d1 d2
  go_wp2_with fail
  refine Calls.mono (copySteps_any _ m w4 (HA.out w4 (HX.out w4 HB4.out).2.2.2).2.1) ?_
  rintro e w5 ⟨um, rfl, om, b5⟩
  have HB5 : Hid (Below x1.heap.size x1 w5 ∧ RdZ w5 um m) := ⟨Below.step HB4.out b5, om.rdz H8l.out.2.2.2 H8l.out.2.1⟩
  clear b5 om HB4
  go_wp2_with fail
  refine Calls.mono (HW3.out w5 um HB5.out.2 (HA.out w5 (HX.out w5 HB5.out.1).2.2.2).2.2) ?_
  rintro e w6 ⟨rfl, b6⟩
  have HB6 : Hid (Below x1.heap.size x1 w6) := Below.step HB5.out.1 b6
  clear b6 HB5
  have d0 := cell_ofZ (j := 0) (HX.out w6 HB6.out).1 rfl
  go_wp2_with fail
  refine Calls.mono (HW1.out w6 _ (HX.out w6 HB6.out).2.2.1 (HA.out w6 (HX.out w6 HB6.out).2.2.2).2.2).1 ?_
  rintro e w7 ⟨rfl, b7⟩
  have HB7 : Hid (Below x1.heap.size x1 w7) := Below.step HB6.out b7
  clear b7 HB6 d0
  have d0 := cell_ofZ (j := 0) (HX.out w7 HB7.out).1 rfl
  have d1 := cell_ofZ (j := 1) (HX.out w7 HB7.out).1 rfl
  have d2 := cell_ofZ (j := 2) (HX.out w7 HB7.out).1 rfl
  have HLl : Hid (L.length = l.length ∧ (stZ l L ++ mkZ M).length = l.length + 64 ∧ ∀ x ∈ L, x.2.length ≤ 35184372088832) := by
    refine ⟨HQ.out.k.len, HQ.out.k.whole, fun x hx => ?_⟩
    have h5 : x.2 ∈ L.map Prod.snd := List.mem_map_of_mem hx
    rw [HQ.out.ls] at h5
    obtain ⟨y, hy, h6⟩ := List.mem_map.1 h5
    have h7 := H8l.out.1 y hy
    rw [← h6, m64_app_lenZ]
    omega
  go_wp2_with fail
  refine Calls.mono (overSteps_any w.heap.size _ _ gw cw' (l.length + 64) L (stZ l L ++ mkZ M) M w7 (HX.out w7 HB7.out).2.1.l HLl.out.2.1 (by have := H8l.out.2.2.1; omega) (by have := H8l.out.2.2.1; have := HLl.out.1; omega) HLl.out.2.2 (HX.out w7 HB7.out).2.2.2.size) ?_
  rintro e w8 ⟨rfl, hf8, hr8⟩
  have HB8 : Hid (Below w.heap.size w w8 ∧ (w8.heap[w1.heap.size]? = some (.cells #[.slice (some ⟨gw, 0, none⟩) l.length cw', .slice (some ⟨gw, 0, none⟩) (l.length + 64) cw', .slice ar L.length cr] 25 (0, 0))) ∧ ∀ W, Below w8.heap.size w8 W → RdZ W (.slice (some ⟨gw, 0, none⟩) l.length cw') (ovS l.length)) := by
    obtain ⟨q1, q2⟩ := over_below (HX.out w7 HB7.out).2.1.l (HX.out w7 HB7.out).2.2.2 hf8
    have q3 : ∀ k, Lzn (.slice (some ⟨gw, 0, none⟩) (l.length + 64) cw') L k → k < w1.heap.size := fun k hk => by
      rcases hk with e | ⟨x, hx, e⟩
      · exact (HQ.out.l.w.lt k e.symm).2
      · exact ((HQ.out.l.r.own x hx).lt k e.symm).2
    have q4 : w1.heap.size < w7.heap.size := Nat.lt_of_lt_of_le HX1.out.2.2 HB7.out.size
    refine ⟨q1, (hf8.block _ q4 (fun hh => by have := q3 _ hh; omega)).trans (HX.out w7 HB7.out).1, fun W hW => hr8 l.length (by omega) (fun _ => False) W ((Fz.refl _ _).below hW) (fun k hk => hk.elim)⟩
  clear hf8 hr8 HB7 d0 d1 d2 HX HX1 HQ HLl
  have d0 := cell_ofZ (j := 0) HB8.out.2.1 rfl
  have HX8 : Hid (∀ W, Below w8.heap.size w8 W → W.cell? ⟨w1.heap.size, 0, none⟩ = some (.slice (some ⟨gw, 0, none⟩) l.length cw')) := fun W hW => (hW.cell (p := ⟨w1.heap.size, 0, none⟩) (World.block_lt_of_cell? w8 _ d0)).trans d0
  have HE8 : Hid (∀ W, Below w8.heap.size w8 W → Below w.heap.size w W ∧ Env W) := fun W hW => by
    have h5 : Below w.heap.size w W := HB8.out.1.trans (hW.mono HB8.out.1.size)
    exact ⟨h5, (HA.out W h5).2.2⟩
  go_wp2_with fail
  refine Calls.mono (HW2.out w8 _ (HB8.out.2.2 w8 (Below.refl _ _)) (HE8.out w8 (Below.refl _ _)).2).1 ?_
  rintro e w9 ⟨rfl, b9⟩
  have HB9 : Hid (Below w8.heap.size w8 w9) := b9
  clear b9 d0
  have d0 := HX8.out w9 HB9.out
  go_wp2_with fail
  refine Calls.mono (HW2.out w9 _ (HB8.out.2.2 w9 HB9.out) (HE8.out w9 HB9.out).2).2 ?_
  rintro e w10 ⟨rfl, b10⟩
  have HB10 : Hid (Below w8.heap.size w8 w10) := Below.step HB9.out b10
  clear b10 d0 HB9 HX8
  go_wp2_with fail
  refine Calls.mono (HRS.out w10 (HE8.out w10 HB10.out).2) ?_
  rintro e w11 ⟨va, ea2, ea3, rfl, ⟨La, oa, ea⟩, b11⟩
  have F11 : Hid (Below w8.heap.size w8 w11 ∧ Fm w8.heap.size w11 [(va, La)]) := ⟨Below.step HB10.out b11, by
    have := (Fm.nil w8.heap.size w10).snoc oa b11 (Nat.le_refl _) HB10.out.size
    exact this⟩
  clear b11 oa HB10
  go_wp2_with fail
  refine Calls.mono (HRS.out w11 (HE8.out w11 F11.out.1).2) ?_
  rintro e w12 ⟨vb, eb2, eb3, rfl, ⟨Lb, ob, eb⟩, b12⟩
  have F12 : Hid (Below w8.heap.size w8 w12 ∧ Fm w8.heap.size w12 [(va, La), (vb, Lb)]) := ⟨Below.step F11.out.1 b12, F11.out.2.snoc ob b12 (Nat.le_refl _) F11.out.1.size⟩
  clear b12 ob F11
  go_wp2_with fail
  refine Calls.mono (HRT.out w12 (HE8.out w12 F12.out.1).2) ?_
  rintro e w13 ⟨vc, ec2, ec3, rfl, ⟨Lc, oc, ec⟩, b13⟩
  have F13 : Hid (Below w8.heap.size w8 w13 ∧ Fm w8.heap.size w13 [(va, La), (vb, Lb), (vc, Lc)]) := ⟨Below.step F12.out.1 b13, F12.out.2.snoc oc b13 (Nat.le_refl _) F12.out.1.size⟩
  clear b13 oc F12
  go_wp2_with fail
  refine Calls.mono (stepsF9_any S w13) ?_
  rintro e w14 ⟨rfl, hw14⟩
  have F14 : Hid (Below w8.heap.size w8 w14 ∧ Fm w8.heap.size w14 [(va, La), (vb, Lb), (vc, Lc)] ∧ w14.cell? ⟨w13.heap.size, 0, none⟩ = some (.string S)) := by
    have hb := below_box w13 (.cells #[.string S] 9)
    rw [← hw14] at hb
    refine ⟨Below.step F13.out.1 hb, F13.out.2.below hb, ?_⟩
    rw [hw14]
    exact cell_ofZ (World.alloc_heap_new w13 _) rfl
  clear hw14 F13
  generalize w13.heap.size = Bs at *
  go_wp2_with fail
  refine Calls.mono (HSt.out w14) ?_
  rintro e w15 ⟨vs, rfl, os, b15⟩
  obtain ⟨aps, cps, evs⟩ := os.form
  subst evs
  have F15 : Hid (Below w8.heap.size w8 w15 ∧ Fm w8.heap.size w15 [(va, La), (vb, Lb), (vc, Lc)] ∧ w15.cell? ⟨Bs, 0, none⟩ = some (.string S)) := ⟨Below.step F14.out.1 b15, F14.out.2.1.below b15, (b15.cell (p := ⟨Bs, 0, none⟩) (World.block_lt_of_cell? w14 _ F14.out.2.2)).trans F14.out.2.2⟩
  clear b15 os F14
  go_wp2_with fail
  refine Calls.mono (HHd.out w15 Bs F15.out.2.2 (HE8.out w15 F15.out.1).2) ?_
  rintro e w16 ⟨vf, rfl, ⟨Lf', of', ef⟩, b16⟩
  have F16 : Hid (Below w8.heap.size w8 w16 ∧ Fm w8.heap.size w16 [(va, La), (vb, Lb), (vc, Lc), (vf, Lf')] ∧ w16.cell? ⟨Bs, 0, none⟩ = some (.string S)) := ⟨Below.step F15.out.1 b16, F15.out.2.1.snoc of' b16 (Nat.le_refl _) F15.out.1.size, (b16.cell (p := ⟨Bs, 0, none⟩) (World.block_lt_of_cell? w15 _ F15.out.2.2)).trans F15.out.2.2⟩
  clear b16 of' F15
  go_wp2_with fail
  refine Calls.mono (HHd.out w16 Bs F16.out.2.2 (HE8.out w16 F16.out.1).2) ?_
  rintro e w17 ⟨vg, rfl, ⟨Lg, og, eg⟩, b17⟩
  have F17 : Hid (Below w8.heap.size w8 w17 ∧ Fm w8.heap.size w17 [(va, La), (vb, Lb), (vc, Lc), (vf, Lf'), (vg, Lg)]) := ⟨Below.step F16.out.1 b17, F16.out.2.1.snoc og b17 (Nat.le_refl _) F16.out.1.size⟩
  clear b17 og F16
  go_wp2_with fail
  refine Calls.mono (HDS.out w17) ?_
  rintro e w18 ⟨vx, ex2, ex3, rfl, ⟨Lx, ox, ex⟩, b18⟩
  have F18 : Hid (Below w8.heap.size w8 w18 ∧ Fm w8.heap.size w18 [(va, La), (vb, Lb), (vc, Lc), (vf, Lf'), (vg, Lg)] ∧ OwnZ w17.heap.size w18 vx Lx ∧ ∀ x ∈ [(va, La), (vb, Lb), (vc, Lc), (vf, Lf'), (vg, Lg)], ∀ k, OwB x.1 x.2 k → k < w17.heap.size) := ⟨Below.step F17.out.1 b18, F17.out.2.below b18, ox, fun x hx k hk => (F17.out.2.lt hx hk).2⟩
  clear b18 ox F17
  go_wp2_with fail
  refine Calls.mono (HDT.out w18) ?_
  rintro e w19 ⟨vy, ey2, ey3, rfl, oy, b19⟩
  have F19 : Hid (Below w8.heap.size w8 w19 ∧ Fm w8.heap.size w19 [(va, La), (vb, Lb), (vc, Lc), (vf, Lf'), (vg, Lg)] ∧ OwnZ w17.heap.size w19 vx Lx ∧ (∀ x ∈ [(va, La), (vb, Lb), (vc, Lc), (vf, Lf'), (vg, Lg)], ∀ k, OwB x.1 x.2 k → k < w17.heap.size) ∧ OwnS w18.heap.size w19 vy (FRz T)) := ⟨Below.step F18.out.1 b19, F18.out.2.1.below b19, F18.out.2.2.1.below b19, F18.out.2.2.2, oy⟩
  clear b19 oy F18
  have HFa : Hid (∀ W, Below w19.heap.size w19 W → Fm w8.heap.size W [(va, La), (vb, Lb), (vc, Lc), (vf, Lf'), (vg, Lg)] ∧ OwnZ w17.heap.size W vx Lx ∧ OwnS w18.heap.size W vy (FRz T) ∧ Below w8.heap.size w8 W) := fun W hW => ⟨F19.out.2.1.below hW, F19.out.2.2.1.below hW, F19.out.2.2.2.2.below hW, Below.step F19.out.1 hW⟩
  have Hs : Hid (svS La = FRz S ∧ svS Lb = FRz S ∧ svS Lc = FRz T ∧ svS Lf' = FS ∧ svS Lg = FS ∧ svS Lx = FRz S) := ⟨ea, eb, ec, ef, eg, ex⟩
  clear ea eb ec ef eg ex
  go_wp2_with fail
  refine Calls.mono (HSS.out (FRz S) HFl.out.2.1 w19 w8.heap.size w17.heap.size va vx ⟨La, (HFa.out w19 (Below.refl _ _)).1.own (va, La) (by simp), Hs.out.1⟩ ⟨Lx, (HFa.out w19 (Below.refl _ _)).2.1, Hs.out.2.2.2.2.2⟩) ?_
  rintro e w20 ⟨rfl, b20⟩
  have HB20 : Hid (Below w19.heap.size w19 w20) := b20
  clear b20
  go_wp2_with fail
  refine Calls.mono (HSS.out (FRz S) HFl.out.2.1 w20 w8.heap.size w17.heap.size vb vx ⟨Lb, (HFa.out w20 HB20.out).1.own (vb, Lb) (by simp), Hs.out.2.1⟩ ⟨Lx, (HFa.out w20 HB20.out).2.1, Hs.out.2.2.2.2.2⟩) ?_
  rintro e w21 ⟨rfl, b21⟩
  have HB21 : Hid (Below w19.heap.size w19 w21) := Below.step HB20.out b21
  clear b21 HB20
  go_wp2_with fail
  refine Calls.mono (HSS.out (FRz T) HFl.out.2.2 w21 w8.heap.size w18.heap.size vc vy ⟨Lc, (HFa.out w21 HB21.out).1.own (vc, Lc) (by simp), Hs.out.2.2.1⟩ (HFa.out w21 HB21.out).2.2.1) ?_
  rintro e w22 ⟨rfl, b22⟩
  have HB22 : Hid (Below w19.heap.size w19 w22) := Below.step HB21.out b22
  clear b22 HB21
  go_wp2_with fail
  refine Calls.mono (HSS.out FS HFl.out.1 w22 w8.heap.size w8.heap.size vf vg ⟨Lf', (HFa.out w22 HB22.out).1.own (vf, Lf') (by simp), Hs.out.2.2.2.1⟩ ⟨Lg, (HFa.out w22 HB22.out).1.own (vg, Lg) (by simp), Hs.out.2.2.2.2.1⟩) ?_
  rintro e w23 ⟨rfl, b23⟩
  have HB23 : Hid (Below w19.heap.size w19 w23) := Below.step HB22.out b23
  clear b23 HB22
  obtain ⟨aa, ca, eva⟩ : ∃ a c, va = .slice a La.length c := row_formz ((HFa.out w23 HB23.out).1.own (va, La) (by simp)).row
  obtain ⟨ab, cb, evb⟩ : ∃ a c, vb = .slice a Lb.length c := row_formz ((HFa.out w23 HB23.out).1.own (vb, Lb) (by simp)).row
  obtain ⟨ac, cc, evc⟩ : ∃ a c, vc = .slice a Lc.length c := row_formz ((HFa.out w23 HB23.out).1.own (vc, Lc) (by simp)).row
  obtain ⟨af, cf, evf⟩ : ∃ a c, vf = .slice a Lf'.length c := row_formz ((HFa.out w23 HB23.out).1.own (vf, Lf') (by simp)).row
  obtain ⟨ag, cg, evg⟩ : ∃ a c, vg = .slice a Lg.length c := row_formz ((HFa.out w23 HB23.out).1.own (vg, Lg) (by simp)).row
  subst eva
  subst evb
  subst evc
  subst evf
  subst evg
  have HAP : Hid (Calls Tryd.prog 17 #[.slice (some ⟨w23.heap.size, 0, none⟩) 5 5] (w23.alloc (.cells #[(.slice aa La.length ca), (.slice ab Lb.length cb), (.slice ac Lc.length cc), (.slice af Lf'.length cf), (.slice ag Lg.length cg)] 22)) fun e w' => e = .returned (.bool true) ∧ Below w8.heap.size w8 w' ∧ OwnZ w17.heap.size w' vx Lx) := by
    have hb := below_box w23 (.cells #[(.slice aa La.length ca), (.slice ab Lb.length cb), (.slice ac Lc.length cc), (.slice af Lf'.length cf), (.slice ag Lg.length cg)] 22)
    have hbb := Below.step HB23.out hb
    obtain ⟨fm, ox, -, b8⟩ := HFa.out _ hbb
    have hsz : w8.heap.size ≤ (w23.alloc (.cells #[(.slice aa La.length ca), (.slice ab Lb.length cb), (.slice ac Lc.length cc), (.slice af Lf'.length cf), (.slice ag Lg.length cg)] 22)).heap.size := b8.size
    have s8 : w8.heap.size ≤ w23.heap.size := (HFa.out w23 HB23.out).2.2.2.size
    have hrow : (w23.alloc (.cells #[(.slice aa La.length ca), (.slice ab Lb.length cb), (.slice ac Lc.length cc), (.slice af Lf'.length cf), (.slice ag Lg.length cg)] 22)).ownsRow w8.heap.size 22 1 (.slice (some ⟨w23.heap.size, 0, none⟩) 5 5) 5 [(.slice aa La.length ca), (.slice ab Lb.length cb), (.slice ac Lc.length cc), (.slice af Lf'.length cf), (.slice ag Lg.length cg)] := ⟨rfl, .inr ⟨w23.heap.size, 5, _, rfl, s8, World.alloc_heap_new w23 _, Nat.le_refl _, by unfold maxLen; decide, rfl, rfl⟩⟩
    have hlen : ∀ (P : List SV), (svS P).length = P.length := svS_len
    have l1 : La.length = (FRz S).length := by rw [← Hs.out.1, svS_len]
    have l2 : Lb.length = (FRz S).length := by rw [← Hs.out.2.1, svS_len]
    have l3 : Lc.length = (FRz T).length := by rw [← Hs.out.2.2.1, svS_len]
    have l4 : Lf'.length = FS.length := by rw [← Hs.out.2.2.2.1, svS_len]
    have l5 : Lg.length = FS.length := by rw [← Hs.out.2.2.2.2.1, svS_len]
    have hfl := HFl.out
    have hone : ∀ (P : List SV) (R : List Stp), svS P = R → (∀ x ∈ R, x.2.length ≤ 1048576) → ∀ x ∈ P.map Prod.snd, x.2.length * 8 ≤ 140737488353280 := fun P R e h x hx => by
      obtain ⟨y, hy, rfl⟩ := List.mem_map.1 hx
      have h5 : (y.1, y.2.2) ∈ svS P := List.mem_map_of_mem (f := fun x : SV => (x.1, x.2.2)) hy
      rw [e] at h5
      have := h _ h5
      simp only at this
      omega
    refine (proofs_of (W0 := w) (OwB vx Lx) _ (show Fm w8.heap.size _ _ from fm) hsz hrow (by simp) ?_ ?_ (fun k hk => (ox.ltB hk).2) ?_).mono ?_
    · simp only [flZ, List.flatMap_cons, List.flatMap_nil, List.length_append, List.length_map, List.length_nil]
      omega
    · intro x hx
      simp only [flZ, List.flatMap_cons, List.flatMap_nil, List.mem_append, List.append_nil] at hx
      rcases hx with hx | hx | hx | hx | hx
      · exact hone La _ Hs.out.1 hfl.2.1.2 x hx
      · exact hone Lb _ Hs.out.2.1 hfl.2.1.2 x hx
      · exact hone Lc _ Hs.out.2.2.1 hfl.2.2.2 x hx
      · exact hone Lf' _ Hs.out.2.2.2.1 hfl.1.2 x hx
      · exact hone Lg _ Hs.out.2.2.2.2.1 hfl.1.2 x hx
    · intro x hx k hk hh
      have h1 := F19.out.2.2.2.1 x hx k hk
      have h2 := (ox.ltB hh).1
      omega
    · rintro e w' ⟨h1, h2, h3⟩
      exact ⟨h1, b8.trans h2, ox.keepB fun k hk => h3 k hk⟩
  clear HB23 HFa F19
  go_wp2_with fail
  refine Calls.mono HAP.out ?_
  rintro e w24 ⟨rfl, b24, ox⟩
  have F24 : Hid (Below w8.heap.size w8 w24 ∧ OwnZ w17.heap.size w24 vx Lx) := ⟨b24, ox⟩
  clear HAP b24 ox
  go_wp2_with fail
  refine Calls.mono (HRS.out w24 (HE8.out w24 F24.out.1).2) ?_
  rintro e w25 ⟨vh, eh2, eh3, rfl, oh, b25⟩
  have F25 : Hid (Below w8.heap.size w8 w25 ∧ OwnZ w17.heap.size w25 vx Lx ∧ OwnS w24.heap.size w25 vh (FRz S)) := ⟨Below.step F24.out.1 b25, F24.out.2.below b25, oh⟩
  clear F24 b25 oh
  go_wp2_with fail
  refine Calls.mono (HSS.out (FRz S) HFl.out.2.1 w25 w24.heap.size w17.heap.size vh vx F25.out.2.2 ⟨Lx, F25.out.2.1, Hs.out.2.2.2.2.2⟩) ?_
  rintro e w26 ⟨rfl, b26⟩
  have HBF : Hid (Below w.heap.size w w26) := (HE8.out w26 (Below.step F25.out.1 b26)).1
  clear F25 b26
  go_wp2
  go_ret
  exact ⟨rfl, HBF.out⟩

end dratKeeps
end Go.Proofs.YtilcokpaeapmeaaDoor

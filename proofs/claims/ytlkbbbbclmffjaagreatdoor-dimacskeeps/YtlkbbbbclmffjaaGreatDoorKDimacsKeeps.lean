/-
  DimacsKeeps, walked.
  KEEP: grown toBelow2 below size block out set on app at below new trans refl start ap kept rd rds mono own row cells lt box from cell of nil len ans call add none keep main walk obw tn form be wd l b k vals r w m ls ms
-/
import Derived.Test.YtlkbbbbclmffjaaGreatDoorKDkM
import Derived.Test.YtlkbbbbclmffjaaGreatDoorKDkR
import Derived.Test.YtlkbbbbclmffjaaGreatDoorKWr
import Derived.Test.YtlkbbbbclmffjaaGreatDoorJRWr
import Derived.Test.YtlkbbbbclmffjaaGreatDoorKWaW
import Derived.Test.YtlkbbbbclmffjaaGreatDoorKCopy
import Derived.Test.YtlkbbbbclmffjaaGreatDoorJAparQW
import Derived.Test.YtlkbbbbclmffjaaGreatDoorJAparQ
import Derived.Test.YtlkbbbbclmffjaaGreatDoorKQuietX
set_option linter.unusedSimpArgs false
set_option linter.unusedVariables false
namespace Go.Proofs.YtlkbbbbclmffjaaGreatDoor.dimacsKeeps
open Go Go.RowKit Go.Shelf

attribute [local go_sem] Oper.semAt_some
theorem cell_ofD {W : World} {D j : Nat} {cs : Array Value} {t : TypeId} {f : Nat × Nat} {x : Value} (h : W.heap[D]? = some (.cells cs t f)) (hj : cs[j]? = some x) : W.cell? ⟨D, j, none⟩ = some x := by
  simp only [World.cell?, h]
  simpa using hj
theorem obn_hdD {B : Nat} {W : World} {ms : List Bool} {g N c : Nat} {T : List Bool} (h : Obn B W (.slice (some ⟨g, 0, none⟩) N c) (ms ++ T)) (hl : ms.length ≤ 140737488351232) : RdB W (.slice (some ⟨g, 0, none⟩) ms.length c) ms := by
  refine ⟨hl, _, _, rfl, fun hne => ⟨g, 0, rfl, (World.ownsRow.lt h g rfl).2, fun j hj => ?_⟩⟩
  rw [Nat.zero_add, (Orw.at h.obw (by rw [List.length_append]; omega)).1, List.map_append, List.getElem?_append_left (by simpa using hj)]
  simp [List.getD_eq_getElem?_getD, hj]
theorem obn_tkD {B : Nat} {W : World} {Z : List Bool} {g N c k : Nat} (h : Obn B W (.slice (some ⟨g, 0, none⟩) N c) Z) (hk : k ≤ Z.length) (hl : Z.length ≤ 140737488351232) : RdB W (.slice (some ⟨g, 0, none⟩) k c) (Z.take k) := by
  have e := List.take_append_drop k Z
  have hk' : (Z.take k).length = k := by rw [List.length_take]; omega
  have h5 := obn_hdD (ms := Z.take k) (T := Z.drop k) (by rw [e]; exact h) (by omega)
  rw [hk'] at h5
  exact h5

set_option maxRecDepth 100000 in
set_option maxHeartbeats 12800000 in
theorem main (n : Int) (s : Value) (css : List (List Int)) (gn : Int) (gs : Value) (gss : List (List Int)) (vb : Value) (ms : List Bool) (S T : ByteArray) (w : World) (hr : Rds w s css) (hg : Rds w gs gss) (hm : RdB w vb ms)
    (hb1 : css.length + (css.map List.length).sum ≤ 1048576) (hb2 : gss.length + (gss.map List.length).sum ≤ 1048576) (hb3 : ms.length ≤ 1048576) (hS : S.data.toList.length ≤ 1048576) (hT : T.data.toList.length ≤ 1048576) (ht : TensY w) :
    Calls Tryz.prog 3 #[.agg #[.int .i64 n, s, .int .i64 gn, gs, vb, .string S, .string T]] w fun e w' => e = .returned (.bool true) ∧ Below w.heap.size w w' := by
  have H8 : Hid ((∀ z ∈ css, z.length * 8 ≤ 140737488351232) ∧ css.length ≤ 1048576 ∧ ms.length ≤ 1048576) := ⟨rds_each hr, by omega, hb3⟩
  obtain ⟨ab, cb, rfl, -⟩ := hm.form
  obtain ⟨a, c, rfl, -, -, -⟩ := hr.form
  obtain ⟨ag, cg, rfl, -, -, -⟩ := hg.form
  have HAx0 : Hid (∀ W, Below w.heap.size w W → Rds W (.slice a css.length c) css ∧ Rds W (.slice ag gss.length cg) gss ∧ RdB W (.slice ab ms.length cb) ms ∧ TensY W) := fun W h => ⟨hr.below h, hg.below h, hm.below h, ht.below h⟩
  obtain ⟨t1, ht1⟩ : ∃ t : ByteArray, (⟨(if frm n css then wrF n css else []).toArray⟩ : ByteArray) = t := ⟨_, rfl⟩
  obtain ⟨e1, he1⟩ : ∃ e : Int, (if frm n css then (0 : Int) else 1) = e := ⟨_, rfl⟩
  have HW1 : Hid (∀ W s', Rds W s' css → TensY W → Calls Tryz.prog 5 #[.agg #[.int .i64 n, s']] W fun e w' => e = .returned (.tuple #[.string t1, .int .i64 e1]) ∧ Below W.heap.size W w') := fun W s' h h5 => by
    have := dimWrite_any n s' css W h (fun hf => by have := wrF_len n css hf (by omega); omega) h5
    rw [ht1, he1] at this; exact this
  have HV1 : Hid (∀ W s', Rds W s' css → TensY W → Calls Tryz.prog 6 #[.agg #[.int .i64 n, s']] W fun e w' => e = .returned (.tuple #[.string t1, .int .i64 e1]) ∧ Below W.heap.size W w') := fun W s' h h5 => by
    have := rWrite_any n s' css W h (fun hf => by have := wrF_len n css hf (by omega); omega) h5
    rw [ht1, he1] at this; exact this
  obtain ⟨ds, hds⟩ : ∃ ds : List (List Int), List.replicate css.length [1, -1, 2] = ds := ⟨_, rfl⟩
  have hdl : ds.length = css.length ∧ (ds.map List.length).sum = 3 * css.length := by
    rw [← hds]
    refine ⟨by simp, ?_⟩
    rw [List.map_replicate]
    simp
    omega
  obtain ⟨t2, ht2⟩ : ∃ t : ByteArray, (⟨(if frm n ds then wrF n ds else []).toArray⟩ : ByteArray) = t := ⟨_, rfl⟩
  obtain ⟨e2, he2⟩ : ∃ e : Int, (if frm n ds then (0 : Int) else 1) = e := ⟨_, rfl⟩
  have HW2 : Hid (∀ W s', Rds W s' ds → TensY W → Calls Tryz.prog 5 #[.agg #[.int .i64 n, s']] W fun e w' => e = .returned (.tuple #[.string t2, .int .i64 e2]) ∧ Below W.heap.size W w') := fun W s' h h5 => by
    have := dimWrite_any n s' ds W h (fun hf => by have := wrF_len n ds hf (by omega); omega) h5
    rw [ht2, he2] at this; exact this
  have HV2 : Hid (∀ W s', Rds W s' ds → TensY W → Calls Tryz.prog 6 #[.agg #[.int .i64 n, s']] W fun e w' => e = .returned (.tuple #[.string t2, .int .i64 e2]) ∧ Below W.heap.size W w') := fun W s' h h5 => by
    have := rWrite_any n s' ds W h (fun hf => by have := wrF_len n ds hf (by omega); omega) h5
    rw [ht2, he2] at this; exact this
  obtain ⟨t3, ht3⟩ : ∃ t : ByteArray, (⟨(if frm gn gss then wrF gn gss else []).toArray⟩ : ByteArray) = t := ⟨_, rfl⟩
  obtain ⟨e3, he3⟩ : ∃ e : Int, (if frm gn gss then (0 : Int) else 1) = e := ⟨_, rfl⟩
  have HW3 : Hid (∀ W s', Rds W s' gss → TensY W → Calls Tryz.prog 5 #[.agg #[.int .i64 gn, s']] W fun e w' => e = .returned (.tuple #[.string t3, .int .i64 e3]) ∧ Below W.heap.size W w') := fun W s' h h5 => by
    have := dimWrite_any gn s' gss W h (fun hf => by have := wrF_len gn gss hf (by omega); omega) h5
    rw [ht3, he3] at this; exact this
  have HGl : Hid (gss.length * 24 ≤ 140737488351232 ∧ ∀ z ∈ gss, z.length * 8 ≤ 140737488351232) := ⟨by omega, rds_each hg⟩
  have HDs : Hid (List.replicate css.length [1, -1, 2] = ds) := hds
  have HRA : Hid (∀ W, Calls Tryz.prog 15 #[.string S, .string T] W fun e w' => e = .returned (.bool true) ∧ Below W.heap.size W w') := fun W => readsApart_any S T W hS hT
  have HMA : Hid (∀ W, Calls Tryz.prog 16 #[.string S, .string T] W fun e w' => e = .returned (.bool true) ∧ Below W.heap.size W w') := fun W => modelsApart_any S T W (by omega) (by omega)
  have HB0 : Hid (Below w.heap.size w (w.alloc (.cells #[.int .i64 n, .slice a css.length c, .int .i64 gn, .slice ag gss.length cg, .slice ab ms.length cb, .string S, .string T] 27)) ∧ (w.alloc (.cells #[.int .i64 n, .slice a css.length c, .int .i64 gn, .slice ag gss.length cg, .slice ab ms.length cb, .string S, .string T] 27)).heap[w.heap.size]? = some (.cells #[.int .i64 n, .slice a css.length c, .int .i64 gn, .slice ag gss.length cg, .slice ab ms.length cb, .string S, .string T] 27 (0, 0))) := ⟨below_box _ _, World.alloc_heap_new w _⟩
  clear hr hg hm ht hb1 hb2 hb3 hS hT ht1 he1 ht2 he2 ht3 he3 hdl hds
  have HY : Hid (∀ W, Below w.heap.size w W → W.heap[w.heap.size]? = some (.cells #[.int .i64 n, .slice a css.length c, .int .i64 gn, .slice ag gss.length cg, .slice ab ms.length cb, .string S, .string T] 27 (0, 0)) → (W.cell? ⟨w.heap.size, 0, none⟩ = some (.int .i64 n) ∧ W.cell? ⟨w.heap.size, 1, none⟩ = some (.slice a css.length c) ∧ W.cell? ⟨w.heap.size, 2, none⟩ = some (.int .i64 gn) ∧ W.cell? ⟨w.heap.size, 3, none⟩ = some (.slice ag gss.length cg) ∧ W.cell? ⟨w.heap.size, 4, none⟩ = some (.slice ab ms.length cb) ∧ W.cell? ⟨w.heap.size, 5, none⟩ = some (.string S) ∧ W.cell? ⟨w.heap.size, 6, none⟩ = some (.string T))) := fun W h h1 => ⟨cell_ofD h1 rfl, cell_ofD h1 rfl, cell_ofD h1 rfl, cell_ofD h1 rfl, cell_ofD h1 rfl, cell_ofD h1 rfl, cell_ofD h1 rfl⟩
  have d1 := (HY.out _ HB0.out.1 HB0.out.2).2.1
  have hW0 : (w.alloc (.cells #[.int .i64 n, .slice a css.length c, .int .i64 gn, .slice ag gss.length cg, .slice ab ms.length cb, .string S, .string T] 27)).heap.size = w.heap.size + 1 := World.size_alloc _ _
  go_enter Tryz.func3, Tryz.ntmps3
  go_wp2_with fail
  generalize w.alloc (.cells #[.int .i64 n, .slice a css.length c, .int .i64 gn, .slice ag gss.length cg, .slice ab ms.length cb, .string S, .string T] 27) = W0 at *
  have HZ : Hid (∀ W, Below (w.heap.size + 1) W0 W → Below w.heap.size w W ∧ W.heap[w.heap.size]? = some (.cells #[.int .i64 n, .slice a css.length c, .int .i64 gn, .slice ag gss.length cg, .slice ab ms.length cb, .string S, .string T] 27 (0, 0))) := fun W h => ⟨HB0.out.1.trans (h.mono (by omega)), (h.block _ (by omega)).trans HB0.out.2⟩
  refine (lentRows_any _ css W0 (HAx0.out W0 HB0.out.1).1 (by have := H8.out.2.1; omega)).mono ?_
  rintro e w1 ⟨vi, vw, vr, L, M, rfl, hq⟩
  obtain ⟨gw, cw, evw, evi, hcw, hcm⟩ := hq.vals
  subst evw; subst evi
  obtain ⟨ar, cr, er⟩ := row_form hq.l.r.row
  subst er
  have HQ : Hid (Lq W0 w1 (.slice (some ⟨gw, 0, none⟩) css.length cw) (.slice (some ⟨gw, 0, none⟩) (css.length + 64) cw) (.slice ar L.length cr) css L M ∧ css.length + 64 ≤ cw ∧ cw ≤ maxLen) := ⟨hq, hcw, hcm⟩
  have HX1 : Hid (Below W0.heap.size W0 (w1.alloc (.cells #[.slice (some ⟨gw, 0, none⟩) css.length cw, .slice (some ⟨gw, 0, none⟩) (css.length + 64) cw, .slice ar L.length cr] 29)) ∧ (w1.alloc (.cells #[.slice (some ⟨gw, 0, none⟩) css.length cw, .slice (some ⟨gw, 0, none⟩) (css.length + 64) cw, .slice ar L.length cr] 29)).heap[w1.heap.size]? = some (.cells #[.slice (some ⟨gw, 0, none⟩) css.length cw, .slice (some ⟨gw, 0, none⟩) (css.length + 64) cw, .slice ar L.length cr] 29 (0, 0)) ∧ w1.heap.size < (w1.alloc (.cells #[.slice (some ⟨gw, 0, none⟩) css.length cw, .slice (some ⟨gw, 0, none⟩) (css.length + 64) cw, .slice ar L.length cr] 29)).heap.size) := ⟨Below.step hq.b (below_box _ _), World.alloc_heap_new _ _, (by simp)⟩
  have HA : Hid (∀ W, Below (w1.alloc (.cells #[.slice (some ⟨gw, 0, none⟩) css.length cw, .slice (some ⟨gw, 0, none⟩) (css.length + 64) cw, .slice ar L.length cr] 29)).heap.size (w1.alloc (.cells #[.slice (some ⟨gw, 0, none⟩) css.length cw, .slice (some ⟨gw, 0, none⟩) (css.length + 64) cw, .slice ar L.length cr] 29)) W → (W.cell? ⟨w1.heap.size, 0, none⟩ = some (.slice (some ⟨gw, 0, none⟩) css.length cw) ∧ W.cell? ⟨w1.heap.size, 1, none⟩ = some (.slice (some ⟨gw, 0, none⟩) (css.length + 64) cw) ∧ W.cell? ⟨w1.heap.size, 2, none⟩ = some (.slice ar L.length cr)) ∧ Lk W0.heap.size W (.slice (some ⟨gw, 0, none⟩) (css.length + 64) cw) (.slice ar L.length cr) css L M ∧ Rds W (.slice (some ⟨gw, 0, none⟩) css.length cw) css ∧ Below W0.heap.size W0 W) := fun W h => by
    have hx := (h.block _ HX1.out.2.2).trans HX1.out.2.1
    have lk := HQ.out.1.k.below (Below.step (below_box _ _) h)
    exact ⟨⟨cell_ofD hx rfl, cell_ofD hx rfl, cell_ofD hx rfl⟩, lk, lk.tn.rds (by have := HQ.out.2.1; omega) HQ.out.2.2 (by simp) (by have := H8.out.2.1; omega) H8.out.1, Below.step HX1.out.1 h⟩
  have HC : Hid (∀ W, Below W0.heap.size W0 W → (W.cell? ⟨w.heap.size, 0, none⟩ = some (.int .i64 n) ∧ W.cell? ⟨w.heap.size, 1, none⟩ = some (.slice a css.length c) ∧ W.cell? ⟨w.heap.size, 2, none⟩ = some (.int .i64 gn) ∧ W.cell? ⟨w.heap.size, 3, none⟩ = some (.slice ag gss.length cg) ∧ W.cell? ⟨w.heap.size, 4, none⟩ = some (.slice ab ms.length cb) ∧ W.cell? ⟨w.heap.size, 5, none⟩ = some (.string S) ∧ W.cell? ⟨w.heap.size, 6, none⟩ = some (.string T)) ∧ Rds W (.slice a css.length c) css ∧ Rds W (.slice ag gss.length cg) gss ∧ RdB W (.slice ab ms.length cb) ms ∧ TensY W ∧ Below w.heap.size w W) := fun W h => by
    have hz := HZ.out W (by rw [← hW0]; exact h)
    obtain ⟨q1, q2, q3, q4⟩ := HAx0.out W hz.1
    exact ⟨HY.out W hz.1 hz.2, q1, q2, q3, q4, hz.1⟩
  clear hq hcw hcm d1
  have x0 := (HA.out _ (Below.refl _ _)).1.1
  have d0 := (HC.out _ HX1.out.1).1.1
  go_wp2_with fail
  generalize w1.alloc (.cells #[.slice (some ⟨gw, 0, none⟩) css.length cw, .slice (some ⟨gw, 0, none⟩) (css.length + 64) cw, .slice ar L.length cr] 29) = x1 at *
  refine (HW1.out x1 _ (HA.out x1 (Below.refl _ _)).2.2.1 (HC.out x1 HX1.out.1).2.2.2.2.1).mono ?_
  rintro e w2 ⟨rfl, b2⟩
  have HB2 : Hid (Below x1.heap.size x1 w2) := b2
  clear b2 x0 d0
  have d0 := (HC.out w2 (HA.out w2 HB2.out).2.2.2).1.1
  have d1 := (HC.out w2 (HA.out w2 HB2.out).2.2.2).1.2.1
  go_wp2_with fail
  refine (HV1.out w2 _ (HC.out w2 (HA.out w2 HB2.out).2.2.2).2.1 (HC.out w2 (HA.out w2 HB2.out).2.2.2).2.2.2.2.1).mono ?_
  rintro e w3 ⟨rfl, b3⟩
  have HB3 : Hid (Below x1.heap.size x1 w3) := Below.step HB2.out b3
  clear b3 d0 d1 HB2
  have x0 := (HA.out w3 HB3.out).1.1
  have x1c := (HA.out w3 HB3.out).1.2.1
  have x2 := (HA.out w3 HB3.out).1.2.2
  have d1 := (HC.out w3 (HA.out w3 HB3.out).2.2.2).1.2.1
  go_wp2_with fail
  refine (keptRows_any _ _ _ _ _ css L M w3 (HA.out w3 HB3.out).2.1 (HC.out w3 (HA.out w3 HB3.out).2.2.2).2.1 (by have := H8.out.2.1; omega)).mono ?_
  rintro e w4 ⟨rfl, b4⟩
  have HB4 : Hid (Below x1.heap.size x1 w4) := Below.step HB3.out b4
  clear b4 d1 x0 x1c x2 HB3
  have d2 := (HC.out w4 (HA.out w4 HB4.out).2.2.2).1.2.2.1
  have d3 := (HC.out w4 (HA.out w4 HB4.out).2.2.2).1.2.2.2.1
  go_wp2_with fail
  refine (copyFormula_any gn _ gss w4 (HC.out w4 (HA.out w4 HB4.out).2.2.2).2.2.1).mono ?_
  rintro e w5 ⟨u5, rfl, own5, b5⟩
  have HB5 : Hid (Below x1.heap.size x1 w5) := Below.step HB4.out b5
  have HR5 : Hid (Rds w5 u5 gss) := own5.rds HGl.out.1 HGl.out.2
  clear b5 own5 d2 d3 HB4
  go_wp2_with fail
  refine (HW3.out w5 _ HR5.out (HC.out w5 (HA.out w5 HB5.out).2.2.2).2.2.2.2.1).mono ?_
  rintro e w6 ⟨rfl, b6⟩
  have HB6 : Hid (Below x1.heap.size x1 w6) := Below.step HB5.out b6
  clear b6 HR5 HB5
  have x0 := (HA.out w6 HB6.out).1.1
  have d0 := (HC.out w6 (HA.out w6 HB6.out).2.2.2).1.1
  go_wp2_with fail
  refine (HW1.out w6 _ (HA.out w6 HB6.out).2.2.1 (HC.out w6 (HA.out w6 HB6.out).2.2.2).2.2.2.2.1).mono ?_
  rintro e w7 ⟨rfl, b7⟩
  have HB7 : Hid (Below x1.heap.size x1 w7) := Below.step HB6.out b7
  clear b7 x0 d0 HB6
  have x0 := (HA.out w7 HB7.out).1.1
  have x1c := (HA.out w7 HB7.out).1.2.1
  have x2 := (HA.out w7 HB7.out).1.2.2
  go_wp2_with fail
  have HLr : Hid (Lr W0.heap.size w7 (.slice (some ⟨gw, 0, none⟩) (css.length + 64) cw) (.slice ar L.length cr) L (L.map cutV ++ M.map Prod.fst) M ∧ (L.map cutV ++ M.map Prod.fst).length = css.length + 64 ∧ L.length = css.length ∧ (∀ x ∈ L, x.2.length ≤ 35184372088832) ∧ W0.heap.size ≤ w7.heap.size) := by
    have lk := (HA.out w7 HB7.out).2.1
    have hl := lk.len
    refine ⟨lk.l, by rw [List.length_append, List.length_map, List.length_map, hl.1, hl.2], hl.1, fun x hx => ?_, (HA.out w7 HB7.out).2.2.2.size⟩
    have h5 : x.2 ∈ css.map (· ++ m64) := by rw [← lk.ls]; exact List.mem_map.2 ⟨x, hx, rfl⟩
    obtain ⟨zz, hzz, e5⟩ := List.mem_map.1 h5
    have h6 := H8.out.1 zz hzz
    rw [← e5, List.length_append, m64_len]
    omega
  refine (overRows_any _ _ _ gw cw (css.length + 64) L _ M w7 HLr.out.1 HLr.out.2.1 (by have := H8.out.2.1; omega) (by rw [HLr.out.2.2.1]; have := H8.out.2.1; omega) HLr.out.2.2.2.1 HLr.out.2.2.2.2).mono ?_
  rintro e w8 ⟨rfl, hf8, hr8⟩
  have HR8 : Hid (∀ W, Below w8.heap.size w8 W → Rds W (.slice (some ⟨gw, 0, none⟩) css.length cw) ds ∧ Below W0.heap.size W0 W ∧ W.cell? ⟨w1.heap.size, 0, none⟩ = some (.slice (some ⟨gw, 0, none⟩) css.length cw)) := fun W h => by
    have hlo := lown_le HQ.out.1.l
    have h5 := hr8 css.length (by omega)
    rw [HDs.out] at h5
    have hb8 : Below W0.heap.size W0 w8 := hf8.toBelow2 (HA.out w7 HB7.out).2.2.2 HLr.out.2.2.2.2 (fun k hk => (hlo k hk).1)
    have hl1 : w1.heap.size < w7.heap.size := Nat.lt_of_lt_of_le HX1.out.2.2 HB7.out.size
    have hx : w8.heap[w1.heap.size]? = w7.heap[w1.heap.size]? := hf8.block _ hl1 (fun hk => by have := (hlo _ hk).2; omega)
    exact ⟨h5.below h, Below.step hb8 h, ((World.cell?_of_block (h.block _ (Nat.lt_of_lt_of_le hl1 hf8.size))).trans (World.cell?_of_block hx)).trans x0⟩
  clear hf8 hr8 x0 x1c x2 HLr HB7
  have x0 := (HR8.out w8 (Below.refl _ _)).2.2
  have d0 := (HC.out w8 (HR8.out w8 (Below.refl _ _)).2.1).1.1
  have HX8 : Hid (Below w8.heap.size w8 (w8.alloc (.cells #[.int .i64 n, .slice (some ⟨gw, 0, none⟩) css.length cw] 24)) ∧ ∀ W, Below (w8.alloc (.cells #[.int .i64 n, .slice (some ⟨gw, 0, none⟩) css.length cw] 24)).heap.size (w8.alloc (.cells #[.int .i64 n, .slice (some ⟨gw, 0, none⟩) css.length cw] 24)) W → W.cell? ⟨w8.heap.size, 0, none⟩ = some (.int .i64 n) ∧ W.cell? ⟨w8.heap.size, 1, none⟩ = some (.slice (some ⟨gw, 0, none⟩) css.length cw) ∧ Below w8.heap.size w8 W) := ⟨below_box _ _, fun W h => by
    have hx := (h.block w8.heap.size (by simp)).trans (World.alloc_heap_new w8 (.cells #[.int .i64 n, .slice (some ⟨gw, 0, none⟩) css.length cw] 24))
    exact ⟨cell_ofD hx rfl, cell_ofD hx rfl, Below.step (below_box _ _) h⟩⟩
  have o0 := (HX8.out.2 _ (Below.refl _ _)).1
  have o1 := (HX8.out.2 _ (Below.refl _ _)).2.1
  go_wp2_with fail
  generalize w8.alloc (.cells #[.int .i64 n, .slice (some ⟨gw, 0, none⟩) css.length cw] 24) = x8 at *
  refine (HV2.out x8 _ (HR8.out x8 HX8.out.1).1 (HC.out x8 (HR8.out x8 HX8.out.1).2.1).2.2.2.2.1).mono ?_
  rintro e w9 ⟨rfl, b9⟩
  have HB9 : Hid (Below x8.heap.size x8 w9) := b9
  clear b9 o0 o1 x0 d0
  have o0 := (HX8.out.2 w9 HB9.out).1
  have o1 := (HX8.out.2 w9 HB9.out).2.1
  go_wp2_with fail
  refine (HW2.out w9 _ (HR8.out w9 (HX8.out.2 w9 HB9.out).2.2).1 (HC.out w9 (HR8.out w9 (HX8.out.2 w9 HB9.out).2.2).2.1).2.2.2.2.1).mono ?_
  rintro e w10 ⟨rfl, b10⟩
  have HB10 : Hid (Below W0.heap.size W0 w10) := (HR8.out w10 (HX8.out.2 w10 (Below.step HB9.out b10)).2.2).2.1
  clear b10 o0 o1
  have d4 := (HC.out w10 HB10.out).1.2.2.2.2.1
  go_wp2_with fail
  refine (lentB_any _ ms w10 (HC.out w10 HB10.out).2.2.2.1).mono ?_
  rintro e w11 ⟨vm, rfl, om, b11⟩
  obtain ⟨gm, cm, em, -, hcm⟩ := Orw.form om.obw (by rw [List.length_append, b64_len]; omega)
  rw [List.length_append, b64_len] at em hcm
  subst em
  have hcm1 : ms.length ≤ cm := by omega
  have HM : Hid (∀ W, Below w11.heap.size w11 W → Obn w10.heap.size W (.slice (some ⟨gm, 0, none⟩) (ms.length + 64) cm) (ms ++ b64) ∧ RdB W (.slice (some ⟨gm, 0, none⟩) ms.length cm) ms ∧ Below W0.heap.size W0 W) := fun W h => ⟨om.below h, obn_hdD (om.below h) (by have := H8.out.2.2; omega), Below.step (Below.step HB10.out b11) h⟩
  clear om b11 d4 hcm
  obtain ⟨t4, ht4⟩ : ∃ t : ByteArray, (⟨(ansF true ms).toArray⟩ : ByteArray) = t := ⟨_, rfl⟩
  have HWA : Hid (∀ W v, RdB W v ms → TensY W → (Calls Tryz.prog 11 #[.bool true, v] W fun e w' => e = .returned (.string t4) ∧ Below W.heap.size W w') ∧ (Calls Tryz.prog 13 #[.bool true, v] W fun e w' => e = .returned (.string t4) ∧ Below W.heap.size W w')) := fun W v h1 h2 => by
    have h5 := writeAnswer_any true v ms W h1 (by have := H8.out.2.2; omega) h2
    have h6 := rWriteAnswer_any true v ms W h1 (by have := H8.out.2.2; omega) h2
    rw [ht4] at h5 h6
    exact ⟨h5, h6⟩
  clear ht4
  have d4 := (HC.out w11 (HM.out w11 (Below.refl _ _)).2.2).1.2.2.2.2.1
  go_wp2_with fail
  refine ((HWA.out w11 _ (HM.out w11 (Below.refl _ _)).2.1 (HC.out w11 (HM.out w11 (Below.refl _ _)).2.2).2.2.2.2.1).1).mono ?_
  rintro e w12 ⟨rfl, b12⟩
  have HB12 : Hid (Below w11.heap.size w11 w12) := b12
  clear b12 d4
  have d4 := (HC.out w12 (HM.out w12 HB12.out).2.2).1.2.2.2.2.1
  go_wp2_with fail
  refine (keptB_any _ _ _ ms w12 (HM.out w12 HB12.out).1 (HC.out w12 (HM.out w12 HB12.out).2.2).2.2.2.1).mono ?_
  rintro e w13 ⟨rfl, b13⟩
  have HB13 : Hid (Below w11.heap.size w11 w13) := Below.step HB12.out b13
  clear b13 d4
  have d4 := (HC.out w13 (HM.out w13 HB13.out).2.2).1.2.2.2.2.1
  go_wp2_with fail
  refine ((HWA.out w13 _ (HC.out w13 (HM.out w13 HB13.out).2.2).2.2.2.1 (HC.out w13 (HM.out w13 HB13.out).2.2).2.2.2.2.1).2).mono ?_
  rintro e w14 ⟨rfl, b14⟩
  have HB14 : Hid (Below w11.heap.size w11 w14) := Below.step HB13.out b14
  clear b14 d4
  go_wp2_with fail
  refine (overB_any _ _ _ w14 (HM.out w14 HB14.out).1 (by rw [List.length_append, b64_len]; have := H8.out.2.2; omega)).mono ?_
  rintro e w15 ⟨⟨ve, rfl⟩, ⟨Z, hZl, hZ⟩, hg15⟩
  rw [List.length_append, b64_len] at hZl
  have HB15 : Hid (Below W0.heap.size W0 w15) := (HM.out w14 HB14.out).2.2.grown hg15 (HM.out w14 HB14.out).2.2.size (fun k e => by
    have e5 : gm = k := Option.some.inj e
    have h6 := (World.ownsRow.lt (HM.out w14 HB14.out).1 gm rfl).1
    have h7 := HB10.out.size
    omega)
  have HRZ : Hid (RdB w15 (.slice (some ⟨gm, 0, none⟩) ms.length cm) (Z.take ms.length) ∧ (Z.take ms.length).length ≤ 1048576) := ⟨obn_tkD hZ (by omega) (by have := H8.out.2.2; omega), by rw [List.length_take]; have := H8.out.2.2; omega⟩
  clear hg15 hZ
  obtain ⟨t5, ht5⟩ : ∃ t : ByteArray, (⟨(ansF true (Z.take ms.length)).toArray⟩ : ByteArray) = t := ⟨_, rfl⟩
  have HWB : Hid (∀ W, Below w15.heap.size w15 W → (Calls Tryz.prog 11 #[.bool true, .slice (some ⟨gm, 0, none⟩) ms.length cm] W fun e w' => e = .returned (.string t5) ∧ Below W.heap.size W w') ∧ (Calls Tryz.prog 13 #[.bool true, .slice (some ⟨gm, 0, none⟩) ms.length cm] W fun e w' => e = .returned (.string t5) ∧ Below W.heap.size W w')) := fun W h => by
    have h5 := writeAnswer_any true _ _ W (HRZ.out.1.below h) HRZ.out.2 (HC.out W (Below.step HB15.out h)).2.2.2.2.1
    have h6 := rWriteAnswer_any true _ _ W (HRZ.out.1.below h) HRZ.out.2 (HC.out W (Below.step HB15.out h)).2.2.2.2.1
    rw [ht5] at h5 h6
    exact ⟨h5, h6⟩
  clear ht5 hZl
  haveI hne := xt_ne w15
  have y4 := Wx.cell (HC.out w15 HB15.out).1.2.2.2.2.1
  have y5 := Wx.cell (HC.out w15 HB15.out).1.2.2.2.2.2.1
  have y6 := Wx.cell (HC.out w15 HB15.out).1.2.2.2.2.2.2
  have HQ1 : Hid (∀ x, Calls Tryz.prog 11 #[.bool true, .slice (some ⟨gm, 0, none⟩) ms.length cm] (Wx w15 x) fun e w'' => e = .returned (.string t5) ∧ ∃ y, w'' = Wx w15 y) := fun x => ((HWB.out (Wx w15 x) x.be).1).mono fun e w' ⟨q1, q2⟩ => ⟨q1, ⟨w', Below.step x.be q2⟩, rfl⟩
  have HQ2 : Hid (∀ x, Calls Tryz.prog 13 #[.bool true, .slice (some ⟨gm, 0, none⟩) ms.length cm] (Wx w15 x) fun e w'' => e = .returned (.string t5) ∧ ∃ y, w'' = Wx w15 y) := fun x => ((HWB.out (Wx w15 x) x.be).2).mono fun e w' ⟨q1, q2⟩ => ⟨q1, ⟨w', Below.step x.be q2⟩, rfl⟩
  have HQ3 : Hid (∀ x, Calls Tryz.prog 15 #[.string S, .string T] (Wx w15 x) fun e w'' => e = .returned (.bool true) ∧ ∃ y, w'' = Wx w15 y) := fun x => (HRA.out (Wx w15 x)).mono fun e w' ⟨q1, q2⟩ => ⟨q1, ⟨w', Below.step x.be q2⟩, rfl⟩
  have HQ4 : Hid (∀ x, Calls Tryz.prog 16 #[.string S, .string T] (Wx w15 x) fun e w'' => e = .returned (.bool true) ∧ ∃ y, w'' = Wx w15 y) := fun x => (HMA.out (Wx w15 x)).mono fun e w' ⟨q1, q2⟩ => ⟨q1, ⟨w', Below.step x.be q2⟩, rfl⟩
  go_upto_region 17 with fail
  refine (wpIn_wide (n := 1)).1 ?_
  refine region_quietX (by kernel_rfl) (by kernel_rfl) (by kernel_rfl) ?_
  repeat (refine wpQuietIn_step (fun _ _ _ _ => trivial) (fun Kqz hKqz => ?_); go_simp; first | (refine hKqz _ ?_; clear hKqz Kqz) | (apply Exists.intro; refine ⟨fun _ => ?_, hKqz _ ?_⟩; (first | (gi_at_call 11; with_reducible exact callsIn_wide.2 (HQ1.out _)) | (gi_at_call 13; with_reducible exact callsIn_wide.2 (HQ2.out _)) | (gi_at_call 15; with_reducible exact callsIn_wide.2 (HQ3.out _)) | (gi_at_call 16; with_reducible exact callsIn_wide.2 (HQ4.out _))); clear hKqz Kqz))
  refine wpQuietIn_nil ?_
  intro _ hwq1
  obtain ⟨xq, hwq2⟩ := hwq1
  subst hwq2
  have HBF : Hid (Below w.heap.size w (Wx w15 xq)) := (HC.out _ (Below.step HB15.out xq.be)).2.2.2.2.2
  clear y4 y5 y6 HQ1 HQ2 HQ3 HQ4
  generalize Wx w15 xq = wF at *
  go_wp2
  go_ret
  exact ⟨rfl, HBF.out⟩

end Go.Proofs.YtlkbbbbclmffjaaGreatDoor.dimacsKeeps

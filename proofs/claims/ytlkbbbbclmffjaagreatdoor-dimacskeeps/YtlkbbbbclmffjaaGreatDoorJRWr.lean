/-
  joined: RWr Wa RWa
-/
import Derived.Test.YtlkbbbbclmffjaaGreatDoorKFullRow
import Derived.Test.YtlkbbbbclmffjaaGreatDoorJForms
import Derived.Test.YtlkbbbbclmffjaaGreatDoorJGrow
import Derived.Handy
import Derived.Deep.RegionHeld
import Derived.Sort.AtCall
import Derived.Deep.RegionWith
import Derived.Deep.CutRange
import Derived.Lib.SmallJoins
import Derived.Test.YtlkbbbbclmffjaaGreatDoorJTruth
set_option linter.unusedSimpArgs false
set_option linter.unusedVariables false
namespace Go.Proofs.YtlkbbbbclmffjaaGreatDoor
open Go Go.RowKit Go.Lib Go.Sort

theorem itoa_any (z : Int) (h0 : -9223372036854775808 ≤ z) (h1 : z ≤ 9223372036854775807) (w : World) (htab : TensY w) :
    Calls Tryz.prog 22 #[.int .i64 z] w fun e w' => e = .returned (.string ⟨(Lib.itoa z).toArray⟩) ∧ Below w.heap.size w w' :=
  (Tryz.strconv_Itoa z h0 h1 w htab).mono fun e w' h => by
    obtain ⟨rfl, k, os, rfl⟩ := h
    exact ⟨rfl, Lib.below_grow w.heap.size w (Nat.le_refl _) k os⟩

/-- two texts, one behind the other -/
theorem cat_run (x y z : List UInt8) (hz : z = x ++ y) (h : x.length + y.length ≤ 9223372036854775807) (w : World) : (Op.stringOp .add ⟨x.toArray⟩ ⟨y.toArray⟩).run Tryz.prog w = .ok (.string ⟨z.toArray⟩) w := by
  subst hz
  rw [run_string_add_sum w _ _ (by simp [ByteArray.size]; omega), ByteArray.mk_append_mk]

set_option maxHeartbeats 3200000 in
set_option maxRecDepth 100000 in
theorem rWrite_any (n : Int) (s : Value) (css : List (List Int)) (w : World) (hr : Rds w s css) (hbig : frm n css = true → (wrF n css).length ≤ 1099511627776) (htab : TensY w) :
    Calls Tryz.prog 6 #[.agg #[.int .i64 n, s]] w fun e w' => e = .returned (.tuple #[.string ⟨(if frm n css then wrF n css else []).toArray⟩, .int .i64 (if frm n css then 0 else 1)]) ∧ Below w.heap.size w w' := by
  have hl := hr.len
  have HX : Hid (Bx w n s css (w.alloc (.cells #[.int .i64 n, s] 24))) := Bx.new hr _
  obtain ⟨a, c, rfl, hc, hm, _⟩ := hr.form
  have HB0 : Hid (frm n css = true → (wrF n css).length ≤ 1099511627776) := hbig
  have HT0 : Hid (TensY w) := htab
  clear hr hbig htab
  cases hf : frm n css
  · go_enter Tryz.func6, Tryz.ntmps6
    go_wp2_with fail
    refine (rFormed_any n _ css _ HX.out.rd).mono ?_
    rw [hf]
    rintro e w1 ⟨rfl, bel1⟩
    have HX1 : Hid (Bx w n (.slice a css.length c) css w1) := HX.out.on bel1
    go_wp2
    go_returns
    exact ⟨rfl, HX1.out.bel⟩
  have HF : Hid (frm n css = true) := hf
  have HB : Hid ((wrF n css).length ≤ 1099511627776) := HB0.out hf
  clear HB0
  have hnr : 0 ≤ n ∧ n ≤ 1048576 := by
    have := hf; simp only [frm, Bool.and_eq_true, decide_eq_true_eq] at this; exact this.1
  go_enter Tryz.func6, Tryz.ntmps6
  go_wp2_with fail
  refine (rFormed_any n _ css _ HX.out.rd).mono ?_
  rw [hf]
  rintro e w1 ⟨rfl, bel1⟩
  have HX1 : Hid (Bx w n (.slice a css.length c) css w1) := HX.out.on bel1
  have c0 := HX1.out.c0
  have c1 := HX1.out.c1
  have HT1 : Hid (TensY w1) := HT0.out.below HX1.out.bel
  clear HX bel1 hf
  have HS : Hid (∀ W, Below w1.heap.size w1 W → Below w1.heap.size w1 W ∧ W.cell? ⟨w.heap.size, 0, none⟩ = some (.int .i64 n) ∧ W.cell? ⟨w.heap.size, 1, none⟩ = some (.slice a css.length c)) := fun W h => ⟨h, (HX1.out.on h).c0, (HX1.out.on h).c1⟩
  have HI : Hid (∀ (z : Int), -9223372036854775808 ≤ z → z ≤ 9223372036854775807 → ∀ W, Below w1.heap.size w1 W → Calls Tryz.prog 22 #[.int .i64 z] W fun e w' => e = .returned (.string ⟨(Lib.itoa z).toArray⟩) ∧ Below W.heap.size W w') := fun z h0 h1 W h => itoa_any z h0 h1 W (HT1.out.below h)
  have hni := Lib.itoa_length_le n (by omega) (by omega)
  have hci := Lib.itoa_length_le (css.length : Int) (by omega) (by omega)
  obtain ⟨S1, hS1⟩ : ∃ S, S = [112, 32, 99, 110, 102, 32] ++ Lib.itoa n := ⟨_, rfl⟩
  obtain ⟨S2, hS2⟩ : ∃ S, S = S1 ++ [32] := ⟨_, rfl⟩
  obtain ⟨S3, hS3⟩ : ∃ S, S = S2 ++ Lib.itoa css.length := ⟨_, rfl⟩
  have l1 : S1.length = 6 + (Lib.itoa n).length := by rw [hS1]; simp; omega
  have l2 : S2.length = S1.length + 1 := by rw [hS2]; simp
  have l3 : S3.length = S2.length + (Lib.itoa (css.length : Int)).length := by rw [hS3]; simp
  have k1 := cat_run _ _ _ hS1 (by simp; omega)
  have k2 := cat_run _ _ _ hS2 (by simp; omega)
  have k3 := cat_run _ _ _ hS3 (by omega)
  have k4 := cat_run S3 [10] (headOf n css.length) (by rw [hS3, hS2, hS1]; rfl) (by simp; omega)
  clear hS1 hS2 hS3 l1 l2 l3 hni hci
  go_upto_region 3 with fail
  go_cut [4] from 11 to 21 (fun t wx => t = .string ⟨(headOf n css.length).toArray⟩ ∧ Below w1.heap.size w1 wx)
  case first =>
    go_region_held (fun W' => Below w1.heap.size w1 W' ∧ W'.cell? ⟨w.heap.size, 0, none⟩ = some (.int .i64 n) ∧ W'.cell? ⟨w.heap.size, 1, none⟩ = some (.slice a css.length c)) (first | exact HS.out _ (Below.refl _ _).drew | exact HS.out _ bT | exact HS.out _ bF) (first
      | (go_at_call_has 22 (Value.int IntKind.i64 n); refine (HI.out n (by omega) (by omega) _ (by first | exact bF | exact (Below.refl _ _).drew)).mono ?_; rintro e wT ⟨rfl, belT⟩; have bT : Below w1.heap.size w1 wT := Below.step (by first | exact bF | exact (Below.refl _ _).drew) belT)
      | (go_at_call_has 22 (Value.int IntKind.i64 css.length); refine (HI.out css.length (by omega) (by omega) _ (by first | exact bT | exact (Below.refl _ _).drew)).mono ?_; rintro e wF ⟨rfl, belF⟩; have bF : Below w1.heap.size w1 wF := Below.step (by first | exact bT | exact (Below.refl _ _).drew) belF))
    all_goals
      go_wp2_with fail
      go_meet
      exact ⟨rfl, by first | exact bF | exact bT⟩
  case rest =>
  obtain ⟨rfl, bel2⟩ := hcut
  generalize wc = w2 at *
  clear k1 k2 k3 k4 c0 c1 HS
  go_wp2
  go_loopg [4, 5] css.length (fun g u i wr => ∃ k : Nat, k + g = css.length ∧ i = .int .i64 k ∧ u = .string ⟨(headOf n css.length ++ bodyOf (css.take k)).toArray⟩ ∧ Below w1.heap.size w1 wr)
  case atStart => exact ⟨0, by omega, rfl, by simp [bodyOf], bel2⟩
  case round =>
    clear bel2
    obtain ⟨k, hk, rfl, rfl, bel⟩ := hrel
    have HK : Hid (k + gk = css.length) := hk
    have c1x := (HX1.out.on bel).c1
    by_cases hlt : k < css.length
    · obtain ⟨b, off, uc, rfl, hck1, hrd⟩ := HX1.out.at hlt
      have hck : wr.cell? ⟨b, off + k, none⟩ = some uc := (bel.cell (p := ⟨b, off + k, none⟩) (World.block_lt_of_cell? w1 _ hck1)).trans hck1
      have hP := fun j => Nat.le_trans (wr_pre n css k j hlt) HB.out
      have HM : Hid (headOf n css.length ++ bodyOf (css.take (k + 1)) = ((headOf n css.length ++ bodyOf (css.take k)) ++ textOf (css.getD k [])) ++ [48, 10]) := by show _ = _; rw [bodyOf_more css k hlt]; simp
      have HZ : Hid (∀ j, j < (css.getD k []).length → fmd ((css.getD k []).getD j 0) = true) := fun j hj => by
        have h1 := HF.out
        simp only [frm, Bool.and_eq_true] at h1
        have h2 := List.all_eq_true.1 h1.2 _ (getD_mem' (d := []) hlt)
        have h3 := List.all_eq_true.1 h2 _ (getD_mem' (d := 0) hj)
        simp only [Bool.and_eq_true] at h3
        exact h3.1
      obtain ⟨ac, cc, rfl, hcc, hcm, _⟩ := hrd.form
      have HR : Hid (Rd w1 (.slice ac (css.getD k []).length cc) (css.getD k [])) := hrd
      have HC1 : Hid (w1.cell? ⟨b, off + k, none⟩ = some (.slice ac (css.getD k []).length cc)) := hck1
      clear hk hrd hck1
      have HP : Hid (∀ j, (headOf n css.length ++ bodyOf (css.take k)).length + (textOf ((css.getD k []).take j)).length + 2 ≤ 1099511627776) := fun j => by have := hP j; rw [List.length_append] at this; exact this
      clear hP
      generalize headOf n css.length ++ bodyOf (css.take k) = T at *
      generalize css.getD k [] = zs at *
      have hzl := HR.out.len
      go_wp2
      go_loopg [6, 7] zs.length (fun g u i wq => ∃ j : Nat, j + g = zs.length ∧ i = .int .i64 j ∧ u = .string ⟨(textOf (zs.take j)).toArray⟩ ∧ Below w1.heap.size w1 wq)
      case atStart => exact ⟨0, by omega, rfl, by simp [textOf], bel⟩
      case round =>
        clear bel hck c1x
        obtain ⟨j, hj, rfl, rfl, bel⟩ := hrel
        have HJ : Hid (j + gk = zs.length) := hj
        have hln := HP.out j
        have c1x := (HX1.out.on bel).c1
        have hck : wr.cell? ⟨b, off + k, none⟩ = some (.slice ac zs.length cc) := (bel.cell (p := ⟨b, off + k, none⟩) (World.block_lt_of_cell? w1 _ HC1.out)).trans HC1.out
        by_cases hjt : j < zs.length
        · obtain ⟨a', c', e', _, _, hcell⟩ := (HR.out.below bel).form
          have e3 : a' = ac ∧ c' = cc := by injection e' with q1 q2 q3; exact ⟨q1.symm, q3.symm⟩
          obtain ⟨rfl, rfl⟩ := e3
          obtain ⟨b2, off2, rfl, hcj⟩ := hcell j hjt
          have hfm := fmd_range (HZ.out j hjt)
          have HS : Hid (textOf (zs.take (j + 1)) = (textOf (zs.take j) ++ Lib.itoa (zs.getD j 0)) ++ [32]) := textOf_more zs j hjt
          have hil := Lib.itoa_length_le (zs.getD j 0) (by omega) (by omega)
          clear hj hcell e'
          generalize textOf (zs.take j) = X at *
          generalize zs.getD j 0 = z at *
          obtain ⟨Y, hY⟩ : ∃ Y, Y = X ++ Lib.itoa z := ⟨_, rfl⟩
          have lY : Y.length = X.length + (Lib.itoa z).length := by rw [hY]; simp
          have k1 := cat_run _ _ _ hY (by omega)
          have k2 := cat_run Y [32] (textOf (zs.take (j + 1))) (by rw [hY]; exact HS.out) (by simp; omega)
          clear hY lY HS
          go_wp2_with (go_at_call 22; refine (HI.out z (by omega) (by omega) _ bel).mono ?_; rintro e wI ⟨rfl, belI⟩)
          go_roundg (gk - 1)
          case measure => have := HJ.out; omega
          case rel => exact ⟨j + 1, by have := HJ.out; omega, by go_num, rfl, Below.step bel belI⟩
        · obtain rfl : j = zs.length := by omega
          rw [List.take_length] at hln ⊢
          clear hj
          generalize hXe : textOf zs = X at *
          obtain ⟨Y, hY⟩ : ∃ Y, Y = T ++ X := ⟨_, rfl⟩
          have lY : Y.length = T.length + X.length := by rw [hY]; simp
          have k1 := cat_run _ _ _ hY (by omega)
          have k2 := cat_run Y [48, 10] (headOf n css.length ++ bodyOf (css.take (k + 1))) (by rw [hY]; exact HM.out) (by simp; omega)
          clear hY lY HM hXe
          go_wp2
          go_roundg (css.length - k - 1)
          case measure => have := HK.out; omega
          case rel => exact ⟨k + 1, by have := HK.out; omega, by go_num, rfl, bel⟩
    · obtain rfl : k = css.length := by omega
      rw [List.take_length]
      clear hk
      have HE : Hid (headOf n css.length ++ bodyOf css = wrF n css) := rfl
      rw [HE.out]
      go_wp2
      go_returns
      exact ⟨rfl, HX1.out.bel.trans (bel.mono HX1.out.bel.size)⟩

end Go.Proofs.YtlkbbbbclmffjaaGreatDoor
set_option linter.unusedSimpArgs false
set_option linter.unusedVariables false
namespace Go.Proofs.YtlkbbbbclmffjaaGreatDoor
open Go Go.RowKit Go.Lib Go.Sort

/-- a box of one cell -/
def B1 (W : World) (D : Nat) (v : Value) : Prop := ∃ t, W.heap[D]? = some (.cells #[v] t (0, 0))
theorem B1.c {W : World} {D : Nat} {v : Value} (h : B1 W D v) : W.cell? ⟨D, 0, none⟩ = some v := by obtain ⟨t, h⟩ := h; simp [World.cell?, h]
theorem B1.f {W : World} {D : Nat} {v : Value} (h : B1 W D v) : W.frozen? ⟨D, 0, none⟩ = false := by obtain ⟨t, h⟩ := h; simp [World.frozen?, h]
theorem B1.lt {W : World} {D : Nat} {v : Value} (h : B1 W D v) : D < W.heap.size := by obtain ⟨t, h⟩ := h; exact (Array.getElem?_eq_some_iff.1 h).1
theorem B1.new (W : World) (t : TypeId) (v : Value) : B1 (W.alloc (.cells #[v] t)) W.heap.size v := ⟨t, heap_alloc_new W _⟩
theorem B1.kept {W W' : World} {row : Option Nat} {D : Nat} {v : Value} (h : B1 W D v) (hg : W.grownBy W' row) (hne : some D ≠ row) : B1 W' D v := by
  have hl := h.lt
  obtain ⟨t, h⟩ := h; exact ⟨t, (hg.block D hl hne).trans h⟩
theorem B1.below {W W' : World} {D : Nat} {v : Value} (h : B1 W D v) (hb : RowKit.Below W.heap.size W W') : B1 W' D v := h.kept (grown_below hb) (by simp)
theorem B1.set {W : World} {D : Nat} {v : Value} (h : B1 W D v) (u : Value) : B1 (W.setCell ⟨D, 0, none⟩ u) D u := by
  obtain ⟨t, h⟩ := h
  refine ⟨t, ?_⟩
  rw [Joins.block_setCell h]; rfl
theorem cell_one_at (W : World) (n : Nat) (hn : n = W.heap.size) (x : Value) (t : TypeId) : ∀ (j : Nat) u, [x][j]? = some u → (W.alloc (.cells #[x] t)).cell? ((⟨n, 0, none⟩ : Addr).add j) = some u := by subst hn; exact cell_one_new _ _ _
/-- a text in a box at O, where its line begins at P -/
structure Sb (lo B O P : Nat) (W0 W : World) (v : Value) (T : List UInt8) (b : Int) : Prop where
  o : B1 W O v
  p : B1 W P (.int .i64 b)
  t : OwnT B W v T
  ne : O ≠ P
  oB : O < B
  pB : P < B
  lO : lo ≤ O
  lP : lo ≤ P
  bs : B ≤ W.heap.size
  bel : RowKit.Below lo W0 W
theorem Sb.on {lo B O P : Nat} {W0 W W' : World} {v : Value} {T : List UInt8} {b : Int} (h : Sb lo B O P W0 W v T b) (hb : RowKit.Below W.heap.size W W') : Sb lo B O P W0 W' v T b :=
  ⟨h.o.below hb, h.p.below hb, World.ownsRow.kept h.t (grown_below hb) (one_or _), h.ne, h.oB, h.pB, h.lO, h.lP, Nat.le_trans h.bs hb.size, h.bel.trans (hb.mono (by have := h.lO; have := h.oB; have := h.bs; omega))⟩
/-- behind an append, ahead of the store and behind it -/
theorem Sb.app {lo B O P : Nat} {W0 W Wa w1 : World} {v v' : Value} {T D : List UInt8} {b : Int} (h : Sb lo B O P W0 W v T b) (hb : RowKit.Below W.heap.size W Wa) (own' : OwnT B w1 v' (T ++ D)) (hg : Wa.grownBy w1 v.ownBlock) :
    w1.cell? ⟨O, 0, none⟩ = some v ∧ w1.frozen? ⟨O, 0, none⟩ = false ∧ Sb lo B O P W0 (w1.setCell ⟨O, 0, none⟩ v') v' (T ++ D) b := by
  have h1 := h.on hb
  have no : some O ≠ v.ownBlock := fun e => by have := (World.ownsRow.lt h1.t O e.symm).1; have := h.oB; omega
  have np : some P ≠ v.ownBlock := fun e => by have := (World.ownsRow.lt h1.t P e.symm).1; have := h.pB; omega
  have o1 := h1.o.kept hg no
  have p1 := h1.p.kept hg np
  refine ⟨o1.c, o1.f, ⟨o1.set v', p1.kept (grown_set w1 ⟨O, 0, none⟩ v') (by intro e; exact h.ne (Option.some.inj e).symm), ownsRow_setCell_below own' (a := ⟨O, 0, none⟩) h.oB v', h.ne, h.oB, h.pB, h.lO, h.lP, ?_, ?_⟩⟩
  · rw [World.size_setCell]; have := h1.bs; have := hg.size; omega
  · exact (h1.bel.grown hg (by have := h.lO; have := h.oB; have := h1.bs; omega) (fun k hk => by have := (World.ownsRow.lt h1.t k hk).1; have := h.oB; have := h.lO; omega)).setCell (p := ⟨O, 0, none⟩) h.lO v'
theorem Sb.setP {lo B O P : Nat} {W0 W : World} {v : Value} {T : List UInt8} {b : Int} (h : Sb lo B O P W0 W v T b) (b' : Int) : Sb lo B O P W0 (W.setCell ⟨P, 0, none⟩ (.int .i64 b')) v T b' :=
  ⟨h.o.kept (grown_set W ⟨P, 0, none⟩ _) (by intro e; exact h.ne (Option.some.inj e)), h.p.set _, ownsRow_setCell_below h.t (a := ⟨P, 0, none⟩) h.pB _, h.ne, h.oB, h.pB, h.lO, h.lP, by rw [World.size_setCell]; exact h.bs, h.bel.setCell (p := ⟨P, 0, none⟩) h.lP _⟩
theorem ownt_form {B : Nat} {w : World} {v : Value} {T : List UInt8} (h : OwnT B w v T) : ∃ a c, v = .slice a T.length c := by
  rcases h.2 with ⟨hv, hn⟩ | ⟨g, cap, cur, hv, _⟩
  · exact ⟨none, 0, by rw [hv, hn]⟩
  · exact ⟨_, _, hv⟩

theorem Sb.app1 {lo B O P : Nat} {W0 W w1 : World} {v v' : Value} {T : List UInt8} {b : Int} {c : UInt8} {o : Obj} (h : Sb lo B O P W0 W v T b) (own' : w1.ownsRow B 5 1 v' (T.length + 1) (Lib.byteCells T ++ [.int .u8 c.toNat])) (hg : (W.alloc o).grownBy w1 v.ownBlock) :
    ∃ T3 a3 c3, T3 = T ++ [c] ∧ T3.length = T.length + 1 ∧ v' = .slice a3 T3.length c3 ∧ w1.cell? ⟨O, 0, none⟩ = some v ∧ w1.frozen? ⟨O, 0, none⟩ = false ∧ Sb lo B O P W0 (w1.setCell ⟨O, 0, none⟩ v') v' T3 b := by
  have own3 : OwnT B w1 v' (T ++ [c]) := OwnT.one own'
  obtain ⟨a3, c3, e⟩ := ownt_form own3
  obtain ⟨q0, q1, q2⟩ := h.app (RowKit.Below.alloc (RowKit.Below.refl _ _) (Nat.le_refl _) _) own3 hg
  exact ⟨T ++ [c], a3, c3, rfl, by simp, e, q0, q1, q2⟩
theorem Sb.apps {lo B O P : Nat} {W0 W w1 : World} {v v' : Value} {T d : List UInt8} {b : Int} (h : Sb lo B O P W0 W v T b) (own' : w1.ownsRow B 5 1 v' (T.length + (⟨d.toArray⟩ : ByteArray).size) (Lib.byteCells T ++ strCells ⟨d.toArray⟩)) (hg : W.grownBy w1 v.ownBlock) :
    ∃ T3 a3 c3, T3 = T ++ d ∧ T3.length = T.length + d.length ∧ v' = .slice a3 T3.length c3 ∧ w1.cell? ⟨O, 0, none⟩ = some v ∧ w1.frozen? ⟨O, 0, none⟩ = false ∧ Sb lo B O P W0 (w1.setCell ⟨O, 0, none⟩ v') v' T3 b := by
  have own3 : OwnT B w1 v' (T ++ d) := OwnT.more (by rw [← strCells_bytes d]; simpa [ByteArray.size] using own')
  obtain ⟨a3, c3, e⟩ := ownt_form own3
  obtain ⟨q0, q1, q2⟩ := h.app (RowKit.Below.refl _ _) own3 hg
  exact ⟨T ++ d, a3, c3, rfl, by simp, e, q0, q1, q2⟩

set_option maxHeartbeats 3200000 in
set_option maxRecDepth 100000 in
theorem put_any (lo B O P : Nat) (W0 W : World) (v : Value) (st : List UInt8 × List UInt8) (z : Int) (h0 : -9223372036854775808 ≤ z) (h1 : z ≤ 9223372036854775807) (hS : Sb lo B O P W0 W v (st.1 ++ st.2) st.1.length) (hl1 : st.1.length + st.2.length ≤ 1099511627776) (hT : TensY W) :
    Calls Tryz.prog 26 #[.int .i64 z, .pointer (some ⟨O, 0, none⟩), .pointer (some ⟨P, 0, none⟩)] W fun e W' => (∃ x, e = .returned x) ∧ ∃ v', Sb lo B O P W0 W' v' ((putN st z).1 ++ (putN st z).2) (putN st z).1.length := by
  have hil := Lib.itoa_length_le z (by omega) (by omega)
  obtain ⟨d, hd⟩ : ∃ d, d = Lib.itoa z := ⟨_, rfl⟩
  have HI : Hid (Calls Tryz.prog 22 #[.int .i64 z] W fun e w' => e = .returned (.string ⟨d.toArray⟩) ∧ RowKit.Below W.heap.size W w') := by rw [hd]; exact itoa_any z h0 h1 W hT
  rw [← hd] at hil
  have HP : Hid (putN st z = putW st d) := by show _ = _; rw [hd]; rfl
  have HS : Hid (Sb lo B O P W0 W v (st.1 ++ st.2) st.1.length) := hS
  obtain ⟨i0, hi, hz0, hz1, hz2⟩ := info_parts infoY
  obtain ⟨av, cv, rfl⟩ := ownt_form hS.t
  have hne := hS.ne
  have hne' : P ≠ O := fun e => hne e.symm
  have hlen : (st.1 ++ st.2).length = st.1.length + st.2.length := List.length_append
  clear hS hd hT h0 h1
  obtain ⟨s1, s2⟩ := st
  simp only at *
  have HLn : Hid ((s1 ++ s2).length = s1.length + s2.length) := hlen
  have hTl : (s1 ++ s2).length ≤ 1099511627776 := by omega
  cases hq : decide (78 < s2.length + 1 + d.length)
  · have HPW : Hid (putN (s1, s2) z = (s1, s2 ++ [32] ++ d)) := by
      show _ = _
      rw [HP.out]; unfold putW; rw [if_neg (of_decide_eq_false hq)]
    have hc : decide ((78 : Int) < ((s1 ++ s2).length : Int) - (s1.length : Int) + 1 + (d.length : Int)) = false := by
      have := of_decide_eq_false hq
      exact decide_eq_false (by have := HLn.out; omega)
    clear hlen
    generalize hTT : s1 ++ s2 = T at *
    have HTT : Hid (T = s1 ++ s2) := hTT.symm
    clear hTT
    go_enter Tryz.func26, Tryz.ntmps26
    go_wp2_with fail
    refine HI.out.mono ?_
    rintro e w2 ⟨rfl, bel2⟩
    have S2 : Hid (Sb lo B O P W0 w2 (.slice av T.length cv) T s1.length) := HS.out.on bel2
    have c0 := S2.out.o.c
    have c1 := S2.out.p.c
    have f0 := S2.out.o.f
    have hbs := S2.out.bs
    clear HI bel2 HS
    go_wp2_with (first | (at_builtin; refine wpList_append_own _ rfl _ _ 47 rfl B 5 i0 (.int .u8 0) 1 1 Tryz.underlying47 hi hz0 hz1 hz2 rfl (by decide) _ _ _ rfl (World.ownsRow.alloc S2.out.t _) _ 1 1 [.int .u8 32] rfl rfl (cell_one_at _ _ (by simp) _ _) (by simp [Value.oneCell']) (by unfold maxLen; omega) (by omega) (by simp; omega) ?_; intro v3 w3 own3 gr3 hn3; obtain ⟨T3, a3, c3, hT3, l3, rfl, q30, q31, q32⟩ := S2.out.app1 (c := 32) own3 gr3; have HT3 : Hid (T3 = T ++ [32]) := hT3; have L3 : Hid (T3.length = T.length + 1) := l3; have b3 : T3.length ≤ T.length + 1 := Nat.le_of_eq l3; have S3 : Hid (Sb lo B O P W0 (w3.setCell ⟨O, 0, none⟩ (.slice a3 T3.length c3)) (.slice a3 T3.length c3) T3 _) := q32; have s3 := S3.out.bs; have x3 := S3.out.o.c; have y3 := S3.out.o.f; have k3 := S3.out.p.c; have f3 := S3.out.p.f; clear q32 own3 gr3 hn3 hT3 l3) | (at_builtin; refine Lib.wpList_append_own_string _ rfl _ _ 47 9 rfl B 5 i0 Tryz.underlying47 Tryz.underlying9 hi hz0 hz1 hz2 _ _ _ rfl S3.out.t ⟨(d : List UInt8).toArray⟩ rfl (by unfold maxLen; simp [ByteArray.size]; omega) (by simp [ByteArray.size]; omega) (by first | assumption | omega) ?_; intro v4 w4 own4 gr4 hn4; obtain ⟨T4, a4, c4, hT4, l4, rfl, q40, q41, q42⟩ := S3.out.apps (d := d) own4 gr4; have HT4 : Hid (T4 = T3 ++ d) := hT4; have L4 : Hid (T4.length = T3.length + (d : List UInt8).length) := l4; have b4 : T4.length ≤ T3.length + 21 := (by rw [l4]; first | omega | (simp; done) | (simp; omega)); have S4 : Hid (Sb lo B O P W0 (w4.setCell ⟨O, 0, none⟩ (.slice a4 T4.length c4)) (.slice a4 T4.length c4) T4 _) := q42; have s4 := S4.out.bs; have x4 := S4.out.o.c; have y4 := S4.out.o.f; have k4 := S4.out.p.c; have f4 := S4.out.p.f; clear q42 own4 gr4 hn4 hT4 l4))
    go_end0
    refine ⟨⟨_, rfl⟩, .slice a4 T4.length c4, ?_⟩
    rw [HPW.out]
    have hT : s1 ++ (s2 ++ [32] ++ d) = T4 := by rw [HT4.out, HT3.out, HTT.out]; simp
    show Sb lo B O P W0 _ _ (s1 ++ (s2 ++ [32] ++ d)) _
    rw [hT]
    exact S4.out
  · have HPW : Hid (putN (s1, s2) z = (s1 ++ s2 ++ [10], [118] ++ [32] ++ d)) := by
      show _ = _
      rw [HP.out]; unfold putW; rw [if_pos (of_decide_eq_true hq)]
    have hc : decide ((78 : Int) < ((s1 ++ s2).length : Int) - (s1.length : Int) + 1 + (d.length : Int)) = true := by
      have := of_decide_eq_true hq
      exact decide_eq_true (by have := HLn.out; omega)
    clear hlen
    generalize hTT : s1 ++ s2 = T at *
    have HTT : Hid (T = s1 ++ s2) := hTT.symm
    clear hTT
    go_enter Tryz.func26, Tryz.ntmps26
    go_wp2_with fail
    refine HI.out.mono ?_
    rintro e w2 ⟨rfl, bel2⟩
    have S2 : Hid (Sb lo B O P W0 w2 (.slice av T.length cv) T s1.length) := HS.out.on bel2
    have c0 := S2.out.o.c
    have c1 := S2.out.p.c
    have f0 := S2.out.o.f
    have hbs := S2.out.bs
    clear HI bel2 HS
    go_wp2_with (first | (at_builtin; refine wpList_append_own _ rfl _ _ 47 rfl B 5 i0 (.int .u8 0) 1 1 Tryz.underlying47 hi hz0 hz1 hz2 rfl (by decide) _ _ _ rfl (World.ownsRow.alloc S2.out.t _) _ 1 1 [.int .u8 10] rfl rfl (cell_one_at _ _ (by simp) _ _) (by simp [Value.oneCell']) (by unfold maxLen; omega) (by omega) (by simp; omega) ?_; intro v3 w3 own3 gr3 hn3; obtain ⟨T3, a3, c3, hT3, l3, rfl, q30, q31, q32⟩ := S2.out.app1 (c := 10) own3 gr3; have HT3 : Hid (T3 = T ++ [10]) := hT3; have L3 : Hid (T3.length = T.length + 1) := l3; have b3 : T3.length ≤ T.length + 1 := Nat.le_of_eq l3; have S3 : Hid (Sb lo B O P W0 (w3.setCell ⟨O, 0, none⟩ (.slice a3 T3.length c3)) (.slice a3 T3.length c3) T3 _) := q32; have s3 := S3.out.bs; have x3 := S3.out.o.c; have y3 := S3.out.o.f; have k3 := S3.out.p.c; have f3 := S3.out.p.f; clear q32 own3 gr3 hn3 hT3 l3; have S3p : Hid (Sb lo B O P W0 ((w3.setCell ⟨O, 0, none⟩ (.slice a3 T3.length c3)).setCell ⟨P, 0, none⟩ (.int .i64 (T3.length : Int))) (.slice a3 T3.length c3) T3 (T3.length : Int)) := S3.out.setP _; have x3p := S3p.out.o.c; have y3p := S3p.out.o.f) | (at_builtin; refine Lib.wpList_append_own_string _ rfl _ _ 47 9 rfl B 5 i0 Tryz.underlying47 Tryz.underlying9 hi hz0 hz1 hz2 _ _ _ rfl S3p.out.t ⟨([118] : List UInt8).toArray⟩ rfl (by unfold maxLen; simp [ByteArray.size]; omega) (by simp [ByteArray.size]; omega) (by first | assumption | exact S3p.out.bs | omega) ?_; intro v4 w4 own4 gr4 hn4; obtain ⟨T4, a4, c4, hT4, l4, rfl, q40, q41, q42⟩ := S3p.out.apps (d := [118]) own4 gr4; have HT4 : Hid (T4 = T3 ++ [118]) := hT4; have L4 : Hid (T4.length = T3.length + ([118] : List UInt8).length) := l4; have b4 : T4.length ≤ T3.length + 21 := (by rw [l4]; first | omega | (simp; done) | (simp; omega)); have S4 : Hid (Sb lo B O P W0 (w4.setCell ⟨O, 0, none⟩ (.slice a4 T4.length c4)) (.slice a4 T4.length c4) T4 _) := q42; have s4 := S4.out.bs; have x4 := S4.out.o.c; have y4 := S4.out.o.f; have k4 := S4.out.p.c; have f4 := S4.out.p.f; clear q42 own4 gr4 hn4 hT4 l4; refine Hid.out ?_))
    refine Lib.hid ?_
    go_wp2_with (first | (at_builtin; refine wpList_append_own _ rfl _ _ 47 rfl B 5 i0 (.int .u8 0) 1 1 Tryz.underlying47 hi hz0 hz1 hz2 rfl (by decide) _ _ _ rfl (World.ownsRow.alloc S4.out.t _) _ 1 1 [.int .u8 32] rfl rfl (cell_one_at _ _ (by simp) _ _) (by simp [Value.oneCell']) (by unfold maxLen; omega) (by omega) (by have h := S4.out.bs; simp at h ⊢; omega) ?_; intro v5 w5 own5 gr5 hn5; obtain ⟨T5, a5, c5, hT5, l5, rfl, q50, q51, q52⟩ := S4.out.app1 (c := 32) own5 gr5; have HT5 : Hid (T5 = T4 ++ [32]) := hT5; have L5 : Hid (T5.length = T4.length + 1) := l5; have b5 : T5.length ≤ T4.length + 1 := Nat.le_of_eq l5; have S5 : Hid (Sb lo B O P W0 (w5.setCell ⟨O, 0, none⟩ (.slice a5 T5.length c5)) (.slice a5 T5.length c5) T5 _) := q52; have s5 := S5.out.bs; have x5 := S5.out.o.c; have y5 := S5.out.o.f; have k5 := S5.out.p.c; have f5 := S5.out.p.f; clear q52 own5 gr5 hn5 hT5 l5) | (at_builtin; refine Lib.wpList_append_own_string _ rfl _ _ 47 9 rfl B 5 i0 Tryz.underlying47 Tryz.underlying9 hi hz0 hz1 hz2 _ _ _ rfl S5.out.t ⟨(d : List UInt8).toArray⟩ rfl (by unfold maxLen; simp [ByteArray.size]; omega) (by simp [ByteArray.size]; omega) (by first | assumption | exact S5.out.bs | omega) ?_; intro v6 w6 own6 gr6 hn6; obtain ⟨T6, a6, c6, hT6, l6, rfl, q60, q61, q62⟩ := S5.out.apps (d := d) own6 gr6; have HT6 : Hid (T6 = T5 ++ d) := hT6; have L6 : Hid (T6.length = T5.length + (d : List UInt8).length) := l6; have b6 : T6.length ≤ T5.length + 21 := (by rw [l6]; first | omega | (simp; done) | (simp; omega)); have S6 : Hid (Sb lo B O P W0 (w6.setCell ⟨O, 0, none⟩ (.slice a6 T6.length c6)) (.slice a6 T6.length c6) T6 _) := q62; have s6 := S6.out.bs; have x6 := S6.out.o.c; have y6 := S6.out.o.f; have k6 := S6.out.p.c; have f6 := S6.out.p.f; clear q62 own6 gr6 hn6 hT6 l6))
    go_end0
    refine ⟨⟨_, rfl⟩, .slice a6 T6.length c6, ?_⟩
    rw [HPW.out]
    have hT : (T ++ [10]) ++ ([118] ++ [32] ++ d) = T6 := by rw [HT6.out, HT5.out, HT4.out, HT3.out]; simp
    show Sb lo B O P W0 _ _ ((T ++ [10]) ++ ([118] ++ [32] ++ d)) _
    rw [hT, ← HT3.out]
    exact S6.out

end Go.Proofs.YtlkbbbbclmffjaaGreatDoor
set_option linter.unusedSimpArgs false
set_option linter.unusedVariables false
namespace Go.Proofs.YtlkbbbbclmffjaaGreatDoor
open Go Go.RowKit Go.Lib Go.Sort

/-- what is put behind k numbers, the 0 among them -/
def putX (m : List Bool) (k : Nat) : List UInt8 × List UInt8 := if k ≤ m.length then putTo m k else putN (putTo m m.length) 0
theorem putX_next (m : List Bool) (k : Nat) (h : k < m.length) : putX m (k + 1) = putN (putX m k) (numAt m k) := by
  unfold putX; rw [if_pos (by omega), if_pos (by omega), putTo_succ]
theorem putX_last (m : List Bool) : putX m (m.length + 1) = putN (putX m m.length) 0 := by
  unfold putX; rw [if_neg (by omega), if_pos (Nat.le_refl _)]
theorem putX_len (m : List Bool) (k : Nat) (h : k ≤ m.length) (hm : m.length ≤ 1048576) : (putX m k).1.length + (putX m k).2.length ≤ 100000000 := by
  unfold putX; rw [if_pos h]
  have := putTo_len m k (by omega)
  omega

set_option maxHeartbeats 3200000 in
set_option maxRecDepth 100000 in
theorem rWriteAnswer_any (sat : Bool) (vm : Value) (m : List Bool) (w : World) (hm : RdB w vm m) (hl : m.length ≤ 1048576) (ht : TensY w) :
    Calls Tryz.prog 13 #[.bool sat, vm] w fun e w' => e = .returned (.string ⟨(ansF sat m).toArray⟩) ∧ RowKit.Below w.heap.size w w' := by
  have HM : Hid (RdB w vm m) := hm
  have HT : Hid (TensY w) := ht
  obtain ⟨am, cm, rfl, -⟩ := hm.form
  clear hm ht
  cases sat
  · go_enter Tryz.func13, Tryz.ntmps13
    go_wp2
    go_ret
    exact ⟨rfl, RowKit.Below.refl _ _⟩
  go_enter Tryz.func13, Tryz.ntmps13
  go_wp2
  go_loopg [5, 6, 7] (m.length + 1) (fun g s ln i wr => ∃ k : Nat, k + g = m.length + 1 ∧ i = .int .i64 k ∧ s = .string ⟨(putX m k).1.toArray⟩ ∧ ln = .string ⟨(putX m k).2.toArray⟩ ∧ RowKit.Below w.heap.size w wr)
  case atStart => exact ⟨0, by omega, rfl, by simp [putX, putTo, satL], by simp [putX, putTo], RowKit.Below.refl _ _⟩
  case round =>
    obtain ⟨k, hk, rfl, rfl, rfl, bel⟩ := hrel
    have HK : Hid (k + gk = m.length + 1) := hk
    by_cases hle : k ≤ m.length
    · have hlen := putX_len m k hle hl
      obtain ⟨a', c', e', hcell⟩ := (HM.out.below bel).form
      have e3 : a' = am ∧ c' = cm := by injection e' with q1 q2 q3; exact ⟨q1.symm, q3.symm⟩
      obtain ⟨rfl, rfl⟩ := e3
      by_cases hlt : k < m.length
      · obtain ⟨b, off, rfl, hck⟩ := hcell k hlt
        have HNx0 : Hid (putX m (k + 1) = putN (putX m k) (numAt m k)) := putX_next m k hlt
        cases hb : m.getD k false
        · have HNx : Hid (putX m (k + 1) = putN (putX m k) (-((k : Int) + 1))) := by show _ = _; rw [HNx0.out]; unfold numAt; rw [hb]; rfl
          rw [hb] at hck
          clear hk hcell e' hb HNx0
          generalize putX m k = st at *
          obtain ⟨s1, s2⟩ := st
          simp only at *

          have hil := Lib.itoa_length_le (-((k : Int) + 1)) (by omega) (by omega)
          have HI2 : Hid (Calls Tryz.prog 22 #[.int .i64 (-((k : Int) + 1))] wr fun e w' => e = .returned (.string ⟨(Lib.itoa (-((k : Int) + 1))).toArray⟩) ∧ RowKit.Below wr.heap.size wr w') := itoa_any (-((k : Int) + 1)) (by omega) (by omega) wr (HT.out.below bel)
          have HPN : Hid (putX m (k + 1) = putW (s1, s2) (Lib.itoa (-((k : Int) + 1)))) := by show _ = _; rw [HNx.out]; rfl
          generalize Lib.itoa (-((k : Int) + 1)) = d at *
          obtain ⟨wd, hwd⟩ : ∃ X, X = [32] ++ d := ⟨_, rfl⟩
          have lw : wd.length = 1 + d.length := by rw [hwd]; simp; omega
          have hwb : wd.length ≤ 22 := by omega
          have hs2b : s2.length ≤ 100000000 := by omega
          have hs1b : s1.length ≤ 100000000 := by omega
          have k1 := cat_run [32] d wd hwd (by simp; omega)
          cases hq : decide (78 < s2.length + wd.length)
          · have HP2 : Hid (putX m (k + 1) = (s1, s2 ++ wd)) := by
              show _ = _
              rw [HPN.out]; unfold putW; rw [if_neg (by have := of_decide_eq_false hq; simp only; omega), hwd]; simp
            have k2 := cat_run s2 wd (s2 ++ wd) rfl (by omega)
            have hqi : decide ((78 : Int) < (s2.length : Int) + (wd.length : Int)) = false := decide_eq_false (by have := of_decide_eq_false hq; omega)
            clear hwd HPN lw
            go_wp2_with (go_at_call 22; refine HI2.out.mono ?_; rintro e w5 ⟨rfl, bel5⟩)
            go_roundg (gk - 1)
            case measure => have := HK.out; omega
            case rel => exact ⟨k + 1, by have := HK.out; omega, by go_num, by rw [HP2.out], by rw [HP2.out], Below.step bel bel5⟩
          · have HP2 : Hid (putX m (k + 1) = (s1 ++ s2 ++ [10], [118] ++ wd)) := by
              show _ = _
              rw [HPN.out]; unfold putW; rw [if_pos (by have := of_decide_eq_true hq; simp only; omega), hwd]; simp
            obtain ⟨X1, hX1⟩ : ∃ X, X = s1 ++ s2 := ⟨_, rfl⟩
            have lX : X1.length = s1.length + s2.length := by rw [hX1]; simp
            have k2 := cat_run s1 s2 X1 hX1 (by omega)
            have k3 := cat_run X1 [10] (s1 ++ s2 ++ [10]) (by rw [hX1]) (by simp; omega)
            have k4 := cat_run [118] wd ([118] ++ wd) rfl (by simp; omega)
            have hqi : decide ((78 : Int) < (s2.length : Int) + (wd.length : Int)) = true := decide_eq_true (by have := of_decide_eq_true hq; omega)
            clear hwd HPN lw hX1 lX
            go_wp2_with (go_at_call 22; refine HI2.out.mono ?_; rintro e w5 ⟨rfl, bel5⟩)
            go_roundg (gk - 1)
            case measure => have := HK.out; omega
            case rel => exact ⟨k + 1, by have := HK.out; omega, by go_num, by rw [HP2.out]; simp, by rw [HP2.out]; simp, Below.step bel bel5⟩

        · have HNx : Hid (putX m (k + 1) = putN (putX m k) ((k : Int) + 1)) := by show _ = _; rw [HNx0.out]; unfold numAt; rw [hb]; rfl
          rw [hb] at hck
          clear hk hcell e' hb HNx0
          generalize putX m k = st at *
          obtain ⟨s1, s2⟩ := st
          simp only at *

          have hil := Lib.itoa_length_le ((k : Int) + 1) (by omega) (by omega)
          have HI2 : Hid (Calls Tryz.prog 22 #[.int .i64 ((k : Int) + 1)] wr fun e w' => e = .returned (.string ⟨(Lib.itoa ((k : Int) + 1)).toArray⟩) ∧ RowKit.Below wr.heap.size wr w') := itoa_any ((k : Int) + 1) (by omega) (by omega) wr (HT.out.below bel)
          have HPN : Hid (putX m (k + 1) = putW (s1, s2) (Lib.itoa ((k : Int) + 1))) := by show _ = _; rw [HNx.out]; rfl
          generalize Lib.itoa ((k : Int) + 1) = d at *
          obtain ⟨wd, hwd⟩ : ∃ X, X = [32] ++ d := ⟨_, rfl⟩
          have lw : wd.length = 1 + d.length := by rw [hwd]; simp; omega
          have hwb : wd.length ≤ 22 := by omega
          have hs2b : s2.length ≤ 100000000 := by omega
          have hs1b : s1.length ≤ 100000000 := by omega
          have k1 := cat_run [32] d wd hwd (by simp; omega)
          cases hq : decide (78 < s2.length + wd.length)
          · have HP2 : Hid (putX m (k + 1) = (s1, s2 ++ wd)) := by
              show _ = _
              rw [HPN.out]; unfold putW; rw [if_neg (by have := of_decide_eq_false hq; simp only; omega), hwd]; simp
            have k2 := cat_run s2 wd (s2 ++ wd) rfl (by omega)
            have hqi : decide ((78 : Int) < (s2.length : Int) + (wd.length : Int)) = false := decide_eq_false (by have := of_decide_eq_false hq; omega)
            clear hwd HPN lw
            go_wp2_with (go_at_call 22; refine HI2.out.mono ?_; rintro e w5 ⟨rfl, bel5⟩)
            go_roundg (gk - 1)
            case measure => have := HK.out; omega
            case rel => exact ⟨k + 1, by have := HK.out; omega, by go_num, by rw [HP2.out], by rw [HP2.out], Below.step bel bel5⟩
          · have HP2 : Hid (putX m (k + 1) = (s1 ++ s2 ++ [10], [118] ++ wd)) := by
              show _ = _
              rw [HPN.out]; unfold putW; rw [if_pos (by have := of_decide_eq_true hq; simp only; omega), hwd]; simp
            obtain ⟨X1, hX1⟩ : ∃ X, X = s1 ++ s2 := ⟨_, rfl⟩
            have lX : X1.length = s1.length + s2.length := by rw [hX1]; simp
            have k2 := cat_run s1 s2 X1 hX1 (by omega)
            have k3 := cat_run X1 [10] (s1 ++ s2 ++ [10]) (by rw [hX1]) (by simp; omega)
            have k4 := cat_run [118] wd ([118] ++ wd) rfl (by simp; omega)
            have hqi : decide ((78 : Int) < (s2.length : Int) + (wd.length : Int)) = true := decide_eq_true (by have := of_decide_eq_true hq; omega)
            clear hwd HPN lw hX1 lX
            go_wp2_with (go_at_call 22; refine HI2.out.mono ?_; rintro e w5 ⟨rfl, bel5⟩)
            go_roundg (gk - 1)
            case measure => have := HK.out; omega
            case rel => exact ⟨k + 1, by have := HK.out; omega, by go_num, by rw [HP2.out]; simp, by rw [HP2.out]; simp, Below.step bel bel5⟩

      · obtain rfl : k = m.length := by omega
        have HNx : Hid (putX m (m.length + 1) = putN (putX m m.length) 0) := putX_last m
        clear hk hcell e'
        generalize putX m m.length = st at *
        obtain ⟨s1, s2⟩ := st
        simp only at *

        have hil := Lib.itoa_length_le (0) (by omega) (by omega)
        have HI2 : Hid (Calls Tryz.prog 22 #[.int .i64 (0)] wr fun e w' => e = .returned (.string ⟨(Lib.itoa (0)).toArray⟩) ∧ RowKit.Below wr.heap.size wr w') := itoa_any (0) (by omega) (by omega) wr (HT.out.below bel)
        have HPN : Hid (putX m (m.length + 1) = putW (s1, s2) (Lib.itoa (0))) := by show _ = _; rw [HNx.out]; rfl
        generalize Lib.itoa (0) = d at *
        obtain ⟨wd, hwd⟩ : ∃ X, X = [32] ++ d := ⟨_, rfl⟩
        have lw : wd.length = 1 + d.length := by rw [hwd]; simp; omega
        have hwb : wd.length ≤ 22 := by omega
        have hs2b : s2.length ≤ 100000000 := by omega
        have hs1b : s1.length ≤ 100000000 := by omega
        have k1 := cat_run [32] d wd hwd (by simp; omega)
        cases hq : decide (78 < s2.length + wd.length)
        · have HP2 : Hid (putX m (m.length + 1) = (s1, s2 ++ wd)) := by
            show _ = _
            rw [HPN.out]; unfold putW; rw [if_neg (by have := of_decide_eq_false hq; simp only; omega), hwd]; simp
          have k2 := cat_run s2 wd (s2 ++ wd) rfl (by omega)
          have hqi : decide ((78 : Int) < (s2.length : Int) + (wd.length : Int)) = false := decide_eq_false (by have := of_decide_eq_false hq; omega)
          clear hwd HPN lw
          go_wp2_with (go_at_call 22; refine HI2.out.mono ?_; rintro e w5 ⟨rfl, bel5⟩)
          go_roundg (gk - 1)
          case measure => have := HK.out; omega
          case rel => exact ⟨m.length + 1, by have := HK.out; omega, by go_num, by rw [HP2.out], by rw [HP2.out], Below.step bel bel5⟩
        · have HP2 : Hid (putX m (m.length + 1) = (s1 ++ s2 ++ [10], [118] ++ wd)) := by
            show _ = _
            rw [HPN.out]; unfold putW; rw [if_pos (by have := of_decide_eq_true hq; simp only; omega), hwd]; simp
          obtain ⟨X1, hX1⟩ : ∃ X, X = s1 ++ s2 := ⟨_, rfl⟩
          have lX : X1.length = s1.length + s2.length := by rw [hX1]; simp
          have k2 := cat_run s1 s2 X1 hX1 (by omega)
          have k3 := cat_run X1 [10] (s1 ++ s2 ++ [10]) (by rw [hX1]) (by simp; omega)
          have k4 := cat_run [118] wd ([118] ++ wd) rfl (by simp; omega)
          have hqi : decide ((78 : Int) < (s2.length : Int) + (wd.length : Int)) = true := decide_eq_true (by have := of_decide_eq_true hq; omega)
          clear hwd HPN lw hX1 lX
          go_wp2_with (go_at_call 22; refine HI2.out.mono ?_; rintro e w5 ⟨rfl, bel5⟩)
          go_roundg (gk - 1)
          case measure => have := HK.out; omega
          case rel => exact ⟨m.length + 1, by have := HK.out; omega, by go_num, by rw [HP2.out]; simp, by rw [HP2.out]; simp, Below.step bel bel5⟩

    · obtain rfl : k = m.length + 1 := by omega
      have HL : Hid (putX m (m.length + 1) = putN (putTo m m.length) 0) := by show _ = _; unfold putX; rw [if_neg (by omega)]
      have hlen : (putX m (m.length + 1)).1.length + (putX m (m.length + 1)).2.length ≤ 100000100 := by
        rw [HL.out]
        have h1 := putTo_len m m.length (by omega)
        have h2 := putN_len (putTo m m.length) 0 (by omega) (by omega)
        omega
      have HA : Hid (ansF true m = ((putX m (m.length + 1)).1 ++ (putX m (m.length + 1)).2) ++ [10]) := by show _ = _; rw [HL.out]; rfl
      clear hk
      generalize putX m (m.length + 1) = st at *
      obtain ⟨s1, s2⟩ := st
      simp only at *
      obtain ⟨X1, hX1⟩ : ∃ X, X = s1 ++ s2 := ⟨_, rfl⟩
      have lX : X1.length = s1.length + s2.length := by rw [hX1]; simp
      have k2 := cat_run s1 s2 X1 hX1 (by omega)
      have k3 := cat_run X1 [10] (ansF true m) (by rw [hX1]; exact HA.out) (by simp; omega)
      clear hX1 lX HA HL
      go_wp2
      go_ret
      exact ⟨rfl, bel⟩

end Go.Proofs.YtlkbbbbclmffjaaGreatDoor

/-
  dimacs.Write, walked.
-/
import Derived.Test.YtlkbbbbclmffjaaGreatDoorKFullRow
import Derived.Test.YtlkbbbbclmffjaaGreatDoorJForms
import Derived.Test.YtlkbbbbclmffjaaGreatDoorJGrow
import Derived.Handy
import Derived.Lib.AppendIntMem
import Derived.Lib.AppendStr
import Derived.Lib.Slices
import Derived.Lib.Hide
import Derived.Laws.IdiomStrings
import Derived.Laws.OwnMore
import Derived.OwnWalk
import Derived.BigCall
import Derived.Maps.AppendAt
import Derived.Deep.LoopGhost
set_option linter.unusedSimpArgs false
set_option linter.unusedVariables false
namespace Go.Proofs.YtlkbbbbclmffjaaGreatDoor
open Go.RowKit

set_option maxHeartbeats 3200000 in
set_option maxRecDepth 100000 in
theorem dimWrite_any (n : Int) (s : Value) (css : List (List Int)) (w : World) (hr : Rds w s css) (hbig : frm n css = true → (wrF n css).length ≤ 1099511627776) (htab : TensY w) :
    Calls Tryz.prog 5 #[.agg #[.int .i64 n, s]] w fun e w' => e = .returned (.tuple #[.string ⟨(if frm n css then wrF n css else []).toArray⟩, .int .i64 (if frm n css then 0 else 1)]) ∧ Below w.heap.size w w' := by
  have hl := hr.len
  have HX : Hid (Bx w n s css (w.alloc (.cells #[.int .i64 n, s] 24))) := Bx.new hr _
  obtain ⟨a, c, rfl, hc, hm, _⟩ := hr.form
  obtain ⟨i0, hi, hz0, hz1, hz2⟩ := info_parts infoY
  have HB0 : Hid (frm n css = true → (wrF n css).length ≤ 1099511627776) := hbig
  have HT0 : Hid (TensY w) := htab
  clear hr hbig htab
  cases hf : frm n css
  · go_enter Tryz.func5, Tryz.ntmps5
    go_wp2_with fail
    refine (cnfFormed_any n _ css _ HX.out.rd).mono ?_
    rw [hf]
    rintro e w1 ⟨rfl, bel1⟩
    have HX1 : Hid (Bx w n (.slice a css.length c) css w1) := HX.out.on bel1
    go_wp2
    go_returns
    exact ⟨rfl, HX1.out.bel⟩
  have HF : Hid (frm n css = true) := hf
  have HB : Hid ((wrF n css).length ≤ 1099511627776) := HB0.out hf
  clear HB0
  have hnr : 0 ≤ n ∧ n ≤ 1048576 := by
    have := hf; simp only [frm, Bool.and_eq_true, decide_eq_true_eq] at this; exact this.1
  go_enter Tryz.func5, Tryz.ntmps5
  go_wp2_with fail
  refine (cnfFormed_any n _ css _ HX.out.rd).mono ?_
  rw [hf]
  rintro e w1 ⟨rfl, bel1⟩
  have HX1 : Hid (Bx w n (.slice a css.length c) css w1) := HX.out.on bel1
  have c0 := HX1.out.c0
  have c1 := HX1.out.c1
  have hs1 : w.heap.size < w1.heap.size := World.block_lt_of_cell? w1 _ c0
  have HT : Hid (Lib.TabBelow Tryz.prog w1.heap.size w1 "internal/strconv.uint64pow10" .u64 Lib.pow10Tab) := Lib.tabBelow_of_tabIs (HT0.out.below HX1.out.bel)
  clear HX bel1 hf
  have hcv := Lib.run_convert_bytes_const (P := Tryz.prog) w1 47 5 #[.int .u8 112, .int .u8 32, .int .u8 99, .int .u8 110, .int .u8 102, .int .u8 32] 6 6 Tryz.underlying47 Tryz.underlying5
  have HFu : Hid (Full (w1.alloc (.cells #[.int .u8 112, .int .u8 32, .int .u8 99, .int .u8 110, .int .u8 102, .int .u8 32] 5 (6, 7))) (.slice (some ⟨w1.heap.size, 0, none⟩) 6 6) [112, 32, 99, 110, 102, 32]) := Full.new w1 [112, 32, 99, 110, 102, 32] (by simp) (6, 7)
  obtain ⟨nn, rfl⟩ : ∃ nn : Nat, n = nn := ⟨n.toNat, by omega⟩
  have HT1 : Hid (TensY (w1.alloc (.cells #[.int .u8 112, .int .u8 32, .int .u8 99, .int .u8 110, .int .u8 102, .int .u8 32] 5 (6, 7)))) := (HT0.out.below HX1.out.bel).below (below_box _ _)
  go_wp2_with fail
  refine (int_full w1.heap.size nn (by omega) _ [112, 32, 99, 110, 102, 32] _ HFu.out (by simp) (by decide) HT1.out).mono ?_
  rintro e w2 ⟨v2, rfl, own2, bel2⟩
  have bel12 : Below w1.heap.size w1 w2 := Below.step (below_box _ _) bel2
  have hs2 := bel12.size
  have hni := Lib.itoa_length_le (nn : Int) (by omega) (by omega)
  have hci := Lib.itoa_length_le (css.length : Int) (by omega) (by omega)
  obtain ⟨T2, hT2⟩ : ∃ T, T = [112, 32, 99, 110, 102, 32] ++ Lib.itoa (nn : Int) := ⟨_, rfl⟩
  rw [← hT2] at own2
  have hl2 : T2.length ≤ 40 := by rw [hT2]; simp; omega
  have HT2 : Hid (T2 = [112, 32, 99, 110, 102, 32] ++ Lib.itoa (nn : Int)) := hT2
  have HO2 : Hid (w2.ownsRow w1.heap.size 5 1 v2 T2.length (Lib.byteCells T2)) := own2
  have c1' : w2.cell? ⟨w.heap.size, 1, none⟩ = some (.slice a css.length c) := (bel12.cell (p := ⟨w.heap.size, 1, none⟩) hs1).trans c1
  clear hT2 own2 bel2 HFu HT1 hcv HT0 c0 c1
  go_wp2_with (at_builtin; refine wpList_append_own _ rfl _ _ 47 rfl w1.heap.size 5 i0 (.int .u8 0) 1 1 Tryz.underlying47 hi hz0 hz1 hz2 rfl (by decide) _ _ _ rfl (World.ownsRow.alloc HO2.out _) _ 1 1 [.int .u8 32] rfl rfl (cell_one_new _ _ _) (by simp [Value.oneCell']) (by unfold maxLen; omega) (by omega) (by simp; omega) ?_; intro v3 w3 own3 gr3 hn3; have bel13 : Below w1.heap.size w1 w3 := (bel12.alloc (by omega) _).grown gr3 (by simp; omega) (fun j hj => (HO2.out.lt j hj).1); have c13 : w3.cell? ⟨w.heap.size, 1, none⟩ = some (.slice a css.length c) := (bel13.cell (p := ⟨w.heap.size, 1, none⟩) hs1).trans HX1.out.c1)
  have own3' : OwnT w1.heap.size w3 v3 (T2 ++ [32]) := OwnT.one own3
  have hs3 := bel13.size
  have HO3 : Hid (w3.ownsRow w1.heap.size 5 1 v3 (T2 ++ [32]).length (Lib.byteCells (T2 ++ [32]))) := own3'
  refine (Tryz.strconv_AppendInt_10 w1.heap.size (T2 ++ [32]).length css.length (by omega) (by omega) _ (Lib.byteCells (T2 ++ [32])) _ HO3.out hs3 (by simp; omega) (HT.out.on bel13)).mono ?_
  rintro e w4 ⟨v4, rfl, own4, bel4, -⟩
  have bel14 : Below w1.heap.size w1 w4 := bel13.trans bel4
  have hs4 := bel14.size
  have own4' := OwnT.more own4
  obtain ⟨T4, hT4⟩ : ∃ T, T = (T2 ++ [32]) ++ Lib.itoa (css.length : Int) := ⟨_, rfl⟩
  rw [← hT4] at own4'
  have hl4 : T4.length ≤ 80 := by rw [hT4]; simp; omega
  have HT4 : Hid (T4 ++ [10] = headOf nn css.length) := by show T4 ++ [10] = headOf nn css.length; rw [hT4, HT2.out]; rfl
  have HO4 : Hid (w4.ownsRow w1.heap.size 5 1 v4 T4.length (Lib.byteCells T4)) := own4'
  have c14 : w4.cell? ⟨w.heap.size, 1, none⟩ = some (.slice a css.length c) := (bel14.cell (p := ⟨w.heap.size, 1, none⟩) hs1).trans HX1.out.c1
  clear hT4 own4 own4' own3 own3' HO3 HO2 gr3 hn3 bel4 bel12 bel13 hs2 hs3 c1' HT2 hni hci c13
  go_wp2_with (at_builtin; refine wpList_append_own _ rfl _ _ 47 rfl w1.heap.size 5 i0 (.int .u8 0) 1 1 Tryz.underlying47 hi hz0 hz1 hz2 rfl (by decide) _ _ _ rfl (World.ownsRow.alloc HO4.out _) _ 1 1 [.int .u8 10] rfl rfl (cell_one_new _ _ _) (by simp [Value.oneCell']) (by unfold maxLen; omega) (by omega) (by simp; omega) ?_; intro v5 w5 own5 gr5 hn5; have bel15 : Below w1.heap.size w1 w5 := (bel14.alloc (by omega) _).grown gr5 (by simp; omega) (fun j hj => (HO4.out.lt j hj).1); have c15 : w5.cell? ⟨w.heap.size, 1, none⟩ = some (.slice a css.length c) := (bel15.cell (p := ⟨w.heap.size, 1, none⟩) hs1).trans HX1.out.c1)
  have own5' : OwnT w1.heap.size w5 v5 (headOf nn css.length) := by rw [← HT4.out]; exact OwnT.one own5
  have HO5 : Hid (OwnT w1.heap.size w5 v5 (headOf nn css.length)) := own5'
  clear own5 own5' HO4 gr5 hn5 HT4 hl4 hs4 bel14 c14 c15 hl2
  go_loopg [4, 32] css.length (fun g u i wr => ∃ k : Nat, k + g = css.length ∧ i = .int .i64 k ∧ OwnT w1.heap.size wr u (headOf nn css.length ++ bodyOf (css.take k)) ∧ Below w1.heap.size w1 wr)
  case atStart => exact ⟨0, by omega, rfl, by simpa [bodyOf] using HO5.out, bel15⟩
  case round =>
    clear HO5 bel15
    obtain ⟨k, hk, rfl, own, bel⟩ := hrel
    have HK : Hid (k + gk = css.length) := hk
    have hs := bel.size
    by_cases hlt : k < css.length
    · obtain ⟨b, off, uc, rfl, hck1, hrd⟩ := HX1.out.at hlt
      have hck : wr.cell? ⟨b, off + k, none⟩ = some uc := (bel.cell (p := ⟨b, off + k, none⟩) (World.block_lt_of_cell? w1 _ hck1)).trans hck1
      have HP : Hid (∀ j, ((headOf nn css.length ++ bodyOf (css.take k)) ++ textOf ((css.getD k []).take j)).length + 2 ≤ 1099511627776) := fun j => Nat.le_trans (wr_pre nn css k j hlt) HB.out
      have HM : Hid (headOf nn css.length ++ bodyOf (css.take (k + 1)) = ((headOf nn css.length ++ bodyOf (css.take k)) ++ textOf (css.getD k [])) ++ [48, 10]) := by show _ = _; rw [bodyOf_more css k hlt]; simp
      have HZ : Hid (∀ j, j < (css.getD k []).length → fmd ((css.getD k []).getD j 0) = true) := fun j hj => by
        have h1 := HF.out
        simp only [frm, Bool.and_eq_true] at h1
        have h2 := List.all_eq_true.1 h1.2 _ (getD_mem' (d := []) hlt)
        have h3 := List.all_eq_true.1 h2 _ (getD_mem' (d := 0) hj)
        simp only [Bool.and_eq_true] at h3
        exact h3.1
      obtain ⟨ac, cc, rfl, hcc, hcm, _⟩ := hrd.form
      have HR : Hid (Rd w1 (.slice ac (css.getD k []).length cc) (css.getD k [])) := hrd
      clear hk hrd hck1
      generalize headOf nn css.length ++ bodyOf (css.take k) = T at *
      generalize css.getD k [] = zs at *
      have hzl := HR.out.len
      go_wp2
      go_loopg [4, 38] zs.length (fun g u i wq => ∃ j : Nat, j + g = zs.length ∧ i = .int .i64 j ∧ OwnT w1.heap.size wq u (T ++ textOf (zs.take j)) ∧ Below w1.heap.size w1 wq)
      case atStart => exact ⟨0, by omega, rfl, by simpa [textOf] using own, bel⟩
      case round =>
        clear own bel hs hck
        obtain ⟨j, hj, rfl, own, bel⟩ := hrel
        have HJ : Hid (j + gk = zs.length) := hj
        have hs := bel.size
        have hln := HP.out j
        have HO : Hid (OwnT w1.heap.size _ _ (T ++ textOf (zs.take j))) := own
        by_cases hjt : j < zs.length
        · obtain ⟨a', c', e', _, _, hcell⟩ := (HR.out.below bel).form
          have e3 : a' = ac ∧ c' = cc := by injection e' with q1 q2 q3; exact ⟨q1.symm, q3.symm⟩
          obtain ⟨rfl, rfl⟩ := e3
          obtain ⟨b2, off2, rfl, hcj⟩ := hcell j hjt
          have hfm := fmd_range (HZ.out j hjt)
          have HS : Hid (T ++ textOf (zs.take (j + 1)) = ((T ++ textOf (zs.take j)) ++ Lib.itoa (zs.getD j 0)) ++ [32]) := by show T ++ textOf (zs.take (j + 1)) = _; rw [textOf_more zs j hjt]; simp
          have hil := Lib.itoa_length_le (zs.getD j 0) (by omega) (by omega)
          clear hj hcell e' own
          generalize T ++ textOf (zs.take j) = X at *
          generalize zs.getD j 0 = z at *
          have hX : X.length + 2 ≤ 1099511627776 := hln
          have HO' : Hid (wr.ownsRow w1.heap.size 5 1 _ X.length (Lib.byteCells X)) := HO.out
          go_wp2_with (first | (go_at_call 20; refine (Tryz.strconv_AppendInt_10 w1.heap.size X.length z (by omega) (by omega) _ (Lib.byteCells X) wr HO'.out hs (by omega) (HT.out.on bel)).mono ?_; rintro e w2x ⟨v2x, rfl, own2x, bel2x, -⟩; have hs2x := bel2x.size; refine Hid.out ?_))
          refine Lib.hid ?_
          have hb2 : Below w1.heap.size w1 w2x := bel.trans bel2x
          have own2y := OwnT.more own2x
          have hXl : (X ++ Lib.itoa z).length ≤ 1099511627776 + 30 := by simp; omega
          generalize X ++ Lib.itoa z = Y at *
          have HY : Hid (w2x.ownsRow w1.heap.size 5 1 v2x Y.length (Lib.byteCells Y)) := own2y
          clear own2x own2y
          go_wp2_with (at_builtin; refine wpList_append_own _ rfl _ _ 47 rfl w1.heap.size 5 i0 (.int .u8 0) 1 1 Tryz.underlying47 hi hz0 hz1 hz2 rfl (by decide) _ _ _ rfl (World.ownsRow.alloc HY.out _) _ 1 1 [.int .u8 32] rfl rfl (cell_one_new _ _ _) (by simp [Value.oneCell']) (by unfold maxLen; omega) (by omega) (by simp; omega) ?_; intro v3x w3x own3x gr3x hn3x)
          go_roundg (gk - 1)
          case measure => have := HJ.out; omega
          case rel => exact ⟨j + 1, by have := HJ.out; omega, by go_num, by rw [HS.out]; exact OwnT.one own3x, (hb2.alloc (by omega) _).grown gr3x (by simp; omega) (fun q hq => (HY.out.lt q hq).1)⟩
        · obtain rfl : j = zs.length := by omega
          rw [List.take_length] at own HO hln
          have hX : (T ++ textOf zs).length + 2 ≤ 1099511627776 := hln
          clear hj hln
          generalize T ++ textOf zs = X at *
          have HO' : Hid (wr.ownsRow w1.heap.size 5 1 _ X.length (Lib.byteCells X)) := HO.out
          clear own
          go_wp2_with (at_builtin; refine Lib.wpList_append_own_string _ rfl _ _ 47 9 rfl w1.heap.size 5 i0 Tryz.underlying47 Tryz.underlying9 hi hz0 hz1 hz2 _ _ _ rfl HO'.out ⟨#[48, 10]⟩ rfl (by unfold maxLen; show _ + 2 ≤ _; omega) (by show _ + 2 ≤ _; omega) hs ?_; intro v3x w3x own3x gr3x hn3x)
          go_roundg (css.length - k - 1)
          case measure => have := HK.out; omega
          case rel => exact ⟨k + 1, by have := HK.out; omega, by go_num, by rw [HM.out]; exact OwnT.more (D := [48, 10]) own3x, bel.grown gr3x (by omega) (fun q hq => (HO'.out.lt q hq).1)⟩
    · obtain rfl : k = css.length := by omega
      rw [List.take_length] at own
      have hp : 0 < (wrF nn css).length := by simp [wrF, headOf]
      clear hk
      obtain ⟨l, hl'⟩ : ∃ l, l = wrF nn css := ⟨_, rfl⟩
      rw [← hl'] at hp
      rw [show headOf nn css.length ++ bodyOf css = l from hl'.symm] at own
      have own' := own
      have HL := Lib.hid hl'
      clear hl' own
      rcases own'.2 with ⟨-, h0⟩ | ⟨g, cap, cur, rfl, -, -, -, -, -, -⟩
      · omega
      · have hcv := run_convert_bytes_back (P := Tryz.prog) wr 47 9 5 ⟨g, 0, none⟩ cap l Tryz.underlying47 Tryz.underlying5 Tryz.underlying9 (fun j hj => World.ownsRow.cells own' (g := g) rfl j _ (by simp [Lib.byteCells, hj]))
        go_wp2
        go_returns
        have hl := HL.out
        subst hl
        exact ⟨rfl, HX1.out.bel.trans (bel.mono HX1.out.bel.size)⟩

end Go.Proofs.YtlkbbbbclmffjaaGreatDoor

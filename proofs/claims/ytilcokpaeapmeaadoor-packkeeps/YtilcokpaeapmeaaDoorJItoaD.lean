/-
  joined: ItoaD DrWr
-/
import Derived.Test.YtilcokpaeapmeaaDoorKFullRow
import Derived.Test.YtilcokpaeapmeaaDoorJText
import Derived.Test.YtilcokpaeapmeaaDoorJAppK
import Derived.Lib.SmallJoins
import Derived.Handy
import Derived.Lib.AppendIntMem
import Derived.Lib.AppendStr
import Derived.Lib.Slices
import Derived.Lib.Hide
import Derived.Laws.IdiomStrings
import Derived.Laws.OwnMore
import Derived.OwnWalk
import Derived.BigCall
import Derived.Maps.AppendAt
import Derived.Deep.LoopGhost
set_option linter.unusedSimpArgs false
set_option linter.unusedVariables false
namespace Go.Proofs.YtilcokpaeapmeaaDoor
open Go Go.RowKit Go.Lib Go.Sort

theorem itoa9_any (z : Int) (h0 : -9223372036854775808 ≤ z) (h1 : z ≤ 9223372036854775807) (w : World) (htab : TensY w) :
    Calls Tryd.prog 34 #[.int .i64 z] w fun e w' => e = .returned (.string ⟨(Lib.itoa z).toArray⟩) ∧ Below w.heap.size w w' :=
  (Tryd.strconv_Itoa z h0 h1 w htab).mono fun e w' h => by
    obtain ⟨rfl, k, os, rfl⟩ := h
    exact ⟨rfl, Lib.below_grow w.heap.size w (Nat.le_refl _) k os⟩
/-- two texts, one behind the other -/
theorem cat9_run (x y z : List UInt8) (hz : z = x ++ y) (h : x.length + y.length ≤ 9223372036854775807) (w : World) : (Op.stringOp .add ⟨x.toArray⟩ ⟨y.toArray⟩).run Tryd.prog w = .ok (.string ⟨z.toArray⟩) w := by
  subst hz
  rw [run_string_add_sum w _ _ (by simp [ByteArray.size]; omega), ByteArray.mk_append_mk]

end Go.Proofs.YtilcokpaeapmeaaDoor
set_option linter.unusedSimpArgs false
set_option linter.unusedVariables false
namespace Go.Proofs.YtilcokpaeapmeaaDoor
open Go Go.RowKit

/-- how long a text may be -/
def wz (l : List Stp) : Nat := 22 * (l.map (fun x => x.2.length)).sum + 4 * l.length
theorem wz_take (l : List Stp) (k : Nat) : wz (l.take k) ≤ wz l := by
  have e : l = l.take k ++ l.drop k := (List.take_append_drop k l).symm
  have e2 : wz l = wz (l.take k) + wz (l.drop k) := by
    conv => lhs; rw [e]
    simp only [wz, List.map_append, List.sum_append, List.length_append]; omega
  omega
theorem snd_take_more (l : List Stp) (k : Nat) (h : k < l.length) : sndS (l.take (k + 1)) = (sndS (l.take k) && (l.getD k (false, [])).2.all fmd) := by
  unfold sndS; rw [all_take_getD _ l (false, []) k h]
theorem wz_pre (l : List Stp) (k j : Nat) (h : k < l.length) (hs : sndS (l.take (k + 1)) = true) : ((drW (l.take k) ++ (if (l.getD k (false, [])).1 then [100, 32] else [])) ++ textOf ((l.getD k (false, [])).2.take j)).length + 2 ≤ wz l := by
  have h1 := drW_len (l.take (k + 1)) hs
  have h2 := wz_take l (k + 1)
  have h3 := dr_pre (l.take (k + 1)) k j (by simp; omega)
  have e1 : (l.take (k + 1)).take k = l.take k := by rw [List.take_take]; congr 1; omega
  have e2 : (l.take (k + 1)).getD k (false, []) = l.getD k (false, []) := by simp [List.getD_eq_getElem?_getD, List.getElem?_take]
  rw [e1, e2] at h3
  unfold wz at h2 ⊢
  omega

theorem nil_bytes (w : World) : (convert 44 9 (.slice none 0 0)).run Tryd.prog w = .ok (.string ⟨#[]⟩) w := by
  rw [run_convert_bytes_string w 44 9 5 none 0 0 Tryd.underlying44 Tryd.underlying5 Tryd.underlying9]
  rfl

set_option maxHeartbeats 3200000 in
set_option maxRecDepth 100000 in
theorem drWrite_any (s : Value) (l : List Stp) (w : World) (hr : RdZ w s l) (hbig : wz l ≤ 1099511627776) (htab : TensY w) :
    Calls Tryd.prog 6 #[s] w fun e w' => e = .returned (.tuple #[.string ⟨(if sndS l then drW l else []).toArray⟩, .int .i64 (if sndS l then 0 else 1)]) ∧ Below w.heap.size w w' := by
  have hl := hr.len
  have HR : Hid (RdZ w s l) := hr
  obtain ⟨a, c, rfl, hc, hm, _⟩ := hr.form
  obtain ⟨i0, hi, hz0, hz1, hz2⟩ := info_parts infoY
  have HB : Hid (wz l ≤ 1099511627776) := hbig
  have HT : Hid (Lib.TabBelow Tryd.prog w.heap.size w "internal/strconv.uint64pow10" .u64 Lib.pow10Tab) := Lib.tabBelow_of_tabIs htab
  obtain ⟨X, hX⟩ : ∃ X, X = (if sndS l = true then drW l else []) := ⟨_, rfl⟩
  obtain ⟨E, hE⟩ : ∃ E : Int, E = (if sndS l = true then 0 else 1) := ⟨_, rfl⟩
  rw [← hX, ← hE]
  have HX0 : Hid (sndS l = false → X = [] ∧ E = 1) := fun h => by rw [hX, hE, h]; exact ⟨rfl, rfl⟩
  have HX1 : Hid (sndS l = true → X = drW l ∧ E = 0) := fun h => by rw [hX, hE, h]; exact ⟨rfl, rfl⟩
  clear hr hbig htab hX hE
  go_enter Tryd.func6, Tryd.ntmps6
  go_wp2
  go_loopg [4, 11] l.length (fun g u i wr => ∃ k : Nat, k + g = l.length ∧ i = .int .i64 k ∧ OwnT w.heap.size wr u (drW (l.take k)) ∧ sndS (l.take k) = true ∧ Below w.heap.size w wr)
  case atStart => exact ⟨0, by omega, rfl, World.ownsRow_nil _ _ _ _, rfl, Below.refl _ _⟩
  case round =>
    obtain ⟨k, hk, rfl, own, hsn, bel⟩ := hrel
    have HK : Hid (k + gk = l.length) := hk
    have HSN : Hid (sndS (l.take k) = true) := hsn
    have hs := bel.size
    clear hsn
    by_cases hlt : k < l.length
    · obtain ⟨a', c', e', _, _, hcell⟩ := HR.out.form
      have e3 : a' = a ∧ c' = c := by injection e' with q1 q2 q3; exact ⟨q1.symm, q3.symm⟩
      obtain ⟨rfl, rfl⟩ := e3
      obtain ⟨b, off, uc, rfl, hbl, hd0, hu0, hrd⟩ := hcell k hlt
      have hd := (bel.cell (p := ⟨b, off + k * 2, none⟩) hbl).trans hd0
      have hu := (bel.cell (p := ⟨b, off + k * 2 + 1, none⟩) hbl).trans hu0
      clear hd0 hu0
      have HS : Hid (sndS (l.take (k + 1)) = (sndS (l.take k) && (l.getD k (false, [])).2.all fmd)) := snd_take_more l k hlt
      have HP0 : Hid (sndS (l.take (k + 1)) = true → ∀ j, ((drW (l.take k) ++ (if (l.getD k (false, [])).1 then [100, 32] else [])) ++ textOf ((l.getD k (false, [])).2.take j)).length + 2 ≤ 1099511627776) := fun h j => Nat.le_trans (wz_pre l k j hlt h) HB.out
      have HM0 : Hid (drW (l.take (k + 1)) = ((drW (l.take k) ++ (if (l.getD k (false, [])).1 then [100, 32] else [])) ++ textOf (l.getD k (false, [])).2) ++ [48, 10]) := by show _ = _; rw [drW_more l k hlt]; simp [stpT]
      obtain ⟨ac, cc, rfl, hcc, hcm, _⟩ := hrd.form
      have HRd : Hid (Rd w (.slice ac (l.getD k (false, [])).2.length cc) (l.getD k (false, [])).2) := hrd
      have HNo : Hid ((l.getD k (false, [])).2.all fmd = false → sndS l = false) := fun h => by unfold sndS; exact all_false_getD (d := (false, [])) hlt h
      clear hk hcell e' hrd
      generalize l.getD k (false, []) = xk at *
      obtain ⟨dd, zs⟩ := xk
      dsimp only at *
      generalize drW (l.take k) = T at *
      have hzl := HRd.out.len
      have HX : Hid (Rd (wr.alloc (.cells #[.bool dd, .slice ac zs.length cc] 61)) (.slice ac zs.length cc) zs) := (HRd.out.below bel).below (below_box _ _)
      have HOA : Hid (OwnT w.heap.size (wr.alloc (.cells #[.bool dd, .slice ac zs.length cc] 61)) _ T) := World.ownsRow.alloc own _
      have HBA : Hid (Below w.heap.size w (wr.alloc (.cells #[.bool dd, .slice ac zs.length cc] 61))) := bel.alloc hs _
      have HBx0 : Hid (Bx2 (wr.alloc (.cells #[.bool dd, .slice ac zs.length cc] 61)) wr.heap.size 61 (.bool dd) (.slice ac zs.length cc)) := Bx2.new _ _ _ _
      cases hf : zs.all fmd
      · go_wp2_with fail
        refine (sound_any _ zs _ HX.out).mono ?_
        rw [hf]
        rintro e w1 ⟨rfl, rfl⟩
        obtain ⟨h1, h2⟩ := HX0.out (HNo.out hf)
        clear hf
        go_wp2
        go_returns
        rw [h1, h2]
        exact ⟨rfl, HBA.out⟩
      have HSt : Hid (sndS (l.take (k + 1)) = true) := by show _ = _; rw [HS.out, HSN.out, hf]; rfl
      have HZ : Hid (∀ j, j < zs.length → fmd (zs.getD j 0) = true) := fun j hj => List.all_eq_true.1 hf _ (getD_mem' (d := 0) hj)
      have HPd : Hid (∀ j, ((T ++ (if dd = true then [100, 32] else [])) ++ textOf (zs.take j)).length + 2 ≤ 1099511627776) := HP0.out HSt.out
      clear HP0 HNo own bel hs
      go_wp2_with fail
      refine (sound_any _ zs _ HX.out).mono ?_
      rw [hf]
      rintro e w1 ⟨rfl, rfl⟩
      clear hf hd hu
      generalize wr.alloc (.cells #[.bool dd, .slice ac zs.length cc] 61) = w1 at *
      generalize wr.heap.size = D at *
      have c0 := HBx0.out.c0
      cases dd
      · have HP : Hid (∀ j, (T ++ textOf (zs.take j)).length + 2 ≤ 1099511627776) := fun j => by have := HPd.out j; simpa using this
        have HM : Hid (drW (l.take (k + 1)) = (T ++ textOf zs) ++ [48, 10]) := by have := HM0.out; show _ = _; simpa using this
        have HO2 : Hid (OwnT w.heap.size w1 _ T) := HOA.out
        have HB2 : Hid (Below w.heap.size w w1) := HBA.out
        have HX2 : Hid (Rd w1 (.slice ac zs.length cc) zs) := HX.out
        have HBx : Hid (Bx2 w1 D 61 (.bool false) (.slice ac zs.length cc)) := HBx0.out
        clear HPd HM0 HOA HBA HX HBx0
        generalize hT2 : T = T2 at *
        generalize hw2 : w1 = w2 at *

        have hs1 : w.heap.size ≤ w2.heap.size := HB2.out.size
        have c1 := HBx.out.c1
        go_wp2
        go_loopg [4, 26] zs.length (fun g u i wq => ∃ j : Nat, j + g = zs.length ∧ i = .int .i64 j ∧ OwnT w.heap.size wq u (T2 ++ textOf (zs.take j)) ∧ Below w.heap.size w wq)
        case atStart => exact ⟨0, by omega, rfl, by simpa [textOf] using HO2.out, HB2.out⟩
        case round =>
          clear HO2 HB2 HX2 hs1 c1 HBx
          obtain ⟨j, hj, rfl, own, bel⟩ := hrel
          have HJ : Hid (j + gk = zs.length) := hj
          have hs := bel.size
          have hln := HP.out j
          have HO : Hid (OwnT w.heap.size _ _ (T2 ++ textOf (zs.take j))) := own
          by_cases hjt : j < zs.length
          · obtain ⟨a', c', e', _, _, hcell⟩ := (HRd.out.below bel).form
            have e3 : a' = ac ∧ c' = cc := by injection e' with q1 q2 q3; exact ⟨q1.symm, q3.symm⟩
            obtain ⟨rfl, rfl⟩ := e3
            obtain ⟨b2, off2, rfl, hcj⟩ := hcell j hjt
            have hfm := fmd_range (HZ.out j hjt)
            have HS : Hid (T2 ++ textOf (zs.take (j + 1)) = ((T2 ++ textOf (zs.take j)) ++ Lib.itoa (zs.getD j 0)) ++ [32]) := by show T2 ++ textOf (zs.take (j + 1)) = _; rw [textOf_more zs j hjt]; simp
            have hil := Lib.itoa_length_le (zs.getD j 0) (by omega) (by omega)
            clear hj hcell e' own
            generalize T2 ++ textOf (zs.take j) = X2 at *
            generalize zs.getD j 0 = z at *
            have hX : X2.length + 2 ≤ 1099511627776 := hln
            have HO' : Hid (wr.ownsRow w.heap.size 5 1 _ X2.length (Lib.byteCells X2)) := HO.out
            go_wp2_with (first | (go_at_call 32; refine (Tryd.strconv_AppendInt_10 w.heap.size X2.length z (by omega) (by omega) _ (Lib.byteCells X2) wr HO'.out hs (by omega) (HT.out.on bel)).mono ?_; rintro e w2x ⟨v2x, rfl, own2x, bel2x, -⟩; have hs2x := bel2x.size; refine Hid.out ?_))
            refine Lib.hid ?_
            have hb2 : Below w.heap.size w w2x := bel.trans bel2x
            have own2y := OwnT.more own2x
            have hXl : (X2 ++ Lib.itoa z).length ≤ 1099511627776 + 30 := by simp; omega
            generalize X2 ++ Lib.itoa z = Y at *
            have HY : Hid (w2x.ownsRow w.heap.size 5 1 v2x Y.length (Lib.byteCells Y)) := own2y
            clear own2x own2y
            go_wp2_with (at_builtin; refine wpList_append_own _ rfl _ _ 44 rfl w.heap.size 5 i0 (.int .u8 0) 1 1 Tryd.underlying44 hi hz0 hz1 hz2 rfl (by decide) _ _ _ rfl (World.ownsRow.alloc HY.out _) _ 1 1 [.int .u8 32] rfl rfl (cell_one_new _ _ _) (by simp [Value.oneCell']) (by unfold maxLen; omega) (by omega) (by simp; omega) ?_; intro v3x w3x own3x gr3x hn3x)
            go_roundg (gk - 1)
            case measure => have := HJ.out; omega
            case rel => exact ⟨j + 1, by have := HJ.out; omega, by go_num, by rw [HS.out]; exact OwnT.one own3x, (hb2.alloc (by omega) _).grown gr3x (by simp; omega) (fun q hq => (HY.out.lt q hq).1)⟩
          · obtain rfl : j = zs.length := by omega
            rw [List.take_length] at own HO hln
            have hX : (T2 ++ textOf zs).length + 2 ≤ 1099511627776 := hln
            clear hj hln
            generalize T2 ++ textOf zs = X2 at *
            have HO' : Hid (wr.ownsRow w.heap.size 5 1 _ X2.length (Lib.byteCells X2)) := HO.out
            clear own
            go_wp2_with (at_builtin; refine Lib.wpList_append_own_string _ rfl _ _ 44 9 rfl w.heap.size 5 i0 Tryd.underlying44 Tryd.underlying9 hi hz0 hz1 hz2 _ _ _ rfl HO'.out ⟨#[48, 10]⟩ rfl (by unfold maxLen; show _ + 2 ≤ _; omega) (by show _ + 2 ≤ _; omega) hs ?_; intro v3x w3x own3x gr3x hn3x)
            go_roundg (l.length - k - 1)
            case measure => have := HK.out; omega
            case rel => exact ⟨k + 1, by have := HK.out; omega, by go_num, by rw [HM.out]; exact OwnT.more (D := [48, 10]) own3x, HSt.out, bel.grown gr3x (by omega) (fun q hq => (HO'.out.lt q hq).1)⟩

      · have HP : Hid (∀ j, ((T ++ [100, 32]) ++ textOf (zs.take j)).length + 2 ≤ 1099511627776) := fun j => by have := HPd.out j; simpa using this
        have HM : Hid (drW (l.take (k + 1)) = ((T ++ [100, 32]) ++ textOf zs) ++ [48, 10]) := by have := HM0.out; show _ = _; simpa using this
        have hT : T.length + 4 ≤ 1099511627776 := by have := HP.out 0; simp at this; omega
        have hs1 := HBA.out.size
        have HO' : Hid (w1.ownsRow w.heap.size 5 1 _ T.length (Lib.byteCells T)) := HOA.out
        clear HPd HM0
        go_wp2_with (at_builtin; refine Lib.wpList_append_own_string _ rfl _ _ 44 9 rfl w.heap.size 5 i0 Tryd.underlying44 Tryd.underlying9 hi hz0 hz1 hz2 _ _ _ rfl HO'.out ⟨#[100, 32]⟩ rfl (by unfold maxLen; show _ + 2 ≤ _; omega) (by show _ + 2 ≤ _; omega) hs1 ?_; intro v2 w2 own2 gr2 hn2; have HBx : Hid (Bx2 w2 D 61 (.bool true) (.slice ac zs.length cc)) := HBx0.out.kept gr2 (Bx2.not_row HBx0.out (by decide) HO'.out); have c1 := HBx.out.c1)
        have HO2 : Hid (OwnT w.heap.size w2 v2 (T ++ [100, 32])) := OwnT.more (D := [100, 32]) own2
        have HB2 : Hid (Below w.heap.size w w2) := HBA.out.grown gr2 hs1 (fun q hq => (HO'.out.lt q hq).1)
        have HX2 : Hid True := trivial
        clear HOA HBA HX HBx0 own2 gr2 hn2 HO' hs1 c0 hT
        generalize T ++ [100, 32] = T2 at *

        have hs1 : w.heap.size ≤ w2.heap.size := HB2.out.size
        go_loopg [4, 26] zs.length (fun g u i wq => ∃ j : Nat, j + g = zs.length ∧ i = .int .i64 j ∧ OwnT w.heap.size wq u (T2 ++ textOf (zs.take j)) ∧ Below w.heap.size w wq)
        case atStart => exact ⟨0, by omega, rfl, by simpa [textOf] using HO2.out, HB2.out⟩
        case round =>
          clear HO2 HB2 HX2 hs1 c1 HBx
          obtain ⟨j, hj, rfl, own, bel⟩ := hrel
          have HJ : Hid (j + gk = zs.length) := hj
          have hs := bel.size
          have hln := HP.out j
          have HO : Hid (OwnT w.heap.size _ _ (T2 ++ textOf (zs.take j))) := own
          by_cases hjt : j < zs.length
          · obtain ⟨a', c', e', _, _, hcell⟩ := (HRd.out.below bel).form
            have e3 : a' = ac ∧ c' = cc := by injection e' with q1 q2 q3; exact ⟨q1.symm, q3.symm⟩
            obtain ⟨rfl, rfl⟩ := e3
            obtain ⟨b2, off2, rfl, hcj⟩ := hcell j hjt
            have hfm := fmd_range (HZ.out j hjt)
            have HS : Hid (T2 ++ textOf (zs.take (j + 1)) = ((T2 ++ textOf (zs.take j)) ++ Lib.itoa (zs.getD j 0)) ++ [32]) := by show T2 ++ textOf (zs.take (j + 1)) = _; rw [textOf_more zs j hjt]; simp
            have hil := Lib.itoa_length_le (zs.getD j 0) (by omega) (by omega)
            clear hj hcell e' own
            generalize T2 ++ textOf (zs.take j) = X2 at *
            generalize zs.getD j 0 = z at *
            have hX : X2.length + 2 ≤ 1099511627776 := hln
            have HO' : Hid (wr.ownsRow w.heap.size 5 1 _ X2.length (Lib.byteCells X2)) := HO.out
            go_wp2_with (first | (go_at_call 32; refine (Tryd.strconv_AppendInt_10 w.heap.size X2.length z (by omega) (by omega) _ (Lib.byteCells X2) wr HO'.out hs (by omega) (HT.out.on bel)).mono ?_; rintro e w2x ⟨v2x, rfl, own2x, bel2x, -⟩; have hs2x := bel2x.size; refine Hid.out ?_))
            refine Lib.hid ?_
            have hb2 : Below w.heap.size w w2x := bel.trans bel2x
            have own2y := OwnT.more own2x
            have hXl : (X2 ++ Lib.itoa z).length ≤ 1099511627776 + 30 := by simp; omega
            generalize X2 ++ Lib.itoa z = Y at *
            have HY : Hid (w2x.ownsRow w.heap.size 5 1 v2x Y.length (Lib.byteCells Y)) := own2y
            clear own2x own2y
            go_wp2_with (at_builtin; refine wpList_append_own _ rfl _ _ 44 rfl w.heap.size 5 i0 (.int .u8 0) 1 1 Tryd.underlying44 hi hz0 hz1 hz2 rfl (by decide) _ _ _ rfl (World.ownsRow.alloc HY.out _) _ 1 1 [.int .u8 32] rfl rfl (cell_one_new _ _ _) (by simp [Value.oneCell']) (by unfold maxLen; omega) (by omega) (by simp; omega) ?_; intro v3x w3x own3x gr3x hn3x)
            go_roundg (gk - 1)
            case measure => have := HJ.out; omega
            case rel => exact ⟨j + 1, by have := HJ.out; omega, by go_num, by rw [HS.out]; exact OwnT.one own3x, (hb2.alloc (by omega) _).grown gr3x (by simp; omega) (fun q hq => (HY.out.lt q hq).1)⟩
          · obtain rfl : j = zs.length := by omega
            rw [List.take_length] at own HO hln
            have hX : (T2 ++ textOf zs).length + 2 ≤ 1099511627776 := hln
            clear hj hln
            generalize T2 ++ textOf zs = X2 at *
            have HO' : Hid (wr.ownsRow w.heap.size 5 1 _ X2.length (Lib.byteCells X2)) := HO.out
            clear own
            go_wp2_with (at_builtin; refine Lib.wpList_append_own_string _ rfl _ _ 44 9 rfl w.heap.size 5 i0 Tryd.underlying44 Tryd.underlying9 hi hz0 hz1 hz2 _ _ _ rfl HO'.out ⟨#[48, 10]⟩ rfl (by unfold maxLen; show _ + 2 ≤ _; omega) (by show _ + 2 ≤ _; omega) hs ?_; intro v3x w3x own3x gr3x hn3x)
            go_roundg (l.length - k - 1)
            case measure => have := HK.out; omega
            case rel => exact ⟨k + 1, by have := HK.out; omega, by go_num, by rw [HM.out]; exact OwnT.more (D := [48, 10]) own3x, HSt.out, bel.grown gr3x (by omega) (fun q hq => (HO'.out.lt q hq).1)⟩

    · obtain rfl : k = l.length := by omega
      have HSN2 := HSN.out
      rw [List.take_length] at own HSN2
      obtain ⟨h1, h2⟩ := HX1.out HSN2
      clear hk
      have own' := own
      clear own
      rw [← h1] at own'
      have HE : Hid (E = 0) := h2
      clear h1 h2
      rcases own'.2 with ⟨rfl, h0⟩ | ⟨g, cap, cur, rfl, -, -, -, -, -, -⟩
      · have hX0 : X = [] := List.length_eq_zero_iff.1 h0
        subst hX0
        have hcv := nil_bytes wr
        go_wp2
        go_returns
        rw [HE.out]
        exact ⟨rfl, bel⟩
      · have hcv := run_convert_bytes_back (P := Tryd.prog) wr 44 9 5 ⟨g, 0, none⟩ cap X Tryd.underlying44 Tryd.underlying5 Tryd.underlying9 (fun j hj => World.ownsRow.cells own' (g := g) rfl j _ (by simp [Lib.byteCells, hj]))
        go_wp2
        go_returns
        rw [HE.out]
        exact ⟨rfl, bel⟩

end Go.Proofs.YtilcokpaeapmeaaDoor

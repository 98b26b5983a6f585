/-
  The document's Encode, walked.
  KEEP: len below nil form rd mono rdz on app start at new trans refl kept own row ap out
-/
import Derived.Test.YtaalgilickkggaaPkF
import Derived.Test.YtaalgilickkggaaNumB
set_option linter.unusedSimpArgs false
set_option linter.unusedVariables false
namespace Go.Proofs.Ytaalgilickkggaa
open Go Go.RowKit

theorem litN_pos {z : Int} (h : fmd z = true) (h0 : 0 < z) : ((litN z : Nat) : Int) = 2 * varOf z := by
  have := there_pos h h0; unfold litN; omega
theorem litN_neg {z : Int} (h : fmd z = true) (h0 : z < 0) : ((litN z : Nat) : Int) = 2 * varOf z + 1 := by
  have := there_neg h h0; unfold litN; omega

set_option maxHeartbeats 3200000 in
set_option maxRecDepth 100000 in
theorem rEncode_any (s : Value) (l : List Stp) (w : World) (hr : RdZ w s l) (hbig : ez l ≤ 1099511627776) :
    Calls Try.prog 17 #[s] w fun e w' => ∃ v, e = .returned (.tuple #[v, .int .i64 (if sndS l then 0 else 1)]) ∧ OwnT w.heap.size w' v (if sndS l then encB l else []) ∧ Below w.heap.size w w' := by
  have hl := hr.len
  have HR : Hid (RdZ w s l) := hr
  obtain ⟨a, c, rfl, hc, hm, _⟩ := hr.form
  obtain ⟨i0, hi, hz0, hz1, hz2⟩ := info_parts infoY
  have HB : Hid (ez l ≤ 1099511627776) := hbig
  obtain ⟨X, hX⟩ : ∃ X, X = (if sndS l = true then encB l else []) := ⟨_, rfl⟩
  obtain ⟨E, hE⟩ : ∃ E : Int, E = (if sndS l = true then 0 else 1) := ⟨_, rfl⟩
  rw [← hX, ← hE]
  have HX0 : Hid (sndS l = false → X = [] ∧ E = 1) := fun h => by rw [hX, hE, h]; exact ⟨rfl, rfl⟩
  have HX1 : Hid (sndS l = true → X = encB l ∧ E = 0) := fun h => by rw [hX, hE, h]; exact ⟨rfl, rfl⟩
  clear hr hbig hX hE
  go_enter Try.func17, Try.ntmps17
  go_wp2
  go_loopg [4, 5] l.length (fun g u i wr => ∃ k : Nat, k + g = l.length ∧ i = .int .i64 k ∧ OwnT w.heap.size wr u (encB (l.take k)) ∧ sndS (l.take k) = true ∧ Below w.heap.size w wr)
  case atStart => exact ⟨0, by omega, rfl, OwnT.nil _ _, rfl, Below.refl _ _⟩
  case round =>
    obtain ⟨k, hk, rfl, own, hsn, bel⟩ := hrel
    have HK : Hid (k + gk = l.length) := hk
    have HSN : Hid (sndS (l.take k) = true) := hsn
    have hs := bel.size
    clear hsn
    by_cases hlt : k < l.length
    · obtain ⟨a', c', e', _, _, hcell⟩ := HR.out.form
      have e3 : a' = a ∧ c' = c := by injection e' with q1 q2 q3; exact ⟨q1.symm, q3.symm⟩
      obtain ⟨rfl, rfl⟩ := e3
      obtain ⟨b, off, uc, rfl, hbl, hd0, hu0, hrd⟩ := hcell k hlt
      have hd := (bel.cell (p := ⟨b, off + k * 2, none⟩) hbl).trans hd0
      have hu := (bel.cell (p := ⟨b, off + k * 2 + 1, none⟩) hbl).trans hu0
      have HS : Hid (sndS (l.take (k + 1)) = (sndS (l.take k) && (l.getD k (false, [])).2.all fmd)) := snd_take_more10 l k hlt
      have HP0 : Hid ((encB (l.take k)).length + 10 * (l.getD k (false, [])).2.length + 2 ≤ 1099511627776) := Nat.le_trans (ez_pre l k hlt HSN.out) HB.out
      have HM0 : Hid (encB (l.take (k + 1)) = encB (l.take k) ++ stpB (l.getD k (false, []))) := encB_more l k hlt
      obtain ⟨ac, cc, rfl, hcc, hcm, _⟩ := hrd.form
      have HRd : Hid (Rd w (.slice ac (l.getD k (false, [])).2.length cc) (l.getD k (false, [])).2) := hrd
      have HC : Hid (w.cell? ⟨b, off + k * 2 + 1, none⟩ = some (.slice ac (l.getD k (false, [])).2.length cc)) := hu0
      have HNo : Hid ((l.getD k (false, [])).2.all fmd = false → sndS l = false) := fun h => by unfold sndS; exact all_false_getD (d := (false, [])) hlt h
      clear hk hcell e' hrd hd0 hu0
      generalize l.getD k (false, []) = xk at *
      obtain ⟨dd, zs⟩ := xk
      dsimp only at *
      generalize encB (l.take k) = T at *
      have hzl := HRd.out.len
      have HX : Hid (Rd wr (.slice ac zs.length cc) zs) := HRd.out.below bel
      cases hf : zs.all fmd
      · go_wp2_with fail
        refine (rSound_any _ zs _ HX.out).mono ?_
        rw [hf]
        rintro e w1 ⟨rfl, hw1⟩
        obtain rfl := hw1.symm
        obtain ⟨h1, h2⟩ := HX0.out (HNo.out hf)
        clear hf
        go_wp2
        go_returns
        rw [h1, h2]
        exact ⟨_, rfl, OwnT.nil _ _, bel⟩
      have HSt : Hid (sndS (l.take (k + 1)) = true) := by show _ = _; rw [HS.out, HSN.out, hf]; rfl
      have HF : Hid (zs.all fmd = true) := hf
      have HZ : Hid (∀ j, (litsB (zs.take j)).length ≤ 10 * zs.length) := fun j => litsB_take_le zs j hf
      have hT : T.length + 10 * zs.length + 2 ≤ 1099511627776 := HP0.out
      clear HNo
      go_wp2_with fail
      refine (rSound_any _ zs _ HX.out).mono ?_
      rw [hf]
      rintro e w1 ⟨rfl, hw1⟩
      obtain rfl := hw1.symm
      have HOA : Hid (OwnT w.heap.size wr _ T) := own
      have HBA : Hid (Below w.heap.size w wr) := bel
      have hd2 := hd
      clear hf hu HX own bel
      have hu2 : Hid (∀ W, Below w.heap.size w W → W.cell? ⟨b, off + k * 2 + 1, none⟩ = some (.slice ac zs.length cc)) := fun W hW => (hW.cell (p := ⟨b, off + k * 2 + 1, none⟩) hbl).trans HC.out
      clear hd
      cases dd
      · go_wp2_with (at_builtin; refine wpList_append_own _ rfl _ _ 26 rfl w.heap.size 5 i0 (.int .u8 0) 1 1 Try.underlying26 hi hz0 hz1 hz2 rfl (by decide) _ T.length (Lib.byteCells T) rfl (World.ownsRow.alloc HOA.out _) _ 1 1 [.int .u8 97] rfl rfl (cell_one_new _ _ _) (by simp [Value.oneCell']) (by unfold maxLen; omega) (by omega) (by simp; omega) ?_; intro v2 w2 own2 gr2 hn2)
        have OW2 : Hid (OwnT w.heap.size w2 v2 (T ++ [kndB false])) := OwnT.one own2
        have HB2 : Hid (Below w.heap.size w w2) := (HBA.out.alloc hs _).grown gr2 (by simp; omega) (fun q hq => (HOA.out.lt q hq).1)
        clear own2 gr2 hn2 hd2 HOA HBA hs
        go_loopg [4, 7] zs.length (fun g u i wq => ∃ j : Nat, j + g = zs.length ∧ i = .int .i64 j ∧ OwnT w.heap.size wq u ((T ++ [kndB false]) ++ litsB (zs.take j)) ∧ Below w.heap.size w wq)
        case atStart => exact ⟨0, by omega, rfl, by simpa [litsB] using OW2.out, HB2.out⟩
        case round =>
          obtain ⟨j, hj, rfl, own, bel⟩ := hrel
          have HJ : Hid (j + gk = zs.length) := hj
          have hs := bel.size
          have hu := hu2.out _ bel
          have hXl : ((T ++ [kndB false]) ++ litsB (zs.take j)).length + 15 ≤ 1099511627776 + 20 := by
            have := HZ.out j
            simp only [List.length_append, List.length_cons, List.length_nil]; omega
          have HOw : Hid (OwnT w.heap.size wr _ ((T ++ [kndB false]) ++ litsB (zs.take j))) := own
          by_cases hjt : j < zs.length
          · obtain ⟨a', c', e', _, _, hcell⟩ := (HRd.out.below bel).form
            have e3 : a' = ac ∧ c' = cc := by injection e' with q1 q2 q3; exact ⟨q1.symm, q3.symm⟩
            obtain ⟨rfl, rfl⟩ := e3
            obtain ⟨b2, off2, rfl, hcj⟩ := hcell j hjt
            have hfz : fmd (zs.getD j 0) = true := List.all_eq_true.1 HF.out _ (getD_mem' (d := 0) hjt)
            have HS2 : Hid ((T ++ [kndB false]) ++ litsB (zs.take (j + 1)) = ((T ++ [kndB false]) ++ litsB (zs.take j)) ++ numB (litN (zs.getD j 0))) := by show _ = _; rw [litsB_more zs j hjt]; simp
            have hN := litN_range hfz
            have hzr := fmd_range hfz
            have h10 := numB_10 (n := litN (zs.getD j 0)) (by omega)
            have HVc : Hid (∀ W, Calls Try.prog 26 #[.int .i64 (zs.getD j 0)] W fun e w' => e = .returned (.int .i64 (varOf (zs.getD j 0))) ∧ w' = W) := fun W => refVar_any _ W
            have HNu : Hid (∀ W, Calls Try.prog 15 #[.int .u64 (litN (zs.getD j 0))] W fun e w' => ∃ u, e = .returned u ∧ OwnT W.heap.size w' u (numB (litN (zs.getD j 0))) ∧ Below W.heap.size W w') := fun W => rNumber_any _ W (by omega)
            have hpos := @litN_pos (zs.getD j 0) hfz
            have hneg := @litN_neg (zs.getD j 0) hfz
            clear hj hcell e' own hfz
            generalize zs.getD j 0 = z at *
            generalize litN z = m at *
            generalize varOf z = vz at *
            generalize (T ++ [kndB false]) ++ litsB (zs.take j) = X2 at *
            rcases Int.lt_or_lt_of_ne hzr.1 with hz | hz
            · have hm := hneg hz
              have hvz : vz = ((m : Int) - 1) / 2 := by omega
              have HM : Hid ((2 * vz + 1 : Int) = (m : Int)) := hm.symm
              have hv0 : 0 ≤ vz ∧ vz ≤ 1048577 := by omega
              obtain ⟨hv1, hv2⟩ := hv0
              clear hvz hm hpos hneg hN
              have HNu2 : Hid (∀ W, Calls Try.prog 15 #[.int .u64 (2 * vz + 1)] W fun e w' => ∃ u, e = .returned u ∧ OwnT W.heap.size w' u (numB m) ∧ Below W.heap.size W w') := fun W => by rw [HM.out]; exact HNu.out W
              go_wp2_with (first
                | (go_at_call 26; refine (HVc.out _).mono ?_; rintro e w3 ⟨rfl, rfl⟩)
                | (go_at_call 15; refine (HNu2.out _).mono ?_; rintro e w4 ⟨u4, rfl, own4, bel4⟩; refine Hid.out ?_))
              refine Lib.hid ?_
              have RU : Hid (RdY w4 u4 (numB m)) := own4.rd (by omega)
              have OX : Hid (OwnT w.heap.size w4 _ X2) := OwnT.below HOw.out bel4
              have bel5 : Below w.heap.size w w4 := bel.trans (bel4.mono hs)
              have hs5 := bel5.size
              obtain ⟨ua, uc, rfl⟩ := own4.form
              clear own4 bel4
              go_wp2_with (at_builtin; refine wpList_append_y rfl _ _ rfl w.heap.size _ X2 rfl OX.out _ (numB m) rfl RU.out (by omega) hs5 ?_; intro v5 w5 own5 gr5)
              go_roundg (gk - 1)
              case measure => have := HJ.out; omega
              case rel => exact ⟨j + 1, by have := HJ.out; omega, by go_num, by rw [HS2.out]; exact own5, bel5.grown gr5 hs5 (fun q hq => (OX.out.lt q hq).1)⟩
            · have hm := hpos hz
              have HM : Hid ((2 * vz : Int) = (m : Int)) := hm.symm
              have hv0 : 0 ≤ vz ∧ vz ≤ 1048577 := by omega
              obtain ⟨hv1, hv2⟩ := hv0
              clear hm hpos hneg hN
              have HNu2 : Hid (∀ W, Calls Try.prog 15 #[.int .u64 (2 * vz)] W fun e w' => ∃ u, e = .returned u ∧ OwnT W.heap.size w' u (numB m) ∧ Below W.heap.size W w') := fun W => by rw [HM.out]; exact HNu.out W
              go_wp2_with (first
                | (go_at_call 26; refine (HVc.out _).mono ?_; rintro e w3 ⟨rfl, rfl⟩)
                | (go_at_call 15; refine (HNu2.out _).mono ?_; rintro e w4 ⟨u4, rfl, own4, bel4⟩; refine Hid.out ?_))
              refine Lib.hid ?_
              have RU : Hid (RdY w4 u4 (numB m)) := own4.rd (by omega)
              have OX : Hid (OwnT w.heap.size w4 _ X2) := OwnT.below HOw.out bel4
              have bel5 : Below w.heap.size w w4 := bel.trans (bel4.mono hs)
              have hs5 := bel5.size
              obtain ⟨ua, uc, rfl⟩ := own4.form
              clear own4 bel4
              go_wp2_with (at_builtin; refine wpList_append_y rfl _ _ rfl w.heap.size _ X2 rfl OX.out _ (numB m) rfl RU.out (by omega) hs5 ?_; intro v5 w5 own5 gr5)
              go_roundg (gk - 1)
              case measure => have := HJ.out; omega
              case rel => exact ⟨j + 1, by have := HJ.out; omega, by go_num, by rw [HS2.out]; exact own5, bel5.grown gr5 hs5 (fun q hq => (OX.out.lt q hq).1)⟩
          · obtain rfl : j = zs.length := by omega
            rw [List.take_length] at own HOw hXl
            have HE : Hid (((T ++ [kndB false]) ++ litsB zs) ++ [0] = T ++ stpB (false, zs)) := by show _ = _; simp [stpB]
            clear hj own
            generalize (T ++ [kndB false]) ++ litsB zs = X2 at *
            have HO' : Hid (wr.ownsRow w.heap.size 5 1 _ X2.length (Lib.byteCells X2)) := HOw.out
            go_wp2_with (at_builtin; refine wpList_append_own _ rfl _ _ 26 rfl w.heap.size 5 i0 (.int .u8 0) 1 1 Try.underlying26 hi hz0 hz1 hz2 rfl (by decide) _ X2.length (Lib.byteCells X2) rfl (World.ownsRow.alloc HO'.out _) _ 1 1 [.int .u8 0] rfl rfl (cell_one_new _ _ _) (by simp [Value.oneCell']) (by unfold maxLen; omega) (by omega) (by simp; omega) ?_; intro v6 w6 own6 gr6 hn6)
            go_roundg (l.length - k - 1)
            case measure => have := HK.out; omega
            case rel => exact ⟨k + 1, by have := HK.out; omega, by go_num, by rw [HM0.out, ← HE.out]; exact OwnT.one (b := 0) own6, HSt.out, (bel.alloc hs _).grown gr6 (by simp; omega) (fun q hq => (HO'.out.lt q hq).1)⟩
      · go_wp2_with (at_builtin; refine wpList_append_own _ rfl _ _ 26 rfl w.heap.size 5 i0 (.int .u8 0) 1 1 Try.underlying26 hi hz0 hz1 hz2 rfl (by decide) _ T.length (Lib.byteCells T) rfl (World.ownsRow.alloc HOA.out _) _ 1 1 [.int .u8 100] rfl rfl (cell_one_new _ _ _) (by simp [Value.oneCell']) (by unfold maxLen; omega) (by omega) (by simp; omega) ?_; intro v2 w2 own2 gr2 hn2)
        have OW2 : Hid (OwnT w.heap.size w2 v2 (T ++ [kndB true])) := OwnT.one own2
        have HB2 : Hid (Below w.heap.size w w2) := (HBA.out.alloc hs _).grown gr2 (by simp; omega) (fun q hq => (HOA.out.lt q hq).1)
        clear own2 gr2 hn2 hd2 HOA HBA hs
        go_loopg [4, 7] zs.length (fun g u i wq => ∃ j : Nat, j + g = zs.length ∧ i = .int .i64 j ∧ OwnT w.heap.size wq u ((T ++ [kndB true]) ++ litsB (zs.take j)) ∧ Below w.heap.size w wq)
        case atStart => exact ⟨0, by omega, rfl, by simpa [litsB] using OW2.out, HB2.out⟩
        case round =>
          obtain ⟨j, hj, rfl, own, bel⟩ := hrel
          have HJ : Hid (j + gk = zs.length) := hj
          have hs := bel.size
          have hu := hu2.out _ bel
          have hXl : ((T ++ [kndB true]) ++ litsB (zs.take j)).length + 15 ≤ 1099511627776 + 20 := by
            have := HZ.out j
            simp only [List.length_append, List.length_cons, List.length_nil]; omega
          have HOw : Hid (OwnT w.heap.size wr _ ((T ++ [kndB true]) ++ litsB (zs.take j))) := own
          by_cases hjt : j < zs.length
          · obtain ⟨a', c', e', _, _, hcell⟩ := (HRd.out.below bel).form
            have e3 : a' = ac ∧ c' = cc := by injection e' with q1 q2 q3; exact ⟨q1.symm, q3.symm⟩
            obtain ⟨rfl, rfl⟩ := e3
            obtain ⟨b2, off2, rfl, hcj⟩ := hcell j hjt
            have hfz : fmd (zs.getD j 0) = true := List.all_eq_true.1 HF.out _ (getD_mem' (d := 0) hjt)
            have HS2 : Hid ((T ++ [kndB true]) ++ litsB (zs.take (j + 1)) = ((T ++ [kndB true]) ++ litsB (zs.take j)) ++ numB (litN (zs.getD j 0))) := by show _ = _; rw [litsB_more zs j hjt]; simp
            have hN := litN_range hfz
            have hzr := fmd_range hfz
            have h10 := numB_10 (n := litN (zs.getD j 0)) (by omega)
            have HVc : Hid (∀ W, Calls Try.prog 26 #[.int .i64 (zs.getD j 0)] W fun e w' => e = .returned (.int .i64 (varOf (zs.getD j 0))) ∧ w' = W) := fun W => refVar_any _ W
            have HNu : Hid (∀ W, Calls Try.prog 15 #[.int .u64 (litN (zs.getD j 0))] W fun e w' => ∃ u, e = .returned u ∧ OwnT W.heap.size w' u (numB (litN (zs.getD j 0))) ∧ Below W.heap.size W w') := fun W => rNumber_any _ W (by omega)
            have hpos := @litN_pos (zs.getD j 0) hfz
            have hneg := @litN_neg (zs.getD j 0) hfz
            clear hj hcell e' own hfz
            generalize zs.getD j 0 = z at *
            generalize litN z = m at *
            generalize varOf z = vz at *
            generalize (T ++ [kndB true]) ++ litsB (zs.take j) = X2 at *
            rcases Int.lt_or_lt_of_ne hzr.1 with hz | hz
            · have hm := hneg hz
              have hvz : vz = ((m : Int) - 1) / 2 := by omega
              have HM : Hid ((2 * vz + 1 : Int) = (m : Int)) := hm.symm
              have hv0 : 0 ≤ vz ∧ vz ≤ 1048577 := by omega
              obtain ⟨hv1, hv2⟩ := hv0
              clear hvz hm hpos hneg hN
              have HNu2 : Hid (∀ W, Calls Try.prog 15 #[.int .u64 (2 * vz + 1)] W fun e w' => ∃ u, e = .returned u ∧ OwnT W.heap.size w' u (numB m) ∧ Below W.heap.size W w') := fun W => by rw [HM.out]; exact HNu.out W
              go_wp2_with (first
                | (go_at_call 26; refine (HVc.out _).mono ?_; rintro e w3 ⟨rfl, rfl⟩)
                | (go_at_call 15; refine (HNu2.out _).mono ?_; rintro e w4 ⟨u4, rfl, own4, bel4⟩; refine Hid.out ?_))
              refine Lib.hid ?_
              have RU : Hid (RdY w4 u4 (numB m)) := own4.rd (by omega)
              have OX : Hid (OwnT w.heap.size w4 _ X2) := OwnT.below HOw.out bel4
              have bel5 : Below w.heap.size w w4 := bel.trans (bel4.mono hs)
              have hs5 := bel5.size
              obtain ⟨ua, uc, rfl⟩ := own4.form
              clear own4 bel4
              go_wp2_with (at_builtin; refine wpList_append_y rfl _ _ rfl w.heap.size _ X2 rfl OX.out _ (numB m) rfl RU.out (by omega) hs5 ?_; intro v5 w5 own5 gr5)
              go_roundg (gk - 1)
              case measure => have := HJ.out; omega
              case rel => exact ⟨j + 1, by have := HJ.out; omega, by go_num, by rw [HS2.out]; exact own5, bel5.grown gr5 hs5 (fun q hq => (OX.out.lt q hq).1)⟩
            · have hm := hpos hz
              have HM : Hid ((2 * vz : Int) = (m : Int)) := hm.symm
              have hv0 : 0 ≤ vz ∧ vz ≤ 1048577 := by omega
              obtain ⟨hv1, hv2⟩ := hv0
              clear hm hpos hneg hN
              have HNu2 : Hid (∀ W, Calls Try.prog 15 #[.int .u64 (2 * vz)] W fun e w' => ∃ u, e = .returned u ∧ OwnT W.heap.size w' u (numB m) ∧ Below W.heap.size W w') := fun W => by rw [HM.out]; exact HNu.out W
              go_wp2_with (first
                | (go_at_call 26; refine (HVc.out _).mono ?_; rintro e w3 ⟨rfl, rfl⟩)
                | (go_at_call 15; refine (HNu2.out _).mono ?_; rintro e w4 ⟨u4, rfl, own4, bel4⟩; refine Hid.out ?_))
              refine Lib.hid ?_
              have RU : Hid (RdY w4 u4 (numB m)) := own4.rd (by omega)
              have OX : Hid (OwnT w.heap.size w4 _ X2) := OwnT.below HOw.out bel4
              have bel5 : Below w.heap.size w w4 := bel.trans (bel4.mono hs)
              have hs5 := bel5.size
              obtain ⟨ua, uc, rfl⟩ := own4.form
              clear own4 bel4
              go_wp2_with (at_builtin; refine wpList_append_y rfl _ _ rfl w.heap.size _ X2 rfl OX.out _ (numB m) rfl RU.out (by omega) hs5 ?_; intro v5 w5 own5 gr5)
              go_roundg (gk - 1)
              case measure => have := HJ.out; omega
              case rel => exact ⟨j + 1, by have := HJ.out; omega, by go_num, by rw [HS2.out]; exact own5, bel5.grown gr5 hs5 (fun q hq => (OX.out.lt q hq).1)⟩
          · obtain rfl : j = zs.length := by omega
            rw [List.take_length] at own HOw hXl
            have HE : Hid (((T ++ [kndB true]) ++ litsB zs) ++ [0] = T ++ stpB (true, zs)) := by show _ = _; simp [stpB]
            clear hj own
            generalize (T ++ [kndB true]) ++ litsB zs = X2 at *
            have HO' : Hid (wr.ownsRow w.heap.size 5 1 _ X2.length (Lib.byteCells X2)) := HOw.out
            go_wp2_with (at_builtin; refine wpList_append_own _ rfl _ _ 26 rfl w.heap.size 5 i0 (.int .u8 0) 1 1 Try.underlying26 hi hz0 hz1 hz2 rfl (by decide) _ X2.length (Lib.byteCells X2) rfl (World.ownsRow.alloc HO'.out _) _ 1 1 [.int .u8 0] rfl rfl (cell_one_new _ _ _) (by simp [Value.oneCell']) (by unfold maxLen; omega) (by omega) (by simp; omega) ?_; intro v6 w6 own6 gr6 hn6)
            go_roundg (l.length - k - 1)
            case measure => have := HK.out; omega
            case rel => exact ⟨k + 1, by have := HK.out; omega, by go_num, by rw [HM0.out, ← HE.out]; exact OwnT.one (b := 0) own6, HSt.out, (bel.alloc hs _).grown gr6 (by simp; omega) (fun q hq => (HO'.out.lt q hq).1)⟩
    · obtain rfl : k = l.length := by omega
      have HSN2 := HSN.out
      rw [List.take_length] at own HSN2
      obtain ⟨h1, h2⟩ := HX1.out HSN2
      clear hk
      have own' := own
      clear own
      rw [← h1] at own'
      have HE : Hid (E = 0) := h2
      clear h1 h2
      go_wp2
      go_returns
      rw [HE.out]
      exact ⟨_, rfl, own', bel⟩

end Go.Proofs.Ytaalgilickkggaa

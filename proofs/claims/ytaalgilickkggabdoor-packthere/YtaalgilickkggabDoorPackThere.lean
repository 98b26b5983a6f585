/-
  PackThere, walked.
  KEEP: len below nil form rd mono rdz on app start at new trans refl kept own row ap out step
-/
import Derived.Test.YtaalgilickkggabDoorPkO
import Derived.Test.YtaalgilickkggabDoorPkF
import Derived.Test.YtaalgilickkggabDoorDrWr
import Derived.Test.YtaalgilickkggabDoorOpenZ
set_option linter.unusedSimpArgs false
set_option linter.unusedVariables false
namespace Go.Proofs.YtaalgilickkggabDoor
open Go Go.RowKit

theorem wz10 {l : List Stp} (h : stpN l ≤ 1048576) : wz l ≤ 1099511627776 := by unfold stpN at h; unfold wz; omega
theorem ez10 {l : List Stp} (h : stpN l ≤ 1048576) : ez l ≤ 20000000 := by unfold stpN at h; unfold ez; omega
theorem op_enc {l : List Stp} (hs : sndS l = true) : opB (encB l) = (l, 0, 0) := by
  unfold opB
  cases l with
  | nil => rfl
  | cons x r => rw [if_neg (par_enc (by simp)), dec_enc _ hs]
theorem op_txt {l : List Stp} (hs : sndS l = true) : opB (drW l) = (l, 0, 0) := by
  unfold opB
  have h2 : parD (drW l) = (l, 0) := par_back l hs
  rw [h2]; rfl
theorem snd_app {l m : List Stp} (h1 : sndS l = true) (h2 : sndS m = true) : sndS (l ++ m) = true := by
  unfold sndS at *; rw [List.all_append, h1, h2]; rfl
theorem dec_app {l m : List Stp} (h1 : sndS l = true) (h2 : sndS m = true) : decB (encB l ++ encB m) = (l ++ m, 0, 0) := by
  rw [← encB_append]; exact dec_enc _ (snd_app h1 h2)

namespace packThere
set_option maxHeartbeats 6400000 in
set_option maxRecDepth 100000 in
theorem walk (s : Value) (l : List Stp) (t : Value) (m : List Stp) (w : World) (hr : RdZ w s l) (ht : RdZ w t m) (hb : stpN l ≤ 1048576) (hb2 : stpN m ≤ 1048576) (he : Env w) :
    Calls Tryd.prog 3 #[s, t] w fun e w' => e = .returned (.bool true) ∧ RowKit.Below w.heap.size w w' := by
  have hl := hr.len
  have hml := ht.len
  have HR : Hid (RdZ w s l) := hr
  have HM : Hid (RdZ w t m) := ht
  have H8 : Hid (∀ x ∈ l, x.2.length * 8 ≤ 140737488351232) := rdz_each hr
  have H8m : Hid (∀ x ∈ m, x.2.length * 8 ≤ 140737488351232) := rdz_each ht
  have HEnv : Hid (Env w) := he
  obtain ⟨a, c, rfl, hc, hm, _⟩ := hr.form
  obtain ⟨a2, c2, rfl, hc2, hm2, _⟩ := ht.form
  have hll : l.length ≤ 1048576 := by unfold stpN at hb; omega
  have hlm : m.length ≤ 1048576 := by unfold stpN at hb2; omega
  have HEo := fun W u h => encode_any u l W h (by have := ez10 hb; omega)
  have HEo2 := fun W u h => encode_any u m W h (by have := ez10 hb2; omega)
  have HWo := fun W u h1 h2 => drWrite_any u l W h1 (wz10 hb) h2
  have hXl : sndS l = true → (encB l).length ≤ 20000000 := fun h => Nat.le_trans (encB_le l h) (ez10 hb)
  have hYl : sndS m = true → (encB m).length ≤ 20000000 := fun h => Nat.le_trans (encB_le m h) (ez10 hb2)
  have hWl : sndS l = true → (drW l).length ≤ 1099511627776 := fun h => by have := drW_len l h; have := wz10 hb; unfold wz at this; omega
  clear hr ht he hb hb2
  -- the second list's bytes
  obtain ⟨Y, F, hY, HE2⟩ : ∃ (Y : List UInt8) (F : Int), (Y.length ≤ 20000000 ∧ ((F = 1 ∧ sndS m = false) ∨ (F = 0 ∧ sndS m = true ∧ Y = encB m))) ∧ Hid (∀ W u, RdZ W u m → Calls Tryd.prog 5 #[u] W fun e w' => ∃ v, e = .returned (.tuple #[v, .int .i64 F]) ∧ OwnT W.heap.size w' v Y ∧ Below W.heap.size W w') := by
    cases hs : sndS m
    · rw [hs] at HEo2
      exact ⟨[], 1, ⟨by simp, .inl ⟨rfl, rfl⟩⟩, HEo2⟩
    · rw [hs] at HEo2
      exact ⟨encB m, 0, ⟨hYl hs, .inr ⟨rfl, rfl, rfl⟩⟩, HEo2⟩
  obtain ⟨hY1, hY2⟩ := hY
  have HY2 : Hid ((F = 1 ∧ sndS m = false) ∨ (F = 0 ∧ sndS m = true ∧ Y = encB m)) := hY2
  clear hY2 hYl HEo2
  cases hs : sndS l
  · rw [hs] at HEo HWo
    have HE : Hid (∀ W u, RdZ W u l → Calls Tryd.prog 5 #[u] W fun e w' => ∃ v, e = .returned (.tuple #[v, .int .i64 1]) ∧ OwnT W.heap.size w' v [] ∧ Below W.heap.size W w') := HEo
    have HW : Hid (∀ W u, RdZ W u l → TensY W → Calls Tryd.prog 7 #[u] W fun e w' => e = .returned (.tuple #[.string ⟨#[]⟩, .int .i64 1]) ∧ Below W.heap.size W w') := HWo
    clear hs hXl hWl HEo HWo
    go_enter Tryd.func3, Tryd.ntmps3
    go_wp2_with fail
    refine (copySteps_any _ l _ HR.out).mono ?_
    rintro e w1 ⟨u1, rfl, own1, bel1⟩
    have R1 : Hid (RdZ w1 u1 l) := own1.rdz hl H8.out
    obtain ⟨ua, uc, rfl⟩ := own1.form
    clear own1
    go_wp2_with fail
    refine (HE.out w1 _ R1.out).mono ?_
    rintro e w2 ⟨v2, rfl, own2, bel2⟩
    have B2 : Hid (Below w.heap.size w w2) := Below.step bel1 bel2
    obtain ⟨va, vc, rfl⟩ := own2.form
    clear own2 bel1 bel2 R1
    go_wp2_with fail
    refine (copySteps_any _ m _ (HM.out.below B2.out)).mono ?_
    rintro e w3 ⟨u3, rfl, own3, bel3⟩
    have R3 : Hid (RdZ w3 u3 m) := own3.rdz hml H8m.out
    obtain ⟨xa, xc, rfl⟩ := own3.form
    clear own3
    go_wp2_with fail
    refine (HE2.out w3 _ R3.out).mono ?_
    rintro e w4 ⟨v4, rfl, own4, bel4⟩
    have B4 : Hid (Below w.heap.size w w4) := Below.step (Below.step B2.out bel3) bel4
    obtain ⟨ya, yc, rfl⟩ := own4.form
    clear own4 bel3 bel4 R3
    go_wp2_with fail
    refine (copySteps_any _ l _ (HR.out.below B4.out)).mono ?_
    rintro e w5 ⟨u5, rfl, own5, bel5⟩
    have R5 : Hid (RdZ w5 u5 l) := own5.rdz hl H8.out
    have B5 : Hid (Below w.heap.size w w5) := Below.step B4.out bel5
    obtain ⟨za, zc, rfl⟩ := own5.form
    clear own5 bel5
    go_wp2_with fail
    refine (HW.out w5 _ R5.out (HEnv.out.below B5.out).1).mono ?_
    rintro e w6 ⟨rfl, bel6⟩
    go_wp2
    go_ret
    exact ⟨rfl, Below.step B5.out bel6⟩
  · rw [hs] at HEo HWo
    have hX1 := hXl hs
    have hW1 := hWl hs
    have HE : Hid (∀ W u, RdZ W u l → Calls Tryd.prog 5 #[u] W fun e w' => ∃ v, e = .returned (.tuple #[v, .int .i64 0]) ∧ OwnT W.heap.size w' v (encB l) ∧ Below W.heap.size W w') := HEo
    have HW : Hid (∀ W u, RdZ W u l → TensY W → Calls Tryd.prog 7 #[u] W fun e w' => e = .returned (.tuple #[.string ⟨(drW l).toArray⟩, .int .i64 0]) ∧ Below W.heap.size W w') := HWo
    have HZ : Hid (∀ k, k < l.length → (l.getD k (false, [])).2.all fmd = true) := fun k hk => by
      unfold sndS at hs
      exact List.all_eq_true.1 hs _ (getD_mem' (d := (false, [])) hk)
    have HDe : Hid (∀ W v, RdY W v (encB l) → Calls Tryd.prog 8 #[v] W (DecP W (l, 0, 0))) := fun W v h => by have := decode_any W v _ h (by omega); rwa [dec_enc l hs] at this
    have HOp : Hid (∀ W v, RdY W v (encB l) → Env W → Calls Tryd.prog 11 #[v] W (DecP W (l, 0, 0))) := fun W v h h2 => by have := open_any W v _ h (by omega) h2; rwa [op_enc hs] at this
    have HOt : Hid (∀ W v, RdY W v (drW l) → Env W → Calls Tryd.prog 11 #[v] W (DecP W (l, 0, 0))) := fun W v h h2 => by have := open_any W v _ h hW1 h2; rwa [op_txt hs] at this
    have HDa : Hid (sndS m = true → ∀ W v, RdY W v (encB l ++ encB m) → (encB m).length ≤ 20000000 → Calls Tryd.prog 8 #[v] W (DecP W (l ++ m, 0, 0))) := fun h W v hv hy => by have := decode_any W v _ hv (by rw [List.length_append]; omega); rwa [dec_app hs h] at this
    have HSm : Hid (∀ W v, RdZ W v l → RdZ W (.slice a l.length c) l → Calls Tryd.prog 10 #[v, .slice a l.length c] W fun e w' => e = .returned (.bool true) ∧ Below W.heap.size W w') := fun W v h1 h2 => by
      have := sameSteps_any _ _ l l W h1 h2
      rwa [show (l == l) = true from beq_self_eq_true l] at this
    clear hs hXl hWl HEo HWo
    generalize encB l = X at *
    generalize hTx : drW l = Tx at *
    clear hTx
    go_enter Tryd.func3, Tryd.ntmps3
    go_wp2_with fail
    refine (copySteps_any _ l _ HR.out).mono ?_
    rintro e w1 ⟨u1, rfl, own1, bel1⟩
    have R1 : Hid (RdZ w1 u1 l) := own1.rdz hl H8.out
    obtain ⟨ua, uc, rfl⟩ := own1.form
    clear own1
    go_wp2_with fail
    refine (HE.out w1 _ R1.out).mono ?_
    rintro e w2 ⟨v2, rfl, own2, bel2⟩
    have B2 : Hid (Below w.heap.size w w2) := Below.step bel1 bel2
    have RB2 : Hid (RdY w2 v2 X) := own2.rd (by omega)
    obtain ⟨va, vc, rfl⟩ := own2.form
    clear own2 bel1 bel2 R1
    go_wp2_with fail
    refine (copySteps_any _ m _ (HM.out.below B2.out)).mono ?_
    rintro e w3 ⟨u3, rfl, own3, bel3⟩
    have R3 : Hid (RdZ w3 u3 m) := own3.rdz hml H8m.out
    obtain ⟨xa, xc, rfl⟩ := own3.form
    clear own3
    go_wp2_with fail
    refine (HE2.out w3 _ R3.out).mono ?_
    rintro e w4 ⟨v4, rfl, own4, bel4⟩
    have B24 : Hid (Below w2.heap.size w2 w4) := Below.step bel3 bel4
    have RC4 : Hid (RdY w4 v4 Y) := own4.rd (by omega)
    obtain ⟨ya, yc, rfl⟩ := own4.form
    clear own4 bel3 bel4 R3
    have B4 : Hid (Below w.heap.size w w4) := Below.step B2.out B24.out
    go_wp2_with fail
    refine (copySteps_any _ l _ (HR.out.below B4.out)).mono ?_
    rintro e w5 ⟨u5, rfl, own5, bel5⟩
    have R5 : Hid (RdZ w5 u5 l) := own5.rdz hl H8.out
    have B5 : Hid (Below w.heap.size w w5) := Below.step B4.out bel5
    obtain ⟨za, zc, rfl⟩ := own5.form
    go_wp2_with fail
    refine (HW.out w5 _ R5.out (HEnv.out.below B5.out).1).mono ?_
    rintro e w6 ⟨rfl, bel6⟩
    have B46 : Below w4.heap.size w4 w6 := Below.step bel5 bel6
    have B6 : Hid (Below w.heap.size w w6) := Below.step B4.out B46
    have RB6 : Hid (RdY w6 (.slice va X.length vc) X) := (RB2.out.below B24.out).below B46
    have RC6 : Hid (RdY w6 (.slice ya Y.length yc) Y) := RC4.out.below B46
    clear own5 bel5 bel6 R5 B46 RB2 RC4 B2 B24 B4 B5
    go_wp2
    go_loopg [11] l.length (fun g i wr => ∃ k : Nat, k + g = l.length ∧ i = .int .i64 k ∧ wr = w6)
    case atStart => exact ⟨0, by omega, rfl, rfl⟩
    case round =>
      obtain ⟨k, hk, rfl, rfl⟩ := hrel
      have HK : Hid (k + gk = l.length) := hk
      by_cases hlt : k < l.length
      · obtain ⟨a', c', e', _, _, hcell⟩ := HR.out.form
        have e3 : a' = a ∧ c' = c := by injection e' with q1 q2 q3; exact ⟨q1.symm, q3.symm⟩
        obtain ⟨rfl, rfl⟩ := e3
        obtain ⟨b, off, uc2, rfl, hbl, hd0, hu0, hrd⟩ := hcell k hlt
        have hu := (B6.out.cell (p := ⟨b, off + k * 2 + 1, none⟩) hbl).trans hu0
        have HF := HZ.out k hlt
        have hrd6 := hrd.below B6.out
        generalize l.getD k (false, []) = xk at *
        obtain ⟨dd, zs⟩ := xk
        dsimp only at *
        obtain ⟨ac, cc, rfl, hcc, hcm, hcz⟩ := hrd6.form
        have hzl := hrd.len
        have HC : Hid (∀ j, j < zs.length → ∃ b off, ac = some ⟨b, off, none⟩ ∧ wr.cell? ⟨b, off + j, none⟩ = some (.int .i64 (zs.getD j 0))) := hcz
        have HF : Hid (zs.all fmd = true) := HF
        clear hk hcell e' hd0 hu0 hrd hrd6 hcz
        go_wp2
        go_loopg [12] zs.length (fun g i wq => ∃ j : Nat, j + g = zs.length ∧ i = .int .i64 j ∧ wq = wr)
        case atStart => exact ⟨0, by omega, rfl, rfl⟩
        case round =>
          obtain ⟨j, hj, rfl, rfl⟩ := hrel
          have HJ : Hid (j + gk = zs.length) := hj
          by_cases hjt : j < zs.length
          · obtain ⟨b2, off2, rfl, hcj⟩ := HC.out j hjt
            have hfm := fmd_range (List.all_eq_true.1 HF.out _ (getD_mem' (d := 0) hjt))
            clear hj
            generalize zs.getD j 0 = z at *
            obtain ⟨hz0, hz1, hz2⟩ := hfm
            have hzb : (z == 0) = false := beq_eq_false_iff_ne.2 hz0
            go_wp2
            go_roundg (gk - 1)
            case measure => have := HJ.out; omega
            case rel => exact ⟨j + 1, by have := HJ.out; omega, by go_num, rfl⟩
          · obtain rfl : j = zs.length := by omega
            clear hj
            go_wp2
            go_roundg (l.length - k - 1)
            case measure => have := HK.out; omega
            case rel => exact ⟨k + 1, by have := HK.out; omega, by go_num, rfl⟩
      · obtain rfl : k = l.length := by omega
        clear hk
        have HL6 : Hid (RdZ wr (.slice a l.length c) l) := HR.out.below B6.out
        go_wp2_with fail
        refine (copiedY_any _ X _ RB6.out).mono ?_
        rintro e w7 ⟨u7, rfl, own7, bel7⟩
        have R7 : Hid (RdY w7 u7 X) := own7.rd (by omega)
        obtain ⟨a7, c7, rfl⟩ := own7.form
        clear own7
        go_wp2_with fail
        refine (HDe.out w7 _ R7.out).mono ?_
        rintro e w8 ⟨v8, rfl, own8, bel8⟩
        dsimp only at *
        have B8 : Hid (Below wr.heap.size wr w8) := Below.step bel7 bel8
        have Z8 : Hid (RdZ w8 v8 l) := own8.rdz hl H8.out
        obtain ⟨a8, c8, rfl⟩ := own8.form
        clear own8 bel7 bel8 R7
        have HS8 : Hid (Calls Tryd.prog 10 #[.slice a8 l.length c8, .slice a l.length c] w8 fun e w' => e = .returned (.bool true) ∧ Below w8.heap.size w8 w') := HSm.out _ _ Z8.out (HL6.out.below B8.out)
        go_upto_region 18 with (go_at_call 10; refine HS8.out.mono ?_; rintro e w9 ⟨rfl, bel9⟩)
        have B9 : Hid (Below wr.heap.size wr w9) := Below.step B8.out bel9
        clear bel9 HS8 Z8 B8
        go_wp2_with fail
        refine (copiedY_any _ X _ (RB6.out.below B9.out)).mono ?_
        rintro e w10 ⟨u10, rfl, own10, bel10⟩
        have R10 : Hid (RdY w10 u10 X) := own10.rd (by omega)
        obtain ⟨a10, c10, rfl⟩ := own10.form
        have B10 : Hid (Below wr.heap.size wr w10) := Below.step B9.out bel10
        clear own10 bel10
        go_wp2_with fail
        refine (HOp.out w10 _ R10.out (HEnv.out.below (Below.step B6.out B10.out))).mono ?_
        rintro e w11 ⟨v11, rfl, own11, bel11⟩
        dsimp only at *
        have B11 : Hid (Below wr.heap.size wr w11) := Below.step B10.out bel11
        have Z11 : Hid (RdZ w11 v11 l) := own11.rdz hl H8.out
        obtain ⟨a11, c11, rfl⟩ := own11.form
        clear own11 bel11 R10
        have HS11 : Hid (Calls Tryd.prog 10 #[.slice a11 l.length c11, .slice a l.length c] w11 fun e w' => e = .returned (.bool true) ∧ Below w11.heap.size w11 w') := HSm.out _ _ Z11.out (HL6.out.below B11.out)
        go_upto_region 21 with (go_at_call 10; refine HS11.out.mono ?_; rintro e w12 ⟨rfl, bel12⟩)
        have B12 : Hid (Below wr.heap.size wr w12) := Below.step B11.out bel12
        clear bel12 HS11 Z11 B11 B9 B10
        obtain ⟨cT, wT, hrunT, RT, belT⟩ := str_y w12 Tx (by omega)
        have RT : Hid (RdY wT (.slice (some ⟨w12.heap.size, 0, none⟩) Tx.length cT) Tx) := RT
        have BT : Hid (Below wr.heap.size wr wT) := Below.step B12.out belT
        clear belT
        go_wp2_with fail
        refine (HOt.out wT _ RT.out (HEnv.out.below (Below.step B6.out BT.out))).mono ?_
        rintro e w13 ⟨v13, rfl, own13, bel13⟩
        dsimp only at *
        have B13 : Hid (Below wr.heap.size wr w13) := Below.step BT.out bel13
        have Z13 : Hid (RdZ w13 v13 l) := own13.rdz hl H8.out
        obtain ⟨a13, c13, rfl⟩ := own13.form
        clear own13 bel13 hrunT RT BT B12
        have HS13 : Hid (Calls Tryd.prog 10 #[.slice a13 l.length c13, .slice a l.length c] w13 fun e w' => e = .returned (.bool true) ∧ Below w13.heap.size w13 w') := HSm.out _ _ Z13.out (HL6.out.below B13.out)
        go_upto_region 24 with (go_at_call 10; refine HS13.out.mono ?_; rintro e w14 ⟨rfl, bel14⟩)
        have B14 : Hid (Below wr.heap.size wr w14) := Below.step B13.out bel14
        clear bel14 HS13 Z13 B13
        rcases HY2.out with ⟨rfl, hm0⟩ | ⟨rfl, hm1, hYe⟩
        · clear HY2 hm0
          go_wp2
          go_ret
          exact ⟨rfl, Below.step B6.out B14.out⟩
        · have HDa2 : Hid (∀ W v, RdY W v (X ++ Y) → Calls Tryd.prog 8 #[v] W (DecP W (l ++ m, 0, 0))) := fun W v hv => by
            have := HDa.out hm1 W v
            rw [← hYe] at this
            exact this hv (by omega)
          have HM6 : Hid (RdZ wr (.slice a2 m.length c2) m) := HM.out.below B6.out
          clear HY2 hm1 hYe HDa
          go_wp2_with fail
          refine (copiedY_any _ X _ (RB6.out.below B14.out)).mono ?_
          rintro e w15 ⟨u15, rfl, own15, bel15⟩
          have O15 : Hid (OwnT w14.heap.size w15 u15 X) := own15
          have RC15 : Hid (RdY w15 (.slice ya Y.length yc) Y) := (RC6.out.below B14.out).below bel15
          have hs15 := bel15.size
          clear own15
          go_wp2_with (at_builtin; refine wpList_append_y rfl _ _ rfl w14.heap.size _ X rfl O15.out _ Y rfl RC15.out (by omega) hs15 ?_; intro v16 w16 own16 gr16; refine Hid.out ?_)
          refine Lib.hid ?_
          have R16 : Hid (RdY w16 v16 (X ++ Y)) := own16.rd (by rw [List.length_append]; omega)
          have B16 : Hid (Below wr.heap.size wr w16) := Below.step B14.out (bel15.grown gr16 hs15 (fun q hq => (O15.out.lt q hq).1))
          obtain ⟨a16, c16, hv16⟩ := own16.form
          rw [List.length_append] at hv16
          subst hv16
          clear own16 gr16 bel15
          go_wp2_with fail
          refine (HDa2.out w16 _ R16.out).mono ?_
          rintro e w17 ⟨v17, rfl, own17, bel17⟩
          dsimp only at *
          have hlm2 : (l ++ m).length * 32 ≤ 140737488351232 := by rw [List.length_append]; omega
          have Z17 : Hid (RdZ w17 v17 (l ++ m)) := own17.rdz hlm2 (fun x hx => by
            rcases List.mem_append.1 hx with h | h
            · exact H8.out x h
            · exact H8m.out x h)
          have B17 : Hid (Below wr.heap.size wr w17) := Below.step B16.out bel17
          obtain ⟨a17, c17, hv17⟩ := own17.form
          generalize (l ++ m).length = n17 at hv17
          subst hv17
          have hs17 := B17.out.size
          clear own17 bel17 R16
          go_wp2_with (at_builtin; refine wpList_append_z rfl _ _ rfl w17.heap.size _ [] rfl (World.ownsRow_nil _ _ _ _) _ l rfl wr HL6.out B17.out (by simp; omega) (Nat.le_refl _) ?_; intro v18 w18 L1 hL1 hR1 own18 gr18; refine Hid.out ?_)
          refine Lib.hid ?_
          rw [List.nil_append] at own18
          have O18 : Hid (w18.ownsRow w17.heap.size 32 2 v18 L1.length (svC L1)) := own18
          have B18 : Hid (Below w17.heap.size w17 w18) := (Below.refl _ _).grown gr18 (Nat.le_refl _) (fun q hq => by cases hq)
          have hs18 := B18.out.size
          have hL1l : L1.length = l.length := by rw [← hL1, svS_len]
          have HL1 : Hid (svS L1 = l ∧ ∀ x ∈ L1, Rd wr x.2.1 x.2.2) := ⟨hL1, hR1⟩
          have hL1le : L1.length ≤ 1048576 := by omega
          clear own18 gr18 hL1 hR1 hL1l
          have B618 : Hid (Below wr.heap.size wr w18) := Below.step B17.out B18.out
          go_wp2_with (at_builtin; refine wpList_append_z rfl _ _ rfl w17.heap.size _ L1 rfl O18.out _ m rfl wr HM6.out B618.out (by omega) hs18 ?_; intro v19 w19 L2 hL2 hR2 own19 gr19; refine Hid.out ?_)
          refine Lib.hid ?_
          have B19 : Below w17.heap.size w17 w19 := B18.out.grown gr19 hs18 (fun q hq => (World.ownsRow.lt O18.out q hq).1)
          have B619 : Hid (Below wr.heap.size wr w19) := Below.step B17.out B19
          have hS : svS (L1 ++ L2) = l ++ m := by
            have : svS (L1 ++ L2) = svS L1 ++ svS L2 := by simp [svS]
            rw [this, HL1.out.1, hL2]
          have hLL : (L1 ++ L2).length = (l ++ m).length := by rw [← hS, svS_len]
          have Z19 : Hid (RdZ w19 v19 (l ++ m)) := by
            have := rdz_row own19 (fun x hx => by
              rcases List.mem_append.1 hx with h | h
              · exact (HL1.out.2 x h).below B619.out
              · exact (hR2 x h).below B619.out) (by rw [hLL]; exact hlm2)
            rwa [hS] at this
          have Z17' : Hid (RdZ w19 (.slice a17 n17 c17) (l ++ m)) := Z17.out.below B19
          obtain ⟨a19, c19, hv19, _⟩ := Z19.out.form
          generalize (l ++ m).length = n19 at hv19
          subst hv19
          have HS19 : Hid (Calls Tryd.prog 10 #[.slice a17 n17 c17, .slice a19 n19 c19] w19 fun e w' => e = .returned (.bool true) ∧ Below w19.heap.size w19 w') := by
            have := sameSteps_any _ _ (l ++ m) (l ++ m) w19 Z17'.out Z19.out
            rwa [show ((l ++ m) == (l ++ m)) = true from beq_self_eq_true _] at this
          have hxy : (((X.length : Int) + (Y.length : Int)) == ((X.length : Int) + (Y.length : Int))) = true := beq_self_eq_true _
          clear own19 gr19 hL2 hR2 hS hLL HL1 O18 B18 B19 hlm2
          go_wp2_with (go_at_call 10; refine HS19.out.mono ?_; rintro e w20 ⟨rfl, bel20⟩)
          go_ret
          exact ⟨rfl, Below.step (Below.step B6.out B619.out) bel20⟩

end packThere
end Go.Proofs.YtaalgilickkggabDoor

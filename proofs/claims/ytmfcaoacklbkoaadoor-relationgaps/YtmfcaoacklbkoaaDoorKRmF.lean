/-
  The program's Write, WriteList of relations, walked.
  KEEP: off c0 c1 c2 c3 c4 s0 s1 s2 s3 s4 newS rds lt f t q x len below nil form rd mono on app start at new trans refl kept own row out grown rdz set one more lt size cell some none letL tail next step go add put del get look no yes e c f b k n m box Ltr c0 c1 c2 newS u bel blw below22 at22 RdR RdRs
-/
import Derived.Test.YtmfcaoacklbkoaaDoorKRmE
set_option linter.unusedSimpArgs false
set_option linter.unusedVariables false
namespace Go.Proofs.YtmfcaoacklbkoaaDoor
open Go Go.RowKit

theorem bString22 (B b : Nat) (X : ByteArray) (w : World) (h : IsBd B b (bC X) w) (hB : B ≤ w.heap.size) :
    Calls Tryd.prog 36 #[.pointer (some ⟨b, 0, none⟩)] w fun e w' => e = .returned (.string X) ∧ Below B w w' :=
  (Tryd.Builder_String_any_f B b X.data.toList w h hB).mono fun e w' q => ⟨by rw [q.1], q.2.2⟩
set_option maxHeartbeats 3200000 in
set_option maxRecDepth 20000 in
theorem pWriteList22 (v : Value) (rs : List Rl) (w : World) (hr : RdR w v rs) (hT : OpT w) (htot : szR rs ≤ 1099511627776) :
    Calls Tryd.prog 13 #[v] w fun e w' => e = .returned (wrA22 (lisT 0 ⟨#[]⟩ (rs.map (fun r => [r])))) ∧ Below w.heap.size w w' := by
  rw [lisT_pl]
  have HAf : Hid (Calls Tryd.prog 33 #[v] w fun e w' => e = .returned (.bool (frmB rs)) ∧ Below w.heap.size w w') := allFormed22 v rs w hr hT htot
  obtain ⟨a, c, hv, -, -, -⟩ := hr.at22
  subst hv
  cases hf : frmB rs
  · rw [hf] at HAf
    clear hf hr hT htot
    generalize rs.length = n at *
    go_enter Tryd.func13, Tryd.ntmps13
    go_wp2_with fail
    refine HAf.out.mono ?_
    rintro e w1 ⟨rfl, b1⟩
    have HB : Hid (Below w.heap.size w w1) := b1
    clear b1 HAf
    go_wp2
    go_returns
    exact ⟨rfl, HB.out⟩
  · rw [hf] at HAf
    have hsz := (wrT_size ⟨#[44, 32]⟩ (by decide) rs 0 ⟨#[]⟩)
    have HWr : Hid (∀ W1 W, Below w.heap.size w W1 → Below W1.heap.size W1 W → W1.heap.size < W.heap.size → IsBd W1.heap.size W1.heap.size (bC ⟨#[]⟩) W → Calls Tryd.prog 35 #[.pointer (some ⟨W1.heap.size, 0, none⟩), .slice a rs.length c, .string ⟨#[44, 32]⟩] W fun e w' => e = .returned (.tuple #[]) ∧ Wt W1.heap.size W1.heap.size W w' (wrT ⟨#[44, 32]⟩ 0 ⟨#[]⟩ rs)) := fun W1 W h1 h2 h3 h4 => write22 _ _ _ _ rs ⟨#[]⟩ W1 W (hr.below22 h1) (hT.blw h1) (Nat.le_refl _) h2 h2.size h3 hf (by decide) (by show 0 + szR rs ≤ _; omega) h4
    have HRes : Hid (wrA22 (if true = true then some (wrT ⟨#[44, 32]⟩ 0 ⟨#[]⟩ rs) else none) = .tuple #[.string (wrT ⟨#[44, 32]⟩ 0 ⟨#[]⟩ rs), .int .i64 0]) := rfl
    generalize wrT ⟨#[44, 32]⟩ 0 ⟨#[]⟩ rs = G at *
    generalize wrA22 (if true = true then some G else none) = A at *
    clear hf hr hT htot hsz
    generalize rs.length = n at *
    go_enter Tryd.func13, Tryd.ntmps13
    go_wp2_with fail
    refine HAf.out.mono ?_
    rintro e w1 ⟨rfl, b1⟩
    have HB : Hid (Below w.heap.size w w1) := b1
    have HC := HWr.out w1 (w1.alloc (.cells #[.pointer none, .slice none 0 0] 67)) b1 (Below.alloc (Below.refl _ _) (Nat.le_refl _) _) (by simp) (bd_new22 w1)
    have HBa : Hid (Below w1.heap.size w1 (w1.alloc (.cells #[.pointer none, .slice none 0 0] 67))) := Below.alloc (Below.refl _ _) (Nat.le_refl _) _
    have HC1 : Hid (Calls Tryd.prog 35 #[.pointer (some ⟨w1.heap.size, 0, none⟩), .slice a n c, .string ⟨#[44, 32]⟩] (w1.alloc (.cells #[.pointer none, .slice none 0 0] 67)) fun e w' => e = .returned (.tuple #[]) ∧ Wt w1.heap.size w1.heap.size (w1.alloc (.cells #[.pointer none, .slice none 0 0] 67)) w' G) := HC
    clear b1 HAf HWr HC
    go_wp2_with fail
    generalize w1.alloc (.cells #[.pointer none, .slice none 0 0] 67) = wb at *
    refine HC1.out.mono ?_
    rintro e w2 ⟨rfl, h2⟩
    have HB2 : Hid (Below w.heap.size w w2) := HB.out.trans ((HBa.out.trans h2.bel).mono HB.out.size)
    have HSt : Hid (Calls Tryd.prog 36 #[.pointer (some ⟨w1.heap.size, 0, none⟩)] w2 fun e w' => e = .returned (.string G) ∧ Below w1.heap.size w2 w') := bString22 _ _ _ w2 h2.u (Nat.le_trans HBa.out.size h2.bel.size)
    clear h2 HC1 HBa
    go_wp2_with fail
    refine HSt.out.mono ?_
    rintro e w3 ⟨rfl, h3⟩
    have HB3 : Hid (Below w.heap.size w w3) := HB2.out.trans (h3.mono HB.out.size)
    clear h3 HSt HB2 HB
    go_wp2
    go_returns
    exact ⟨by rw [HRes.out]; rfl, HB3.out⟩
theorem lis_wr {l : List (List Rl)} {k : Nat} (acc : ByteArray) (h : k < l.length) : lisT k acc (l.drop k) = if l.getD k [] = [] then none else if frmB (l.getD k []) = true then lisT (k + 1) (wrT ⟨#[32, 124, 32]⟩ 0 (if k = 0 then acc else acc ++ ⟨#[44, 32]⟩) (l.getD k [])) (l.drop (k + 1)) else none := by
  rw [lis_drop acc h, altT_wr]
  cases frmB (l.getD k []) <;> rfl
set_option maxHeartbeats 6400000 in
set_option maxRecDepth 100000 in
theorem pWrite22 (v : Value) (l : List (List Rl)) (w : World) (hr : RdRs w v l) (hT : OpT w) (htot : szL l ≤ 1099511627776) :
    Calls Tryd.prog 10 #[v] w fun e w' => e = .returned (wrA22 (lisT 0 ⟨#[]⟩ l)) ∧ Below w.heap.size w w' := by
  have hlen := hr.1
  obtain ⟨R, hR⟩ : ∃ R, R = lisT 0 ⟨#[]⟩ l := ⟨_, rfl⟩
  rw [← hR]
  obtain ⟨a, c, hv, hc, hm, -⟩ := hr.at22
  subst hv
  have HRd : Hid (∀ W, Below w.heap.size w W → RdRs W (.slice a l.length c) l) := fun W hb => hr.below22 hb
  have HOT : Hid (∀ W, Below w.heap.size w W → OpT W) := fun W hb => hT.blw hb
  have HK0 : Hid (R = lisT 0 ⟨#[]⟩ (l.drop 0)) := hR
  have HLw : Hid (∀ k X, k < l.length → lisT k X (l.drop k) = if l.getD k [] = [] then none else if frmB (l.getD k []) = true then lisT (k + 1) (wrT ⟨#[32, 124, 32]⟩ 0 (if k = 0 then X else X ++ ⟨#[44, 32]⟩) (l.getD k [])) (l.drop (k + 1)) else none) := fun k X h => lis_wr X h
  have HLe : Hid (∀ X, lisT l.length X (l.drop l.length) = some X) := fun X => by rw [List.drop_length]; rfl
  have HZd : Hid (∀ k, k < l.length → szL (l.drop k) = szR (l.getD k []) + 2 + szL (l.drop (k + 1))) := fun k h => szL_drop h
  have HZ0 : Hid ((⟨#[]⟩ : ByteArray).size + szL (l.drop 0) ≤ 1099511627776) := by show 0 + szL l ≤ _; omega
  clear hr hT hR htot
  obtain ⟨N, hN⟩ : ∃ N, N = l.length := ⟨_, rfl⟩
  rw [← hN] at hlen hc HRd HLw HLe HZd ⊢
  have HRc : Hid (∀ W, Below w.heap.size w W → ∀ k, k < N → ∃ b off u, a = some ⟨b, off, none⟩ ∧ W.cell? ⟨b, off + k, none⟩ = some u ∧ RdR W u (l.getD k [])) := fun W hb k hk => by
    obtain ⟨a', c', e', -, -, hcl⟩ := (HRd.out W hb).at22
    have e3 : a' = a := by injection e' with q1 q2 q3; exact q1.symm
    subst e3
    exact hcl k (by omega)
  clear HRd hN
  go_enter Tryd.func10, Tryd.ntmps10
  go_wp2_with fail
  obtain ⟨b, hb⟩ : ∃ b, b = w.heap.size := ⟨_, rfl⟩
  have HW0 : Hid (Wt w.heap.size w.heap.size (w.alloc (.cells #[.pointer none, .slice none 0 0] 67)) (w.alloc (.cells #[.pointer none, .slice none 0 0] 67)) ⟨#[]⟩) := Wt.refl22 (bd_new22 w)
  have HBa : Hid (Below w.heap.size w (w.alloc (.cells #[.pointer none, .slice none 0 0] 67))) := Below.alloc (Below.refl _ _) (Nat.le_refl _) _
  have HSa : Hid (w.heap.size < (w.alloc (.cells #[.pointer none, .slice none 0 0] 67)).heap.size) := by show _ < _; simp
  generalize w.alloc (.cells #[.pointer none, .slice none 0 0] 67) = wb at *
  have HBl : Hid (∀ W X, Wt w.heap.size w.heap.size wb W X → Below w.heap.size w W ∧ w.heap.size < W.heap.size) := fun W X h => ⟨HBa.out.trans h.bel, Nat.lt_of_lt_of_le HSa.out h.bel.size⟩
  clear HBa HSa hb b
  go_loopg [9] N (fun g i wr => ∃ (k : Nat) (X : ByteArray), k + g = N ∧ i = .int .i64 k ∧ Hid (R = lisT k X (l.drop k)) ∧ Hid (X.size + szL (l.drop k) ≤ 1099511627776) ∧ Hid (Wt w.heap.size w.heap.size wb wr X))
  case atStart => exact ⟨0, ⟨#[]⟩, by omega, rfl, HK0.out, HZ0.out, HW0.out⟩
  case round =>
    obtain ⟨k, X, hk, rfl, HK, HZ, HX⟩ := hrel
    have HG : Hid (k + gk = N) := hk
    clear HK0 HW0 HZ0
    by_cases hlt : k < N
    · obtain ⟨rb, off, u, rfl, hcu, hru⟩ := HRc.out wr (HBl.out _ _ HX.out).1 k hlt
      have hK2 : R = if l.getD k [] = [] then none else if frmB (l.getD k []) = true then lisT (k + 1) (wrT ⟨#[32, 124, 32]⟩ 0 (if k = 0 then X else X ++ ⟨#[44, 32]⟩) (l.getD k [])) (l.drop (k + 1)) else none := by rw [HK.out, HLw.out k X hlt]
      have hZ2 : X.size + (szR (l.getD k []) + 2 + szL (l.drop (k + 1))) ≤ 1099511627776 := by rw [← HZd.out k hlt]; exact HZ.out
      have HAf : Hid (Calls Tryd.prog 33 #[u] wr fun e w' => e = .returned (.bool (frmB (l.getD k []))) ∧ Below wr.heap.size wr w') := allFormed22 u _ wr hru (HOT.out _ (HBl.out _ _ HX.out).1) (by omega)
      obtain ⟨rb0, off0, u0, e0, hcu0, hru0⟩ := HRc.out w (Below.refl _ _) k hlt
      have hu0 : u0 = u := by
        injection e0 with e0
        injection e0 with q1 q2 q3
        subst q1; subst q2
        have := ((HBl.out _ _ HX.out).1.cell (p := ⟨rb, off + k, none⟩) (World.block_lt_of_cell? w _ hcu0)).trans hcu0
        rw [hcu] at this
        injection this with this
        exact this.symm
      have HRg0 : RdR w u (l.getD k []) := hu0 ▸ hru0
      clear HK HZ hk e0 hcu0 hru0 hu0
      generalize l.getD k [] = rs at *
      obtain ⟨zq, hzq⟩ : ∃ zq, zq = szL (l.drop (k + 1)) := ⟨_, rfl⟩
      rw [← hzq] at hZ2
      have HZq : Hid (zq = szL (l.drop (k + 1))) := hzq
      clear hzq
      have HRu : Hid (∀ W, Below wr.heap.size wr W → RdR W u rs) := fun W hb => hru.below22 hb
      have HRg : Hid (RdR w u rs) := HRg0
      clear HRg0
      obtain ⟨ua, uc, rfl, -, -, -⟩ := hru.at22
      by_cases hrs : rs = []
      · have HE : Hid (R = none) := by show _ = _; rw [hK2, if_pos hrs]
        subst hrs
        clear hK2 hZ2 HAf HRu hru
        have hl0 : (([] : List Rl).length : Int) = 0 := rfl
        go_wp2
        go_returns
        exact ⟨by rw [HE.out]; rfl, (HBl.out _ _ HX.out).1⟩
      have hpos : 0 < rs.length := List.length_pos_iff.2 hrs
      have hK3 : R = if frmB rs = true then lisT (k + 1) (wrT ⟨#[32, 124, 32]⟩ 0 (if k = 0 then X else X ++ ⟨#[44, 32]⟩) rs) (l.drop (k + 1)) else none := by rw [hK2, if_neg hrs]
      have hu40 := hru.1
      clear hK2 hru hrs
      have hl0 : ((rs.length : Int) == 0) = false := beq_eq_false_iff_ne.2 (by omega)
      cases hf : frmB rs
      · have HE : Hid (R = none) := by show _ = _; rw [hK3, hf]; rfl
        rw [hf] at HAf
        clear hK3 hZ2 HRu hf
        generalize rs.length = nr at *
        go_wp2_with (go_at_call 33; refine HAf.out.mono ?_; rintro e w5 ⟨rfl, b5⟩; have HB5 : Hid (Below w.heap.size w w5) := (HBl.out _ _ HX.out).1.trans (b5.mono (Nat.le_of_lt (HBl.out _ _ HX.out).2)); clear b5)
        go_returns
        exact ⟨by rw [HE.out]; rfl, HB5.out⟩
      rw [hf] at HAf
      have HK4 : Hid (R = lisT (k + 1) (wrT ⟨#[32, 124, 32]⟩ 0 (if k = 0 then X else X ++ ⟨#[44, 32]⟩) rs) (l.drop (k + 1))) := by show _ = _; rw [hK3, hf]; rfl
      have HFr : Hid (frmB rs = true) := hf
      clear hK3 hf
      go_upto_region 7 with (go_at_call 33; refine HAf.out.mono ?_; rintro e w5 ⟨rfl, b5⟩; have HX5 : Hid (Wt w.heap.size w.heap.size wb w5 X) := HX.out.blw22 (Nat.le_of_lt (HBl.out _ _ HX.out).2) b5; have HR5 : Hid (RdR w5 (.slice ua rs.length uc) rs) := HRu.out w5 b5; clear b5)
      clear HAf HRu hcu HX
      by_cases h0 : 0 < k
      · skip
        have HK5 : Hid (R = lisT (k + 1) (wrT ⟨#[32, 124, 32]⟩ 0 (X ++ ⟨#[44, 32]⟩) rs) (l.drop (k + 1))) := by show _ = _; rw [HK4.out, if_neg (by omega)]
        have hYs : (X ++ (⟨#[44, 32]⟩ : ByteArray)).size = X.size + 2 := ByteArray.size_append
        have HS5 : Hid (Calls Tryd.prog 34 #[.pointer (some ⟨w.heap.size, 0, none⟩), .string ⟨#[44, 32]⟩] w5 fun e w' => e = .returned (.tuple #[.int .i64 2, .nilIface]) ∧ Wt w.heap.size w.heap.size wb w' (X ++ ⟨#[44, 32]⟩) ∧ BdK w.heap.size w5 w' ∧ w5.heap.size ≤ w'.heap.size) := HX5.out.str22 ⟨#[44, 32]⟩ (by show X.size + 2 ≤ _; omega) (Nat.le_of_lt (HBl.out _ _ HX5.out).2)
        clear HK4
        generalize X ++ (⟨#[44, 32]⟩ : ByteArray) = Y at *
        go_upto_region 9 with (go_at_call 34; refine HS5.out.mono ?_; rintro e wy ⟨rfl, q1, q2, q3⟩; have HXy : Hid (Wt w.heap.size w.heap.size wb wy Y) := q1; clear q1 q2 q3)
        clear HS5 HX5 h0

        have HWr : Hid (Calls Tryd.prog 35 #[.pointer (some ⟨w.heap.size, 0, none⟩), .slice ua rs.length uc, .string ⟨#[32, 124, 32]⟩] wy fun e w' => e = .returned (.tuple #[]) ∧ Wt w.heap.size w.heap.size wy w' (wrT ⟨#[32, 124, 32]⟩ 0 Y rs)) := write22 w.heap.size w.heap.size ⟨#[32, 124, 32]⟩ _ rs Y w wy HRg.out (HOT.out _ (Below.refl _ _)) (Nat.le_refl _) (HBl.out _ _ HXy.out).1 (Nat.le_of_lt (HBl.out _ _ HXy.out).2) (HBl.out _ _ HXy.out).2 HFr.out (by decide) (by omega) HXy.out.u
        have hsz := (wrT_size ⟨#[32, 124, 32]⟩ (by decide) rs 0 Y)
        have HZn : Hid ((wrT ⟨#[32, 124, 32]⟩ 0 Y rs).size + zq ≤ 1099511627776) := by show _ ≤ _; omega
        generalize wrT ⟨#[32, 124, 32]⟩ 0 Y rs = Z at *
        clear hZ2 hYs hsz
        generalize rs.length = nr at *
        go_wp2_with (go_at_call 35; refine HWr.out.mono ?_; rintro e w9 ⟨rfl, h9⟩; have HX9 : Hid (Wt w.heap.size w.heap.size wb w9 Z) := ⟨h9.u, HXy.out.bel.trans h9.bel⟩; clear h9)
        go_roundg (gk - 1)
        case measure => have := HG.out; omega
        case rel => exact ⟨k + 1, Z, by have := HG.out; omega, by first | rfl | go_num, HK5.out, by show _ + szL _ ≤ _; rw [← HZq.out]; exact HZn.out, HX9.out⟩
      · skip
        have HK5 : Hid (R = lisT (k + 1) (wrT ⟨#[32, 124, 32]⟩ 0 X rs) (l.drop (k + 1))) := by show _ = _; rw [HK4.out, if_pos (by omega)]
        have HXy : Hid (Wt w.heap.size w.heap.size wb w5 X) := HX5.out
        have hYs : X.size ≤ X.size + 2 := by omega
        clear HK4 HX5
        go_upto_region 9 with fail
        clear h0
        generalize w5 = wy at *
        obtain ⟨Y, hY⟩ : ∃ Y, Y = X := ⟨_, rfl⟩
        subst hY

        have HWr : Hid (Calls Tryd.prog 35 #[.pointer (some ⟨w.heap.size, 0, none⟩), .slice ua rs.length uc, .string ⟨#[32, 124, 32]⟩] wy fun e w' => e = .returned (.tuple #[]) ∧ Wt w.heap.size w.heap.size wy w' (wrT ⟨#[32, 124, 32]⟩ 0 Y rs)) := write22 w.heap.size w.heap.size ⟨#[32, 124, 32]⟩ _ rs Y w wy HRg.out (HOT.out _ (Below.refl _ _)) (Nat.le_refl _) (HBl.out _ _ HXy.out).1 (Nat.le_of_lt (HBl.out _ _ HXy.out).2) (HBl.out _ _ HXy.out).2 HFr.out (by decide) (by omega) HXy.out.u
        have hsz := (wrT_size ⟨#[32, 124, 32]⟩ (by decide) rs 0 Y)
        have HZn : Hid ((wrT ⟨#[32, 124, 32]⟩ 0 Y rs).size + zq ≤ 1099511627776) := by show _ ≤ _; omega
        generalize wrT ⟨#[32, 124, 32]⟩ 0 Y rs = Z at *
        clear hZ2 hYs hsz
        generalize rs.length = nr at *
        go_wp2_with (go_at_call 35; refine HWr.out.mono ?_; rintro e w9 ⟨rfl, h9⟩; have HX9 : Hid (Wt w.heap.size w.heap.size wb w9 Z) := ⟨h9.u, HXy.out.bel.trans h9.bel⟩; clear h9)
        go_roundg (gk - 1)
        case measure => have := HG.out; omega
        case rel => exact ⟨k + 1, Z, by have := HG.out; omega, by first | rfl | go_num, HK5.out, by show _ + szL _ ≤ _; rw [← HZq.out]; exact HZn.out, HX9.out⟩
    · have HE : Hid (R = some X) := by
        show _ = _
        have e : k = N := by omega
        rw [HK.out, e, HLe.out]
      have HSt : Hid (Calls Tryd.prog 36 #[.pointer (some ⟨w.heap.size, 0, none⟩)] wr fun e w' => e = .returned (.string X) ∧ Below w.heap.size wr w') := bString22 _ _ _ wr HX.out.u (Nat.le_of_lt (HBl.out _ _ HX.out).2)
      clear HK HZ hk
      go_wp2_with (go_at_call 36; refine HSt.out.mono ?_; rintro e w3 ⟨rfl, h3⟩; have HB3 : Hid (Below w.heap.size w w3) := (HBl.out _ _ HX.out).1.trans h3; clear h3)
      go_returns
      exact ⟨by rw [HE.out]; rfl, HB3.out⟩

end Go.Proofs.YtmfcaoacklbkoaaDoor

/-
  The program's write of relations, walked.
  KEEP: off c0 c1 c2 c3 c4 s0 s1 s2 s3 s4 newS rds lt f t q x len below nil form rd mono on app start at new trans refl kept own row out grown rdz set one more lt size cell some none letL tail next step go add put del get look no yes e c f b k n m box Ltr c0 c1 c2 newS u bel blw below22 at22 RdR RdRs
-/
import Derived.Test.YtmfcaoacklbkoaaDoorKRmD
set_option linter.unusedSimpArgs false
set_option linter.unusedVariables false
namespace Go.Proofs.YtmfcaoacklbkoaaDoor
open Go Go.RowKit

/-- what stands behind a name -/
def tlB (o : Int) (v : ByteArray) : ByteArray := (((⟨#[32, 40]⟩ ++ sgF o) ++ ⟨#[32]⟩) ++ v) ++ ⟨#[41]⟩
theorem txt_tl {n : ByteArray} {o : Int} {v : ByteArray} (h : o ≠ 0) : txtB n o v = n ++ tlB o v := by
  unfold txtB tlB
  rw [if_neg h]
  simp only [ByteArray.append_assoc]
theorem relB_op {n v : ByteArray} {o : Int} (h : relB n o v = true) : opK o = !decide (o = 0) := by
  unfold relB at h
  by_cases h0 : o = 0
  · subst h0; rfl
  · rw [if_neg h0, sgF_emp, Bool.not_not] at h
    simp only [Bool.and_eq_true] at h
    rw [h.2.1, decide_eq_false h0]; rfl
set_option maxHeartbeats 6400000 in
set_option maxRecDepth 100000 in
theorem write22 (B b : Nat) (sep : ByteArray) (v : Value) (rs : List Rl) (X0 : ByteArray) (wA w : World) (hr : RdR wA v rs) (hT : OpT wA) (hAB : wA.heap.size ≤ B) (hA : Below wA.heap.size wA w) (hBw : B ≤ w.heap.size) (hbw : b < w.heap.size)
    (hf : frmB rs = true) (hs : sep.size ≤ 3) (hz : X0.size + szR rs ≤ 1099511627776) (hu : IsBd B b (bC X0) w) :
    Calls Tryd.prog 35 #[.pointer (some ⟨b, 0, none⟩), v, .string sep] w fun e w' => e = .returned (.tuple #[]) ∧ Wt B b w w' (wrT sep 0 X0 rs) := by
  have hlen := hr.1
  have HRw : Hid (∀ W, Below wA.heap.size wA W → RdR W v rs) := fun W hb => hr.below22 hb
  have HOT : Hid (∀ W, Below wA.heap.size wA W → OpT W) := fun W hb => hT.blw hb
  have HBel : Hid (∀ W X, Wt B b w W X → Below wA.heap.size wA W) := fun W X h => hA.trans (h.bel.mono hAB)
  have HLt : Hid (∀ W X, Wt B b w W X → B ≤ W.heap.size ∧ b < W.heap.size) := fun W X h => ⟨Nat.le_trans hBw h.bel.size, Nat.lt_of_lt_of_le hbw h.bel.size⟩
  obtain ⟨a, c, rfl, hc, hm, -⟩ := hr.at22
  have HF : Hid (∀ k, k < rs.length → relB (rs.getD k noRl).1 (rs.getD k noRl).2.1 (rs.getD k noRl).2.2 = true) := fun k hk => by
    unfold frmB at hf
    rw [List.getD_eq_getElem?_getD, List.getElem?_eq_getElem hk]
    exact List.all_eq_true.1 hf _ (List.getElem_mem hk)
  obtain ⟨G, hG⟩ : ∃ G, G = wrT sep 0 X0 rs := ⟨_, rfl⟩
  rw [← hG]
  have HK0 : Hid (G = wrT sep 0 X0 (rs.drop 0)) := hG
  have HW0 : Hid (Wt B b w w X0) := Wt.refl22 hu
  have HSz : Hid (∀ k X, G = wrT sep k X (rs.drop k) → X.size ≤ 1099511627776) := fun k X h => by
    have h1 := (wrT_size sep hs (rs.drop k) k X).1
    rw [← h, hG] at h1
    have h2 := (wrT_size sep hs rs 0 X0).2
    omega
  have HWd : Hid (∀ k X, k < rs.length → wrT sep k X (rs.drop k) = wrT sep (k + 1) ((if k = 0 then X else X ++ sep) ++ txtB (rs.getD k noRl).1 (rs.getD k noRl).2.1 (rs.getD k noRl).2.2) (rs.drop (k + 1))) := fun k X h => wr_drop X h
  have HEnd : Hid (∀ X, wrT sep rs.length X (rs.drop rs.length) = X) := fun X => by rw [List.drop_length]; rfl
  have HZr : Hid (∀ k, k < rs.length → (rs.getD k noRl).1.size + (rs.getD k noRl).2.2.size ≤ 1099511627776) := fun k hk => by have := szR_at rs k hk; omega
  clear hr hT hA hf hz hu hG hBw hbw
  obtain ⟨N, hN⟩ : ∃ N, N = rs.length := ⟨_, rfl⟩
  rw [← hN] at hlen hc HF HWd HEnd HZr ⊢
  have HRc : Hid (∀ W, Below wA.heap.size wA W → ∀ k, k < N → ∃ b off, a = some ⟨b, off, none⟩ ∧ W.cell? ⟨b, off + k * 3, none⟩ = some (.string (rs.getD k noRl).1) ∧ W.cell? ⟨b, off + k * 3 + 1, none⟩ = some (.int .i64 (rs.getD k noRl).2.1) ∧ W.cell? ⟨b, off + k * 3 + 2, none⟩ = some (.string (rs.getD k noRl).2.2)) := fun W hb k hk => by
    obtain ⟨a', c', e', -, -, hcl⟩ := (HRw.out W hb).at22
    have e3 : a' = a := by injection e' with q1 q2 q3; exact q1.symm
    subst e3
    exact hcl k (by omega)
  clear HRw hN
  go_enter Tryd.func35, Tryd.ntmps35
  go_wp2
  go_loopg [12] N (fun g i wr => ∃ (k : Nat) (X : ByteArray), k + g = N ∧ i = .int .i64 k ∧ Hid (G = wrT sep k X (rs.drop k)) ∧ Hid (Wt B b w wr X))
  case atStart => exact ⟨0, X0, by omega, rfl, HK0.out, HW0.out⟩
  case round =>
    obtain ⟨k, X, hk, rfl, HK, HX⟩ := hrel
    have HG : Hid (k + gk = N) := hk
    clear HK0 HW0
    by_cases hlt : k < N
    · obtain ⟨rb, off, rfl, z0, z1, z2⟩ := HRc.out wr (HBel.out _ _ HX.out) k hlt
      have hXs := HSz.out k X HK.out
      have hKn : G = wrT sep (k + 1) ((if k = 0 then X else X ++ sep) ++ txtB (rs.getD k noRl).1 (rs.getD k noRl).2.1 (rs.getD k noRl).2.2) (rs.drop (k + 1)) := by rw [HK.out, HWd.out k X hlt]
      have hrl := HF.out k hlt
      have hzr := HZr.out k hlt
      clear HK hk
      generalize rs.getD k noRl = r at *
      obtain ⟨n, o, v⟩ := r
      simp only at hKn hrl hzr z0 z1 z2
      have hop := relB_op hrl
      have HKn : Hid (G = wrT sep (k + 1) ((if k = 0 then X else X ++ sep) ++ txtB n o v) (rs.drop (k + 1))) := hKn
      clear hKn hrl
      have hba := Below.alloc (Below.refl wr.heap.size wr) (Nat.le_refl _) (.cells #[.string n, .int .i64 o, .string v] 34)
      have HQ : Hid (Rq (wr.alloc (.cells #[.string n, .int .i64 o, .string v] 34)) wr.heap.size n o v) := Rq.newS _ _ _ _ _ rfl
      have HXa : Hid (Wt B b w (wr.alloc (.cells #[.string n, .int .i64 o, .string v] 34)) X) := HX.out.blw22 (HLt.out _ _ HX.out).1 hba
      have HDb : Hid (wr.heap.size ≠ b) := by have := (HLt.out _ _ HX.out).2; show ¬ _ = _; omega
      clear hba
      have y0 : wr.cell? ⟨rb, off + k * 3, none⟩ = some (.string n) := z0
      have y1 : wr.cell? ⟨rb, off + k * 3 + 1, none⟩ = some (.int .i64 o) := z1
      have y2 : wr.cell? ⟨rb, off + k * 3 + 2, none⟩ = some (.string v) := z2
      clear z0 z1 z2
      go_upto_region 3 with fail
      clear y0 y1 y2 HX
      generalize wr.alloc (.cells #[.string n, .int .i64 o, .string v] 34) = wa at *
      generalize wr.heap.size = D at *
      by_cases h0 : 0 < k
      · skip
        have HKy0 : G = wrT sep (k + 1) ((X ++ sep) ++ txtB n o v) (rs.drop (k + 1)) := by rw [HKn.out, if_neg (by omega)]
        have hYs0 : (X ++ sep).size = X.size + sep.size := ByteArray.size_append
        have HS5 : Hid (Calls Tryd.prog 34 #[.pointer (some ⟨b, 0, none⟩), .string sep] wa fun e w' => e = .returned (.tuple #[.int .i64 sep.size, .nilIface]) ∧ Wt B b w w' (X ++ sep) ∧ BdK b wa w' ∧ wa.heap.size ≤ w'.heap.size) := HXa.out.str22 sep (by omega) (HLt.out _ _ HXa.out).1
        have HYs : Hid ((X ++ sep).size ≤ 1099511627780) := by show _ ≤ _; omega
        have HKy : Hid (G = wrT sep (k + 1) ((X ++ sep) ++ txtB n o v) (rs.drop (k + 1))) := HKy0
        clear HKy0 hYs0 HKn
        generalize X ++ sep = Y at *
        go_upto_region 5 with (go_at_call 34; refine HS5.out.mono ?_; rintro e wy ⟨rfl, q1, q2, q3⟩; have HXy : Hid (Wt B b w wy Y) := q1; have HQy : Hid (Rq wy D n o v) := HQ.out.bdk22 q2 HDb.out; clear q1 q2 q3)
        clear HS5 HXa HQ h0 hXs

        have x0 := HQy.out.c0
        have hY : Y.size ≤ 1099511627780 := HYs.out
        have HS6 : Hid (Calls Tryd.prog 34 #[.pointer (some ⟨b, 0, none⟩), .string n] wy fun e w' => e = .returned (.tuple #[.int .i64 n.size, .nilIface]) ∧ Wt B b w w' (Y ++ n) ∧ BdK b wy w' ∧ wy.heap.size ≤ w'.heap.size) := HXy.out.str22 n (by omega) (HLt.out _ _ HXy.out).1
        have hY6 : (Y ++ n).size = Y.size + n.size := ByteArray.size_append
        clear HYs
        go_upto_region 6 with (go_at_call 34; refine HS6.out.mono ?_; rintro e w6 ⟨rfl, q1, q2, q3⟩; have HX6 : Hid (Wt B b w w6 (Y ++ n)) := q1; have HQ6 : Hid (Rq w6 D n o v) := HQy.out.bdk22 q2 HDb.out; clear q1 q2 q3)
        clear x0 HS6 HXy HQy
        have x1 := HQ6.out.c1
        have HO6 : Hid (Calls Tryd.prog 37 #[.int .i64 o] w6 fun e w' => OpAns w6 w' e (if opK o = true then o else 0) (sgF o) (opK o)) := ofOp22 o w6 (HOT.out _ (HBel.out _ _ HX6.out))
        rw [hop] at HO6
        generalize (if (!decide (o = 0)) = true then o else 0) = O2 at *
        go_wp2_with fail
        refine HO6.out.mono ?_
        rintro e w7 ⟨l, m, rfl, b7⟩
        have HB7 : Hid (Below w6.heap.size w6 (w7.alloc (.cells #[.int .i64 O2, .string (sgF o), .int .i64 l, .int .i64 m] 76))) := Below.alloc b7 b7.size _
        have HX8 : Hid (Wt B b w (w7.alloc (.cells #[.int .i64 O2, .string (sgF o), .int .i64 l, .int .i64 m] 76)) (Y ++ n)) := HX6.out.blw22 (HLt.out _ _ HX6.out).1 HB7.out
        have HQ8 : Hid (Rq (w7.alloc (.cells #[.int .i64 O2, .string (sgF o), .int .i64 l, .int .i64 m] 76)) D n o v) := HQ6.out.below HB7.out HQ6.out.lt
        have HO8 : Hid (Oq (w7.alloc (.cells #[.int .i64 O2, .string (sgF o), .int .i64 l, .int .i64 m] 76)) w7.heap.size O2 (sgF o) l m) := Oq.newS _ _ _ _ _
        clear b7 HB7 HX6 HQ6 HO6 x1
        by_cases ho : o = 0
        · subst ho
          have hd : (!decide ((0 : Int) = 0)) = false := rfl
          rw [hd]
          have HE : Hid (G = wrT sep (k + 1) (Y ++ n) (rs.drop (k + 1))) := HKy.out
          clear HKy hop hd HO8 HQ8
          go_wp2
          go_roundg (gk - 1)
          case measure => have := HG.out; omega
          case rel => exact ⟨k + 1, Y ++ n, by have := HG.out; omega, by first | rfl | go_num, HE.out, HX8.out⟩
        · have hd : (!decide (o = 0)) = true := by simpa using ho
          rw [hd]
          have HKz : G = wrT sep (k + 1) ((Y ++ n) ++ tlB o v) (rs.drop (k + 1)) := by rw [HKy.out, txt_tl ho, ByteArray.append_assoc]
          have htl : tlB o v = (((⟨#[32, 40]⟩ ++ sgF o) ++ ⟨#[32]⟩) ++ v) ++ ⟨#[41]⟩ := rfl
          rw [htl] at HKz
          have hsg := sgF_size o
          clear HKy hop htl hd ho
          go_upto_region 7 with fail
          generalize w7.alloc (.cells #[.int .i64 O2, .string (sgF o), .int .i64 l, .int .i64 m] 76) = w8 at *
          generalize w7.heap.size = O8 at *
          generalize sgF o = S at *
          have x1 := HO8.out.c1
          have x2 := HQ8.out.c2
          have s1 : ((⟨#[32, 40]⟩ : ByteArray) ++ S).size = 2 + S.size := ByteArray.size_append
          have k1 := cat22 ⟨#[32, 40]⟩ S (by show 2 + S.size ≤ _; omega)
          generalize (⟨#[32, 40]⟩ : ByteArray) ++ S = t1 at *
          have s2 : (t1 ++ (⟨#[32]⟩ : ByteArray)).size = t1.size + 1 := ByteArray.size_append
          have k2 := cat22 t1 ⟨#[32]⟩ (by show t1.size + 1 ≤ _; omega)
          generalize t1 ++ (⟨#[32]⟩ : ByteArray) = t2 at *
          have s3 : (t2 ++ v).size = t2.size + v.size := ByteArray.size_append
          have k3 := cat22 t2 v (by omega)
          generalize t2 ++ v = t3 at *
          have s4 : (t3 ++ (⟨#[41]⟩ : ByteArray)).size = t3.size + 1 := ByteArray.size_append
          have k4 := cat22 t3 ⟨#[41]⟩ (by show t3.size + 1 ≤ _; omega)
          generalize t3 ++ (⟨#[41]⟩ : ByteArray) = t4 at *
          have HE : Hid (G = wrT sep (k + 1) ((Y ++ n) ++ t4) (rs.drop (k + 1))) := HKz
          have HS9 : Hid (Calls Tryd.prog 34 #[.pointer (some ⟨b, 0, none⟩), .string t4] w8 fun e w' => e = .returned (.tuple #[.int .i64 t4.size, .nilIface]) ∧ Wt B b w w' ((Y ++ n) ++ t4) ∧ BdK b w8 w' ∧ w8.heap.size ≤ w'.heap.size) := HX8.out.str22 t4 (by omega) (HLt.out _ _ HX8.out).1
          clear HKz s1 s2 s3 s4 hsg HX8 HO8 HQ8
          go_wp2_with (go_at_call 34; refine HS9.out.mono ?_; rintro e w9 ⟨rfl, q1, q2, q3⟩; have HX9 : Hid (Wt B b w w9 ((Y ++ n) ++ t4)) := q1; clear q1 q2 q3)
          go_roundg (gk - 1)
          case measure => have := HG.out; omega
          case rel => exact ⟨k + 1, (Y ++ n) ++ t4, by have := HG.out; omega, by first | rfl | go_num, HE.out, HX9.out⟩
      · skip
        have HKy : Hid (G = wrT sep (k + 1) (X ++ txtB n o v) (rs.drop (k + 1))) := by show _ = _; rw [HKn.out, if_pos (by omega)]
        have HYs : Hid (X.size ≤ 1099511627780) := by show _ ≤ _; omega
        have HXy : Hid (Wt B b w wa X) := HXa.out
        have HQy : Hid (Rq wa D n o v) := HQ.out
        clear HKn HXa HQ hXs
        go_upto_region 5 with fail
        clear h0
        generalize wa = wy at *
        generalize X = Y at *

        have x0 := HQy.out.c0
        have hY : Y.size ≤ 1099511627780 := HYs.out
        have HS6 : Hid (Calls Tryd.prog 34 #[.pointer (some ⟨b, 0, none⟩), .string n] wy fun e w' => e = .returned (.tuple #[.int .i64 n.size, .nilIface]) ∧ Wt B b w w' (Y ++ n) ∧ BdK b wy w' ∧ wy.heap.size ≤ w'.heap.size) := HXy.out.str22 n (by omega) (HLt.out _ _ HXy.out).1
        have hY6 : (Y ++ n).size = Y.size + n.size := ByteArray.size_append
        clear HYs
        go_upto_region 6 with (go_at_call 34; refine HS6.out.mono ?_; rintro e w6 ⟨rfl, q1, q2, q3⟩; have HX6 : Hid (Wt B b w w6 (Y ++ n)) := q1; have HQ6 : Hid (Rq w6 D n o v) := HQy.out.bdk22 q2 HDb.out; clear q1 q2 q3)
        clear x0 HS6 HXy HQy
        have x1 := HQ6.out.c1
        have HO6 : Hid (Calls Tryd.prog 37 #[.int .i64 o] w6 fun e w' => OpAns w6 w' e (if opK o = true then o else 0) (sgF o) (opK o)) := ofOp22 o w6 (HOT.out _ (HBel.out _ _ HX6.out))
        rw [hop] at HO6
        generalize (if (!decide (o = 0)) = true then o else 0) = O2 at *
        go_wp2_with fail
        refine HO6.out.mono ?_
        rintro e w7 ⟨l, m, rfl, b7⟩
        have HB7 : Hid (Below w6.heap.size w6 (w7.alloc (.cells #[.int .i64 O2, .string (sgF o), .int .i64 l, .int .i64 m] 76))) := Below.alloc b7 b7.size _
        have HX8 : Hid (Wt B b w (w7.alloc (.cells #[.int .i64 O2, .string (sgF o), .int .i64 l, .int .i64 m] 76)) (Y ++ n)) := HX6.out.blw22 (HLt.out _ _ HX6.out).1 HB7.out
        have HQ8 : Hid (Rq (w7.alloc (.cells #[.int .i64 O2, .string (sgF o), .int .i64 l, .int .i64 m] 76)) D n o v) := HQ6.out.below HB7.out HQ6.out.lt
        have HO8 : Hid (Oq (w7.alloc (.cells #[.int .i64 O2, .string (sgF o), .int .i64 l, .int .i64 m] 76)) w7.heap.size O2 (sgF o) l m) := Oq.newS _ _ _ _ _
        clear b7 HB7 HX6 HQ6 HO6 x1
        by_cases ho : o = 0
        · subst ho
          have hd : (!decide ((0 : Int) = 0)) = false := rfl
          rw [hd]
          have HE : Hid (G = wrT sep (k + 1) (Y ++ n) (rs.drop (k + 1))) := HKy.out
          clear HKy hop hd HO8 HQ8
          go_wp2
          go_roundg (gk - 1)
          case measure => have := HG.out; omega
          case rel => exact ⟨k + 1, Y ++ n, by have := HG.out; omega, by first | rfl | go_num, HE.out, HX8.out⟩
        · have hd : (!decide (o = 0)) = true := by simpa using ho
          rw [hd]
          have HKz : G = wrT sep (k + 1) ((Y ++ n) ++ tlB o v) (rs.drop (k + 1)) := by rw [HKy.out, txt_tl ho, ByteArray.append_assoc]
          have htl : tlB o v = (((⟨#[32, 40]⟩ ++ sgF o) ++ ⟨#[32]⟩) ++ v) ++ ⟨#[41]⟩ := rfl
          rw [htl] at HKz
          have hsg := sgF_size o
          clear HKy hop htl hd ho
          go_upto_region 7 with fail
          generalize w7.alloc (.cells #[.int .i64 O2, .string (sgF o), .int .i64 l, .int .i64 m] 76) = w8 at *
          generalize w7.heap.size = O8 at *
          generalize sgF o = S at *
          have x1 := HO8.out.c1
          have x2 := HQ8.out.c2
          have s1 : ((⟨#[32, 40]⟩ : ByteArray) ++ S).size = 2 + S.size := ByteArray.size_append
          have k1 := cat22 ⟨#[32, 40]⟩ S (by show 2 + S.size ≤ _; omega)
          generalize (⟨#[32, 40]⟩ : ByteArray) ++ S = t1 at *
          have s2 : (t1 ++ (⟨#[32]⟩ : ByteArray)).size = t1.size + 1 := ByteArray.size_append
          have k2 := cat22 t1 ⟨#[32]⟩ (by show t1.size + 1 ≤ _; omega)
          generalize t1 ++ (⟨#[32]⟩ : ByteArray) = t2 at *
          have s3 : (t2 ++ v).size = t2.size + v.size := ByteArray.size_append
          have k3 := cat22 t2 v (by omega)
          generalize t2 ++ v = t3 at *
          have s4 : (t3 ++ (⟨#[41]⟩ : ByteArray)).size = t3.size + 1 := ByteArray.size_append
          have k4 := cat22 t3 ⟨#[41]⟩ (by show t3.size + 1 ≤ _; omega)
          generalize t3 ++ (⟨#[41]⟩ : ByteArray) = t4 at *
          have HE : Hid (G = wrT sep (k + 1) ((Y ++ n) ++ t4) (rs.drop (k + 1))) := HKz
          have HS9 : Hid (Calls Tryd.prog 34 #[.pointer (some ⟨b, 0, none⟩), .string t4] w8 fun e w' => e = .returned (.tuple #[.int .i64 t4.size, .nilIface]) ∧ Wt B b w w' ((Y ++ n) ++ t4) ∧ BdK b w8 w' ∧ w8.heap.size ≤ w'.heap.size) := HX8.out.str22 t4 (by omega) (HLt.out _ _ HX8.out).1
          clear HKz s1 s2 s3 s4 hsg HX8 HO8 HQ8
          go_wp2_with (go_at_call 34; refine HS9.out.mono ?_; rintro e w9 ⟨rfl, q1, q2, q3⟩; have HX9 : Hid (Wt B b w w9 ((Y ++ n) ++ t4)) := q1; clear q1 q2 q3)
          go_roundg (gk - 1)
          case measure => have := HG.out; omega
          case rel => exact ⟨k + 1, (Y ++ n) ++ t4, by have := HG.out; omega, by first | rfl | go_num, HE.out, HX9.out⟩
    · have HE : Hid (G = X) := by
        show _ = _
        have e : k = N := by omega
        rw [HK.out, e, HEnd.out]
      clear HK hk
      go_wp2
      go_end0
      exact ⟨rfl, by rw [HE.out]; exact HX.out⟩

end Go.Proofs.YtmfcaoacklbkoaaDoor

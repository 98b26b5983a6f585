/-
  LearnLess, walked (written by walks/genless.py).
  KEEP: no of yes par c0 c1 c2 f1 lt0 p0 p1 s0 s1 s2 s3 s4 s5 s6 s7 s8 s9 q8 q11 q13 call few from ty set len below nil form rd mono one more grown lt size cell some none of ofNat add out step row get at mk new made look put del kept drew alloc has same other map rde take lit lev lstB pre ws cells bnd on start app set box bel rz tidy ms reason c f max lv skip end zero walk
-/
import Derived.Test.YtofojjdegobekaaDoorKLearnFollows
import Derived.Test.YtofojjdegobekaaDoorJForms
import Derived.Deep.QuietTactic
import Derived.BigQuiet
set_option linter.unusedSimpArgs false
set_option linter.unusedVariables false
namespace Go.Proofs.YtofojjdegobekaaDoor.learnLess
open Go Go.RowKit
set_option maxRecDepth 100000 in
set_option maxHeartbeats 6400000 in
theorem walk (v : Value) (t : List Ent) (vc : Value) (zs : List Int) (w : World) (hr : RdE w v t) (hz : Rd w vc zs) (hb : t.length + (t.map fun e => e.2.2.length).sum ≤ 1048576) (hb2 : zs.length ≤ 1048576) (hD : Deb w) :
    Calls Tryd.prog 4 #[v, vc] w fun e w' => e = .returned (.bool true) ∧ Below w.heap.size w w' := by
  have hl := hr.len
  have h8 := rde_each hr
  have hlz := hz.len
  have HR : Hid (RdE w v t) := hr
  have HZ : Hid (Rd w vc zs) := hz
  have HDb : Hid (Deb w) := hD
  have HAw : Hid (Calls Tryd.prog 5 #[] w fun e w' => e = .returned (.bool true) ∧ Below w.heap.size w w') := awake15_any w
  have HFo : Hid (∀ W, Below w.heap.size w W → Calls Tryd.prog 9 #[v] W fun e w' => e = .returned (.bool (frmE t)) ∧ Below W.heap.size W w') := fun W h => (r15Formed_any v t W (HR.out.below h)).mono fun e w' ⟨h1, m, h2⟩ => ⟨h1, by rw [h2]; exact below_drewN _ _⟩
  have HSh : Hid (∀ W, Below w.heap.size w W → Calls Tryd.prog 10 #[vc] W fun e w' => e = .returned (.bool (zs.all fmd)) ∧ w' = W) := fun W h => shaped15_any vc zs W (HZ.out.below h)
  clear hr hz hD
  cases h1 : frmE t
  · rw [h1] at HFo
    clear h1 h8
    go_enter Tryd.func4, Tryd.ntmps4
    go_wp2_with (first | (go_at_call 5; refine HAw.out.mono ?_; rintro e w1 ⟨rfl, b1⟩; have H1 : Hid (Below w.heap.size w w1) := b1; clear b1) | (go_at_call 9; refine (HFo.out _ H1.out).mono ?_; rintro e w2 ⟨rfl, b2⟩; have H2 : Hid (Below w.heap.size w w2) := Below.step H1.out b2; clear b2))
    go_ret
    exact ⟨rfl, H2.out⟩
  cases h2 : zs.all fmd
  · rw [h1] at HFo
    rw [h2] at HSh
    clear h1 h2 h8
    go_enter Tryd.func4, Tryd.ntmps4
    go_wp2_with (first | (go_at_call 5; refine HAw.out.mono ?_; rintro e w1 ⟨rfl, b1⟩; have H1 : Hid (Below w.heap.size w w1) := b1; clear b1) | (go_at_call 9; refine (HFo.out _ H1.out).mono ?_; rintro e w2 ⟨rfl, b2⟩; have H2 : Hid (Below w.heap.size w w2) := Below.step H1.out b2; clear b2) | (go_at_call 10; refine (HSh.out _ H2.out).mono ?_; rintro e w3 ⟨rfl, hw⟩; obtain rfl := hw.symm))
    go_ret
    exact ⟨rfl, H2.out⟩
  have hws := (frmE_iff t).1 h1
  have HFa : Hid (∀ W, Below w.heap.size w W → Calls Tryd.prog 11 #[v, vc] W fun e w' => e = .returned (.bool (falB t zs)) ∧ w' = W) := fun W h => by
    rw [← fal_same hws h2]
    exact rFalse_any _ _ t zs _ (HR.out.below h) (HZ.out.below h) h2
  cases h3 : falB t zs
  · rw [h1] at HFo
    rw [h2] at HSh
    rw [h3] at HFa
    clear h1 h2 h3 h8 hws
    go_enter Tryd.func4, Tryd.ntmps4
    go_wp2_with (first | (go_at_call 5; refine HAw.out.mono ?_; rintro e w1 ⟨rfl, b1⟩; have H1 : Hid (Below w.heap.size w w1) := b1; clear b1) | (go_at_call 9; refine (HFo.out _ H1.out).mono ?_; rintro e w2 ⟨rfl, b2⟩; have H2 : Hid (Below w.heap.size w w2) := Below.step H1.out b2; clear b2) | (go_at_call 10; refine (HSh.out _ H2.out).mono ?_; rintro e w3 ⟨rfl, hw⟩; obtain rfl := hw.symm) | (go_at_call 11; refine (HFa.out _ H2.out).mono ?_; rintro e w3 ⟨rfl, hw⟩; obtain rfl := hw.symm))
    go_ret
    exact ⟨rfl, H2.out⟩
  have HC : Hid (∀ W, Below w.heap.size w W → Calls Tryd.prog 7 #[v] W fun e w' => ∃ u, e = .returned u ∧ RdE w' u t ∧ Below W.heap.size W w' ∧ Below w.heap.size w w') := fun W h => (copyEntries_any v t W (HR.out.below h)).mono fun e w' ⟨u, q1, q2, q3⟩ => ⟨u, q1, q2.rde hl h8, q3, Below.step h q3⟩
  have HI : Hid (∀ W, Below w.heap.size w W → Calls Tryd.prog 8 #[vc] W fun e w' => ∃ u, e = .returned u ∧ Rd w' u zs ∧ Below W.heap.size W w') := fun W h => (copyInts_any vc zs W (HZ.out.below h)).mono fun e w' ⟨u, q1, q2, q3⟩ => ⟨u, q1, q2.rd hlz, q3⟩
  have hask : askI t zs = 0 := by unfold askI; rw [h1, h2, h3]; rfl
  have hs8 := shrK_len t zs zs.length
  have hSm := shr_fmd (t := t) h2
  have hSf := shr_fal (t := t) h3
  have hag := shrK_again hws h3
  have haskS : askI t (shrK t zs zs.length) = 0 := by unfold askI; rw [h1, hSm, hSf]; rfl
  have hFew := blC_few (zs := zs) hws hb hb2
  have hfol := shr_fol hws h3 (blC_blv t zs) (fol_self (blC_self t zs))
  have HSub : Hid ((shrK t zs zs.length).Sublist zs) := by
    have := shrK_sub (t := t) (cl := zs) zs.length (Nat.le_refl _)
    rwa [List.take_length] at this
  have HFst : Hid (0 < zs.length → 0 < (shrK t zs zs.length).length ∧ (shrK t zs zs.length).getD 0 0 = zs.getD 0 0) := fun h => shr_first h
  have HSr : Hid (∀ W u uc, RdE W u t → Rd W uc zs → Calls Tryd.prog 12 #[u, uc] W fun e w' => ∃ xa xc, e = .returned (.tuple #[.slice xa (shrK t zs zs.length).length xc, .int .i64 0]) ∧ Rd w' (.slice xa (shrK t zs zs.length).length xc) (shrK t zs zs.length) ∧ Below W.heap.size W w') := fun W u uc q1 q2 => (shrink_any u uc t zs W q1 q2).mono fun e w' ⟨⟨x, q3, q4⟩, q5⟩ => by
    rw [hask] at q3
    rw [hask, if_pos rfl] at q4
    obtain ⟨xa, xc, rfl⟩ := own_form q4
    exact ⟨xa, xc, q3, q4.rd (by omega), q5⟩
  have HSa : Hid (∀ W u uc, RdE W u t → Rd W uc (shrK t zs zs.length) → Calls Tryd.prog 12 #[u, uc] W fun e w' => ∃ xa xc, e = .returned (.tuple #[.slice xa (shrK t zs zs.length).length xc, .int .i64 0]) ∧ Rd w' (.slice xa (shrK t zs zs.length).length xc) (shrK t zs zs.length) ∧ Below W.heap.size W w') := fun W u uc q1 q2 => (shrink_any u uc t _ W q1 q2).mono fun e w' ⟨⟨x, q3, q4⟩, q5⟩ => by
    rw [haskS] at q3
    rw [haskS, if_pos rfl, hag] at q4
    obtain ⟨xa, xc, rfl⟩ := own_form q4
    exact ⟨xa, xc, q3, q4.rd (by omega), q5⟩
  have HBv : Hid (∀ W, Below w.heap.size w W → Calls Tryd.prog 13 #[v, vc] W fun e w' => ∃ sa sc, e = .returned (.agg #[.int .i64 (blV t zs), .slice sa (blC t zs).length sc]) ∧ Rds w' (.slice sa (blC t zs).length sc) (blC t zs) ∧ Below W.heap.size W w') := fun W h => (believed_any v vc t zs W (HR.out.below h) (HZ.out.below h) hws h2).mono fun e w' ⟨s, q1, q2, q3⟩ => by
    have q4 := q2.rds15 hFew
    obtain ⟨sa, sc, rfl, -⟩ := q4.form
    exact ⟨sa, sc, q1, q4, q3⟩
  have HFS : Hid (∀ W s u, Below w.heap.size w W → Rds W s (blC t zs) → Rd W u (shrK t zs zs.length) → Calls Tryd.prog 14 #[.agg #[.int .i64 (blV t zs), s], u] W fun e w' => e = .returned (.tuple #[.bool true, .int .i64 0]) ∧ Below W.heap.size W w') := fun W s u hW q1 q2 => (follows_any (blV t zs) s u (blC t zs) _ W q1 q2 (fmd_i64 hSm) hFew (HDb.out.at hW)).mono fun e w' h => ⟨by
    have e1 : shp (blV t zs) (blC t zs) (shrK t zs zs.length) = true := shp_bl hws h2 hSm
    have e2 : folB (blC t zs) (shrK t zs zs.length) = true := claB_of hfol
    rw [h.1, e1, e2]; rfl, h.2⟩
  generalize shrK t zs zs.length = S at *
  have HIS : Hid (∀ W u, Rd W u S → Calls Tryd.prog 8 #[u] W fun e w' => ∃ u, e = .returned u ∧ Rd w' u S ∧ Below W.heap.size W w') := fun W u h => (copyInts_any u S W h).mono fun e w' ⟨u, q1, q2, q3⟩ => ⟨u, q1, q2.rd (by omega), q3⟩
  rw [h1] at HFo
  rw [h2] at HSh
  rw [h3] at HFa
  clear h1 h2 h3 h8 hws hask haskS hag hSm hSf hfol hFew hb hb2
  generalize blC t zs = CS at *
  generalize blV t zs = CV at *
  obtain ⟨za, zc, rfl, hzc, hzm, -⟩ := HZ.out.form
  go_enter Tryd.func4, Tryd.ntmps4
  go_upto_region 5 with (first | (go_at_call 5; refine HAw.out.mono ?_; rintro e w1 ⟨rfl, b1⟩; have H1 : Hid (Below w.heap.size w w1) := b1; clear b1) | (go_at_call 9; refine (HFo.out _ H1.out).mono ?_; rintro e w2 ⟨rfl, b2⟩; have H2 : Hid (Below w.heap.size w w2) := Below.step H1.out b2; clear b2) | (go_at_call 10; refine (HSh.out _ H2.out).mono ?_; rintro e w3 ⟨rfl, hw⟩; obtain rfl := hw.symm) | (go_at_call 11; refine (HFa.out _ H2.out).mono ?_; rintro e w3 ⟨rfl, hw⟩; obtain rfl := hw.symm))
  clear HAw H1 HFo HSh HFa
  go_upto_region 6 with (first
      | (go_at_call 7; refine (HC.out _ H2.out).mono ?_; rintro e w3 ⟨u3, rfl, hu, b0, b1⟩; have H3 : Hid (RdE w3 u3 t ∧ Below w.heap.size w w3) := ⟨hu, b1⟩; clear hu b0 b1)
      | (go_at_call 8; refine (HI.out _ H3.out.2).mono ?_; rintro e w4 ⟨u4, rfl, hu, b1⟩; have H4 : Hid (RdE w4 u3 t ∧ Rd w4 u4 zs ∧ Below w.heap.size w w4) := ⟨H3.out.1.below b1, hu, Below.step H3.out.2 b1⟩; clear hu b1)
      | (go_at_call 12; refine (HSr.out _ _ _ H4.out.1 H4.out.2.1).mono ?_; rintro e w5 ⟨ya, yc, rfl, hx, b3⟩; have H5 : Hid (Rd w5 (.slice ya S.length yc) S ∧ Below w.heap.size w w5) := ⟨hx, Below.step H4.out.2.2 b3⟩; clear b3 hx))
  clear H2 H3 H4 HI HSr
  go_upto_region 7 with (first
      | (go_at_call 7; refine (HC.out _ H5.out.2).mono ?_; rintro e w6 ⟨u6, rfl, hu, b0, b1⟩; have H6 : Hid (RdE w6 u6 t ∧ Rd w6 (.slice ya S.length yc) S ∧ Below w.heap.size w w6) := ⟨hu, H5.out.1.below b0, b1⟩; clear hu b0 b1)
      | (go_at_call 8; refine (HIS.out _ _ H6.out.2.1).mono ?_; rintro e w7 ⟨u7, rfl, hu, b1⟩; have H7 : Hid (RdE w7 u6 t ∧ Rd w7 u7 S ∧ Rd w7 (.slice ya S.length yc) S ∧ Below w.heap.size w w7) := ⟨H6.out.1.below b1, hu, H6.out.2.1.below b1, Below.step H6.out.2.2 b1⟩; clear hu b1)
      | (go_at_call 12; refine (HSa.out _ _ _ H7.out.1 H7.out.2.1).mono ?_; rintro e w8 ⟨ga, gc, rfl, hx, b3⟩; have H8 : Hid (Rd w8 (.slice ga S.length gc) S ∧ Rd w8 (.slice ya S.length yc) S ∧ Below w.heap.size w w8) := ⟨hx, H7.out.2.2.1.below b3, Below.step H7.out.2.2.2 b3⟩; clear b3 hx))
  clear H5 H6 H7 HC HSa
  have HSm : Hid (∀ n, Calls Tryd.prog 16 #[.slice ya S.length yc, .slice ga S.length gc] (w8.drewN n) fun e w' => e = .returned (.bool true) ∧ ∃ m, w' = (w8.drewN n).drewN m) := fun n => (sameIntsQ_any _ _ S S (w8.drewN n) (H8.out.2.1.below (below_drewN _ _)) (H8.out.1.below (below_drewN _ _))).mono fun e w' h => ⟨by rw [h.1]; simp, h.2⟩
  have HRs : Hid (∀ n, Rd (w8.drewN n) (.slice ya S.length yc) S ∧ Rd (w8.drewN n) (.slice za zs.length zc) zs ∧ Below w.heap.size w (w8.drewN n)) := fun n => ⟨H8.out.2.1.below (below_drewN _ _), HZ.out.below (Below.step H8.out.2.2 (below_drewN _ _)), Below.step H8.out.2.2 (below_drewN _ _)⟩
  obtain ⟨_, _, eS, hyc, hym, hcS⟩ := H8.out.2.1.form
  injection eS with e1 e2 e3
  subst e1 e3
  obtain ⟨_, _, eZ, -, -, hcZ⟩ := (HZ.out.below H8.out.2.2).form
  injection eZ with e1 e2 e3
  subst e1 e3
  have HcS : Hid (∀ k, k < S.length → ∃ b off, ya = some ⟨b, off, none⟩ ∧ w8.cell? ⟨b, off + k, none⟩ = some (.int .i64 (S.getD k 0))) := hcS
  have HcZ : Hid (∀ k, k < zs.length → ∃ b off, za = some ⟨b, off, none⟩ ∧ w8.cell? ⟨b, off + k, none⟩ = some (.int .i64 (zs.getD k 0))) := hcZ
  clear hcS hcZ H8
  go_cut [80] from 46 to 79 (fun q wx => q = .bool false ∧ ∃ n, wx = w8.drewN n)
  case first =>
    by_cases hn : zs.length = 0
    · have hz0 : ((zs.length : Int) == 0) = true := by rw [beq_iff_eq]; omega
      have hs0 : ((S.length : Int) == 0) = true := by rw [beq_iff_eq]; omega
      have hd0 : decide ((0 : Int) < (S.length : Int)) = false := decide_eq_false (by omega)
      have hd0n : decide (0 < S.length) = false := decide_eq_false (by omega)
      have hs0n : (S.length == 0) = true := by rw [beq_iff_eq]; omega
      have hz0n : (zs.length == 0) = true := by rw [beq_iff_eq]; omega
      clear hn
      go_quiet ((go_at_call 16; exact Calls.quiet_of (HSm.out _)))
      go_wp2_with fail
      go_meet
      exact ⟨rfl, nq, rfl⟩
    · obtain ⟨hp, he⟩ := HFst.out (by omega)
      obtain ⟨b, off, rfl, hcz⟩ := HcZ.out 0 (by omega)
      obtain ⟨b', off', rfl, hcs⟩ := HcS.out 0 hp
      rw [he] at hcs
      simp only [Nat.add_zero] at hcz hcs
      have hz0 : ((zs.length : Int) == 0) = false := beq_eq_false_iff_ne.2 (by omega)
      have hs0 : ((S.length : Int) == 0) = false := beq_eq_false_iff_ne.2 (by omega)
      have hd0 : decide ((0 : Int) < (S.length : Int)) = true := decide_eq_true (by omega)
      have hd0n : decide (0 < S.length) = true := decide_eq_true (by omega)
      have hs0n : (S.length == 0) = false := beq_eq_false_iff_ne.2 (by omega)
      have hz0n : (zs.length == 0) = false := beq_eq_false_iff_ne.2 (by omega)
      have hd1 : (0 : Int) < (S.length : Int) := by omega
      have hd2 : (0 : Int) < (zs.length : Int) := by omega
      clear hn hp he
      generalize zs.getD 0 0 = z0 at *
      have hzz : (z0 == z0) = true := by simp
      go_quiet ((go_at_call 16; exact Calls.quiet_of (HSm.out _)))
      go_wp2_with fail
      go_meet
      exact ⟨rfl, nq, rfl⟩
  case rest =>
  obtain ⟨rfl, n0, rfl⟩ := hcut
  go_wp2_with fail
  go_loopg [9, 10] zs.length (fun g p q wr => ∃ (k i n : Nat), i + g = zs.length ∧ p = .int .i64 k ∧ q = .int .i64 i ∧ k ≤ S.length ∧ (S.drop k).Sublist (zs.drop i) ∧ wr = w8.drewN n)
  case atStart => exact ⟨0, 0, n0, by omega, rfl, rfl, Nat.zero_le _, by simpa using HSub.out, rfl⟩
  case round =>
    obtain ⟨k, i, n, hk, rfl, rfl, hkS, hsub, rfl⟩ := hrel
    have HK : Hid (i + gk = zs.length) := hk
    have HSb : Hid ((S.drop k).Sublist (zs.drop i)) := hsub
    have HBE : Hid (Below w.heap.size w (w8.drewN n)) := (HRs.out n).2.2
    have HSE : Hid (Rd (w8.drewN n) (.slice ya S.length yc) S) := (HRs.out n).1
    clear hsub
    by_cases hlt : i < zs.length
    · by_cases hkl : k < S.length
      · obtain ⟨q1, q2⟩ := sub_step hkl hlt HSb.out
        obtain ⟨b, off, rfl, hcz0⟩ := HcZ.out i hlt
        obtain ⟨b', off', rfl, hcs0⟩ := HcS.out k hkl
        have hcz : (w8.drewN n).cell? ⟨b, off + i, none⟩ = some (.int .i64 (zs.getD i 0)) := hcz0
        have hcs : (w8.drewN n).cell? ⟨b', off' + k, none⟩ = some (.int .i64 (S.getD k 0)) := hcs0
        have HNN : Hid (∀ j, ∃ q, (w8.drewN n).drewN j = w8.drewN q) := fun j => ⟨n + j, World.drewN_drewN _ _ _⟩
        have hi1 : (i : Int) < (zs.length : Int) := by omega
        have hk1 : (k : Int) < (S.length : Int) := by omega
        have hd1 : decide ((i : Int) < (zs.length : Int)) = true := decide_eq_true hi1
        have hd2 : decide ((k : Int) < (S.length : Int)) = true := decide_eq_true hk1
        have HKl : Hid (k < S.length ∧ i < zs.length) := ⟨hkl, hlt⟩
        by_cases he : zs.getD i 0 = S.getD k 0
        · have HS1 : Hid ((S.drop (k + 1)).Sublist (zs.drop (i + 1))) := q1 he
          rw [← he] at hcs
          clear q1 q2 he hk hcz0 hcs0 hkl hlt
          generalize zs.getD i 0 = x at *
          generalize w8.drewN n = wq at *
          have hxx : (x == x) = true := by simp
          go_upto_region 13 with fail
          go_quiet (fail)
          go_wp2_with fail
          go_roundg (gk - 1)
          case measure => have := HK.out; have := HKl.out; omega
          case rel =>
            obtain ⟨q, hq⟩ := HNN.out nq
            exact ⟨k + 1, i + 1, q, by have := HK.out; have := HKl.out; omega, by go_num, by go_num, by have := HKl.out; omega, HS1.out, hq⟩
        · have HS1 : Hid ((S.drop k).Sublist (zs.drop (i + 1))) := q2 he
          have hxx : (zs.getD i 0 == S.getD k 0) = false := beq_eq_false_iff_ne.2 he
          clear q1 q2 he hk hcz0 hcs0 hkl hlt
          generalize zs.getD i 0 = x at *
          generalize S.getD k 0 = y at *
          generalize w8.drewN n = wq at *
          go_upto_region 13 with fail
          go_quiet (fail)
          go_wp2_with fail
          go_roundg (gk - 1)
          case measure => have := HK.out; have := HKl.out; omega
          case rel =>
            obtain ⟨q, hq⟩ := HNN.out nq
            exact ⟨k, i + 1, q, by have := HK.out; have := HKl.out; omega, rfl, by go_num, by have := HKl.out; omega, HS1.out, hq⟩
      · have hi1 : (i : Int) < (zs.length : Int) := by omega
        have hd1 : decide ((i : Int) < (zs.length : Int)) = true := decide_eq_true hi1
        have hk1 : ¬ (k : Int) < (S.length : Int) := by omega
        have hd2 : decide ((k : Int) < (S.length : Int)) = false := decide_eq_false hk1
        clear hk hlt hkl
        generalize w8.drewN n = wq at *
        go_upto_region 18 with (go_at_call 13; refine (HBv.out _ HBE.out).mono ?_; rintro e w9 ⟨sa, sc, rfl, hx, b3⟩; have H9 : Hid (Rds w9 (.slice sa CS.length sc) CS ∧ Rd w9 (.slice ya S.length yc) S ∧ Below w.heap.size w w9) := ⟨hx, HSE.out.below b3, Below.step HBE.out b3⟩; clear b3 hx)
        have HX : Hid (∀ W, Below (w9.alloc (.cells #[.int .i64 CV, .slice sa CS.length sc] 37)).heap.size (w9.alloc (.cells #[.int .i64 CV, .slice sa CS.length sc] 37)) W → Rds W (.slice sa CS.length sc) CS ∧ Rd W (.slice ya S.length yc) S ∧ Below w.heap.size w W ∧ W.cell? ⟨w9.heap.size, 0, none⟩ = some (.int .i64 CV) ∧ W.cell? ⟨w9.heap.size, 1, none⟩ = some (.slice sa CS.length sc)) := fun W hW => by
          have h1 : Below w9.heap.size w9 W := Below.step (below_box _ _) hW
          exact ⟨H9.out.1.below h1, H9.out.2.1.below h1, Below.step H9.out.2.2 h1, box_at hW rfl, box_at hW rfl⟩
        clear H9
        generalize w9.alloc (.cells #[.int .i64 CV, .slice sa CS.length sc] 37) = wb at *
        obtain ⟨Y, hY⟩ : ∃ Y, w9.heap.size = Y := ⟨_, rfl⟩
        rw [hY] at HX ⊢
        clear hY
        have HSt : Hid (∀ W, Below wb.heap.size wb W → Below wb.heap.size wb W ∧ W.cell? ⟨Y, 0, none⟩ = some (.int .i64 CV) ∧ W.cell? ⟨Y, 1, none⟩ = some (.slice sa CS.length sc)) := fun W hW => ⟨hW, (HX.out W hW).2.2.2⟩
        have x0 := (HSt.out wb (Below.refl _ _)).2.1
        have x1 := (HSt.out wb (Below.refl _ _)).2.2
        have HFS2 : Hid (∀ W u, Below wb.heap.size wb W → Rd W u S → Calls Tryd.prog 14 #[.agg #[.int .i64 CV, .slice sa CS.length sc], u] W fun e w' => e = .returned (.tuple #[.bool true, .int .i64 0]) ∧ Below wb.heap.size wb w') := fun W u hW q => (HFS.out W _ u (HX.out W hW).2.2.1 (HX.out W hW).1 q).mono fun e w' h => ⟨h.1, Below.step hW h.2⟩
        have HIS2 : Hid (∀ W, Below wb.heap.size wb W → Calls Tryd.prog 8 #[.slice ya S.length yc] W fun e w' => ∃ u, e = .returned u ∧ Rd w' u S ∧ Below wb.heap.size wb w') := fun W hW => (HIS.out W _ (HX.out W hW).2.1).mono fun e w' ⟨u, q1, q2, q3⟩ => ⟨u, q1, q2, Below.step hW q3⟩
        have HEnd : Hid (∀ W, Below wb.heap.size wb W → Below w.heap.size w W) := fun W hW => (HX.out W hW).2.2.1
        clear HX
        go_region_held (fun W => Below wb.heap.size wb W ∧ W.cell? ⟨Y, 0, none⟩ = some (.int .i64 CV) ∧ W.cell? ⟨Y, 1, none⟩ = some (.slice sa CS.length sc)) (first | exact HSt.out _ (Below.refl _ _).drew | exact HSt.out _ B2.out | exact HSt.out _ B1.out) (first
          | (have qq := B1.out; go_at_call 14; refine (HFS2.out _ _ B1.out R1.out).mono ?_; rintro e w14 ⟨rfl, hb2⟩; have B2 : Hid (Below wb.heap.size wb w14) := hb2; clear hb2 qq)
          | (go_at_call 8; refine (HIS2.out _ (Below.refl _ _).drew).mono ?_; rintro e w13 ⟨u13, rfl, hr1, hb1⟩; have R1 : Hid (Rd w13 u13 S) := hr1; have B1 : Hid (Below wb.heap.size wb w13) := hb1; clear hr1 hb1))
        go_wp2
        go_ret
        exact ⟨rfl, HEnd.out _ B2.out⟩
    · have hkl : S.length ≤ k := by
        have h9 : i = zs.length := by omega
        have h10 := HSb.out
        rw [h9] at h10
        exact sub_end h10
      have hi1 : ¬ (i : Int) < (zs.length : Int) := by omega
      have hd1 : decide ((i : Int) < (zs.length : Int)) = false := decide_eq_false hi1
      have hk1 : ¬ (k : Int) < (S.length : Int) := by omega
      have hd2 : decide ((k : Int) < (S.length : Int)) = false := decide_eq_false hk1
      clear hk hlt hkl
      generalize w8.drewN n = wq at *
      go_upto_region 18 with (go_at_call 13; refine (HBv.out _ HBE.out).mono ?_; rintro e w9 ⟨sa, sc, rfl, hx, b3⟩; have H9 : Hid (Rds w9 (.slice sa CS.length sc) CS ∧ Rd w9 (.slice ya S.length yc) S ∧ Below w.heap.size w w9) := ⟨hx, HSE.out.below b3, Below.step HBE.out b3⟩; clear b3 hx)
      have HX : Hid (∀ W, Below (w9.alloc (.cells #[.int .i64 CV, .slice sa CS.length sc] 37)).heap.size (w9.alloc (.cells #[.int .i64 CV, .slice sa CS.length sc] 37)) W → Rds W (.slice sa CS.length sc) CS ∧ Rd W (.slice ya S.length yc) S ∧ Below w.heap.size w W ∧ W.cell? ⟨w9.heap.size, 0, none⟩ = some (.int .i64 CV) ∧ W.cell? ⟨w9.heap.size, 1, none⟩ = some (.slice sa CS.length sc)) := fun W hW => by
        have h1 : Below w9.heap.size w9 W := Below.step (below_box _ _) hW
        exact ⟨H9.out.1.below h1, H9.out.2.1.below h1, Below.step H9.out.2.2 h1, box_at hW rfl, box_at hW rfl⟩
      clear H9
      generalize w9.alloc (.cells #[.int .i64 CV, .slice sa CS.length sc] 37) = wb at *
      obtain ⟨Y, hY⟩ : ∃ Y, w9.heap.size = Y := ⟨_, rfl⟩
      rw [hY] at HX ⊢
      clear hY
      have HSt : Hid (∀ W, Below wb.heap.size wb W → Below wb.heap.size wb W ∧ W.cell? ⟨Y, 0, none⟩ = some (.int .i64 CV) ∧ W.cell? ⟨Y, 1, none⟩ = some (.slice sa CS.length sc)) := fun W hW => ⟨hW, (HX.out W hW).2.2.2⟩
      have x0 := (HSt.out wb (Below.refl _ _)).2.1
      have x1 := (HSt.out wb (Below.refl _ _)).2.2
      have HFS2 : Hid (∀ W u, Below wb.heap.size wb W → Rd W u S → Calls Tryd.prog 14 #[.agg #[.int .i64 CV, .slice sa CS.length sc], u] W fun e w' => e = .returned (.tuple #[.bool true, .int .i64 0]) ∧ Below wb.heap.size wb w') := fun W u hW q => (HFS.out W _ u (HX.out W hW).2.2.1 (HX.out W hW).1 q).mono fun e w' h => ⟨h.1, Below.step hW h.2⟩
      have HIS2 : Hid (∀ W, Below wb.heap.size wb W → Calls Tryd.prog 8 #[.slice ya S.length yc] W fun e w' => ∃ u, e = .returned u ∧ Rd w' u S ∧ Below wb.heap.size wb w') := fun W hW => (HIS.out W _ (HX.out W hW).2.1).mono fun e w' ⟨u, q1, q2, q3⟩ => ⟨u, q1, q2, Below.step hW q3⟩
      have HEnd : Hid (∀ W, Below wb.heap.size wb W → Below w.heap.size w W) := fun W hW => (HX.out W hW).2.2.1
      clear HX
      go_region_held (fun W => Below wb.heap.size wb W ∧ W.cell? ⟨Y, 0, none⟩ = some (.int .i64 CV) ∧ W.cell? ⟨Y, 1, none⟩ = some (.slice sa CS.length sc)) (first | exact HSt.out _ (Below.refl _ _).drew | exact HSt.out _ B2.out | exact HSt.out _ B1.out) (first
        | (have qq := B1.out; go_at_call 14; refine (HFS2.out _ _ B1.out R1.out).mono ?_; rintro e w14 ⟨rfl, hb2⟩; have B2 : Hid (Below wb.heap.size wb w14) := hb2; clear hb2 qq)
        | (go_at_call 8; refine (HIS2.out _ (Below.refl _ _).drew).mono ?_; rintro e w13 ⟨u13, rfl, hr1, hb1⟩; have R1 : Hid (Rd w13 u13 S) := hr1; have B1 : Hid (Below wb.heap.size wb w13) := hb1; clear hr1 hb1))
      go_wp2
      go_ret
      exact ⟨rfl, HEnd.out _ B2.out⟩
end Go.Proofs.YtofojjdegobekaaDoor.learnLess

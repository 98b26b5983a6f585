/-
  TopProof, walked.
  KEEP: len below nil form rd mono one more grown lt size cell some none of ofNat add out step row get at mk new made look put del kept drew alloc has same other map perm td yes no pos all ne enter leave pm gone less keep box c u l f h r v ty own off cells nd txt tid bel oth sum done fwd setD hm fg keep2 start drop stays st bx pur fact unit rds rdz
-/
import Derived.Test.YtdonhokopakekaaGreatDoorJFwMp
import Derived.Test.YtdonhokopakekaaGreatDoorKFwFt
import Derived.Test.YtdonhokopakekaaGreatDoorKOpenZ
import Derived.Test.YtdonhokopakekaaGreatDoorKDrC
set_option linter.unusedSimpArgs false
set_option linter.unusedVariables false
namespace Go.Proofs.YtdonhokopakekaaGreatDoor
namespace topProof
open Go Go.RowKit
set_option maxRecDepth 100000 in
set_option maxHeartbeats 3200000 in
theorem walk (n : Int) (s : Value) (css : List (List Int)) (vl : Value) (l : List Stp) (vm : Value) (ms : List Bool) (w : World) (_ : (Lit.int .i64 n).wf = true) (hr : Rds w s css) (hl : RdZ w vl l) (hm : RdB w vm ms) (hb : css.length + (css.map List.length).sum ≤ 1048576) (hb1 : stpN l ≤ 1048576) (hb2 : ms.length ≤ 1048576) (hD : Deb w) :
    Calls Tryz.prog 3 #[.agg #[.int .i64 n, s], vl, vm] w fun e w' => e = .returned (.bool true) ∧ Below w.heap.size w w' := by
  have hls : lsum css = (css.map List.length).sum := rfl
  have hlz : lsZ l + l.length ≤ 1048576 := by unfold stpN at hb1; unfold lsZ; omega
  have hbx := below_box w (.cells #[.int .i64 n, s] 24)
  have hX := Bx2.new w 24 (.int .i64 n) s
  have HW : Hid (∀ W, Below w.heap.size w W → Rds W s css ∧ RdZ W vl l ∧ Deb W ∧ RdB W vm ms) := fun W h => ⟨hr.below h, hl.below h, hD.below h, hm.below h⟩
  have HB1 : Hid (Below w.heap.size w (w.alloc (.cells #[.int .i64 n, s] 24)) ∧ Bx2 (w.alloc (.cells #[.int .i64 n, s] 24)) w.heap.size 24 (.int .i64 n) s) := ⟨hbx, hX⟩
  have HCk : Hid (∀ W u v, Below w.heap.size w W → Rds W u css → RdZ W v l → Calls Tryz.prog 5 #[.agg #[.int .i64 n, u], v] W fun e w' => e = ckV (chk n css l) ∧ Below W.heap.size W w') := fun W u v h h1 h2 => fCheck_any n u v css l W h1 h2 (by omega) (by omega) (HW.out W h).2.2.1
  have hr24 := hr.len
  have hr8 := rds_each hr
  have HZ : Hid (RdZ w vl l) := hl
  obtain ⟨sa, sc, rfl, _⟩ := hr.form
  obtain ⟨al, cl, rfl, hcl, hml, _⟩ := hl.form
  obtain ⟨am, cm, rfl, _⟩ := hm.form
  clear hr hl hm hb hb1 hb2 hD hls hlz hbx hX
  go_enter Tryz.func3, Tryz.ntmps3
  go_upto_region 1 with fail
  generalize w.alloc (.cells #[.int .i64 n, .slice sa css.length sc] 24) = W1 at *
  obtain ⟨X, hXe⟩ : ∃ X, w.heap.size = X := ⟨_, rfl⟩
  have HXe : Hid (w.heap.size = X) := hXe
  rw [hXe] at HB1 ⊢
  clear hXe
  have HW1 : Hid (Below w.heap.size w W1) := by have := HB1.out.1; rw [← HXe.out] at this; exact this
  have HAw : Hid (Calls Tryz.prog 4 #[] W1 fun e w' => e = .returned (.bool true) ∧ Below W1.heap.size W1 w') := checks_any W1 (HW.out W1 HW1.out).2.2.1
  go_upto_region 3 with (go_at_call 4; refine HAw.out.mono ?_; rintro e w1 ⟨rfl, hb1⟩; have H1 : Hid (Below w.heap.size w w1 ∧ Bx2 w1 X 24 (.int .i64 n) (.slice sa css.length sc)) := ⟨Below.step HW1.out hb1, HB1.out.2.below hb1⟩; clear hb1)
  have f0 := H1.out.2.c0
  have f1 := H1.out.2.c1
  clear HAw
  go_wp2_with fail
  refine (copyFormula_any n _ css w1 (HW.out w1 H1.out.1).1).mono ?_
  rintro e w2 ⟨u2, rfl, o2, b2⟩
  have H2 : Hid (Rds w2 u2 css ∧ Below w1.heap.size w1 w2) := ⟨o2.rds hr24 hr8, b2⟩
  clear o2 b2 f0 f1
  go_wp2_with fail
  refine (copySteps_any _ l w2 (HW.out w2 (Below.step H1.out.1 H2.out.2)).2.1).mono ?_
  rintro e w3 ⟨u3, rfl, o3, b3⟩
  have H3 : Hid (Rds w3 u2 css ∧ RdZ w3 u3 l ∧ Below w1.heap.size w1 w3) := ⟨H2.out.1.below b3, o3.rdz HZ.out.len (rdz_each HZ.out), Below.step H2.out.2 b3⟩
  clear o3 b3
  obtain ⟨code, at_, er, hq⟩ : ∃ code at_ er, chk n css l = (code, at_, er) := ⟨_, _, _, rfl⟩
  have HQ : Hid (chk n css l = (code, at_, er)) := hq
  have HCk1 := HCk.out w3 u2 u3 (Below.step H1.out.1 H3.out.2.2) H3.out.1 H3.out.2.1
  rw [hq] at HCk1
  unfold ckV at HCk1
  dsimp only at HCk1
  clear hq
  go_wp2_with fail
  refine HCk1.mono ?_
  rintro e w4 ⟨rfl, b4⟩
  have hb5 := below_box w4 (.cells #[.int .i64 code, .int .i64 (at_ : Int)] 29)
  have hx5 := Bx2.new w4 29 (.int .i64 code) (.int .i64 (at_ : Int))
  have H5 : Hid (Below w1.heap.size w1 (w4.alloc (.cells #[.int .i64 code, .int .i64 (at_ : Int)] 29)) ∧ Bx2 (w4.alloc (.cells #[.int .i64 code, .int .i64 (at_ : Int)] 29)) w4.heap.size 29 (.int .i64 code) (.int .i64 (at_ : Int))) := ⟨Below.step (Below.step H3.out.2.2 b4) hb5, hx5⟩
  clear b4 hb5 hx5 HCk1
  go_upto_region 4 with fail
  generalize w4.alloc (.cells #[.int .i64 code, .int .i64 (at_ : Int)] 29) = w5 at *
  generalize w4.heap.size = Y at *
  have H6 : Hid (Below w.heap.size w w5 ∧ Bx2 w5 X 24 (.int .i64 n) (.slice sa css.length sc)) := ⟨Below.step H1.out.1 H5.out.1, H1.out.2.below H5.out.1⟩
  have f0 := H6.out.2.c0
  have f1 := H6.out.2.c1
  go_wp2_with fail
  refine (rFormed_any n _ css w5 (HW.out w5 H6.out.1).1).mono ?_
  rintro e w7 ⟨rfl, b7⟩
  have H7 : Hid (Below w.heap.size w w7 ∧ Bx2 w7 X 24 (.int .i64 n) (.slice sa css.length sc) ∧ Bx2 w7 Y 29 (.int .i64 code) (.int .i64 (at_ : Int))) := ⟨Below.step H6.out.1 b7, H6.out.2.below b7, H5.out.2.below b7⟩
  clear b7 f0 f1
  cases hf : frm n css
  · have hq := HQ.out
    unfold chk at hq
    rw [hf] at hq
    have e2 : er = 1 := (congrArg (fun q => q.2.2) hq).symm
    subst e2
    clear hq
    go_wp2_with fail
    go_ret
    exact ⟨rfl, H7.out.1⟩
  have hq := HQ.out
  unfold chk at hq
  rw [hf] at hq
  have e2 : er = 0 := (congrArg (fun q => q.2.2) hq).symm
  subst e2
  clear hq
  have y0 := H7.out.2.2.c0
  by_cases hc1 : code = 1
  case neg =>
    have hcn : (code != 1) = true := bne_iff_ne.2 hc1
    go_wp2_with fail
    go_ret
    exact ⟨rfl, H7.out.1⟩
  subst hc1
  have hv : 0 ≤ n ∧ n ≤ 1048576 := by unfold frm at hf; simp at hf; exact hf.1
  obtain ⟨N, rfl⟩ : ∃ N : Nat, n = (N : Int) := ⟨n.toNat, by omega⟩
  have hN : N ≤ 1048576 := by omega
  have HS : Hid (satT (fitM ms N) css = false) := top_sound (v := (N : Int)) (l := l) (K := at_) HQ.out (by rw [fitM_len])
  have HFi : Hid (∀ W, Below w7.heap.size w7 W → Calls Tryz.prog 10 #[.slice am ms.length cm, .int .i64 (N : Int)] W fun e w' => ∃ u, e = .returned u ∧ RdB w' u (fitM ms N) ∧ Below w7.heap.size w7 w') := fun W h => (fitted_any _ ms N W (HW.out W (Below.step H7.out.1 h)).2.2.2 hN).mono fun e w' ⟨u, h1, h2, h3⟩ => ⟨u, h1, h2, Below.step h h3⟩
  have HSa : Hid (∀ W u, Below w7.heap.size w7 W → RdB W u (fitM ms N) → Calls Tryz.prog 9 #[.agg #[.int .i64 (N : Int), .slice sa css.length sc], u] W fun e w' => e = .returned (.bool false) ∧ Below w7.heap.size w7 w') := fun W u h hu => (rSatisfies_any (N : Int) _ u css (fitM ms N) W (HW.out W (Below.step H7.out.1 h)).1 hu).mono fun e w' hh => ⟨by rw [hh.1, HS.out, Bool.and_false], Below.step h hh.2⟩
  have HCx : Hid (∀ W, Below w7.heap.size w7 W → W.cell? ⟨X, 0, none⟩ = some (.int .i64 (N : Int)) ∧ W.cell? ⟨X, 1, none⟩ = some (.slice sa css.length sc)) := fun W h => ⟨(H7.out.2.1.below h).c0, (H7.out.2.1.below h).c1⟩
  clear hv hf
  go_upto_region 8 with fail
  go_region_held (fun W' => W'.cell? ⟨X, 0, none⟩ = some (.int .i64 (N : Int)) ∧ W'.cell? ⟨X, 1, none⟩ = some (.slice sa css.length sc)) (first | exact HCx.out _ (Below.refl _ _).drew | exact HCx.out _ HU.out.2 | exact HCx.out _ HV.out) (first
    | (go_at_call 10; refine (HFi.out _ (Below.refl _ _).drew).mono ?_; rintro e w8 ⟨u8, rfl, r8, b8⟩; have HU : Hid (RdB w8 u8 (fitM ms N) ∧ Below w7.heap.size w7 w8) := ⟨r8, b8⟩; clear r8 b8)
    | (go_at_call 9; refine (HSa.out _ u8 HU.out.2 HU.out.1).mono ?_; rintro e w9 ⟨rfl, b9⟩; have HV : Hid (Below w7.heap.size w7 w9) := b9; clear b9))
  go_wp2_with fail
  go_ret
  exact ⟨rfl, Below.step H7.out.1 HV.out⟩
end topProof
end Go.Proofs.YtdonhokopakekaaGreatDoor

/-
  ForwardChecks, walked.
  KEEP: len below nil form rd mono one more grown lt size cell some none of ofNat add out step row get at mk new made look put del kept drew alloc has same other map perm td yes no pos all ne enter leave pm gone less keep box c u l f h r v ty own off cells nd txt tid bel oth sum done fwd setD walk c0 c1 f0 f1 set0 set1
-/
import Derived.Test.YtajcofhfjjbneaaGreatDoorJFwMp
import Derived.Test.YtajcofhfjjbneaaGreatDoorKOpenZ
set_option linter.unusedSimpArgs false
set_option linter.unusedVariables false
namespace Go.Proofs.YtajcofhfjjbneaaGreatDoor.forwardChecks
open Go Go.RowKit
set_option maxRecDepth 100000 in
set_option maxHeartbeats 3200000 in
theorem walk (n : Int) (s : Value) (css : List (List Int)) (vl : Value) (l : List Stp) (w : World) (_ : (Lit.int .i64 n).wf = true) (hr : Rds w s css) (hl : RdZ w vl l) (hb : css.length + (css.map List.length).sum ≤ 1048576) (hb1 : stpN l ≤ 1048576) (hD : Deb w) :
    Calls Tryz.prog 3 #[.agg #[.int .i64 n, s], vl] w fun e w' => e = .returned (.bool true) ∧ Below w.heap.size w w' := by
  have hls : lsum css = (css.map List.length).sum := rfl
  have hlz : lsZ l + l.length ≤ 1048576 := by unfold stpN at hb1; unfold lsZ; omega
  have HBx : Hid (Bx2 (w.alloc (.cells #[.int .i64 n, s] 24)) w.heap.size 24 (.int .i64 n) s ∧ Below w.heap.size w (w.alloc (.cells #[.int .i64 n, s] 24))) := ⟨Bx2.new _ _ _ _, below_box _ _⟩
  obtain ⟨k1, k2, k3, hq⟩ : ∃ k1 k2 k3, chk n css l = (k1, k2, k3) := ⟨_, _, _, rfl⟩
  have HC1 : Hid (∀ W, Below w.heap.size w W → Calls Tryz.prog 4 #[.agg #[.int .i64 n, s], vl] W fun e w' => e = .returned (.tuple #[.agg #[.int .i64 k1, .int .i64 (k2 : Int)], .int .i64 k3]) ∧ Below W.heap.size W w') := fun W hW => by
    have h5 := fCheck_any n s vl css l W (hr.below hW) (hl.below hW) (by omega) (by omega) (hD.below hW)
    rw [hq] at h5
    exact h5
  have HC2 : Hid (∀ W, Below w.heap.size w W → Calls Tryz.prog 6 #[.agg #[.int .i64 n, s], vl] W fun e w' => e = .returned (.tuple #[.agg #[.int .i64 k1, .int .i64 (k2 : Int)], .int .i64 k3]) ∧ Below W.heap.size W w') := fun W hW => by
    have h5 := rCheck11_any n s vl css l W (hr.below hW) (hl.below hW) (by omega) (by omega)
    rw [hq] at h5
    exact h5
  have HD : Hid (Deb w) := hD
  obtain ⟨al, cl, rfl, -, -, -⟩ := hl.form
  clear hr hl hb hb1 hD hq hls hlz
  go_enter Tryz.func3, Tryz.ntmps3
  go_wp2_with fail
  generalize w.alloc (.cells #[.int .i64 n, s] 24) = W0 at *
  refine (small11_any W0).mono ?_
  rintro e w1 ⟨s1, rfl, hs, hb1⟩
  have hr2 := (ownOne w1 2).rd (by simp)
  have hz := rdz_two (d0 := false) (d1 := false) hr2 (Rd.nil _) 34
  have hb2 := Below.step (below_box w1 (.cells #[.int .i64 2] 3)) (below_box (w1.alloc (.cells #[.int .i64 2] 3)) (.cells #[.bool false, .slice (some ⟨w1.heap.size, 0, none⟩) 1 1, .bool false, .slice none 0 0] 34))
  rw [World.size_alloc] at hz
  have hB2 := Below.step hb1 hb2
  have HCk := fCheck_any 2 s1 _ sm4 _ _ (hs.below hb2) hz sm4_len.1 sm4_len.2 (HD.out.below (Below.step HBx.out.2 hB2))
  rw [chk_small] at HCk
  have HC : Hid (Calls Tryz.prog 4 #[.agg #[.int .i64 2, s1], .slice (some ⟨w1.heap.size + 1, 0, none⟩) 2 2] ((w1.alloc (.cells #[.int .i64 2] 3)).alloc (.cells #[.bool false, .slice (some ⟨w1.heap.size, 0, none⟩) 1 1, .bool false, .slice none 0 0] 34)) fun e w' => e = .returned (.tuple #[.agg #[.int .i64 1, .int .i64 1], .int .i64 0]) ∧ Below W0.heap.size W0 w') := HCk.mono fun e w' hh => ⟨hh.1, Below.step hB2 hh.2⟩
  clear hs hb1 hr2 hz hb2 HCk hB2
  go_wp2_with fail
  refine HC.out.mono ?_
  rintro e w2 ⟨rfl, hb⟩
  have H2 : Hid (Bx2 (w2.alloc (.cells #[.int .i64 1, .int .i64 1] 27)) w2.heap.size 27 (.int .i64 1) (.int .i64 1) ∧ Below W0.heap.size W0 (w2.alloc (.cells #[.int .i64 1, .int .i64 1] 27)) ∧ w.heap.size ≤ w2.heap.size) := ⟨Bx2.new _ _ _ _, Below.step hb (below_box _ _), Nat.le_trans HBx.out.2.size hb.size⟩
  clear hb HC
  have f0 := (HBx.out.1.below H2.out.2.1).c0
  have f1 := (HBx.out.1.below H2.out.2.1).c1
  go_wp2_with fail
  generalize w2.alloc (.cells #[.int .i64 1, .int .i64 1] 27) = w3 at *
  generalize w2.heap.size = X at *
  refine (HC1.out w3 (Below.step HBx.out.2 H2.out.2.1)).mono ?_
  rintro e w4 ⟨rfl, hb4⟩
  have hx4 := H2.out.1.below hb4
  have HX4 : Hid (Bx2 w4 X 27 (.int .i64 1) (.int .i64 1)) := hx4
  have x0 := hx4.c0
  have x1 := hx4.c1
  have y0 := hx4.f0
  have y1 := hx4.f1
  have hXn : X ≠ w.heap.size := fun e => by
    have h5 := (HBx.out.1.below H2.out.2.1)
    have h6 := H2.out.1
    rw [e] at h6
    have h7 := (show w3.heap[w.heap.size]? = _ from h5).symm.trans (show w3.heap[w.heap.size]? = _ from h6)
    simp at h7
  have H5 : Hid (Bx2 ((w4.setCell ⟨X, 0, none⟩ (.int .i64 k1)).setCell ⟨X, 1, none⟩ (.int .i64 (k2 : Int))) X 27 (.int .i64 k1) (.int .i64 (k2 : Int)) ∧ Bx2 ((w4.setCell ⟨X, 0, none⟩ (.int .i64 k1)).setCell ⟨X, 1, none⟩ (.int .i64 (k2 : Int))) w.heap.size 24 (.int .i64 n) s ∧ Below w.heap.size w ((w4.setCell ⟨X, 0, none⟩ (.int .i64 k1)).setCell ⟨X, 1, none⟩ (.int .i64 (k2 : Int)))) := by
    have h5 := (HBx.out.1.below (Below.step H2.out.2.1 hb4))
    refine ⟨(hx4.set0 _).set1 _, ?_, below_set (below_set (Below.step HBx.out.2 (Below.step H2.out.2.1 hb4)) H2.out.2.2 _ _) H2.out.2.2 _ _⟩
    exact (h5.kept (grown_set w4 ⟨X, 0, none⟩ (.int .i64 k1)) (by simpa using fun e : w.heap.size = X => hXn e.symm)).kept (grown_set (w4.setCell ⟨X, 0, none⟩ (.int .i64 k1)) ⟨X, 1, none⟩ (.int .i64 (k2 : Int))) (by simpa using fun e : w.heap.size = X => hXn e.symm)
  clear hx4 hb4 HC1 f0 f1 H2 HX4 hXn
  go_upto_region 5 with fail
  clear x0 x1 y0 y1
  generalize (w4.setCell ⟨X, 0, none⟩ (.int .i64 k1)).setCell ⟨X, 1, none⟩ (.int .i64 (k2 : Int)) = w5 at *
  have f0 := H5.out.2.1.c0
  have f1 := H5.out.2.1.c1
  go_wp2_with fail
  refine (HC2.out w5 H5.out.2.2).mono ?_
  rintro e w6 ⟨rfl, hb6⟩
  have hx6 := H5.out.1.below hb6
  have hx7 := hx6.below (below_box w6 (.cells #[.int .i64 k1, .int .i64 (k2 : Int)] 27))
  have x0 := hx7.c0
  have x1 := hx7.c1
  have H6 : Hid (Below w.heap.size w (w6.alloc (.cells #[.int .i64 k1, .int .i64 (k2 : Int)] 27))) := Below.step (Below.step H5.out.2.2 hb6) (below_box _ _)
  clear hx6 hx7 hb6 HC2 f0 f1
  go_wp2
  go_ret
  exact ⟨by simp, H6.out⟩
end Go.Proofs.YtajcofhfjjbneaaGreatDoor.forwardChecks

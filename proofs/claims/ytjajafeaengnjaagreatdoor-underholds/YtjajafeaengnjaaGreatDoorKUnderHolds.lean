/-
  UnderHolds, walked.
  KEEP: len below nil form rd mono one more grown lt size cell some none of ofNat add out step row get at mk new made look put del kept drew alloc has same other map perm td yes no pos all ne enter leave pm gone less keep box c u l f h r v ty own off cells nd txt tid bel oth sum done fwd setD snd need mem c0 c1 f0 f1 set0 set1 lo rds app ap set rf fact unit walk refl trans
-/
import Derived.Test.YtjajafeaengnjaaGreatDoorJFwMp
import Derived.Test.YtjajafeaengnjaaGreatDoorKUhH
import Derived.Test.YtjajafeaengnjaaGreatDoorKDrC
import Derived.Test.YtjajafeaengnjaaGreatDoorKSmall
import Derived.Test.YtjajafeaengnjaaGreatDoorKOpenZ
set_option linter.unusedSimpArgs false
set_option linter.unusedVariables false
namespace Go.Proofs.YtjajafeaengnjaaGreatDoor.underHolds
open Go Go.RowKit
theorem knd_yes {A : List (List Int)} {c : List Int} (h : Cla A (opp c)) : kndI A c = 1 := by
  unfold kndI folB; rw [claB_of h]; rfl
theorem sm_cla : Cla [[-1, -2]] (opp [-2, -1]) := by
  refine .inr ⟨[-1, -2], by simp, fun m hm => ?_⟩
  rcases List.mem_cons.1 hm with e | e
  · rw [e]; exact .fact (by unfold opp; simp)
  · rw [List.mem_singleton.1 e]; exact .fact (by unfold opp; simp)
theorem hld_small : hldH 2 [[-1, -2]] [1, 2] [(false, [-2, -1])] = true := by
  have h1 : frm 2 [[-1, -2]] = true := by decide
  have h2 : endB [(false, [-2, -1])] (opp [1, 2]) = true := by decide +kernel
  have h3 : (([[-1, -2]] : List (List Int)).map tid).reverse = [[-1, -2]] := by decide +kernel
  have h4 : (tkF [[-1, -2]] false (false, [-2, -1])).1 = true := by
    have h0 : rfI false [-2, -1] = 0 := by decide
    unfold tkF addF
    simp [h0, knd_yes sm_cla]
  unfold hldH
  rw [h1, h2, h3]
  unfold folA
  rw [h4]
  rfl
theorem rdz_one {w : World} {d0 : Bool} {u0 : Value} {z0 : List Int} (h0 : Rd w u0 z0) (t : TypeId) : RdZ (w.alloc (.cells #[.bool d0, u0] t)) (.slice (some ⟨w.heap.size, 0, none⟩) 1 1) [(d0, z0)] := by
  have hnew := World.alloc_heap_new w (.cells #[.bool d0, u0] t)
  refine ⟨by simp, some ⟨w.heap.size, 0, none⟩, 1, rfl, Nat.le_refl _, by unfold maxLen; omega, fun _ => ⟨w.heap.size, 0, rfl, by simp, fun j hj => ?_⟩⟩
  match j, hj with
  | 0, _ => exact ⟨u0, box_cell hnew rfl, box_cell hnew rfl, h0.below (below_box _ _)⟩
theorem rds_one {w : World} {u0 : Value} {z0 : List Int} (h0 : Rd w u0 z0) (t : TypeId) : Rds (w.alloc (.cells #[u0] t)) (.slice (some ⟨w.heap.size, 0, none⟩) 1 1) [z0] := by
  have hnew := World.alloc_heap_new w (.cells #[u0] t)
  refine ⟨by simp, some ⟨w.heap.size, 0, none⟩, 1, rfl, Nat.le_refl _, by unfold maxLen; omega, by simp, fun _ => ⟨w.heap.size, 0, rfl, by simp, fun j hj => ?_⟩⟩
  match j, hj with
  | 0, _ => exact ⟨u0, box_cell hnew rfl, h0.below (below_box _ _)⟩
theorem len_sum {T : Type} (f : T → Nat) : ∀ (xs : List T) (x : T), x ∈ xs → f x ≤ (xs.map f).sum
  | [], x, h => by cases h
  | y :: r, x, h => by
    rw [List.map_cons, List.sum_cons]
    rcases List.mem_cons.1 h with e | e
    · subst e; omega
    · have := len_sum f r x e; omega
set_option maxRecDepth 100000 in
set_option maxHeartbeats 3200000 in
theorem walk (n : Int) (s : Value) (css : List (List Int)) (vf : Value) (fl : List Int) (vl : Value) (l : List Stp) (w : World) (_ : (Lit.int .i64 n).wf = true) (hr : Rds w s css) (hf : Rd w vf fl) (hl : RdZ w vl l) (hb : css.length + (css.map List.length).sum ≤ 1048576) (hbf : fl.length ≤ 1048576) (hb1 : stpN l ≤ 1048576) (hD : Deb w) :
    Calls Tryz.prog 3 #[.agg #[.int .i64 n, s], vf, vl] w fun e w' => e = .returned (.bool true) ∧ Below w.heap.size w w' := by
  have hls : lsum css = (css.map List.length).sum := rfl
  have hlz : lsZ l + l.length ≤ 1048576 := by unfold stpN at hb1; unfold lsZ; omega
  have HBx : Hid (Bx2 (w.alloc (.cells #[.int .i64 n, s] 24)) w.heap.size 24 (.int .i64 n) s ∧ Below w.heap.size w (w.alloc (.cells #[.int .i64 n, s] 24))) := ⟨Bx2.new _ _ _ _, below_box _ _⟩
  have HQ : Hid (∀ W, Below w.heap.size w W → Rds W s css ∧ Rd W vf fl ∧ RdZ W vl l ∧ Deb W) := fun W hW => ⟨hr.below hW, hf.below hW, hl.below hW, hD.below hW⟩
  have HL : Hid (css.length + l.length ≤ 536870912 ∧ lsum css + lsZ l ≤ 1073741824 ∧ fl.length ≤ 1048576) := ⟨by omega, by omega, hbf⟩
  have H7 : Hid (∀ z ∈ css, z.length * 8 ≤ 140737488351232) := fun z hz => by have := len_sum List.length css z hz; omega
  have HC1 : Hid (∀ W, (Bx2 W w.heap.size 24 (.int .i64 n) s ∧ Below w.heap.size w W) → Calls Tryz.prog 5 #[.agg #[.int .i64 n, s]] W fun e w' => ∃ u, e = .returned (.agg #[.int .i64 n, u]) ∧ Rds w' u css ∧ Bx2 w' w.heap.size 24 (.int .i64 n) s ∧ Below w.heap.size w w') := fun W hW => (copyFormula_any n s css W (HQ.out W hW.2).1).mono fun e w' hh => by
    obtain ⟨u, h3, h4, h5⟩ := hh
    exact ⟨u, h3, h4.rds (HQ.out W hW.2).1.len H7.out, hW.1.below h5, Below.step hW.2 h5⟩
  have HC2 : Hid (∀ W, Below w.heap.size w W → Calls Tryz.prog 6 #[vf] W fun e w' => ∃ u, e = .returned u ∧ Rd w' u fl ∧ Below W.heap.size W w') := fun W hW => (copyInts_any vf fl W (HQ.out W hW).2.1).mono fun e w' hh => by
    obtain ⟨u, h3, h4, h5⟩ := hh
    exact ⟨u, h3, h4.rd (HQ.out W hW).2.1.len, h5⟩
  have H8 : Hid (l.length * 32 ≤ 140737488351232 ∧ ∀ x ∈ l, x.2.length * 8 ≤ 140737488351232) := ⟨hl.len, fun x hx => by
    have : x.2.length ≤ lsZ l := len_sum (fun s : Stp => s.2.length) l x hx
    omega⟩
  have HC3 : Hid (∀ W, Below w.heap.size w W → Calls Tryz.prog 7 #[vl] W fun e w' => ∃ u, e = .returned u ∧ RdZ w' u l ∧ Below W.heap.size W w') := fun W hW => (copySteps_any vl l W (HQ.out W hW).2.2.1).mono fun e w' hh => by
    obtain ⟨u, h3, h4, h5⟩ := hh
    exact ⟨u, h3, h4.rdz H8.out.1 H8.out.2, h5⟩
  have HH : Hid (∀ W u v x, Below w.heap.size w W → Rds W u css → Rd W v fl → RdZ W x l → Calls Tryz.prog 4 #[.agg #[.int .i64 n, u], v, x] W fun e w' => e = .returned (.bool (hldH n css fl l)) ∧ Below W.heap.size W w') := fun W u v x hW h1 h2 h3 => undHolds_any n u v x css fl l W h1 h2 h3 HL.out.1 HL.out.2.1 HL.out.2.2 (HQ.out W hW).2.2.2
  have HS : Hid (∀ W u v x, Below w.heap.size w W → Rds W u [[-1, -2]] → Rd W v [1, 2] → RdZ W x [(false, [-2, -1])] → Calls Tryz.prog 4 #[.agg #[.int .i64 2, u], v, x] W fun e w' => e = .returned (.bool true) ∧ Below W.heap.size W w') := fun W u v x hW h1 h2 h3 => by
    have h5 := undHolds_any 2 u v x [[-1, -2]] [1, 2] [(false, [-2, -1])] W h1 h2 h3 (by decide) (by decide) (by decide) (HQ.out W hW).2.2.2
    rw [hld_small] at h5
    exact h5
  have HR : Hid (∀ W, Below w.heap.size w W → Calls Tryz.prog 8 #[.agg #[.int .i64 n, s], vf, vl] W fun e w' => e = .returned (.bool (hldH n css fl l)) ∧ Below W.heap.size W w') := fun W hW => rHolds18_any n s vf vl css fl l W (HQ.out W hW).1 (HQ.out W hW).2.1 (HQ.out W hW).2.2.1 HL.out.1 HL.out.2.1 HL.out.2.2
  obtain ⟨af, cf, rfl, -⟩ := hf.form
  obtain ⟨al, cl, rfl, -⟩ := hl.form
  generalize hldH n css fl l = Q at *
  clear hr hf hl hb hbf hb1 hD hls hlz
  have c0 := HBx.out.1.c0
  have c1 := HBx.out.1.c1
  go_enter Tryz.func3, Tryz.ntmps3
  go_upto_region 1 with fail
  generalize w.alloc (.cells #[.int .i64 n, s] 24) = W0 at *
  go_upto_region 2 with (first
    | (go_at_call 5; refine (HC1.out _ HBx.out).mono ?_; rintro e w1 ⟨u1, rfl, g1, g2⟩; have H1 : Hid (Rds w1 u1 css ∧ Bx2 w1 w.heap.size 24 (.int .i64 n) s ∧ Below w.heap.size w w1) := ⟨g1, g2⟩; clear g1 g2 c0 c1)
    | (go_at_call 6; refine (HC2.out _ H1.out.2.2).mono ?_; rintro e w2 ⟨u2, rfl, g1, g2⟩; have H2 : Hid (Rds w2 u1 css ∧ Rd w2 u2 fl ∧ Bx2 w2 w.heap.size 24 (.int .i64 n) s ∧ Below w.heap.size w w2) := ⟨H1.out.1.below g2, g1, H1.out.2.1.below g2, Below.step H1.out.2.2 g2⟩; clear g1 g2)
    | (go_at_call 7; refine (HC3.out _ H2.out.2.2.2).mono ?_; rintro e w3 ⟨u3, rfl, g1, g2⟩; have H3 : Hid (Rds w3 u1 css ∧ Rd w3 u2 fl ∧ RdZ w3 u3 l ∧ Bx2 w3 w.heap.size 24 (.int .i64 n) s ∧ Below w.heap.size w w3) := ⟨H2.out.1.below g2, H2.out.2.1.below g2, g1, H2.out.2.2.1.below g2, Below.step H2.out.2.2.2 g2⟩; clear g1 g2)
    | (go_at_call 4; refine (HH.out _ _ _ _ H3.out.2.2.2.2 H3.out.1 H3.out.2.1 H3.out.2.2.1).mono ?_; rintro e w4 ⟨rfl, g1⟩; have H4 : Hid (Bx2 w4 w.heap.size 24 (.int .i64 n) s ∧ Below w.heap.size w w4) := ⟨H3.out.2.2.2.1.below g1, Below.step H3.out.2.2.2.2 g1⟩; clear g1))
  have HSm : Hid (Calls Tryz.prog 4 #[.agg #[.int .i64 2, .slice (some ⟨w4.heap.size + 1, 0, none⟩) 1 1], .slice (some ⟨w4.heap.size + 1 + 1, 0, none⟩) 2 2, .slice (some ⟨w4.heap.size + 1 + 1 + 1 + 1, 0, none⟩) 1 1] (((((w4.alloc (.cells #[.int .i64 (-1), .int .i64 (-2)] 3)).alloc (.cells #[.slice (some ⟨w4.heap.size, 0, none⟩) 2 2] 25)).alloc (.cells #[.int .i64 1, .int .i64 2] 3)).alloc (.cells #[.int .i64 (-2), .int .i64 (-1)] 3)).alloc (.cells #[.bool false, .slice (some ⟨w4.heap.size + 1 + 1 + 1, 0, none⟩) 2 2] 32)) fun e w' => e = .returned (.bool true) ∧ Below w4.heap.size w4 w') := by
    have r1 := (ownTwo w4 (-1) (-2)).rd (by simp)
    have b1 := below_box w4 (.cells #[.int .i64 (-1), .int .i64 (-2)] 3)
    have r2 := rds_one r1 25
    have b2 := below_box (w4.alloc (.cells #[.int .i64 (-1), .int .i64 (-2)] 3)) (.cells #[.slice (some ⟨w4.heap.size, 0, none⟩) 2 2] 25)
    have r3 := (ownTwo ((w4.alloc (.cells #[.int .i64 (-1), .int .i64 (-2)] 3)).alloc (.cells #[.slice (some ⟨w4.heap.size, 0, none⟩) 2 2] 25)) 1 2).rd (by simp)
    have b3 := below_box ((w4.alloc (.cells #[.int .i64 (-1), .int .i64 (-2)] 3)).alloc (.cells #[.slice (some ⟨w4.heap.size, 0, none⟩) 2 2] 25)) (.cells #[.int .i64 1, .int .i64 2] 3)
    have r4 := (ownTwo (((w4.alloc (.cells #[.int .i64 (-1), .int .i64 (-2)] 3)).alloc (.cells #[.slice (some ⟨w4.heap.size, 0, none⟩) 2 2] 25)).alloc (.cells #[.int .i64 1, .int .i64 2] 3)) (-2) (-1)).rd (by simp)
    have b4 := below_box (((w4.alloc (.cells #[.int .i64 (-1), .int .i64 (-2)] 3)).alloc (.cells #[.slice (some ⟨w4.heap.size, 0, none⟩) 2 2] 25)).alloc (.cells #[.int .i64 1, .int .i64 2] 3)) (.cells #[.int .i64 (-2), .int .i64 (-1)] 3)
    have r5 := rdz_one (d0 := false) r4 32
    simp only [World.size_alloc] at r2 r3 r5
    have b5 := below_box ((((w4.alloc (.cells #[.int .i64 (-1), .int .i64 (-2)] 3)).alloc (.cells #[.slice (some ⟨w4.heap.size, 0, none⟩) 2 2] 25)).alloc (.cells #[.int .i64 1, .int .i64 2] 3)).alloc (.cells #[.int .i64 (-2), .int .i64 (-1)] 3)) (.cells #[.bool false, .slice (some ⟨w4.heap.size + 1 + 1 + 1, 0, none⟩) 2 2] 32)
    have hB := Below.step (Below.step (Below.step (Below.step b1 b2) b3) b4) b5
    exact (HS.out _ _ _ _ (Below.step H4.out.2 hB) (((r2.below b3).below b4).below b5) ((r3.below b4).below b5) r5).mono fun e w' hh => ⟨hh.1, Below.step hB hh.2⟩
  clear HH HS HC1 HC2 HC3 H3
  go_upto_region 3 with (go_at_call 4; refine HSm.out.mono ?_; rintro e w5 ⟨rfl, g1⟩; have H5 : Hid (Bx2 w5 w.heap.size 24 (.int .i64 n) s ∧ Below w.heap.size w w5) := ⟨H4.out.1.below g1, Below.step H4.out.2 g1⟩; have d0 := H5.out.1.c0; have d1 := H5.out.1.c1; clear g1)
  go_wp2_with (go_at_call 8; refine (HR.out _ H5.out.2).mono ?_; rintro e w6 ⟨rfl, g1⟩; have H6 : Hid (Below w.heap.size w w6) := Below.step H5.out.2 g1; clear g1)
  go_ret
  exact ⟨by cases Q <;> rfl, H6.out⟩
end Go.Proofs.YtjajafeaengnjaaGreatDoor.underHolds

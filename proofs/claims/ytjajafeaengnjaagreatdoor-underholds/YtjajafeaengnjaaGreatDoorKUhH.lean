/-
  under: Holds.
  KEEP: len below nil form rd mono one more grown lt size cell some none of ofNat add out step row get at mk new made look put del kept drew alloc has same other map perm td yes no pos all ne enter leave pm gone less keep box c u l f h r v ty own off cells nd txt tid bel oth sum done fwd setD snd need mem c0 c1 f0 f1 set0 set1 lo rds app ap set rf
-/
import Derived.Test.YtjajafeaengnjaaGreatDoorJFwMp
import Derived.Test.YtjajafeaengnjaaGreatDoorKUhB
set_option linter.unusedSimpArgs false
set_option linter.unusedVariables false
namespace Go.Proofs.YtjajafeaengnjaaGreatDoor
open Go Go.RowKit
set_option maxRecDepth 100000 in
set_option maxHeartbeats 1600000 in
theorem undHolds_any (v : Int) (s vf vl : Value) (css : List (List Int)) (fl : List Int) (l : List Stp) (w : World) (hr : Rds w s css) (hf : Rd w vf fl) (hl : RdZ w vl l) (hn : css.length + l.length ≤ 536870912) (hs : lsum css + lsZ l ≤ 1073741824) (hfl : fl.length ≤ 1048576) (hD : Deb w) :
    Calls Tryz.prog 4 #[.agg #[.int .i64 v, s], vf, vl] w fun e w' => e = .returned (.bool (hldH v css fl l)) ∧ Below w.heap.size w w' := by
  have HX : Hid (Bx w v s css (w.alloc (.cells #[.int .i64 v, s] 24))) := Bx.new hr _
  have c0 := HX.out.c0
  have c1 := HX.out.c1
  have HQ : Hid (∀ W, Below w.heap.size w W → Rds W s css ∧ Rd W vf fl ∧ RdZ W vl l ∧ Deb W) := fun W hW => ⟨hr.below hW, hf.below hW, hl.below hW, hD.below hW⟩
  have HL : Hid (css.length + l.length ≤ 536870912 ∧ lsum css + lsZ l ≤ 1073741824 ∧ fl.length ≤ 1048576) := ⟨hn, hs, hfl⟩
  have HFo : Hid (Calls Tryz.prog 9 #[.agg #[.int .i64 v, s]] (w.alloc (.cells #[.int .i64 v, s] 24)) fun e w' => e = .returned (.bool (frm v css)) ∧ Bx w v s css w') := (cnfFormed_any v s css _ HX.out.rd).mono fun e w' hh => ⟨hh.1, HX.out.on hh.2⟩
  clear hr hn hs hfl hD
  obtain ⟨af, cf, rfl, -⟩ := hf.form
  obtain ⟨al, cl, rfl, -⟩ := hl.form
  clear hf hl
  cases h1 : frm v css
  · have HE : Hid (hldH v css fl l = false) := by show _ = _; unfold hldH; rw [h1]; rfl
    rw [h1] at HFo
    clear h1
    go_enter Tryz.func4, Tryz.ntmps4
    go_wp2_with (go_at_call 9; refine HFo.out.mono ?_; rintro e w1 ⟨rfl, g1⟩; have H1 : Hid (Bx w v s css w1) := g1; clear g1 c0 c1)
    go_ret
    exact ⟨by rw [HE.out]; rfl, H1.out.bel⟩
  · rw [h1] at HFo
    have HSo : Hid (∀ W, Below w.heap.size w W → Calls Tryz.prog 10 #[.slice af fl.length cf] W fun e w' => e = .returned (.bool (fl.all fmd)) ∧ w' = W) := fun W hW => sound_any _ fl W (HQ.out W hW).2.1
    have H1 : Hid (frm v css = true) := h1
    clear h1
    cases h2 : fl.all fmd
    · have HE : Hid (hldH v css fl l = false) := by show _ = _; unfold hldH; rw [H1.out, h2]; rfl
      rw [h2] at HSo
      clear h2
      go_enter Tryz.func4, Tryz.ntmps4
      go_wp2_with (first | (go_at_call 9; refine HFo.out.mono ?_; rintro e w1 ⟨rfl, g1⟩; have H2 : Hid (Bx w v s css w1) := g1; clear g1 c0 c1) | (go_at_call 10; refine (HSo.out _ H2.out.bel).mono ?_; rintro e w2 ⟨rfl, rfl⟩))
      go_ret
      exact ⟨by rw [HE.out]; rfl, H2.out.bel⟩
    · rw [h2] at HSo
      have H2 : Hid (fl.all fmd = true) := h2
      clear h2
      have HBa : Hid (∀ W, Below w.heap.size w W → Calls Tryz.prog 12 #[.slice af fl.length cf] W fun e w' => ∃ u, e = .returned u ∧ Rd w' u (opp fl) ∧ Below w.heap.size w w') := fun W hW => (ban_any _ fl W (HQ.out W hW).2.1 H2.out HL.out.2.2).mono fun e w' hh => by
        obtain ⟨u, h3, h4, h5⟩ := hh
        exact ⟨u, h3, h4.rd (by rw [opp_len18]; have := HL.out.2.2; omega), Below.step hW h5⟩
      have HEw : Hid (∀ W u, Below w.heap.size w W → Rd W u (opp fl) → Calls Tryz.prog 11 #[.slice al l.length cl, u] W fun e w' => e = .returned (.bool (endB l (opp fl))) ∧ Below w.heap.size w w') := fun W u hW hu => (endsWith_any _ u l (opp fl) W (HQ.out W hW).2.2.1 hu).mono fun e w' hh => ⟨hh.1, Below.step hW hh.2⟩
      cases h3 : endB l (opp fl)
      · have HE : Hid (hldH v css fl l = false) := by show _ = _; unfold hldH; rw [H1.out, H2.out, h3]; rfl
        rw [h3] at HEw
        clear h3
        go_enter Tryz.func4, Tryz.ntmps4
        go_wp2_with (first | (go_at_call 9; refine HFo.out.mono ?_; rintro e w1 ⟨rfl, g1⟩; have H4 : Hid (Bx w v s css w1) := g1; clear g1 c0 c1) | (go_at_call 10; refine (HSo.out _ H4.out.bel).mono ?_; rintro e w2 ⟨rfl, rfl⟩) | (go_at_call 12; refine (HBa.out _ H4.out.bel).mono ?_; rintro e w3 ⟨u, rfl, g3, g4⟩; obtain ⟨ua, uc, rfl, -⟩ := g3.form; have H5 : Hid (Rd w3 (.slice ua (opp fl).length uc) (opp fl) ∧ Below w.heap.size w w3) := ⟨g3, g4⟩; clear g3 g4) | (go_at_call 11; refine (HEw.out _ _ H5.out.2 H5.out.1).mono ?_; rintro e w4 ⟨rfl, g5⟩; have H6 : Hid (Below w.heap.size w w4) := g5; clear g5))
        go_ret
        exact ⟨by rw [HE.out]; rfl, H6.out⟩
      · have HE : Hid (hldH v css fl l = folA ((css.map tid).reverse) false l) := by show _ = _; unfold hldH; rw [H1.out, H2.out, h3]; rfl
        have HEb : Hid (endB l (opp fl) = true) := h3
        clear h3
        have HAl : Hid (∀ W, Below w.heap.size w W → Calls Tryz.prog 13 #[.agg #[.int .i64 v, s], .slice al l.length cl] W fun e w' => e = .returned (.bool (folA ((css.map tid).reverse) false l)) ∧ Below w.heap.size w w') := fun W hW => (allFol18_any v s _ css l W (HQ.out W hW).1 (HQ.out W hW).2.2.1 H1.out HL.out.1 HL.out.2.1 (HQ.out W hW).2.2.2).mono fun e w' hh => ⟨hh.1, Below.step hW hh.2⟩
        have HBx : Hid (Bx2 (w.alloc (.cells #[.int .i64 v, s] 24)) w.heap.size 24 (.int .i64 v) s ∧ Below w.heap.size w (w.alloc (.cells #[.int .i64 v, s] 24))) := ⟨Bx2.new _ _ _ _, below_box _ _⟩
        have HFo2 : Hid (Calls Tryz.prog 9 #[.agg #[.int .i64 v, s]] (w.alloc (.cells #[.int .i64 v, s] 24)) fun e w' => e = .returned (.bool true) ∧ Bx2 w' w.heap.size 24 (.int .i64 v) s ∧ Below w.heap.size w w') := by
          have h5 := cnfFormed_any v s css _ HX.out.rd
          rw [H1.out] at h5
          exact h5.mono fun e w' hh => ⟨hh.1, HBx.out.1.below hh.2, Below.step HBx.out.2 hh.2⟩
        have HBa2 : Hid (∀ W, (Bx2 W w.heap.size 24 (.int .i64 v) s ∧ Below w.heap.size w W) → Calls Tryz.prog 12 #[.slice af fl.length cf] W fun e w' => ∃ u, e = .returned u ∧ Rd w' u (opp fl) ∧ Bx2 w' w.heap.size 24 (.int .i64 v) s ∧ Below w.heap.size w w') := fun W hW => (ban_any _ fl W (HQ.out W hW.2).2.1 H2.out HL.out.2.2).mono fun e w' hh => by
          obtain ⟨u, h3, h4, h5⟩ := hh
          exact ⟨u, h3, h4.rd (by rw [opp_len18]; have := HL.out.2.2; omega), hW.1.below h5, Below.step hW.2 h5⟩
        have HEw2 : Hid (∀ W u, (Bx2 W w.heap.size 24 (.int .i64 v) s ∧ Below w.heap.size w W) → Rd W u (opp fl) → Calls Tryz.prog 11 #[.slice al l.length cl, u] W fun e w' => e = .returned (.bool true) ∧ Bx2 w' w.heap.size 24 (.int .i64 v) s ∧ Below w.heap.size w w') := fun W u hW hu => by
          have h6 := endsWith_any _ u l (opp fl) W (HQ.out W hW.2).2.2.1 hu
          rw [HEb.out] at h6
          exact h6.mono fun e w' hh => ⟨hh.1, hW.1.below hh.2, Below.step hW.2 hh.2⟩
        clear HX HFo HBa HEw
        generalize folA ((css.map tid).reverse) false l = Q at *
        go_enter Tryz.func4, Tryz.ntmps4
        go_wp2_with (first | (go_at_call 9; refine HFo2.out.mono ?_; rintro e w1 ⟨rfl, g1⟩; have H4 : Hid (Bx2 w1 w.heap.size 24 (.int .i64 v) s ∧ Below w.heap.size w w1) := g1; clear g1 c0 c1) | (go_at_call 10; refine (HSo.out _ H4.out.2).mono ?_; rintro e w2 ⟨rfl, rfl⟩) | (go_at_call 12; refine (HBa2.out _ H4.out).mono ?_; rintro e w3 ⟨u, rfl, g3, g4⟩; obtain ⟨ua, uc, rfl, -⟩ := g3.form; have H5 : Hid (Rd w3 (.slice ua (opp fl).length uc) (opp fl) ∧ Bx2 w3 w.heap.size 24 (.int .i64 v) s ∧ Below w.heap.size w w3) := ⟨g3, g4⟩; clear g3 g4) | (go_at_call 11; refine (HEw2.out _ _ H5.out.2 H5.out.1).mono ?_; rintro e w4 ⟨rfl, g5⟩; have H6 : Hid (Below w.heap.size w w4) := g5.2; have d0 := g5.1.c0; have d1 := g5.1.c1; clear g5) | (go_at_call 13; refine (HAl.out _ H6.out).mono ?_; rintro e w5 ⟨rfl, g6⟩; have H7 : Hid (Below w.heap.size w w5) := g6; clear g6))
        go_ret
        exact ⟨by rw [HE.out]; cases Q <;> rfl, H7.out⟩
end Go.Proofs.YtjajafeaengnjaaGreatDoor

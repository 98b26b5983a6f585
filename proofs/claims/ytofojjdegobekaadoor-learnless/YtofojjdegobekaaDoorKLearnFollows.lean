/-
  LearnFollows, walked.
  KEEP: no of yes par c0 c1 c2 f1 lt0 p0 p1 s0 s1 s2 s3 s4 s5 s6 s7 s8 s9 q8 q11 q13 call few from ty set len below nil form rd mono one more grown lt size cell some none of ofNat add out step row get at mk new made look put del kept drew alloc has same other map rde take lit lev lstB pre ws cells bnd on start app set box bel rz tidy ms reason c f max lv skip end zero walk
-/
import Derived.Test.YtofojjdegobekaaDoorKLnBl
import Derived.Test.YtofojjdegobekaaDoorJLnK
import Derived.Test.YtofojjdegobekaaDoorKRpF
import Derived.Deep.RegionHeld
set_option linter.unusedSimpArgs false
set_option linter.unusedVariables false
namespace Go.Proofs.YtofojjdegobekaaDoor
open Go Go.RowKit
theorem lrn_len15 (t : List Ent) (zs : List Int) : (lrnC t zs).length ≤ 2097153 := by
  unfold lrnC
  split
  · simp
  · have := tid_len (othL t (topI t zs) (RS t zs))
    simp; omega
/-- what is learnt is made of literals that are false -/
theorem lrn_fal15 {t : List Ent} (h : Ws t) {zs : List Int} (hf : falB t zs = true) : falB t (lrnC t zs) = true ∧ (lrnC t zs).all fmd = true := by
  have key : ∀ x ∈ lrnC t zs, isF t x = true := fun x hx => by
    by_cases h0 : topI t zs = 0
    · unfold lrnC at hx; rw [if_pos h0] at hx; cases hx
    · exact ((lrn_is h hf h0).1 x hx).1
  unfold falB
  rw [List.all_eq_true, List.all_eq_true]
  exact ⟨key, fun x hx => (h.isF_at (key x hx)).1⟩
theorem fmd_i64 {c : List Int} (h : c.all fmd = true) : ∀ x ∈ c, i64 x := fun x hx => by
  have := fmd_range (List.all_eq_true.1 h x hx)
  unfold i64; omega
theorem OwnF.rds15 {B : Nat} {W : World} {s : Value} {css : List (List Int)} (h : OwnF B W s css) (hF : Few css) : Rds W s css := by
  have h1 := hF.num
  exact h.rds (by omega) (fun z hz => by have := hF.len z hz; omega)
namespace learnFollows
set_option maxRecDepth 100000 in
set_option maxHeartbeats 6400000 in
theorem walk (v : Value) (t : List Ent) (vc : Value) (zs : List Int) (w : World) (hr : RdE w v t) (hz : Rd w vc zs) (hb : t.length + (t.map fun e => e.2.2.length).sum ≤ 1048576) (hb2 : zs.length ≤ 1048576) (hD : Deb w) :
    Calls Tryd.prog 3 #[v, vc] w fun e w' => e = .returned (.bool true) ∧ Below w.heap.size w w' := by
  have hl := hr.len
  have h8 := rde_each hr
  have hlz := hz.len
  have HR : Hid (RdE w v t) := hr
  have HZ : Hid (Rd w vc zs) := hz
  have HDb : Hid (Deb w) := hD
  have HAw : Hid (Calls Tryd.prog 5 #[] w fun e w' => e = .returned (.bool true) ∧ Below w.heap.size w w') := awake15_any w
  have HC : Hid (∀ W, Below w.heap.size w W → Calls Tryd.prog 7 #[v] W fun e w' => ∃ u, e = .returned u ∧ RdE w' u t ∧ Below W.heap.size W w' ∧ Below w.heap.size w w') := fun W h => (copyEntries_any v t W (HR.out.below h)).mono fun e w' ⟨u, q1, q2, q3⟩ => ⟨u, q1, q2.rde hl h8, q3, Below.step h q3⟩
  have HI : Hid (∀ W, Below w.heap.size w W → Calls Tryd.prog 8 #[vc] W fun e w' => ∃ u, e = .returned u ∧ Rd w' u zs ∧ Below W.heap.size W w') := fun W h => (copyInts_any vc zs W (HZ.out.below h)).mono fun e w' ⟨u, q1, q2, q3⟩ => ⟨u, q1, q2.rd hlz, q3⟩
  have HFo : Hid (∀ W, Below w.heap.size w W → Calls Tryd.prog 9 #[v] W fun e w' => e = .returned (.bool (frmE t)) ∧ Below W.heap.size W w') := fun W h => (r15Formed_any v t W (HR.out.below h)).mono fun e w' ⟨h1, m, h2⟩ => ⟨h1, by rw [h2]; exact below_drewN _ _⟩
  have HSh : Hid (∀ W, Below w.heap.size w W → Calls Tryd.prog 10 #[vc] W fun e w' => e = .returned (.bool (zs.all fmd)) ∧ w' = W) := fun W h => shaped15_any vc zs W (HZ.out.below h)
  have HLR : ∀ E, askI t zs = E → E ≠ 0 → ∀ W u uc, RdE W u t → Rd W uc zs → Calls Tryd.prog 6 #[u, uc] W fun e w' => ∃ xa xc, e = .returned (.tuple #[.slice xa 0 xc, .int .i64 0, .int .i64 E]) ∧ Below W.heap.size W w' := fun E hE h0 W u uc q1 q2 => (learn_any u uc t zs W q1 q2).mono fun e w' ⟨⟨x, q3, q4⟩, q5⟩ => by
    rw [hE, if_neg h0] at q3 q4
    obtain ⟨xa, xc, rfl⟩ := own_form q4
    exact ⟨xa, xc, q3, q5⟩
  clear hr hz hD
  cases h1 : frmE t
  · have HLn : Hid (∀ W u uc, RdE W u t → Rd W uc zs → Calls Tryd.prog 6 #[u, uc] W fun e w' => ∃ xa xc, e = .returned (.tuple #[.slice xa 0 xc, .int .i64 0, .int .i64 1]) ∧ Below W.heap.size W w') := HLR 1 (by unfold askI; rw [h1]; rfl) (by decide)
    rw [h1] at HFo
    clear h1 h8 HLR
    go_enter Tryd.func3, Tryd.ntmps3
    go_wp2_with (first
      | (go_at_call 5; refine HAw.out.mono ?_; rintro e w1 ⟨rfl, b1⟩; have H1 : Hid (Below w.heap.size w w1) := b1; clear b1)
      | (go_at_call 7; refine (HC.out _ H1.out).mono ?_; rintro e w2 ⟨u, rfl, hu, -, b1⟩; have H2 : Hid (RdE w2 u t ∧ Below w.heap.size w w2) := ⟨hu, b1⟩; clear hu b1)
      | (go_at_call 8; refine (HI.out _ H2.out.2).mono ?_; rintro e w3 ⟨uc, rfl, hu, b1⟩; have H3 : Hid (RdE w3 u t ∧ Rd w3 uc zs ∧ Below w.heap.size w w3) := ⟨H2.out.1.below b1, hu, Below.step H2.out.2 b1⟩; clear hu b1)
      | (go_at_call 6; refine (HLn.out _ _ _ H3.out.1 H3.out.2.1).mono ?_; rintro e w4 ⟨xa, xc, rfl, b3⟩; have H4 : Hid (Below w.heap.size w w4) := Below.step H3.out.2.2 b3; clear b3)
      | (go_at_call 9; refine (HFo.out _ H4.out).mono ?_; rintro e w5 ⟨rfl, b2⟩; have H5 : Hid (Below w.heap.size w w5) := Below.step H4.out b2; clear b2))
    go_ret
    exact ⟨rfl, H5.out⟩
  cases h2 : zs.all fmd
  · have HLn : Hid (∀ W u uc, RdE W u t → Rd W uc zs → Calls Tryd.prog 6 #[u, uc] W fun e w' => ∃ xa xc, e = .returned (.tuple #[.slice xa 0 xc, .int .i64 0, .int .i64 1]) ∧ Below W.heap.size W w') := HLR 1 (by unfold askI; rw [h1, h2]; rfl) (by decide)
    rw [h1] at HFo
    rw [h2] at HSh
    clear h1 h2 h8 HLR
    go_enter Tryd.func3, Tryd.ntmps3
    go_wp2_with (first
      | (go_at_call 5; refine HAw.out.mono ?_; rintro e w1 ⟨rfl, b1⟩; have H1 : Hid (Below w.heap.size w w1) := b1; clear b1)
      | (go_at_call 7; refine (HC.out _ H1.out).mono ?_; rintro e w2 ⟨u, rfl, hu, -, b1⟩; have H2 : Hid (RdE w2 u t ∧ Below w.heap.size w w2) := ⟨hu, b1⟩; clear hu b1)
      | (go_at_call 8; refine (HI.out _ H2.out.2).mono ?_; rintro e w3 ⟨uc, rfl, hu, b1⟩; have H3 : Hid (RdE w3 u t ∧ Rd w3 uc zs ∧ Below w.heap.size w w3) := ⟨H2.out.1.below b1, hu, Below.step H2.out.2 b1⟩; clear hu b1)
      | (go_at_call 6; refine (HLn.out _ _ _ H3.out.1 H3.out.2.1).mono ?_; rintro e w4 ⟨xa, xc, rfl, b3⟩; have H4 : Hid (Below w.heap.size w w4) := Below.step H3.out.2.2 b3; clear b3)
      | (go_at_call 9; refine (HFo.out _ H4.out).mono ?_; rintro e w5 ⟨rfl, b2⟩; have H5 : Hid (Below w.heap.size w w5) := Below.step H4.out b2; clear b2)
      | (go_at_call 10; refine (HSh.out _ H5.out).mono ?_; rintro e w6 ⟨rfl, hw⟩; obtain rfl := hw.symm))
    go_ret
    exact ⟨rfl, H5.out⟩
  have hws := (frmE_iff t).1 h1
  have HFa : Hid (∀ W, Below w.heap.size w W → Calls Tryd.prog 11 #[v, vc] W fun e w' => e = .returned (.bool (falB t zs)) ∧ w' = W) := fun W h => by
    rw [← fal_same hws h2]
    exact rFalse_any _ _ t zs _ (HR.out.below h) (HZ.out.below h) h2
  cases h3 : falB t zs
  · have HLn : Hid (∀ W u uc, RdE W u t → Rd W uc zs → Calls Tryd.prog 6 #[u, uc] W fun e w' => ∃ xa xc, e = .returned (.tuple #[.slice xa 0 xc, .int .i64 0, .int .i64 2]) ∧ Below W.heap.size W w') := HLR 2 (by unfold askI; rw [h1, h2, h3]; rfl) (by decide)
    rw [h1] at HFo
    rw [h2] at HSh
    rw [h3] at HFa
    clear h1 h2 h3 h8 HLR hws
    go_enter Tryd.func3, Tryd.ntmps3
    go_wp2_with (first
      | (go_at_call 5; refine HAw.out.mono ?_; rintro e w1 ⟨rfl, b1⟩; have H1 : Hid (Below w.heap.size w w1) := b1; clear b1)
      | (go_at_call 7; refine (HC.out _ H1.out).mono ?_; rintro e w2 ⟨u, rfl, hu, -, b1⟩; have H2 : Hid (RdE w2 u t ∧ Below w.heap.size w w2) := ⟨hu, b1⟩; clear hu b1)
      | (go_at_call 8; refine (HI.out _ H2.out.2).mono ?_; rintro e w3 ⟨uc, rfl, hu, b1⟩; have H3 : Hid (RdE w3 u t ∧ Rd w3 uc zs ∧ Below w.heap.size w w3) := ⟨H2.out.1.below b1, hu, Below.step H2.out.2 b1⟩; clear hu b1)
      | (go_at_call 6; refine (HLn.out _ _ _ H3.out.1 H3.out.2.1).mono ?_; rintro e w4 ⟨xa, xc, rfl, b3⟩; have H4 : Hid (Below w.heap.size w w4) := Below.step H3.out.2.2 b3; clear b3)
      | (go_at_call 9; refine (HFo.out _ H4.out).mono ?_; rintro e w5 ⟨rfl, b2⟩; have H5 : Hid (Below w.heap.size w w5) := Below.step H4.out b2; clear b2)
      | (go_at_call 10; refine (HSh.out _ H5.out).mono ?_; rintro e w6 ⟨rfl, hw⟩; obtain rfl := hw.symm)
      | (go_at_call 11; refine (HFa.out _ H5.out).mono ?_; rintro e w7 ⟨rfl, hw⟩; obtain rfl := hw.symm))
    go_ret
    exact ⟨rfl, H5.out⟩
  have hask : askI t zs = 0 := by unfold askI; rw [h1, h2, h3]; rfl
  have hk8 := lrn_len15 t zs
  obtain ⟨hKf, hKm⟩ := lrn_fal15 hws h3
  have hFew := blC_few (zs := zs) hws hb hb2
  have hB := blC_blv t zs
  have hfol1 := lrn_fol hws h3 hB (blC_self t zs)
  have HLn : Hid (∀ W u uc, RdE W u t → Rd W uc zs → Calls Tryd.prog 6 #[u, uc] W fun e w' => ∃ xa xc, e = .returned (.tuple #[.slice xa (lrnC t zs).length xc, .int .i64 (lrnB t zs), .int .i64 0]) ∧ Rd w' (.slice xa (lrnC t zs).length xc) (lrnC t zs) ∧ Below W.heap.size W w') := fun W u uc q1 q2 => (learn_any u uc t zs W q1 q2).mono fun e w' ⟨⟨x, q3, q4⟩, q5⟩ => by
    rw [hask, if_pos rfl] at q3 q4
    obtain ⟨xa, xc, rfl⟩ := own_form q4
    exact ⟨xa, xc, q3, q4.rd (by omega), q5⟩
  generalize lrnC t zs = K at *
  generalize lrnB t zs = KB at *
  have haskK : askI t K = 0 := by unfold askI; rw [h1, hKm, hKf]; rfl
  have hs8 := shrK_len t K K.length
  have hSm := shr_fmd (t := t) hKm
  have hfol2 := shr_fol hws hKf hB hfol1
  have HSr : Hid (∀ W u uc, RdE W u t → Rd W uc K → Calls Tryd.prog 12 #[u, uc] W fun e w' => ∃ xa xc, e = .returned (.tuple #[.slice xa (shrK t K K.length).length xc, .int .i64 0]) ∧ Rd w' (.slice xa (shrK t K K.length).length xc) (shrK t K K.length) ∧ Below W.heap.size W w') := fun W u uc q1 q2 => (shrink_any u uc t K W q1 q2).mono fun e w' ⟨⟨x, q3, q4⟩, q5⟩ => by
    rw [haskK] at q3
    rw [haskK, if_pos rfl] at q4
    obtain ⟨xa, xc, rfl⟩ := own_form q4
    exact ⟨xa, xc, q3, q4.rd (by omega), q5⟩
  generalize shrK t K K.length = S at *
  have HBv : Hid (∀ W, Below w.heap.size w W → Calls Tryd.prog 13 #[v, vc] W fun e w' => ∃ sa sc, e = .returned (.agg #[.int .i64 (blV t zs), .slice sa (blC t zs).length sc]) ∧ Rds w' (.slice sa (blC t zs).length sc) (blC t zs) ∧ Below W.heap.size W w') := fun W h => (believed_any v vc t zs W (HR.out.below h) (HZ.out.below h) hws h2).mono fun e w' ⟨s, q1, q2, q3⟩ => by
    have q4 := q2.rds15 hFew
    obtain ⟨sa, sc, rfl, -⟩ := q4.form
    exact ⟨sa, sc, q1, q4, q3⟩
  have HF1 : Hid (∀ C, C.all fmd = true → Cla (blC t zs) (opp C) → ∀ W s u, Below w.heap.size w W → Rds W s (blC t zs) → Rd W u C → Calls Tryd.prog 14 #[.agg #[.int .i64 (blV t zs), s], u] W fun e w' => e = .returned (.tuple #[.bool true, .int .i64 0]) ∧ Below W.heap.size W w') := fun C hC hcl W s u hW q1 q2 => (follows_any (blV t zs) s u (blC t zs) C W q1 q2 (fmd_i64 hC) hFew (HDb.out.at hW)).mono fun e w' h => ⟨by
    have e1 : shp (blV t zs) (blC t zs) C = true := shp_bl hws h2 hC
    have e2 : folB (blC t zs) C = true := claB_of hcl
    rw [h.1, e1, e2]; rfl, h.2⟩
  have HFK : Hid (∀ W s u, Below w.heap.size w W → Rds W s (blC t zs) → Rd W u K → Calls Tryd.prog 14 #[.agg #[.int .i64 (blV t zs), s], u] W fun e w' => e = .returned (.tuple #[.bool true, .int .i64 0]) ∧ Below W.heap.size W w') := HF1.out K hKm hfol1
  have HFS : Hid (∀ W s u, Below w.heap.size w W → Rds W s (blC t zs) → Rd W u S → Calls Tryd.prog 14 #[.agg #[.int .i64 (blV t zs), s], u] W fun e w' => e = .returned (.tuple #[.bool true, .int .i64 0]) ∧ Below W.heap.size W w') := HF1.out S hSm hfol2
  have HIK : Hid (∀ W u, Rd W u K → Calls Tryd.prog 8 #[u] W fun e w' => ∃ u, e = .returned u ∧ Rd w' u K ∧ Below W.heap.size W w') := fun W u h => (copyInts_any u K W h).mono fun e w' ⟨u, q1, q2, q3⟩ => ⟨u, q1, q2.rd (by omega), q3⟩
  have HIS : Hid (∀ W u, Rd W u S → Calls Tryd.prog 8 #[u] W fun e w' => ∃ u, e = .returned u ∧ Rd w' u S ∧ Below W.heap.size W w') := fun W u h => (copyInts_any u S W h).mono fun e w' ⟨u, q1, q2, q3⟩ => ⟨u, q1, q2.rd (by omega), q3⟩
  have HCF : Hid (∀ W s, Rds W s (blC t zs) → Calls Tryd.prog 15 #[.agg #[.int .i64 (blV t zs), s]] W fun e w' => ∃ sa sc, e = .returned (.agg #[.int .i64 (blV t zs), .slice sa (blC t zs).length sc]) ∧ Rds w' (.slice sa (blC t zs).length sc) (blC t zs) ∧ Below W.heap.size W w') := fun W s h => (copyFormula_any (blV t zs) s (blC t zs) W h).mono fun e w' ⟨s, q1, q2, q3⟩ => by
    have q4 := q2.rds15 hFew
    obtain ⟨sa, sc, rfl, -⟩ := q4.form
    exact ⟨sa, sc, q1, q4, q3⟩
  rw [h1] at HFo
  rw [h2] at HSh
  rw [h3] at HFa
  clear h1 h2 h3 h8 hws hask HLR haskK hs8 hSm hfol1 hfol2 hFew hB hKf hKm HF1 hb hb2 hk8
  generalize blC t zs = CS at *
  generalize blV t zs = CV at *
  go_enter Tryd.func3, Tryd.ntmps3
  go_upto_region 6 with (first
      | (go_at_call 5; refine HAw.out.mono ?_; rintro e w1 ⟨rfl, b1⟩; have H1 : Hid (Below w.heap.size w w1) := b1; clear b1)
      | (go_at_call 7; refine (HC.out _ H1.out).mono ?_; rintro e w2 ⟨u, rfl, hu, -, b1⟩; have H2 : Hid (RdE w2 u t ∧ Below w.heap.size w w2) := ⟨hu, b1⟩; clear hu b1)
      | (go_at_call 8; refine (HI.out _ H2.out.2).mono ?_; rintro e w3 ⟨uc, rfl, hu, b1⟩; have H3 : Hid (RdE w3 u t ∧ Rd w3 uc zs ∧ Below w.heap.size w w3) := ⟨H2.out.1.below b1, hu, Below.step H2.out.2 b1⟩; clear hu b1)
      | (go_at_call 6; refine (HLn.out _ _ _ H3.out.1 H3.out.2.1).mono ?_; rintro e w4 ⟨xa, xc, rfl, hx, b3⟩; have H4 : Hid (Rd w4 (.slice xa K.length xc) K ∧ Below w.heap.size w w4) := ⟨hx, Below.step H3.out.2.2 b3⟩; clear b3 hx)
      | (go_at_call 9; refine (HFo.out _ H4.out.2).mono ?_; rintro e w5 ⟨rfl, b2⟩; have H5 : Hid (Rd w5 (.slice xa K.length xc) K ∧ Below w.heap.size w w5) := ⟨H4.out.1.below b2, Below.step H4.out.2 b2⟩; clear b2)
      | (go_at_call 10; refine (HSh.out _ H5.out.2).mono ?_; rintro e w6 ⟨rfl, hw⟩; obtain rfl := hw.symm)
      | (go_at_call 11; refine (HFa.out _ H5.out.2).mono ?_; rintro e w7 ⟨rfl, hw⟩; obtain rfl := hw.symm))
  clear HAw H1 H2 H3 H4 HLn HFo HSh HFa HI
  go_upto_region 7 with (first
      | (go_at_call 7; refine (HC.out _ H5.out.2).mono ?_; rintro e w6 ⟨u6, rfl, hu, b0, b1⟩; have H6 : Hid (RdE w6 u6 t ∧ Rd w6 (.slice xa K.length xc) K ∧ Below w.heap.size w w6) := ⟨hu, H5.out.1.below b0, b1⟩; clear hu b0 b1)
      | (go_at_call 8; refine (HIK.out _ _ H6.out.2.1).mono ?_; rintro e w7 ⟨u7, rfl, hu, b1⟩; have H7 : Hid (RdE w7 u6 t ∧ Rd w7 u7 K ∧ Rd w7 (.slice xa K.length xc) K ∧ Below w.heap.size w w7) := ⟨H6.out.1.below b1, hu, H6.out.2.1.below b1, Below.step H6.out.2.2 b1⟩; clear hu b1)
      | (go_at_call 12; refine (HSr.out _ _ _ H7.out.1 H7.out.2.1).mono ?_; rintro e w8 ⟨ya, yc, rfl, hx, b3⟩; have H8 : Hid (Rd w8 (.slice ya S.length yc) S ∧ Rd w8 (.slice xa K.length xc) K ∧ Below w.heap.size w w8) := ⟨hx, H7.out.2.2.1.below b3, Below.step H7.out.2.2.2 b3⟩; clear b3 hx))
  clear H5 H6 H7 HC HSr
  go_upto_region 8 with (go_at_call 13; refine (HBv.out _ H8.out.2.2).mono ?_; rintro e w9 ⟨sa, sc, rfl, hx, b3⟩; have H9 : Hid (Rds w9 (.slice sa CS.length sc) CS ∧ Rd w9 (.slice ya S.length yc) S ∧ Rd w9 (.slice xa K.length xc) K ∧ Below w.heap.size w w9) := ⟨hx, H8.out.1.below b3, H8.out.2.1.below b3, Below.step H8.out.2.2 b3⟩; clear b3 hx)
  clear H8 HBv
  have HX : Hid (∀ W, Below (w9.alloc (.cells #[.int .i64 CV, .slice sa CS.length sc] 37)).heap.size (w9.alloc (.cells #[.int .i64 CV, .slice sa CS.length sc] 37)) W → Rds W (.slice sa CS.length sc) CS ∧ Rd W (.slice ya S.length yc) S ∧ Rd W (.slice xa K.length xc) K ∧ Below w.heap.size w W ∧ W.cell? ⟨w9.heap.size, 0, none⟩ = some (.int .i64 CV) ∧ W.cell? ⟨w9.heap.size, 1, none⟩ = some (.slice sa CS.length sc)) := fun W hW => by
    have h1 : Below w9.heap.size w9 W := Below.step (below_box _ _) hW
    exact ⟨H9.out.1.below h1, H9.out.2.1.below h1, H9.out.2.2.1.below h1, Below.step H9.out.2.2.2 h1, box_at hW rfl, box_at hW rfl⟩
  clear H9
  generalize w9.alloc (.cells #[.int .i64 CV, .slice sa CS.length sc] 37) = wb at *
  obtain ⟨Y, hY⟩ : ∃ Y, w9.heap.size = Y := ⟨_, rfl⟩
  rw [hY] at HX ⊢
  clear hY
  obtain ⟨-, -, -, -, x0, x1⟩ := HX.out wb (Below.refl _ _)
  go_upto_region 9 with (first
      | (go_at_call 15; refine (HCF.out _ _ (HX.out wb (Below.refl _ _)).1).mono ?_; rintro e w10 ⟨ta, tc, rfl, hx, b3⟩; have H10 : Hid (Rds w10 (.slice ta CS.length tc) CS ∧ Below wb.heap.size wb w10) := ⟨hx, b3⟩; clear b3 hx)
      | (go_at_call 8; refine (HIK.out _ _ (HX.out _ H10.out.2).2.2.1).mono ?_; rintro e w11 ⟨u11, rfl, hu, b1⟩; have H11 : Hid (Rds w11 (.slice ta CS.length tc) CS ∧ Rd w11 u11 K ∧ Below wb.heap.size wb w11) := ⟨H10.out.1.below b1, hu, Below.step H10.out.2 b1⟩; clear hu b1)
      | (go_at_call 14; refine (HFK.out _ _ _ (HX.out _ H11.out.2.2).2.2.2.1 H11.out.1 H11.out.2.1).mono ?_; rintro e w12 ⟨rfl, b3⟩; have H12 : Hid (Below wb.heap.size wb w12) := Below.step H11.out.2.2 b3; clear b3))
  clear x0 x1 H10 H11 HFK HIK HCF
  have HSt : Hid (∀ W, Below w12.heap.size w12 W → Below w12.heap.size w12 W ∧ W.cell? ⟨Y, 0, none⟩ = some (.int .i64 CV) ∧ W.cell? ⟨Y, 1, none⟩ = some (.slice sa CS.length sc)) := fun W hW => ⟨hW, (HX.out W (Below.step H12.out hW)).2.2.2.2⟩
  have x0 := (HSt.out w12 (Below.refl _ _)).2.1
  have x1 := (HSt.out w12 (Below.refl _ _)).2.2
  have HFS2 : Hid (∀ W u, Below w12.heap.size w12 W → Rd W u S → Calls Tryd.prog 14 #[.agg #[.int .i64 CV, .slice sa CS.length sc], u] W fun e w' => e = .returned (.tuple #[.bool true, .int .i64 0]) ∧ Below w12.heap.size w12 w') := fun W u hW q => (HFS.out W _ u (HX.out W (Below.step H12.out hW)).2.2.2.1 (HX.out W (Below.step H12.out hW)).1 q).mono fun e w' h => ⟨h.1, Below.step hW h.2⟩
  have HIS2 : Hid (∀ W, Below w12.heap.size w12 W → Calls Tryd.prog 8 #[.slice ya S.length yc] W fun e w' => ∃ u, e = .returned u ∧ Rd w' u S ∧ Below w12.heap.size w12 w') := fun W hW => (HIS.out W _ (HX.out W (Below.step H12.out hW)).2.1).mono fun e w' ⟨u, q1, q2, q3⟩ => ⟨u, q1, q2, Below.step hW q3⟩
  have HEnd : Hid (∀ W, Below w12.heap.size w12 W → Below w.heap.size w W) := fun W hW => (HX.out W (Below.step H12.out hW)).2.2.2.1
  clear HX HFS HIS H12
  go_region_held (fun W => Below w12.heap.size w12 W ∧ W.cell? ⟨Y, 0, none⟩ = some (.int .i64 CV) ∧ W.cell? ⟨Y, 1, none⟩ = some (.slice sa CS.length sc)) (first | exact HSt.out _ (Below.refl _ _).drew | exact HSt.out _ B2.out | exact HSt.out _ B1.out) (first
    | (have qq := B1.out; go_at_call 14; refine (HFS2.out _ _ B1.out R1.out).mono ?_; rintro e w14 ⟨rfl, hb2⟩; have B2 : Hid (Below w12.heap.size w12 w14) := hb2; clear hb2 qq)
    | (go_at_call 8; refine (HIS2.out _ (Below.refl _ _).drew).mono ?_; rintro e w13 ⟨u13, rfl, hr1, hb1⟩; have R1 : Hid (Rd w13 u13 S) := hr1; have B1 : Hid (Below w12.heap.size w12 w13) := hb1; clear hr1 hb1))
  go_wp2
  go_ret
  exact ⟨rfl, HEnd.out _ B2.out⟩
end learnFollows
end Go.Proofs.YtofojjdegobekaaDoor

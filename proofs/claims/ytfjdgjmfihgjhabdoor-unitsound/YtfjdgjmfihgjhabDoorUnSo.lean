/-
  UnitSound: what a model makes true; makes and satisfies, walked.
  KEEP: set on app at below new trans refl start ap kept rd rds mono lt add none own nil put len pos setF setV putL putR other neV same_any
-/
import Derived.Test.YtfjdgjmfihgjhabDoorUnHi
import Derived.Test.YtfjdgjmfihgjhabDoorTruth
set_option linter.unusedSimpArgs false
set_option linter.unusedVariables false
namespace Go.Proofs.YtfjdgjmfihgjhabDoor
open Go Go.RowKit
theorem trv_opp {ms : List Bool} {l : Int} (hf : fmd l = true) (hv : varOf l ≤ ms.length) : trv ms (-l) = !trv ms l := by
  obtain ⟨h0, h1, h2⟩ := fmd_range hf
  have hf' : fmd (-l) = true := fmd_neg hf
  have hv' : varOf (-l) ≤ ms.length := by
    rcases Int.lt_or_gt_of_ne h0 with hs | hs
    · have e1 := (there_neg hf hs).2; have e2 := (there_pos hf' (by omega)).2; omega
    · have e1 := (there_pos hf hs).2; have e2 := (there_neg hf' (by omega)).2; omega
  rcases Int.lt_or_gt_of_ne h0 with hs | hs
  · obtain ⟨j, hj, e1, _, e2⟩ := trv_neg hf hv hs
    obtain ⟨j', hj', e1', _, e2'⟩ := trv_pos hf' hv' (by omega)
    rw [e2, e2', show j' = j by omega]; simp
  · obtain ⟨j, hj, e1, _, e2⟩ := trv_pos hf hv hs
    obtain ⟨j', hj', e1', _, e2'⟩ := trv_neg hf' hv' (by omega)
    rw [e2, e2', show j' = j by omega]
/-- what follows lies within, and is true -/
theorem der_true {n : Nat} {ms : List Bool} {css : List (List Int)} {L : List Int} (hn : ms.length = n) (hc : ∀ c ∈ css, fitsP n c = true) (hL : fitsP n L = true) (ht : L.all (trv ms) = true) (hs : satT ms css = true) {l : Int} (h : Der css L l) : fmd l = true ∧ varOf l ≤ n ∧ trv ms l = true := by
  induction h with
  | fact h =>
    have h1 := List.all_eq_true.1 hL _ h
    rw [Bool.and_eq_true] at h1
    exact ⟨h1.1, of_decide_eq_true h1.2, List.all_eq_true.1 ht _ h⟩
  | @unit c l h1 h2 h3 ih =>
    have w1 := List.all_eq_true.1 (hc _ h1)
    have w2 := w1 _ h2
    rw [Bool.and_eq_true] at w2
    refine ⟨w2.1, of_decide_eq_true w2.2, ?_⟩
    obtain ⟨m, hm, hmt⟩ := List.any_eq_true.1 (List.all_eq_true.1 hs _ h1)
    by_cases e : m = l
    · rw [← e]; exact hmt
    · have w3 := w1 _ hm
      rw [Bool.and_eq_true] at w3
      have := trv_opp (ms := ms) w3.1 (by rw [hn]; exact of_decide_eq_true w3.2)
      rw [(ih m hm e).2.2, hmt] at this
      cases this
theorem no_clash {n : Nat} {ms : List Bool} {css : List (List Int)} {L : List Int} (hn : ms.length = n) (hc : ∀ c ∈ css, fitsP n c = true) (hL : fitsP n L = true) (ht : L.all (trv ms) = true) (hs : satT ms css = true) : ¬ Cla css L := by
  have key : ∀ l, fmd l = true → varOf l ≤ n → trv ms l = true → ¬ Der css L (-l) := fun l h1 h2 h3 hd => by
    have := trv_opp (ms := ms) h1 (by rw [hn]; exact h2)
    rw [(der_true hn hc hL ht hs hd).2.2, h3] at this
    cases this
  rintro (⟨l, a, b⟩ | ⟨c, a, b⟩)
  · obtain ⟨h1, h2, h3⟩ := der_true hn hc hL ht hs a
    exact key l h1 h2 h3 b
  · obtain ⟨m, hm, hmt⟩ := List.any_eq_true.1 (List.all_eq_true.1 hs _ a)
    have w3 := List.all_eq_true.1 (hc _ a) _ hm
    rw [Bool.and_eq_true] at w3
    exact key m w3.1 (of_decide_eq_true w3.2) hmt (b m hm)
set_option maxHeartbeats 1600000 in
theorem makes_any (vm : Value) (ms : List Bool) (l : Int) (w : World) (hm : RdB w vm ms) (hf : fmd l = true) (hv : varOf l ≤ ms.length) :
    Calls Tryd.prog 15 #[vm, .int .i64 l] w fun e w' => e = .returned (.bool (trv ms l)) ∧ w' = w := by
  have hlm := hm.len
  obtain ⟨am, cm, rfl, hcm⟩ := hm.form
  have HM : Hid (∀ k, k < ms.length → ∃ b off, am = some ⟨b, off, none⟩ ∧ w.cell? ⟨b, off + k, none⟩ = some (.bool (ms.getD k false))) := hcm
  clear hcm hm
  obtain ⟨hz0, hz1, hz2⟩ := fmd_range hf
  rcases Int.lt_or_gt_of_ne hz0 with hs | hs
  · obtain ⟨j, hj, ez, ev, et⟩ := trv_neg hf hv hs
    obtain ⟨bm, om, rfl, hcj⟩ := HM.out j hj
    have HT : Hid (trv ms l = !ms.getD j false) := et
    clear ev et hv hf
    generalize ms.getD j false = q at *
    subst ez
    have e1 : wrap64 (-(-((j : Int) + 1))) = (j : Int) + 1 := by unfold wrap64; omega
    have e2 : wrap64 ((j : Int) + 1 - 1) = (j : Int) := by unfold wrap64; omega
    go_enter Tryd.func15, Tryd.ntmps15
    go_wp2
    go_ret
    exact ⟨ret_bool HT.out.symm, rfl⟩
  · obtain ⟨j, hj, ez, ev, et⟩ := trv_pos hf hv hs
    obtain ⟨bm, om, rfl, hcj⟩ := HM.out j hj
    have HT : Hid (trv ms l = ms.getD j false) := et
    clear ev et hv hf
    generalize ms.getD j false = q at *
    subst ez
    have e2 : wrap64 ((j : Int) + 1 - 1) = (j : Int) := by unfold wrap64; omega
    have hd : decide ((j : Int) + 1 < 0) = false := decide_eq_false (by omega)
    go_enter Tryd.func15, Tryd.ntmps15
    go_wp2
    go_ret
    exact ⟨ret_bool HT.out.symm, rfl⟩
set_option maxRecDepth 100000 in
set_option maxHeartbeats 6400000 in
theorem satisfies_any (n : Int) (s vf vm : Value) (css : List (List Int)) (facts : List Int) (ms : List Bool) (w : World) (hr : Rds w s css) (hf : Rd w vf facts) (hm : RdB w vm ms) (hfc : ∀ c ∈ css, fitsP ms.length c = true) (hff : fitsP ms.length facts = true) :
    Calls Tryd.prog 14 #[.agg #[.int .i64 n, s], vf, vm] w fun e w' => e = .returned (.bool (facts.all (trv ms) && satT ms css)) ∧ Below w.heap.size w w' := by
  have hl := hr.len
  have hlf := hf.len
  have HX : Hid (Bx w n s css (w.alloc (.cells #[.int .i64 n, s] 24))) := Bx.new hr _
  have HF : Hid (Rd (w.alloc (.cells #[.int .i64 n, s] 24)) vf facts) := hf.below (below_box _ _)
  have HMk : Hid (∀ l, fmd l = true → varOf l ≤ ms.length → Calls Tryd.prog 15 #[vm, .int .i64 l] (w.alloc (.cells #[.int .i64 n, s] 24)) fun e w' => e = .returned (.bool (trv ms l)) ∧ w' = w.alloc (.cells #[.int .i64 n, s] 24)) := fun l h1 h2 => makes_any vm ms l _ (hm.below (below_box _ _)) h1 h2
  have HFf : Hid (fitsP ms.length facts = true ∧ ∀ c ∈ css, fitsP ms.length c = true) := ⟨hff, hfc⟩
  obtain ⟨a, c, rfl, _, _, _⟩ := hr.form
  obtain ⟨fa, fc, rfl, hfa, hfb, _⟩ := hf.form
  obtain ⟨am, cm, rfl, _⟩ := hm.form
  clear hr hf hm hff hfc
  go_enter Tryd.func14, Tryd.ntmps14
  go_wp2
  generalize w.alloc (.cells #[.int .i64 n, .slice a css.length c] 24) = W at *
  go_loopg [7] facts.length (fun g i wr => ∃ k : Nat, k + g = facts.length ∧ i = .int .i64 k ∧ (facts.take k).all (trv ms) = true ∧ wr = W)
  case atStart => exact ⟨0, by omega, rfl, by simp, rfl⟩
  case round =>
    obtain ⟨k, hk, rfl, hall, hwr⟩ := hrel
    obtain rfl : W = wr := hwr.symm
    have HA : Hid ((facts.take k).all (trv ms) = true) := hall
    have HK : Hid (k + gk = facts.length) := hk
    clear hall hwr
    by_cases hlt : k < facts.length
    · obtain ⟨ax, cx, ex, _, _, hcx⟩ := HF.out.form
      injection ex with ex1 _ ex3
      subst ex1; subst ex3
      obtain ⟨b, off, rfl, hck⟩ := hcx k hlt
      obtain ⟨hfm, hvn⟩ := fits_at HFf.out.1 hlt
      have HS : Hid ((facts.take (k + 1)).all (trv ms) = ((facts.take k).all (trv ms) && trv ms (facts.getD k 0))) := all_take_getD _ facts 0 k hlt
      have HE : Hid (trv ms (facts.getD k 0) = false → facts.all (trv ms) = false) := fun h => all_false_getD hlt h
      have HM2 : Hid (Calls Tryd.prog 15 #[.slice am ms.length cm, .int .i64 (facts.getD k 0)] W fun e w' => e = .returned (.bool (trv ms (facts.getD k 0))) ∧ w' = W) := HMk.out _ hfm hvn
      clear hk hcx hfm hvn
      generalize facts.getD k 0 = z at *
      cases ht : trv ms z
      · rw [ht] at HM2
        go_wp2_with fail
        refine Calls.mono HM2.out ?_
        rintro e w2 ⟨rfl, hw2⟩
        obtain rfl : W = w2 := hw2.symm
        clear hw2
        go_wp2
        go_ret
        exact ⟨ret_bool (by rw [HE.out ht]; rfl), HX.out.bel⟩
      · rw [ht] at HM2
        go_wp2_with fail
        refine Calls.mono HM2.out ?_
        rintro e w2 ⟨rfl, hw2⟩
        obtain rfl : W = w2 := hw2.symm
        clear hw2
        go_wp2
        go_roundg (gk - 1)
        case measure => have := HK.out; omega
        case rel => exact ⟨k + 1, by have := HK.out; omega, by go_num, by rw [HS.out, HA.out, ht]; rfl, rfl⟩
    · obtain rfl : k = facts.length := by omega
      have HE : Hid (facts.all (trv ms) = true) := by have := HA.out; rw [List.take_length] at this; exact this
      have c1 := HX.out.c1
      clear hk HA HK HF
      go_wp2
      clear hlt
      go_loopg [8] css.length (fun g i wr => ∃ k : Nat, k + g = css.length ∧ i = .int .i64 k ∧ satT ms (css.take k) = true ∧ wr = W)
      case atStart => exact ⟨0, by omega, rfl, by simp [satT], rfl⟩
      case round =>
        obtain ⟨k, hk, rfl, hall, hwr⟩ := hrel
        obtain rfl : W = wr := hwr.symm
        have HA : Hid (satT ms (css.take k) = true) := hall
        have HK : Hid (k + gk = css.length) := hk
        clear hall hwr
        by_cases hlt : k < css.length
        · obtain ⟨b, off, u, rfl, hck, hu0⟩ := HX.out.at hlt
          have HU : Hid (Rd W u (css.getD k [])) := hu0
          have HS : Hid (satT ms (css.take (k + 1)) = (satT ms (css.take k) && mkT ms (css.getD k []))) := all_take_getD _ css [] k hlt
          have HF : Hid (mkT ms (css.getD k []) = false → satT ms css = false) := fun h => all_false_getD hlt h
          have HZ : Hid (fitsP ms.length (css.getD k []) = true) := HFf.out.2 _ (getD_mem' hlt)
          have hzl := hu0.len
          obtain ⟨_, ua, uc, hu, huc, hum, _⟩ := hu0
          clear hk
          generalize css.getD k [] = z at *
          subst hu
          generalize gk = gg at *
          go_wp2
          go_loopg [9, 10] z.length (fun g sv j wi => ∃ m : Nat, m + g = z.length ∧ j = .int .i64 m ∧ sv = .bool (mkT ms (z.take m)) ∧ wi = W)
          case atStart => exact ⟨0, by omega, rfl, rfl, rfl⟩
          case round =>
            obtain ⟨m, hm, rfl, rfl, hwr⟩ := hrel
            obtain rfl : W = wr := hwr.symm
            have HM2 : Hid (m + gk = z.length) := hm
            clear hwr
            by_cases hmt : m < z.length
            · obtain ⟨ua', uc', eu, _, _, hcell⟩ := HU.out.form
              injection eu with q1 _ q3
              subst q1; subst q3
              obtain ⟨bu, ou, rfl, hcm⟩ := hcell m hmt
              obtain ⟨hfm, hvn⟩ := fits_at HZ.out hmt
              have HG1 : Hid (mkT ms (z.take (m + 1)) = (mkT ms (z.take m) || trv ms (z.getD m 0))) := any_take_getD _ z 0 m hmt
              have HM3 : Hid (Calls Tryd.prog 15 #[.slice am ms.length cm, .int .i64 (z.getD m 0)] W fun e w' => e = .returned (.bool (trv ms (z.getD m 0))) ∧ w' = W) := HMk.out _ hfm hvn
              clear hm hcell hfm hvn
              generalize z.getD m 0 = l at *
              generalize mkT ms (z.take m) = og at *
              cases og
              · go_wp2_with fail
                refine Calls.mono HM3.out ?_
                rintro e w2 ⟨rfl, hw2⟩
                obtain rfl : W = w2 := hw2.symm
                clear hw2
                go_wp2
                go_roundg (gk - 1)
                case measure => have := HM2.out; omega
                case rel => exact ⟨m + 1, by have := HM2.out; omega, by go_num, by rw [HG1.out]; rfl, rfl⟩
              · go_wp2
                go_roundg (gk - 1)
                case measure => have := HM2.out; omega
                case rel => exact ⟨m + 1, by have := HM2.out; omega, by go_num, by rw [HG1.out]; rfl, rfl⟩
            · obtain rfl : m = z.length := by omega
              have HE1 : Hid (z.take z.length = z) := List.take_length
              rw [HE1.out]
              clear hm hmt
              cases hq : mkT ms z
              · go_wp2
                go_ret
                exact ⟨ret_bool (by rw [HF.out hq, Bool.and_false]), HX.out.bel⟩
              · go_wp2
                go_roundg (gg - 1)
                case measure => have := HK.out; omega
                case rel => exact ⟨k + 1, by have := HK.out; omega, by go_num, by rw [HS.out, HA.out, hq]; rfl, rfl⟩
        · obtain rfl : k = css.length := by omega
          have HE2 : Hid (satT ms css = true) := by have := HA.out; rw [List.take_length] at this; exact this
          clear hk
          go_wp2
          go_ret
          exact ⟨ret_bool (by rw [HE.out, HE2.out]; rfl), HX.out.bel⟩
end Go.Proofs.YtfjdgjmfihgjhabDoor

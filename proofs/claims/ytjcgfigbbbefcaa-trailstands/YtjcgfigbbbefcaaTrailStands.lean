/-
  trail: what stands in the row, walked.
  KEEP: set on app at below new trans refl start ap kept rd rds mono
-/
import Derived.Test.YtjcgfigbbbefcaaTrailUndoes
set_option linter.unusedSimpArgs false
set_option linter.unusedVariables false
namespace Go.Proofs.Ytjcgfigbbbefcaa
open Go Go.RowKit

theorem vr_ne {n : Nat} {R : List Pl} (h : okT n R) {i j : Nat} (hi : i < R.length) (hj : j < i) : vr (R[j]'(by omega)) ≠ vr R[i] := by
  have hp := List.pairwise_iff_getElem.1 (List.nodup_iff_pairwise_ne.1 h.nodup) j i (by simp; omega) (by simpa using hi) hj
  rwa [List.getElem_map, List.getElem_map] at hp
theorem fnd_get {n : Nat} {R : List Pl} (h : okT n R) {i : Nat} (hi : i < R.length) : fnd R (vr R[i]) = some R[i] := by
  cases hf : fnd R (vr R[i]) with
  | none => exact absurd rfl (fnd_none.1 hf R[i] (List.getElem_mem hi))
  | some p =>
    obtain ⟨hm, hv⟩ := fnd_some hf
    obtain ⟨j, hj, rfl⟩ := List.getElem_of_mem hm
    rcases Nat.lt_trichotomy i j with h1 | h1 | h1
    · exact absurd hv.symm (vr_ne h hj h1)
    · subst h1; rfl
    · exact absurd hv (vr_ne h hi h1)
/-- the next mark -/
theorem mks_at {R : List Pl} {i : Nat} (hi : i < R.length) : (now (R.take i) < now R ∧ (mks R).getD (now (R.take i)) 0 = (i : Int)) ↔ dcs R[i] = true := by
  have key : ∀ k, (hk : k < now R) → ∃ j, ∃ hj : j < R.length, (mks R).getD k 0 = (j : Int) ∧ dcs R[j] = true ∧ now (R.take j) = k := by
    intro k hk
    have hl : k < (decs 0 R).length := by rw [decs_len]; exact hk
    obtain ⟨j, hj, h1, h2, h3⟩ := decs_at hl
    refine ⟨j, hj, ?_, h2, h3⟩
    unfold mks
    rw [List.getD_eq_getElem?_getD, List.getElem?_map, List.getElem?_eq_getElem hl, h1]; simp
  constructor
  · rintro ⟨h1, h2⟩
    obtain ⟨j, hj, h3, h4, _⟩ := key _ h1
    have : i = j := by rw [h2] at h3; omega
    subst this; exact h4
  · intro hd
    have s1 : now (R.take (i + 1)) = now (R.take i) + 1 := by rw [List.take_succ_eq_append_getElem hi, now_snoc, hd]; simp
    have s2 : now (R.take (i + 1)) ≤ now R := (List.take_sublist _ _).countP_le
    refine ⟨by omega, ?_⟩
    obtain ⟨j, hj, h3, h4, h5⟩ := key (now (R.take i)) (by omega)
    rw [h3, dec_uniq hj hi h4 hd h5]
theorem stands_at {n : Nat} {R : List Pl} (h : okT n R) {i : Nat} (hi : i < R.length) :
    valL n R R[i].lit = 1 ∧ valL n R (-R[i].lit) = -1 ∧ ∀ x, x = (R[i].lit.natAbs : Int) → reaL n R x = R[i].rea ∧ levL n R x = (now (R.take (i + 1)) : Int) := by
  have hf := fnd_get h hi
  have hfit := h.fit R[i] (List.getElem_mem hi)
  have hlev := h.lev i hi
  have hl : litN n R[i].lit = true := decide_eq_true ⟨hfit.1, hfit.2⟩
  have hl2 : litN n (-R[i].lit) = true := decide_eq_true ⟨by omega, by unfold vr at hfit; omega⟩
  have e1 : valV R R[i].lit.natAbs = sg R[i].lit := by unfold valV; rw [show R[i].lit.natAbs = vr R[i] from rfl, hf]
  have e2 : (-R[i].lit).natAbs = R[i].lit.natAbs := by omega
  refine ⟨?_, ?_, ?_⟩
  · unfold valL; rw [if_pos hl, e1]; unfold sg; split <;> omega
  · unfold valL; rw [if_pos hl2, e2, e1]; unfold sg; split <;> split <;> omega
  · rintro x rfl
    have hx : 1 ≤ (R[i].lit.natAbs : Int) ∧ (R[i].lit.natAbs : Int) ≤ n := ⟨by omega, by have := hfit.2; unfold vr at this; omega⟩
    unfold reaL levL
    rw [if_pos hx, if_pos hx, Int.toNat_natCast, show R[i].lit.natAbs = vr R[i] from rfl, hf]
    exact ⟨rfl, by simp [hlev]⟩
theorem take_now {R : List Pl} {i : Nat} (hi : i < R.length) : now (R.take (i + 1)) = now (R.take i) + (if dcs R[i] then 1 else 0) := by rw [List.take_succ_eq_append_getElem hi, now_snoc]

set_option maxRecDepth 100000 in
set_option maxHeartbeats 12800000 in
theorem trailStands_walk (vars : Int) (v : Value) (ops : List TOp) (w : World) (hr : RdT w v ops) :
    Calls Try.prog 6 #[.int .i64 vars, v] w fun e w' => e = .returned (.bool true) ∧ Below w.heap.size w w' := by
  have HR : Hid (RdT w v ops) := hr
  obtain ⟨aa, ca, rfl, -⟩ := hr
  have HN : Hid (nOf vars ≤ 40) := nOf_le vars
  go_enter Try.func6, Try.ntmps6
  go_wp2_with fail
  refine (begun_any vars _ ops w HR.out).mono ?_
  generalize nOf vars = n at *
  have HOK : Hid (okT n (actF n 0 [] ops)) := actF_ok (okT.nil n)
  generalize actF n 0 [] ops = R at *
  rintro e w1 ⟨b, s, rfl, l1⟩
  have L1 : Hid (Ls w w1 b s n R) := l1
  clear l1
  go_wp2_with fail
  refine (live_any w1).mono ?_
  rintro e w2 ⟨rfl, bel2⟩
  have L2 : Hid (Ls w w2 b s n R) := L1.out.below bel2
  clear bel2 L1
  go_wp2_with fail
  refine (trLits_any b s n R w2 L2.out.tr).mono ?_
  rintro e w3 ⟨u3, rfl, own3, bel3⟩
  have L3 : Hid (Ls w w3 b s n R) := L2.out.below bel3
  have HO3 : Hid (Own w2.heap.size w3 u3 (R.map Pl.lit)) := own3
  obtain ⟨a3, c3, rfl⟩ := own_form own3
  clear own3 bel3 L2
  go_wp2_with fail
  refine (trMarks_any b s n R w3 L3.out.tr).mono ?_
  rintro e w4 ⟨u4, rfl, own4, bel4⟩
  have L4 : Hid (Ls w w4 b s n R) := L3.out.below bel4
  have HO34 : Hid (Own w2.heap.size w4 (.slice a3 (R.map Pl.lit).length c3) (R.map Pl.lit)) := HO3.out.below bel4
  have HO4 : Hid (Own w3.heap.size w4 u4 (mks R)) := own4
  obtain ⟨a4, c4, rfl⟩ := own_form own4
  clear own4 bel4 L3 HO3
  simp only [List.length_map, mks_len]
  simp only [List.length_map, mks_len] at HO34 HO4
  go_wp2_with fail
  refine (trLevel_tr b s n R w4 L4.out.tr).mono ?_
  rintro e w5 ⟨rfl, rfl⟩
  have hlen : R.length ≤ 40 := by have := HOK.out.len; have := HN.out; omega
  have hnow := now_le R
  have HLM : Hid ((R.map Pl.lit).length = R.length ∧ (mks R).length = now R) := ⟨by simp, mks_len R⟩
  generalize hNR : now R = N at *
  generalize hML : R.length = M at *
  have HNR : Hid (now R = N ∧ R.length = M) := ⟨hNR, hML⟩
  clear hNR hML
  go_wp2
  have hMN : decide (M < N) = false := by simp; omega
  rw [hMN]
  clear hMN
  go_loopg [8, 9] M (fun g v8 v9 wr => ∃ i : Nat, i + g = M ∧ v8 = .int .i64 (now (R.take i) : Int) ∧ v9 = .int .i64 i ∧ Below w5.heap.size w5 wr)
  case atStart => exact ⟨0, by omega, rfl, rfl, Below.refl _ _⟩
  case round =>
    obtain ⟨i, hi, rfl, rfl, bel⟩ := hrel
    obtain ⟨gko, hgo⟩ : ∃ x, x = gk := ⟨gk, rfl⟩
    subst hgo
    have HI : Hid (i + gko = M) := hi
    have Lr : Hid (Ls w wr b s n R) := L4.out.below bel
    have HOl : Hid (Own w2.heap.size wr (.slice a3 M c3) (R.map Pl.lit)) := HO34.out.below bel
    have HOm : Hid (Own w3.heap.size wr (.slice a4 N c4) (mks R)) := HO4.out.below bel
    have HBl : Hid (Below w5.heap.size w5 wr) := bel
    clear bel
    by_cases hlt : i < M
    · have hiR : i < R.length := by rw [HNR.out.2]; exact hlt
      obtain ⟨hs1, hs2, hs3⟩ := stands_at HOK.out hiR
      have HS : Hid (valL n R R[i].lit = 1 ∧ valL n R (-R[i].lit) = -1 ∧ ∀ x, x = (R[i].lit.natAbs : Int) → reaL n R x = R[i].rea ∧ levL n R x = (now (R.take (i + 1)) : Int)) := ⟨hs1, hs2, hs3⟩
      have hfit := HOK.out.fit R[i] (List.getElem_mem hiR)
      have hrea := HOK.out.rea R[i] (List.getElem_mem hiR)
      have htn := take_now hiR
      have hmk := mks_at hiR
      rw [HNR.out.1] at hmk
      obtain ⟨g3, e3, d0⟩ := rd_cell (zs := R.map Pl.lit) (by rw [HLM.out.1]; exact HOl.out) (j := i) (by rw [HLM.out.1]; exact hlt)
      subst e3
      have eg : (R.map Pl.lit).getD i 0 = R[i].lit := by simp [List.getD_eq_getElem?_getD, hiR]
      rw [eg] at d0
      have HNe : Hid (∀ j, j < i → (R.map Pl.lit).getD j 0 ≠ R[i].lit ∧ (R.map Pl.lit).getD j 0 ≠ -R[i].lit) := by
        intro j hj
        have h1 := vr_ne HOK.out hiR hj
        have h2 : (R.map Pl.lit).getD j 0 = (R[j]'(by omega)).lit := by simp [List.getD_eq_getElem?_getD, show j < R.length by omega]
        rw [h2]
        unfold vr at h1
        constructor <;> (intro e; rw [e] at h1; omega)
      have hb1 : -40 ≤ R[i].lit ∧ R[i].lit ≤ 40 ∧ R[i].lit ≠ 0 := by have := hfit.2; have := HN.out; unfold vr at this; exact ⟨by unfold vr at *; omega, by unfold vr at *; omega, hfit.1⟩
      obtain ⟨hb1, hb2, hb3⟩ := hb1
      have hnl : now (R.take i) ≤ 40 := by have := now_le (R.take i); have := List.length_take_le i R; have : (R.take i).length ≤ i := List.length_take_le i R; omega
      have HDr : Hid (dcs R[i] = true → R[i].rea = -1) := fun h => by simpa [dcs] using h
      have HDr2 : Hid (dcs R[i] = false → 0 ≤ R[i].rea) := by
        intro h
        have h9 : R[i].rea ≠ -1 := by simpa [dcs] using h
        omega
      generalize hn1 : now (R.take (i + 1)) = nx at *
      have HN1 : Hid (now (R.take (i + 1)) = nx) := hn1
      clear hn1 hfit hs1 hs2 hs3 hi eg
      generalize R[i].lit = l at *
      generalize R[i].rea = re at *
      generalize now (R.take i) = k at *
      by_cases hneg : l < 0
      · have habs : (l.natAbs : Int) = -l := by omega
        cases hd : dcs R[i] with
        | true =>
          have _hdd := hd
          have hd' := HDr.out hd
          obtain ⟨hk1, hk2⟩ := hmk.2 hd
          rw [hd] at htn
          have hnx : nx = k + 1 := by simpa using htn
          subst hnx
          obtain ⟨g4, e4, d4⟩ := rd_cell (zs := mks R) (by rw [HLM.out.2]; exact HOm.out) (j := k) (by rw [HLM.out.2]; exact hk1)
          subst e4
          rw [hk2] at d4
          clear hmk htn
          go_wp2_with fail
          refine (trReason_any b s n R (-l) wr Lr.out.tr).mono ?_
          rw [(HS.out.2.2 (-l) (by omega)).1, hd']
          rintro e w20 ⟨rfl, bel20⟩
          have HBw : Hid (Below wr.heap.size wr w20) := bel20
          clear bel20 d0 d4
          go_wp2_with fail
          refine (trValue_any b s n R l w20 (Lr.out.below HBw.out).tr).mono ?_
          rw [HS.out.1]
          rintro e w21 ⟨rfl, rfl⟩
          go_wp2_with fail
          refine (trValue_any b s n R (-l) w21 (Lr.out.below HBw.out).tr).mono ?_
          rw [HS.out.2.1]
          rintro e w22 ⟨rfl, rfl⟩
          go_wp2_with fail
          refine (trLevelOf_any b s n R (-l) w22 (Lr.out.below HBw.out).tr).mono ?_
          rw [(HS.out.2.2 (-l) (by omega)).2]
          rintro e w23 ⟨rfl, rfl⟩
          go_wp2
          go_loopg [12] i (fun g v12 wq => ∃ j : Nat, j + g = i ∧ v12 = .int .i64 j ∧ wq = w23)
          case atStart => exact ⟨0, by omega, rfl, rfl⟩
          case round =>
            obtain ⟨j, hj, rfl, rfl⟩ := hrel
            have HJ : Hid (j + gk = i) := hj
            clear hj
            by_cases hjl : j < i
            · obtain ⟨hne1, hne2⟩ := HNe.out j hjl
              obtain ⟨g5, e5, d5⟩ := rd_cell (zs := R.map Pl.lit) (by rw [HLM.out.1]; exact (HOl.out.below HBw.out)) (j := j) (by rw [HLM.out.1]; omega)
              injection e5 with e5
              injection e5 with e5
              subst e5
              generalize (R.map Pl.lit).getD j 0 = y at *
              have hq1 : (y == l) = false := by simp [hne1]
              have hq2 : (y == -l) = false := by simp [hne2]
              go_wp2
              go_roundg (gk - 1)
              case measure => have := HJ.out; omega
              case rel => exact ⟨j + 1, by have := HJ.out; omega, by go_num, rfl⟩
            · obtain rfl : i = j := by have := HJ.out; omega
              go_wp2
              go_roundg (gko - 1)
              case measure => have := HI.out; omega
              case rel => exact ⟨i + 1, by have := HI.out; omega, by have h9 := HN1.out; simp [h9], by go_num, Below.step HBl.out HBw.out⟩
        | false =>
          have hd' := HDr2.out hd
          have hnx : nx = k := by rw [hd] at htn; simpa using htn
          subst hnx
          by_cases hkN : nx < N
          · have hk2 : (mks R).getD nx 0 ≠ (i : Int) := fun e => by
              have := hmk.1 ⟨hkN, e⟩
              rw [hd] at this; cases this
            obtain ⟨g4, e4, d4⟩ := rd_cell (zs := mks R) (by rw [HLM.out.2]; exact HOm.out) (j := nx) (by rw [HLM.out.2]; exact hkN)
            subst e4
            generalize (mks R).getD nx 0 = mv at *
            have hq0 : (mv == (i : Int)) = false := by simp [hk2]
            clear hmk htn
            go_wp2_with fail
            refine (trReason_any b s n R (-l) wr Lr.out.tr).mono ?_
            rw [(HS.out.2.2 (-l) (by omega)).1]
            rintro e w20 ⟨rfl, bel20⟩
            have HBw : Hid (Below wr.heap.size wr w20) := bel20
            clear bel20 d0 d4
            go_wp2_with fail
            refine (trValue_any b s n R l w20 (Lr.out.below HBw.out).tr).mono ?_
            rw [HS.out.1]
            rintro e w21 ⟨rfl, rfl⟩
            go_wp2_with fail
            refine (trValue_any b s n R (-l) w21 (Lr.out.below HBw.out).tr).mono ?_
            rw [HS.out.2.1]
            rintro e w22 ⟨rfl, rfl⟩
            go_wp2_with fail
            refine (trLevelOf_any b s n R (-l) w22 (Lr.out.below HBw.out).tr).mono ?_
            rw [(HS.out.2.2 (-l) (by omega)).2]
            rintro e w23 ⟨rfl, rfl⟩
            go_wp2
            go_loopg [12] i (fun g v12 wq => ∃ j : Nat, j + g = i ∧ v12 = .int .i64 j ∧ wq = w23)
            case atStart => exact ⟨0, by omega, rfl, rfl⟩
            case round =>
              obtain ⟨j, hj, rfl, rfl⟩ := hrel
              have HJ : Hid (j + gk = i) := hj
              clear hj
              by_cases hjl : j < i
              · obtain ⟨hne1, hne2⟩ := HNe.out j hjl
                obtain ⟨g5, e5, d5⟩ := rd_cell (zs := R.map Pl.lit) (by rw [HLM.out.1]; exact (HOl.out.below HBw.out)) (j := j) (by rw [HLM.out.1]; omega)
                injection e5 with e5
                injection e5 with e5
                subst e5
                generalize (R.map Pl.lit).getD j 0 = y at *
                have hq1 : (y == l) = false := by simp [hne1]
                have hq2 : (y == -l) = false := by simp [hne2]
                go_wp2
                go_roundg (gk - 1)
                case measure => have := HJ.out; omega
                case rel => exact ⟨j + 1, by have := HJ.out; omega, by go_num, rfl⟩
              · obtain rfl : i = j := by have := HJ.out; omega
                go_wp2
                go_roundg (gko - 1)
                case measure => have := HI.out; omega
                case rel => exact ⟨i + 1, by have := HI.out; omega, by have h9 := HN1.out; simp [h9], by go_num, Below.step HBl.out HBw.out⟩
          · clear hmk htn
            go_wp2_with fail
            refine (trReason_any b s n R (-l) wr Lr.out.tr).mono ?_
            rw [(HS.out.2.2 (-l) (by omega)).1]
            rintro e w20 ⟨rfl, bel20⟩
            have HBw : Hid (Below wr.heap.size wr w20) := bel20
            clear bel20 d0
            go_wp2_with fail
            refine (trValue_any b s n R l w20 (Lr.out.below HBw.out).tr).mono ?_
            rw [HS.out.1]
            rintro e w21 ⟨rfl, rfl⟩
            go_wp2_with fail
            refine (trValue_any b s n R (-l) w21 (Lr.out.below HBw.out).tr).mono ?_
            rw [HS.out.2.1]
            rintro e w22 ⟨rfl, rfl⟩
            go_wp2_with fail
            refine (trLevelOf_any b s n R (-l) w22 (Lr.out.below HBw.out).tr).mono ?_
            rw [(HS.out.2.2 (-l) (by omega)).2]
            rintro e w23 ⟨rfl, rfl⟩
            go_wp2
            go_loopg [12] i (fun g v12 wq => ∃ j : Nat, j + g = i ∧ v12 = .int .i64 j ∧ wq = w23)
            case atStart => exact ⟨0, by omega, rfl, rfl⟩
            case round =>
              obtain ⟨j, hj, rfl, rfl⟩ := hrel
              have HJ : Hid (j + gk = i) := hj
              clear hj
              by_cases hjl : j < i
              · obtain ⟨hne1, hne2⟩ := HNe.out j hjl
                obtain ⟨g5, e5, d5⟩ := rd_cell (zs := R.map Pl.lit) (by rw [HLM.out.1]; exact (HOl.out.below HBw.out)) (j := j) (by rw [HLM.out.1]; omega)
                injection e5 with e5
                injection e5 with e5
                subst e5
                generalize (R.map Pl.lit).getD j 0 = y at *
                have hq1 : (y == l) = false := by simp [hne1]
                have hq2 : (y == -l) = false := by simp [hne2]
                go_wp2
                go_roundg (gk - 1)
                case measure => have := HJ.out; omega
                case rel => exact ⟨j + 1, by have := HJ.out; omega, by go_num, rfl⟩
              · obtain rfl : i = j := by have := HJ.out; omega
                go_wp2
                go_roundg (gko - 1)
                case measure => have := HI.out; omega
                case rel => exact ⟨i + 1, by have := HI.out; omega, by have h9 := HN1.out; simp [h9], by go_num, Below.step HBl.out HBw.out⟩
      · have habs : (l.natAbs : Int) = l := by omega
        cases hd : dcs R[i] with
        | true =>
          have _hdd := hd
          have hd' := HDr.out hd
          obtain ⟨hk1, hk2⟩ := hmk.2 hd
          rw [hd] at htn
          have hnx : nx = k + 1 := by simpa using htn
          subst hnx
          obtain ⟨g4, e4, d4⟩ := rd_cell (zs := mks R) (by rw [HLM.out.2]; exact HOm.out) (j := k) (by rw [HLM.out.2]; exact hk1)
          subst e4
          rw [hk2] at d4
          clear hmk htn
          go_wp2_with fail
          refine (trReason_any b s n R l wr Lr.out.tr).mono ?_
          rw [(HS.out.2.2 l (by omega)).1, hd']
          rintro e w20 ⟨rfl, bel20⟩
          have HBw : Hid (Below wr.heap.size wr w20) := bel20
          clear bel20 d0 d4
          go_wp2_with fail
          refine (trValue_any b s n R l w20 (Lr.out.below HBw.out).tr).mono ?_
          rw [HS.out.1]
          rintro e w21 ⟨rfl, rfl⟩
          go_wp2_with fail
          refine (trValue_any b s n R (-l) w21 (Lr.out.below HBw.out).tr).mono ?_
          rw [HS.out.2.1]
          rintro e w22 ⟨rfl, rfl⟩
          go_wp2_with fail
          refine (trLevelOf_any b s n R l w22 (Lr.out.below HBw.out).tr).mono ?_
          rw [(HS.out.2.2 l (by omega)).2]
          rintro e w23 ⟨rfl, rfl⟩
          go_wp2
          go_loopg [12] i (fun g v12 wq => ∃ j : Nat, j + g = i ∧ v12 = .int .i64 j ∧ wq = w23)
          case atStart => exact ⟨0, by omega, rfl, rfl⟩
          case round =>
            obtain ⟨j, hj, rfl, rfl⟩ := hrel
            have HJ : Hid (j + gk = i) := hj
            clear hj
            by_cases hjl : j < i
            · obtain ⟨hne1, hne2⟩ := HNe.out j hjl
              obtain ⟨g5, e5, d5⟩ := rd_cell (zs := R.map Pl.lit) (by rw [HLM.out.1]; exact (HOl.out.below HBw.out)) (j := j) (by rw [HLM.out.1]; omega)
              injection e5 with e5
              injection e5 with e5
              subst e5
              generalize (R.map Pl.lit).getD j 0 = y at *
              have hq1 : (y == l) = false := by simp [hne1]
              have hq2 : (y == -l) = false := by simp [hne2]
              go_wp2
              go_roundg (gk - 1)
              case measure => have := HJ.out; omega
              case rel => exact ⟨j + 1, by have := HJ.out; omega, by go_num, rfl⟩
            · obtain rfl : i = j := by have := HJ.out; omega
              go_wp2
              go_roundg (gko - 1)
              case measure => have := HI.out; omega
              case rel => exact ⟨i + 1, by have := HI.out; omega, by have h9 := HN1.out; simp [h9], by go_num, Below.step HBl.out HBw.out⟩
        | false =>
          have hd' := HDr2.out hd
          have hnx : nx = k := by rw [hd] at htn; simpa using htn
          subst hnx
          by_cases hkN : nx < N
          · have hk2 : (mks R).getD nx 0 ≠ (i : Int) := fun e => by
              have := hmk.1 ⟨hkN, e⟩
              rw [hd] at this; cases this
            obtain ⟨g4, e4, d4⟩ := rd_cell (zs := mks R) (by rw [HLM.out.2]; exact HOm.out) (j := nx) (by rw [HLM.out.2]; exact hkN)
            subst e4
            generalize (mks R).getD nx 0 = mv at *
            have hq0 : (mv == (i : Int)) = false := by simp [hk2]
            clear hmk htn
            go_wp2_with fail
            refine (trReason_any b s n R l wr Lr.out.tr).mono ?_
            rw [(HS.out.2.2 l (by omega)).1]
            rintro e w20 ⟨rfl, bel20⟩
            have HBw : Hid (Below wr.heap.size wr w20) := bel20
            clear bel20 d0 d4
            go_wp2_with fail
            refine (trValue_any b s n R l w20 (Lr.out.below HBw.out).tr).mono ?_
            rw [HS.out.1]
            rintro e w21 ⟨rfl, rfl⟩
            go_wp2_with fail
            refine (trValue_any b s n R (-l) w21 (Lr.out.below HBw.out).tr).mono ?_
            rw [HS.out.2.1]
            rintro e w22 ⟨rfl, rfl⟩
            go_wp2_with fail
            refine (trLevelOf_any b s n R l w22 (Lr.out.below HBw.out).tr).mono ?_
            rw [(HS.out.2.2 l (by omega)).2]
            rintro e w23 ⟨rfl, rfl⟩
            go_wp2
            go_loopg [12] i (fun g v12 wq => ∃ j : Nat, j + g = i ∧ v12 = .int .i64 j ∧ wq = w23)
            case atStart => exact ⟨0, by omega, rfl, rfl⟩
            case round =>
              obtain ⟨j, hj, rfl, rfl⟩ := hrel
              have HJ : Hid (j + gk = i) := hj
              clear hj
              by_cases hjl : j < i
              · obtain ⟨hne1, hne2⟩ := HNe.out j hjl
                obtain ⟨g5, e5, d5⟩ := rd_cell (zs := R.map Pl.lit) (by rw [HLM.out.1]; exact (HOl.out.below HBw.out)) (j := j) (by rw [HLM.out.1]; omega)
                injection e5 with e5
                injection e5 with e5
                subst e5
                generalize (R.map Pl.lit).getD j 0 = y at *
                have hq1 : (y == l) = false := by simp [hne1]
                have hq2 : (y == -l) = false := by simp [hne2]
                go_wp2
                go_roundg (gk - 1)
                case measure => have := HJ.out; omega
                case rel => exact ⟨j + 1, by have := HJ.out; omega, by go_num, rfl⟩
              · obtain rfl : i = j := by have := HJ.out; omega
                go_wp2
                go_roundg (gko - 1)
                case measure => have := HI.out; omega
                case rel => exact ⟨i + 1, by have := HI.out; omega, by have h9 := HN1.out; simp [h9], by go_num, Below.step HBl.out HBw.out⟩
          · clear hmk htn
            go_wp2_with fail
            refine (trReason_any b s n R l wr Lr.out.tr).mono ?_
            rw [(HS.out.2.2 l (by omega)).1]
            rintro e w20 ⟨rfl, bel20⟩
            have HBw : Hid (Below wr.heap.size wr w20) := bel20
            clear bel20 d0
            go_wp2_with fail
            refine (trValue_any b s n R l w20 (Lr.out.below HBw.out).tr).mono ?_
            rw [HS.out.1]
            rintro e w21 ⟨rfl, rfl⟩
            go_wp2_with fail
            refine (trValue_any b s n R (-l) w21 (Lr.out.below HBw.out).tr).mono ?_
            rw [HS.out.2.1]
            rintro e w22 ⟨rfl, rfl⟩
            go_wp2_with fail
            refine (trLevelOf_any b s n R l w22 (Lr.out.below HBw.out).tr).mono ?_
            rw [(HS.out.2.2 l (by omega)).2]
            rintro e w23 ⟨rfl, rfl⟩
            go_wp2
            go_loopg [12] i (fun g v12 wq => ∃ j : Nat, j + g = i ∧ v12 = .int .i64 j ∧ wq = w23)
            case atStart => exact ⟨0, by omega, rfl, rfl⟩
            case round =>
              obtain ⟨j, hj, rfl, rfl⟩ := hrel
              have HJ : Hid (j + gk = i) := hj
              clear hj
              by_cases hjl : j < i
              · obtain ⟨hne1, hne2⟩ := HNe.out j hjl
                obtain ⟨g5, e5, d5⟩ := rd_cell (zs := R.map Pl.lit) (by rw [HLM.out.1]; exact (HOl.out.below HBw.out)) (j := j) (by rw [HLM.out.1]; omega)
                injection e5 with e5
                injection e5 with e5
                subst e5
                generalize (R.map Pl.lit).getD j 0 = y at *
                have hq1 : (y == l) = false := by simp [hne1]
                have hq2 : (y == -l) = false := by simp [hne2]
                go_wp2
                go_roundg (gk - 1)
                case measure => have := HJ.out; omega
                case rel => exact ⟨j + 1, by have := HJ.out; omega, by go_num, rfl⟩
              · obtain rfl : i = j := by have := HJ.out; omega
                go_wp2
                go_roundg (gko - 1)
                case measure => have := HI.out; omega
                case rel => exact ⟨i + 1, by have := HI.out; omega, by have h9 := HN1.out; simp [h9], by go_num, Below.step HBl.out HBw.out⟩
    · obtain rfl : M = i := by have := HI.out; omega
      have HE : Hid (now (R.take M) = N) := by show _ = _; rw [← HNR.out.2, List.take_length]; exact HNR.out.1
      rw [HE.out]
      clear hi
      have HW : Hid (Below w.heap.size w wr) := Lr.out.bel
      go_wp2
      go_ret
      exact ⟨by simp, HW.out⟩
end Go.Proofs.Ytjcgfigbbbefcaa

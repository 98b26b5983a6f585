/-
  LearnAsserts, walked.
  KEEP: len below nil form rd mono one more grown lt size cell some none of ofNat add out step row get at mk new made look put del kept drew alloc has same other map rde take lit lev lstB pre ws cells bnd on start app set box bel rz tidy ms reason c f max lv
-/
import Derived.Test.YtkchabdlpeifjaaLnAs
import Derived.Test.YtkchabdlpeifjaaLnC
set_option linter.unusedSimpArgs false
set_option linter.unusedVariables false
namespace Go.Proofs.Ytkchabdlpeifjaa.learnAsserts
open Go Go.RowKit
theorem lrn8 (t : List Ent) (zs : List Int) : (lrnC t zs).length ≤ 2097153 := by
  unfold lrnC
  split
  · simp
  · have := tid_len (othL t (topI t zs) (RS t zs))
    simp; omega
set_option maxRecDepth 100000 in
set_option maxHeartbeats 6400000 in
theorem walk (v : Value) (t : List Ent) (vc : Value) (zs : List Int) (w : World) (hr : RdE w v t) (hz : Rd w vc zs) :
    Calls Try.prog 8 #[v, vc] w fun e w' => e = .returned (.bool true) ∧ Below w.heap.size w w' := by
  have hl := hr.len
  have h8 := rde_each hr
  have hlz := hz.len
  have HR : Hid (RdE w v t) := hr
  have HZ : Hid (Rd w vc zs) := hz
  have HAw : Hid (Calls Try.prog 9 #[] w fun e w' => e = .returned (.bool true) ∧ Below w.heap.size w w') := awake15_any w
  have HFo : Hid (∀ W, Below w.heap.size w W → Calls Try.prog 12 #[v] W fun e w' => e = .returned (.bool (frmE t)) ∧ Below W.heap.size W w') := fun W h => (r15Formed_any v t W (HR.out.below h)).mono fun e w' ⟨h1, m, h2⟩ => ⟨h1, by rw [h2]; exact below_drewN _ _⟩
  have HSh : Hid (∀ W, Below w.heap.size w W → Calls Try.prog 21 #[vc] W fun e w' => e = .returned (.bool (zs.all fmd)) ∧ w' = W) := fun W h => shaped15_any vc zs W (HZ.out.below h)
  clear hr hz
  cases h1 : frmE t
  · rw [h1] at HFo
    clear h1 h8
    go_enter Try.func8, Try.ntmps8
    go_wp2_with (first | (go_at_call 9; refine HAw.out.mono ?_; rintro e w1 ⟨rfl, b1⟩; have H1 : Hid (Below w.heap.size w w1) := b1; clear b1) | (go_at_call 12; refine (HFo.out _ H1.out).mono ?_; rintro e w2 ⟨rfl, b2⟩; have H2 : Hid (Below w.heap.size w w2) := Below.step H1.out b2; clear b2))
    go_ret
    exact ⟨rfl, H2.out⟩
  cases h2 : zs.all fmd
  · rw [h1] at HFo
    rw [h2] at HSh
    clear h1 h2 h8
    go_enter Try.func8, Try.ntmps8
    go_wp2_with (first | (go_at_call 9; refine HAw.out.mono ?_; rintro e w1 ⟨rfl, b1⟩; have H1 : Hid (Below w.heap.size w w1) := b1; clear b1) | (go_at_call 12; refine (HFo.out _ H1.out).mono ?_; rintro e w2 ⟨rfl, b2⟩; have H2 : Hid (Below w.heap.size w w2) := Below.step H1.out b2; clear b2) | (go_at_call 21; refine (HSh.out _ H2.out).mono ?_; rintro e w3 ⟨rfl, hw⟩; obtain rfl := hw.symm))
    go_ret
    exact ⟨rfl, H2.out⟩
  have hws := (frmE_iff t).1 h1
  have HFa : Hid (∀ W, Below w.heap.size w W → Calls Try.prog 22 #[v, vc] W fun e w' => e = .returned (.bool (falB t zs)) ∧ w' = W) := fun W h => by
    rw [← fal_same hws h2]
    exact rFalse_any _ _ t zs _ (HR.out.below h) (HZ.out.below h) h2
  cases h3 : falB t zs
  · rw [h1] at HFo
    rw [h2] at HSh
    rw [h3] at HFa
    clear h1 h2 h3 h8 hws
    go_enter Try.func8, Try.ntmps8
    go_wp2_with (first | (go_at_call 9; refine HAw.out.mono ?_; rintro e w1 ⟨rfl, b1⟩; have H1 : Hid (Below w.heap.size w w1) := b1; clear b1) | (go_at_call 12; refine (HFo.out _ H1.out).mono ?_; rintro e w2 ⟨rfl, b2⟩; have H2 : Hid (Below w.heap.size w w2) := Below.step H1.out b2; clear b2) | (go_at_call 21; refine (HSh.out _ H2.out).mono ?_; rintro e w3 ⟨rfl, hw⟩; obtain rfl := hw.symm) | (go_at_call 22; refine (HFa.out _ H2.out).mono ?_; rintro e w3 ⟨rfl, hw⟩; obtain rfl := hw.symm))
    go_ret
    exact ⟨rfl, H2.out⟩
  have hask : askI t zs = 0 := by unfold askI; rw [h1, h2, h3]; rfl
  have HFl : Hid (∀ x ∈ zs, isF t x = true) := List.all_eq_true.1 h3
  have HWs : Hid (Ws t) := hws
  have HF3 : Hid (falB t zs = true) := h3
  have HC : Hid (∀ W, Below w.heap.size w W → Calls Try.prog 11 #[v] W fun e w' => ∃ u, e = .returned u ∧ RdE w' u t ∧ Below w.heap.size w w') := fun W h => (copyEntries_any v t W (HR.out.below h)).mono fun e w' ⟨u, q1, q2, q3⟩ => ⟨u, q1, q2.rde hl h8, Below.step h q3⟩
  have HI : Hid (∀ W, Below w.heap.size w W → Calls Try.prog 14 #[vc] W fun e w' => ∃ u, e = .returned u ∧ Rd w' u zs ∧ Below W.heap.size W w') := fun W h => (copyInts_any vc zs W (HZ.out.below h)).mono fun e w' ⟨u, q1, q2, q3⟩ => ⟨u, q1, q2.rd hlz, q3⟩
  have hk8 := lrn8 t zs
  have HLn : Hid (∀ W u uc, RdE W u t → Rd W uc zs → Calls Try.prog 13 #[u, uc] W fun e w' => ∃ xa xc, e = .returned (.tuple #[.slice xa (lrnC t zs).length xc, .int .i64 (lrnB t zs), .int .i64 0]) ∧ Rd w' (.slice xa (lrnC t zs).length xc) (lrnC t zs) ∧ Below W.heap.size W w') := fun W u uc q1 q2 => (learn_any u uc t zs W q1 q2).mono fun e w' ⟨⟨x, q3, q4⟩, q5⟩ => by
    rw [hask, if_pos rfl] at q3 q4
    obtain ⟨xa, xc, rfl⟩ := own_form q4
    exact ⟨xa, xc, q3, q4.rd (by omega), q5⟩
  rw [h1] at HFo
  rw [h2] at HSh
  rw [h3] at HFa
  obtain ⟨a, c, rfl, hc, hm, _⟩ := HR.out.form
  obtain ⟨ua, uc, rfl, huc, hum, _⟩ := HZ.out.form
  clear h1 h2 h3 h8 hws hask
  go_enter Try.func8, Try.ntmps8
  go_upto_region 5 with (first | (go_at_call 9; refine HAw.out.mono ?_; rintro e w1 ⟨rfl, b1⟩; have H1 : Hid (Below w.heap.size w w1) := b1; clear b1) | (go_at_call 12; refine (HFo.out _ H1.out).mono ?_; rintro e w2 ⟨rfl, b2⟩; have H2 : Hid (Below w.heap.size w w2) := Below.step H1.out b2; clear b2) | (go_at_call 21; refine (HSh.out _ H2.out).mono ?_; rintro e w3 ⟨rfl, hw⟩; obtain rfl := hw.symm) | (go_at_call 22; refine (HFa.out _ H2.out).mono ?_; rintro e w3 ⟨rfl, hw⟩; obtain rfl := hw.symm))
  clear HFo HSh HFa HAw
  have HRd2 : Hid (Rd w2 (.slice ua zs.length uc) zs) := HZ.out.below H2.out
  have HRe2 : Hid (RdE w2 (.slice a t.length c) t) := HR.out.below H2.out
  go_wp2_with fail
  go_loopg [5, 6] zs.length (fun g m i wr => ∃ k : Nat, k + g = zs.length ∧ m = .int .i64 (topI t (zs.take k)) ∧ i = .int .i64 k ∧ wr = w2)
  case atStart => exact ⟨0, by omega, rfl, rfl, rfl⟩
  case round =>
    obtain ⟨k, hk, rfl, rfl, rfl⟩ := hrel
    have HK : Hid (k + gk = zs.length) := hk
    by_cases hlt : k < zs.length
    · obtain ⟨ua', uc', e', _, _, hcell⟩ := HRd2.out.form
      injection e' with q1 q2 q3
      subst q1 q3
      obtain ⟨b2, off2, rfl, hck⟩ := hcell k hlt
      have hmem := getD_mem' (l := zs) (k := k) (d := 0) hlt
      have HT : Hid (topI t (zs.take (k + 1)) = max (topI t (zs.take k)) (lvl t (zs.getD k 0))) := by show _ = _; rw [take_succ_getD zs 0 k hlt, topI_snoc]
      have HWh : Hid (Calls Try.prog 23 #[.slice a t.length c, .int .i64 (zs.getD k 0)] wr fun e w' => e = .returned (.tuple #[.int .i64 (lvl t (zs.getD k 0)), .int .i64 (plN t (zs.getD k 0) : Int)]) ∧ w' = wr) := where_any _ t _ wr HRe2.out HWs.out (HFl.out _ hmem)
      clear hk hcell hmem
      generalize plN t (zs.getD k 0) = py at *
      generalize zs.getD k 0 = y at *
      generalize lvl t y = ly at *
      generalize topI t (zs.take k) = m at *
      by_cases hgt : m < ly
      · have HT2 : Hid (topI t (zs.take (k + 1)) = ly) := by show _ = _; rw [HT.out]; omega
        clear HT
        go_wp2_with (go_at_call 23; refine HWh.out.mono ?_; rintro e w' ⟨rfl, hw⟩; obtain rfl := hw.symm)
        go_roundg (gk - 1)
        case measure => have := HK.out; omega
        case rel => exact ⟨k + 1, by have := HK.out; omega, by rw [HT2.out], by go_num, rfl⟩
      · have HT2 : Hid (topI t (zs.take (k + 1)) = m) := by show _ = _; rw [HT.out]; omega
        clear HT
        go_wp2_with (go_at_call 23; refine HWh.out.mono ?_; rintro e w' ⟨rfl, hw⟩; obtain rfl := hw.symm)
        go_roundg (gk - 1)
        case measure => have := HK.out; omega
        case rel => exact ⟨k + 1, by have := HK.out; omega, by rw [HT2.out], by go_num, rfl⟩
    · obtain rfl : k = zs.length := by omega
      rw [List.take_length]
      clear hk hlt
      by_cases hL : topI t zs = 0
      · have hB : lrnB t zs = -1 := by unfold lrnB; rw [if_pos hL]
        have hK : (lrnC t zs).length = 0 := by unfold lrnC; rw [if_pos hL]; rfl
        rw [hB, hK] at HLn
        rw [hL]
        go_wp2_with (first
          | (go_at_call 11; refine (HC.out _ H2.out).mono ?_; rintro e w4 ⟨u, rfl, hu, b1⟩; have H4 : Hid (RdE w4 u t ∧ Below w.heap.size w w4) := ⟨hu, b1⟩; clear hu b1)
          | (go_at_call 14; refine (HI.out _ H4.out.2).mono ?_; rintro e w5 ⟨uc5, rfl, hu, b1⟩; have H5 : Hid (RdE w5 u t ∧ Rd w5 uc5 zs ∧ Below w.heap.size w w5) := ⟨H4.out.1.below b1, hu, Below.step H4.out.2 b1⟩; clear hu b1)
          | (go_at_call 13; refine (HLn.out _ _ _ H5.out.1 H5.out.2.1).mono ?_; rintro e w6 ⟨xa, xc, rfl, hx, b3⟩; have H6 : Hid (Below w.heap.size w w6) := Below.step H5.out.2.2 b3; clear b3 hx))
        go_ret
        exact ⟨rfl, H6.out⟩
      · obtain ⟨f1, f2, f3, f4, f5, f6, f7⟩ := lrn_is HWs.out HF3.out hL
        have HK1 : Hid (∀ x ∈ lrnC t zs, isF t x = true ∧ 1 ≤ lvl t x) := f1
        have HK3 : Hid (∀ i, i < (lrnC t zs).length → (lvl t ((lrnC t zs).getD i 0) = topI t zs ↔ i = 0)) := f3
        have HK4 : Hid (((lrnC t zs).drop 1).Pairwise (fun a b => idx a < idx b)) := f4
        have HK5 : Hid (lrnB t zs = topI t ((lrnC t zs).drop 1)) := f5
        generalize hKe : lrnC t zs = K at *
        generalize lrnB t zs = B at *
        generalize topI t zs = L at *
        have hLb : (L == 0) = false := by simpa using hL
        have hKl : ((K.length : Int) == 0) = false := beq_eq_false_iff_ne.2 (by omega)
        have hB0 : ¬ B < 0 := by omega
        have hB1 : ¬ L ≤ B := by omega
        clear f1 f3 f4 f5 hKe
        go_wp2_with (first
          | (go_at_call 11; refine (HC.out _ H2.out).mono ?_; rintro e w4 ⟨u, rfl, hu, b1⟩; have H4 : Hid (RdE w4 u t ∧ Below w.heap.size w w4) := ⟨hu, b1⟩; clear hu b1)
          | (go_at_call 14; refine (HI.out _ H4.out.2).mono ?_; rintro e w5 ⟨uc5, rfl, hu, b1⟩; have H5 : Hid (RdE w5 u t ∧ Rd w5 uc5 zs ∧ Below w.heap.size w w5) := ⟨H4.out.1.below b1, hu, Below.step H4.out.2 b1⟩; clear hu b1)
          | (go_at_call 13; refine (HLn.out _ _ _ H5.out.1 H5.out.2.1).mono ?_; rintro e w6 ⟨xa, xc, rfl, hx, b3⟩; have H6 : Hid (Below w.heap.size w w6 ∧ Rd w6 (.slice xa K.length xc) K) := ⟨Below.step H5.out.2.2 b3, hx⟩; clear b3 hx))
        go_loopg [12, 13] K.length (fun g m i wr => ∃ (k n : Nat), k + g = K.length ∧ m = .int .i64 (topI t ((K.drop 1).take (k - 1))) ∧ i = .int .i64 k ∧ wr = w6.drewN n)
        case atStart => exact ⟨0, 0, by omega, by simp [topI], rfl, rfl⟩
        case round =>
          obtain ⟨k, n, hk, rfl, rfl, rfl⟩ := hrel
          have HK : Hid (k + gk = K.length) := hk
          have HB6 : Hid (∀ j, Below w.heap.size w (w6.drewN j)) := fun j => Below.step H6.out.1 (below_drewN _ _)
          have HNN : Hid (∀ j, ∃ q, (w6.drewN n).drewN j = w6.drewN q) := fun j => ⟨n + j, World.drewN_drewN _ _ _⟩
          have HIx : Hid (∀ (x : Int) (W : World), fmd x = true → Calls Try.prog 24 #[.int .i64 x] W fun e w' => e = .returned (.int .i64 (idx x)) ∧ w' = W) := fun x W h => index15_any x W h
          by_cases hlt : k < K.length
          · obtain ⟨ua', uc', e', _, _, hcell⟩ := (H6.out.2.below (below_drewN w6 n)).form
            injection e' with q1 q2 q3
            subst q1 q3
            obtain ⟨b2, off2, rfl, hck⟩ := hcell k hlt
            have hmem := getD_mem' (l := K) (k := k) (d := 0) hlt
            obtain ⟨hyF, hy1⟩ := HK1.out _ hmem
            have hfy := (HWs.out.isF_at hyF).1
            have hyL := HK3.out k hlt
            have HWh : Hid (Calls Try.prog 23 #[.slice a t.length c, .int .i64 (K.getD k 0)] (w6.drewN n) fun e w' => e = .returned (.tuple #[.int .i64 (lvl t (K.getD k 0)), .int .i64 (plN t (K.getD k 0) : Int)]) ∧ w' = w6.drewN n) := where_any _ t _ _ (HR.out.below (HB6.out n)) HWs.out hyF
            by_cases hk0 : k = 0
            · subst hk0
              have hyb : (lvl t (K.getD 0 0) == L) = true := by rw [beq_iff_eq]; exact hyL.2 rfl
              have hy2 : decide (lvl t (K.getD 0 0) < 1) = false := decide_eq_false (by omega)
              have hd0 : decide ((1 : Int) < 0) = false := by decide
              have hfz := hfy
              have HLt : Hid (0 < K.length) := hlt
              rw [show ((0 : Nat) : Int) = 0 from rfl]
              clear hk hcell hmem hyF hyL HK1 HK3 HK4
              generalize plN t (K.getD 0 0) = py at *
              generalize K.getD 0 0 = y at *
              generalize lvl t y = ly at *
              simp only [Nat.add_zero] at hck
              go_upto_region 22 with (go_at_call 23; refine HWh.out.mono ?_; rintro e w' ⟨rfl, hw⟩; obtain rfl := hw.symm)
              clear hl hlz hk8 hc hm huc hum f2 f6 f7 hB0 hB1 hKl hLb hL hlt hfz hy1 hck hfy HWh
              go_quiet (fail)
              go_wp2_with fail
              go_roundg (gk - 1)
              case measure => have := HK.out; have := HLt.out; omega
              case rel => exact ⟨1, n + nq, by have := HK.out; have := HLt.out; omega, rfl, by go_num, rfl⟩
            · obtain ⟨j, hj⟩ : ∃ j, k = j + 1 := ⟨k - 1, by omega⟩
              rw [show k - 1 = j by omega]
              have hjl : j < K.length := by omega
              obtain ⟨b3, off3, e3, hcp⟩ := hcell (j) (by omega)
              injection e3 with e3
              injection e3 with q1 q2
              subst q1 q2
              have hzm := getD_mem' (l := K) (k := j) (d := 0) (by omega)
              have hfz := (HWs.out.isF_at (HK1.out _ hzm).1).1
              have hyb : (lvl t (K.getD k 0) == L) = false := by rw [beq_eq_false_iff_ne]; exact fun e => hk0 (hyL.1 e)
              have hkb : ((k : Int) == 0) = false := beq_eq_false_iff_ne.2 (by omega)
              have hkp : (0 : Int) < (k : Int) := by omega
              have hy2 : decide (lvl t (K.getD k 0) < 1) = false := decide_eq_false (by omega)
              have hw1 : IntKind.i64.wrap ((k : Int) - 1) = ((j : Nat) : Int) := by rw [IntKind.wrap_i64]; omega
              have hw2 : wrap64 ((k : Int) - 1) = ((j : Nat) : Int) := by unfold wrap64; omega
              have hji : ((j : Nat) : Int) < (K.length : Int) := by omega
              have hord : 1 < k → ¬ idx (K.getD k 0) ≤ idx (K.getD (j) 0) := fun h1k => by
                have hp := HK4.out
                rw [List.pairwise_iff_getElem] at hp
                have := hp (j - 1) (j) (by simp; omega) (by simp; omega) (by omega)
                simp only [List.getElem_drop] at this
                have a1 : K.getD k 0 = K[1 + (j)]'(by omega) := by rw [List.getD_eq_getElem?_getD, List.getElem?_eq_getElem hlt]; simp; congr 1; omega
                have a2 : K.getD (j) 0 = K[1 + (j - 1)]'(by omega) := by rw [List.getD_eq_getElem?_getD, List.getElem?_eq_getElem (by omega)]; simp; congr 1; omega
                rw [a1, a2]; omega
              have HT : Hid (topI t ((K.drop 1).take k) = max (topI t ((K.drop 1).take (j))) (lvl t (K.getD k 0))) := by
                show _ = _
                have a3 : (K.drop 1).getD (j) 0 = K.getD k 0 := by rw [List.getD_eq_getElem?_getD, List.getD_eq_getElem?_getD, List.getElem?_drop]; congr 2; omega
                have a4 := take_succ_getD (K.drop 1) 0 (j) (by simp; omega)
                rw [← hj, a3] at a4
                rw [a4, topI_snoc]
              have HKj : Hid (k = j + 1) := hj
              clear hj
              clear hk hcell hmem hyF hyL HK1 HK3 HK4 hzm
              generalize plN t (K.getD k 0) = py at *
              generalize K.getD k 0 = y at *
              generalize K.getD (j) 0 = z at *
              generalize lvl t y = ly at *
              generalize topI t ((K.drop 1).take (j)) = m at *
              by_cases h1k : 1 < k
              · have h1i : decide ((1 : Int) < (k : Int)) = true := decide_eq_true (by omega)
                have hor : decide (idx y ≤ idx z) = false := decide_eq_false (hord h1k)
                clear hord
                generalize w6.drewN n = wn at *
                go_upto_region 22 with (go_at_call 23; refine HWh.out.mono ?_; rintro e w' ⟨rfl, hw⟩; obtain rfl := hw.symm)
                clear hl hlz hc hm huc hum f2 f6 f7 hB0 hB1 hKl hLb hL hy1 HWh
                go_quiet ((go_at_call 24; exact Calls.quiet_of_same (HIx.out _ _ (by first | exact hfy | exact hfz))))
                by_cases hgt : m < ly
                · have HT2 : Hid (topI t ((K.drop 1).take k) = ly) := by show _ = _; rw [HT.out]; exact Int.max_eq_right (Int.le_of_lt hgt)
                  clear HT
                  go_wp2_with fail
                  go_roundg (gk - 1)
                  case measure => have := HK.out; omega
                  case rel =>
                    obtain ⟨q, hq⟩ := HNN.out nq
                    exact ⟨k + 1, q, by have := HK.out; omega, by rw [Nat.add_sub_cancel, HT2.out], by go_num, hq⟩
                · have HT2 : Hid (topI t ((K.drop 1).take k) = m) := by show _ = _; rw [HT.out]; exact Int.max_eq_left (Int.not_lt.1 hgt)
                  clear HT
                  go_wp2_with fail
                  go_roundg (gk - 1)
                  case measure => have := HK.out; omega
                  case rel =>
                    obtain ⟨q, hq⟩ := HNN.out nq
                    exact ⟨k + 1, q, by have := HK.out; omega, by rw [Nat.add_sub_cancel, HT2.out], by go_num, hq⟩
              · have h1i : decide ((1 : Int) < (k : Int)) = false := decide_eq_false (by omega)
                clear hord
                generalize w6.drewN n = wn at *
                go_upto_region 22 with (go_at_call 23; refine HWh.out.mono ?_; rintro e w' ⟨rfl, hw⟩; obtain rfl := hw.symm)
                clear hl hlz hc hm huc hum f2 f6 f7 hB0 hB1 hKl hLb hL hy1 HWh
                go_quiet ((go_at_call 24; exact Calls.quiet_of_same (HIx.out _ _ (by first | exact hfy | exact hfz))))
                by_cases hgt : m < ly
                · have HT2 : Hid (topI t ((K.drop 1).take k) = ly) := by show _ = _; rw [HT.out]; exact Int.max_eq_right (Int.le_of_lt hgt)
                  clear HT
                  go_wp2_with fail
                  go_roundg (gk - 1)
                  case measure => have := HK.out; omega
                  case rel =>
                    obtain ⟨q, hq⟩ := HNN.out nq
                    exact ⟨k + 1, q, by have := HK.out; omega, by rw [Nat.add_sub_cancel, HT2.out], by go_num, hq⟩
                · have HT2 : Hid (topI t ((K.drop 1).take k) = m) := by show _ = _; rw [HT.out]; exact Int.max_eq_left (Int.not_lt.1 hgt)
                  clear HT
                  go_wp2_with fail
                  go_roundg (gk - 1)
                  case measure => have := HK.out; omega
                  case rel =>
                    obtain ⟨q, hq⟩ := HNN.out nq
                    exact ⟨k + 1, q, by have := HK.out; omega, by rw [Nat.add_sub_cancel, HT2.out], by go_num, hq⟩
          · obtain rfl : k = K.length := by omega
            have HE : Hid (topI t ((K.drop 1).take (K.length - 1)) = B) := by
              show _ = _
              rw [List.take_of_length_le (by simp), HK5.out]
            rw [HE.out]
            have hBB : (B == B) = true := by simp
            clear hk
            go_wp2_with fail
            go_ret
            exact ⟨rfl, HB6.out n⟩
end Go.Proofs.Ytkchabdlpeifjaa.learnAsserts

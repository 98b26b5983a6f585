/-
  PaceSpans, walked.
  KEEP: cells fz mp set2 formed_any beat_run walk putObj alloc same block size os tape output mono lt own new keep conf rest clr below grown step no yes done rd
-/
import Derived.Test.YthcbpdnaocpleabPcX
import Derived.Test.YthcbpdnaocpleabPcY
import Derived.Test.YthcbpdnaocpleabPcSq
import Derived.Deep.CutRange
import Derived.Deep.Cut
set_option linter.unusedSimpArgs false
set_option linter.unusedVariables false
namespace Go.Proofs.Ythcbpdnaocpleab.paceSpans
open Go Go.RowKit

theorem cfg_bounds {b f g : Int} {d : Nat} {p : Int} (hf : fmC b f g d p = true) : (1 ≤ b ∧ b ≤ 1048576) ∧ (1 ≤ f ∧ f ≤ 1048576) ∧ (1 ≤ g ∧ g ≤ 1048576) := by
  unfold fmC at hf
  simp only [Bool.and_eq_true] at hf
  exact ⟨cnB_true.1 hf.1.1.1.1, cnB_true.1 hf.1.1.1.2, cnB_true.1 hf.1.1.2⟩

set_option maxRecDepth 100000 in
set_option maxHeartbeats 6400000 in
theorem walk (b f g : Int) (d : Nat) (p u n : Int) (w : World) (h1 : -9223372036854775808 ≤ n) (h2 : n ≤ 9223372036854775807) :
    Calls Try.prog 4 #[.agg #[.int .i64 b, .int .i64 f, .int .i64 g, .float .f64 d, .int .i64 p, .int .i64 u], .int .i64 n] w fun e w' => e = .returned (.bool true) ∧ Below w.heap.size w w' := by
  have HC : Hid (Cb (w.alloc (.cells #[.int .i64 b, .int .i64 f, .int .i64 g, .float .f64 d, .int .i64 p, .int .i64 u] 26)) w.heap.size b f g d p u) := Cb.new _ _ _ _ _ _ _
  have HB : Hid (Below w.heap.size w (w.alloc (.cells #[.int .i64 b, .int .i64 f, .int .i64 g, .float .f64 d, .int .i64 p, .int .i64 u] 26))) := below_new _ _
  have HSW : Hid ((FloatKind.f64.format.order d 4602678819172646912 == some .gt || FloatKind.f64.format.order d 4602678819172646912 == some .eq) = (FloatKind.f64.format.order 4602678819172646912 d == some .lt || FloatKind.f64.format.order 4602678819172646912 d == some .eq)) := ge_swap d 4602678819172646912
  go_enter Try.func4, Try.ntmps4
  go_upto_if 15 with fail
  generalize w.alloc (.cells #[.int .i64 b, .int .i64 f, .int .i64 g, .float .f64 d, .int .i64 p, .int .i64 u] 26) = W1 at *
  go_cut [1, 16, 17] from 16 to 17 (fun u1 u16 u17 wx => ∃ N : Int, N ≤ 20000 ∧ -9223372036854775808 ≤ N ∧ u1 = .int .i64 N ∧ wx = W1)
  case first =>
    by_cases hn : 20000 < n
    · go_wp2_with fail
      go_meet
      exact ⟨n % 20000, by omega, by omega, rfl, rfl⟩
    · go_wp2_with fail
      go_meet
      exact ⟨n, by omega, by omega, rfl, rfl⟩
  case rest =>
  obtain ⟨N, hN, hN1, rfl, rfl⟩ := hcut
  obtain ⟨k0, k1, k2, k3, k4, k5⟩ := HC.out.cells
  go_upto_region 4 with (go_at_call 8; refine (plan_any _ _ _ _ _ _ _ _).mono ?_; rintro e w2 ⟨v2, rfl, ho2, bel2⟩)
  have HC2 : Hid (Cb w2 w.heap.size b f g d p u) := HC.out.on bel2 HC.out.lt
  have HB2 : Hid (Below w.heap.size w w2) := HB.out.next bel2 (Nat.le_refl _)
  have HO2 : Hid (OwnB wc.heap.size w2 v2 (plL b f g d p N)) := ho2
  clear k0 k1 k2 k3 k4 k5 HC HB bel2 ho2
  obtain ⟨k0, k1, k2, k3, k4, k5⟩ := HC2.out.cells
  go_cut [7] from 24 to 71 (fun u7 wx => u7 = .bool (fmC b f g d p) ∧ wx = w2)
  case first =>
    clear HO2 HB2 HC2
    generalize plE b f g d p N = E at *
    cases hb : cnB b
    · have HF : Hid (fmC b f g d p = false) := by show _ = _; unfold fmC; rw [hb]; rfl
      rcases cnB_false.1 hb with hb | hb
      all_goals
        go_wp2_with fail
        go_meet
        exact ⟨by rw [HF.out], rfl⟩
    cases hf : cnB f
    · have HF : Hid (fmC b f g d p = false) := by show _ = _; unfold fmC; rw [hb, hf]; rfl
      have hb := cnB_true.1 hb
      rcases cnB_false.1 hf with hf | hf
      all_goals
        go_wp2_with fail
        go_meet
        exact ⟨by rw [HF.out], rfl⟩
    cases hg : cnB g
    · have HF : Hid (fmC b f g d p = false) := by show _ = _; unfold fmC; rw [hb, hf, hg]; rfl
      have hb := cnB_true.1 hb
      have hf := cnB_true.1 hf
      rcases cnB_false.1 hg with hg | hg
      all_goals
        go_wp2_with fail
        go_meet
        exact ⟨by rw [HF.out], rfl⟩
    have HF : Hid (fmC b f g d p = (dcy d && phB p)) := by show _ = _; unfold fmC; rw [hb, hf, hg]; simp
    have hb := cnB_true.1 hb
    have hf := cnB_true.1 hf
    have hg := cnB_true.1 hg
    go_wp2_with fail
    all_goals
      go_meet
      refine ⟨?_, rfl⟩
      rw [HF.out]
      congr 1
      have hsw := HSW.out
      unfold dcy phB
      clear HSW HF k0 k1 k2 k3 k4 k5
      generalize FloatKind.f64.format.order 4602678819172646912 d = A at *
      generalize FloatKind.f64.format.order d 4602678819172646912 = C at *
      generalize FloatKind.f64.format.order d 4607182418800017408 = B at *
      rw [Bool.eq_iff_iff]
      rcases A with _ | A <;> rcases B with _ | B <;> rcases C with _ | C <;> (try cases A) <;> (try cases B) <;> (try cases C) <;> simp_all <;> omega
  case rest =>
  obtain ⟨rfl, rfl⟩ := hcut
  clear HSW
  have HFm : Hid (∀ W, Calls Try.prog 9 #[.agg #[.int .i64 b, .int .i64 f, .int .i64 g, .float .f64 d, .int .i64 p, .int .i64 u]] W fun e w' => e = .returned (.bool (fmC b f g d p)) ∧ Below W.heap.size W w') := fun W => formed_any b f g d p u W
  obtain ⟨a2, c2, hv2⟩ := HO2.out.form
  cases hq : fmC b f g d p
  · rw [hq] at HFm
    have e1 : plE b f g d p N = 1 := by unfold plE; rw [if_pos hq]
    have e2 : plL b f g d p N = [] := by unfold plL; rw [if_pos hq]
    rw [e2] at hv2
    subst hv2
    rw [e1]
    clear hq e1 e2 HO2
    go_wp2_with (go_at_call 9; refine (HFm.out _).mono ?_; rintro e w3 ⟨rfl, bel3⟩)
    go_ret
    exact ⟨rfl, HB2.out.next bel3 (Nat.le_refl _)⟩
  rw [hq] at HFm
  by_cases hneg : N < 0
  · have e1 : plE b f g d p N = 2 := by unfold plE; rw [if_neg (by rw [hq]; simp), if_pos (.inl hneg)]
    have e2 : plL b f g d p N = [] := by unfold plL; rw [if_neg (by rw [hq]; simp), if_pos (.inl hneg)]
    rw [e2] at hv2
    subst hv2
    rw [e1]
    clear hq e1 e2 HO2
    go_wp2_with (go_at_call 9; refine (HFm.out _).mono ?_; rintro e w3 ⟨rfl, bel3⟩)
    go_ret
    exact ⟨rfl, HB2.out.next bel3 (Nat.le_refl _)⟩
  have e1 : plE b f g d p N = 0 := by unfold plE; rw [if_neg (by rw [hq]; simp), if_neg (by omega)]
  have e2 : plL b f g d p N = plF b f g N := by unfold plL; rw [if_neg (by rw [hq]; simp), if_neg (by omega)]
  obtain ⟨⟨hb1, hb2⟩, ⟨hf1, hf2⟩, hg1, hg2⟩ := cfg_bounds hq
  have hLn := plF_len (b := b) (f := f) (g := g) (C := N) hb1 (by omega)
  obtain ⟨L, hL⟩ : ∃ L, L = plF b f g N := ⟨_, rfl⟩
  have HS0 : Hid (Spn b f g N L 0 0 0 0) := by show Spn _ _ _ _ _ _ _ _ _; rw [hL]; exact Spn.start (by omega)
  rw [e2, ← hL] at hv2 HO2
  rw [← hL] at hLn
  rw [e1]
  clear hq e1 e2 hL
  subst hv2
  have HSp : Hid (∀ W, Calls Try.prog 10 #[.int .i64 ((L.length : Int) + 1)] W fun e w' => ∃ v, e = .returned v ∧ SpS (L.length + 1) W w' v) := fun W => by
    have := spans_any (L.length + 1) W (by omega)
    rwa [show (((L.length + 1 : Nat)) : Int) = (L.length : Int) + 1 by omega] at this
  go_upto_region 14 with (first
    | (go_at_call 9; refine (HFm.out _).mono ?_; rintro e w3 ⟨rfl, bel3⟩)
    | (go_at_call 10; refine (HSp.out _).mono ?_; rintro e w4 ⟨v4, rfl, hsp⟩))
  obtain ⟨M4, hM4, hM4b, how4, bel4⟩ := hsp
  obtain ⟨a4, c4, hv4⟩ := own_form13 how4
  rw [lubs_len] at hv4
  subst hv4
  have HD : Hid (∀ W, Below w4.heap.size w4 W → Cb W w.heap.size b f g d p u ∧ RdT W (.slice a2 L.length c2) L ∧ Rd W (.slice a4 M4 c4) (lubs M4) ∧ Below w.heap.size w W) := fun W h => by
    have hb24 := bel3.next bel4 (Nat.le_refl _)
    have hb2W := hb24.next h (Nat.le_refl _)
    exact ⟨HC2.out.on hb2W HC2.out.lt, (HO2.out.below hb2W).rd, (how4.rd (by rw [lubs_len]; omega)).below h, HB2.out.next hb2W (Nat.le_refl _)⟩
  have hcap : L.length ≤ c2 ∧ c2 ≤ 9223372036854775807 ∧ M4 ≤ c4 ∧ c4 ≤ 9223372036854775807 := by
    obtain ⟨_, h2, h3, _⟩ := HD.out w4 (Below.refl _ _)
    obtain ⟨x1, x2, y1, y2, y3, _⟩ := h2
    obtain ⟨_, x3, x4, z1, z2, z3, _⟩ := h3
    injection y1 with _ _ y4
    injection z1 with _ z5 z4
    rw [lubs_len] at z5 z2
    unfold maxLen at y3 z3
    omega
  obtain ⟨hc2a, hc2b, hc4a, hc4b⟩ := hcap
  clear how4 bel4 bel3 HO2 HB2 HC2 HFm HSp k0 k1 k2 k3 k4 k5
  go_wp2
  go_loopg [9, 10, 11, 12] L.length (fun gk s9 s10 s11 s12 wr => ∃ (i : Nat) (k t l : Int), i + gk = L.length ∧ s9 = .int .i64 k ∧ s10 = .int .i64 l ∧ s11 = .int .i64 t ∧ s12 = .int .i64 i ∧ Hid (Spn b f g N L i k t l) ∧ Below w4.heap.size w4 wr)
  case atStart => exact ⟨0, 0, 0, 0, by omega, rfl, rfl, rfl, rfl, HS0, Below.refl _ _⟩
  case round =>
    obtain ⟨i, k, t, l, hi, rfl, rfl, rfl, rfl, HS, hbel⟩ := hrel
    have HI : Hid (i + gk = L.length) := hi
    have HBl : Hid (Below w4.heap.size w4 wr) := hbel
    obtain ⟨hcb, hrt, hri, -⟩ := HD.out wr hbel
    obtain ⟨k0, k1, k2, -, -, -⟩ := hcb.cells
    have hk0 : 0 ≤ k := by have := HS.out.ik; omega
    have hkN := HS.out.kC
    have ht0 := HS.out.t0
    have hti := HS.out.ti
    have hl0 := HS.out.l0
    have hlk := HS.out.lk
    have hiL : i ≤ L.length := by omega
    obtain ⟨z, hz⟩ : ∃ z : Int, z = (lub (i + 1) : Int) := ⟨_, rfl⟩
    have hyb := lub_b (b := b) (i := i) hb1 hb2 (by omega)
    rw [← hz] at hyb
    have hgt : 0 ≤ g * t ∧ g * t ≤ 20971520000 := by
      have a1 := Int.mul_nonneg (a := g) (b := t) (by omega) ht0
      have a2 : g * t ≤ 1048576 * 20000 := Int.mul_le_mul hg2 (by omega) ht0 (by omega)
      omega
    obtain ⟨b4, off4, cc4, e4, h04, -, -, -, hcell4⟩ := hri.cases.resolve_left (by rintro ⟨h0, _⟩; have := lubs_len M4; rw [h0] at this; simp at this; omega)
    have zc : wr.cell? ⟨b4, off4 + i, none⟩ = some (.int .i64 z) := by
      have := hcell4 i (by rw [lubs_len]; omega)
      rwa [lubs_get (by omega), ← hz] at this
    have e5 : a4 = some ⟨b4, off4, none⟩ := by injection e4
    clear e4 h04
    subst e5
    by_cases hlt : i < L.length
    · have hst := HS.out.step hb1 hlt
      rw [← hz] at hst
      obtain ⟨hle, hget, hnext⟩ := hst
      obtain ⟨aa, cc, ea, -, -, hrow⟩ := hrt
      obtain ⟨gg, eg, -, d0, d1⟩ := hrow i hlt
      have ea2 : a2 = aa := by injection ea
      clear ea
      subst ea2
      subst eg
      rw [hget] at d0 d1
      dsimp only at d0 d1
      obtain ⟨q, hq⟩ : ∃ q, q = decide (f + t * g ≤ k + b * z - l) := ⟨_, rfl⟩
      rw [← hq] at d1
      have hwz : wrap64 (b * z) = b * z := by unfold wrap64; omega
      have HN : Hid (Spn b f g N L (i + 1) (k + b * z) (if f + t * g ≤ k + b * z - l then t + 1 else t) (if f + t * g ≤ k + b * z - l then k + b * z else l)) := hnext
      have HQ : Hid (q = decide (f + t * g ≤ k + b * z - l)) := hq
      clear hq hrow hget hcell4 hri hz hi hbel hnext HS hcb
      rw [Int.mul_comm t g] at HQ HN
      obtain ⟨A, hA⟩ : ∃ A, A = k + b * z := ⟨_, rfl⟩
      have hlim : A ≤ N := by omega
      have hA0 : 0 ≤ A ∧ l ≤ A := by omega
      have hM4' : i < M4 := by omega
      have ti1 : Hid (wrap64 (t + 1) = t + 1) := by show _ = _; unfold wrap64; omega
      have ti2 : wrap64 (k + b * z) = A := by unfold wrap64; omega
      have ti3 : Hid (wrap64 (A - l) = A - l) := by show _ = _; unfold wrap64; omega
      have ti4 : Hid (wrap64 (g * t) = g * t) := by show _ = _; unfold wrap64; omega
      have ti5 : Hid (wrap64 (f + g * t) = f + g * t) := by show _ = _; unfold wrap64; omega
      have ti6 : Hid (wrap64 ((i : Int) + 1) = (i : Int) + 1) := by show _ = _; unfold wrap64; omega
      rw [← hA] at d0 HN HQ
      have hCs : (f + g * t ≤ A - l) ∨ ¬ (f + g * t ≤ A - l) := by omega
      clear hc2a hc2b hc4a hc4b hM4 hM4b hLn hiL hti h1 h2 hN1 hkN hgt hyb hle hN hb2 hf2 hg2 hb1 hf1 hg1 ht0 hl0 hlk hA hA0 hk0
      have Hlim : Hid (A ≤ N) := hlim
      have HCs : Hid ((f + g * t ≤ A - l) ∨ ¬ (f + g * t ≤ A - l)) := hCs
      clear hlim hCs
      go_upto_region 20 with fail
      go_quiet (fail)
      rw [ti2]
      clear ti2 hwz zc
      have HBl' : Hid (Below w4.heap.size w4 (wr.drewN nq)) := HBl.out.next (below_drewN13 _ _) (Nat.le_refl _)
      have d0' : (wr.drewN nq).cell? ⟨gg, i * 2, none⟩ = some (.int .i64 A) := d0
      have d1' : (wr.drewN nq).cell? ⟨gg, i * 2 + 1, none⟩ = some (.bool q) := d1
      have k1' : (wr.drewN nq).cell? ⟨w.heap.size, 1, none⟩ = some (.int .i64 f) := k1
      have k2' : (wr.drewN nq).cell? ⟨w.heap.size, 2, none⟩ = some (.int .i64 g) := k2
      clear d0 d1 k0 k1 k2
      generalize wr.drewN nq = W5 at *
      have ti1 := ti1.out
      have ti3 := ti3.out
      have ti4 := ti4.out
      have ti5 := ti5.out
      have ti6 := ti6.out
      have hlim := Hlim.out
      have hAA : (A == A) = true := beq_self_eq_true A
      generalize hG : g * t = G at *
      have HG : Hid (g * t = G) := hG
      rcases HCs.out with hc | hc
      · have hqt : q = true := by rw [HQ.out]; exact decide_eq_true hc
        subst hqt
        go_wp2
        go_roundg (gk - 1)
        case measure => have := HI.out; omega
        case rel =>
          have hN' := HN.out
          rw [if_pos hc, if_pos hc] at hN'
          exact ⟨i + 1, A, t + 1, A, by have := HI.out; omega, rfl, rfl, rfl, by go_num, hN', HBl'.out⟩
      · have hqt : q = false := by rw [HQ.out]; exact decide_eq_false hc
        subst hqt
        go_wp2
        go_roundg (gk - 1)
        case measure => have := HI.out; omega
        case rel =>
          have hN' := HN.out
          have hc' : ¬ (f + G ≤ A - l) := by omega
          rw [if_neg hc', if_neg hc'] at hN'
          exact ⟨i + 1, A, t, l, by have := HI.out; omega, rfl, rfl, rfl, by go_num, hN', HBl'.out⟩
    · have hiE : i = L.length := by omega
      have hdn := HS.out.done hiE
      rw [← hz] at hdn
      have hM4' : L.length < M4 := by omega
      have ti2 : wrap64 (k + b * z) = k + b * z := by unfold wrap64; omega
      have hwz : wrap64 (b * z) = b * z := by unfold wrap64; omega
      rw [hiE] at zc
      clear hc2a hc2b hc4a hc4b hM4 hM4b hLn hiL hti h1 h2 hN1 hkN hgt hyb hN hb2 hf2 hg2 hb1 hf1 hg1 ht0 hl0 hlk hi hbel hcell4 hri hz hcb hrt
      go_upto_region 27 with fail
      go_quiet (fail)
      go_wp2
      go_ret
      exact ⟨ret_bool13 (by simp [ti2]; try omega), (HD.out _ (HBl.out.next (below_drewN13 _ _) (Nat.le_refl _))).2.2.2⟩
end Go.Proofs.Ythcbpdnaocpleab.paceSpans

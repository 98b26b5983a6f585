import Derived.Test.YthplkllphpnaoabRows
import Derived.Test.YthplkllphpnaoabNum
import Derived.WalkKit
import Derived.ProofKit
import Derived.OpenShut
namespace Go.Proofs.Ythplkllphpnaoab.litsThere
open Go.ChangeShapes Go.WideShapes Go.ChangeAt Go.RowKit
set_option linter.unusedVariables false

theorem own : ownKnob Try.prog.godebug = none := by kernel_rfl

theorem walk_none (a0 a1 : Int) (hf : fmd a0 = false) (h0 : a0 = 0 ∨ a0 < -1048576 ∨ 1048576 < a0) (w : World) :
    Calls Try.prog 3 #[.int .i64 a0, .int .i64 a1] w fun e w' => e = .returned (.bool true) ∧ Grown w w' := by
  have hi : idx a0 = -1 := by simp [idx, hf]
  have hv : varOf a0 = 0 := by simp [varOf, hf]
  have ha : litAt 0 = 1 := by decide
  rcases h0 with h0 | h0 | h0
  · have hb : (a0 == 0) = true := by simp [h0]
    go_enter Try.func3, Try.ntmps3
    go_wp2_with (first | (go_at_call 9; refine (formed_any _ _).mono ?_; rintro e w' ⟨rfl, rfl⟩) | (go_at_call 11; refine (var_any _ _).mono ?_; rintro e w' ⟨rfl, rfl⟩) | (go_at_call 10; refine (index_any _ _).mono ?_; rintro e w' ⟨rfl, rfl⟩) | (go_at_call 12; refine (at_any _ _).mono ?_; rintro e w' ⟨rfl, rfl⟩))
    all_goals (go_ret; exact ⟨by simp, Grown.refl _⟩)
  · have hb : (a0 == 0) = false := by simp; omega
    go_enter Try.func3, Try.ntmps3
    go_wp2_with (first | (go_at_call 9; refine (formed_any _ _).mono ?_; rintro e w' ⟨rfl, rfl⟩) | (go_at_call 11; refine (var_any _ _).mono ?_; rintro e w' ⟨rfl, rfl⟩) | (go_at_call 10; refine (index_any _ _).mono ?_; rintro e w' ⟨rfl, rfl⟩) | (go_at_call 12; refine (at_any _ _).mono ?_; rintro e w' ⟨rfl, rfl⟩))
    all_goals (go_ret; exact ⟨by simp, Grown.refl _⟩)
  · have hb : (a0 == 0) = false := by simp; omega
    have hc : ¬ a0 < -1048576 := by omega
    go_enter Try.func3, Try.ntmps3
    go_wp2_with (first | (go_at_call 9; refine (formed_any _ _).mono ?_; rintro e w' ⟨rfl, rfl⟩) | (go_at_call 11; refine (var_any _ _).mono ?_; rintro e w' ⟨rfl, rfl⟩) | (go_at_call 10; refine (index_any _ _).mono ?_; rintro e w' ⟨rfl, rfl⟩) | (go_at_call 12; refine (at_any _ _).mono ?_; rintro e w' ⟨rfl, rfl⟩))
    all_goals (go_ret; exact ⟨by simp, Grown.refl _⟩)

theorem there_pos {l : Int} (hf : fmd l = true) (hs : 0 < l) : idx l = 2 * l - 2 ∧ varOf l = l := by
  constructor
  · simp [idx, hf]; omega
  · simp [varOf, hf]; omega
theorem there_neg {l : Int} (hf : fmd l = true) (hs : l < 0) : idx l = -2 * l - 1 ∧ varOf l = -l := by
  constructor
  · simp [idx, hf]; omega
  · simp [varOf, hf]; omega
theorem fmd_range {l : Int} (hf : fmd l = true) : l ≠ 0 ∧ -1048576 ≤ l ∧ l ≤ 1048576 := by simpa [fmd] using hf
theorem fmd_neg {l : Int} (hf : fmd l = true) : fmd (-l) = true := by
  have := fmd_range hf; exact fmd_true (by omega) (by omega) (by omega)
theorem litAt_idx {l : Int} (hf : fmd l = true) : litAt (idx l) = l := by
  have h := fmd_range hf
  by_cases hs : 0 < l
  · rw [(there_pos hf hs).1, litAt_even (by omega) (by omega) (by omega)]; omega
  · rw [(there_neg hf (by omega)).1, litAt_odd (by omega) (by omega) (by omega)]; omega
/-- what the law asks of a literal and its opposite -/
theorem there_facts {l : Int} (hf : fmd l = true) : 0 ≤ idx l ∧ idx l < 2097152 ∧ 0 ≤ idx (-l) ∧ idx (-l) < 2097152 ∧ idx (-l) / 2 = idx l / 2 ∧ (idx l == idx (-l)) = false ∧ varOf (-l) = varOf l ∧ 1 ≤ varOf l ∧ (0 < l → idx l < idx (-l)) ∧ (l < 0 → ¬ idx l < idx (-l)) := by
  have h := fmd_range hf
  have hg := fmd_neg hf
  by_cases hs : 0 < l
  · obtain ⟨e1, e2⟩ := there_pos hf hs
    obtain ⟨e3, e4⟩ := there_neg hg (by omega)
    rw [e1, e2, e3, e4]
    refine ⟨?_, ?_, ?_, ?_, ?_, ?_, ?_, ?_, ?_, ?_⟩ <;> first | omega | (simp; omega)
  · obtain ⟨e1, e2⟩ := there_neg hf (by omega)
    obtain ⟨e3, e4⟩ := there_pos hg (by omega)
    rw [e1, e2, e3, e4]
    refine ⟨?_, ?_, ?_, ?_, ?_, ?_, ?_, ?_, ?_, ?_⟩ <;> first | omega | (simp; omega)
/-- what it asks of two literals -/
theorem there_two {l m : Int} (hf : fmd l = true) (hm : fmd m = true) : (idx m == idx l) = (l == m) ∧ (idx m / 2 == idx l / 2) = (varOf l == varOf m) ∧ decide (idx m / 2 < idx l / 2) = decide (varOf m < varOf l) := by
  have h := fmd_range hf
  have h' := fmd_range hm
  have key : ∃ a b : Int, idx l = 2 * varOf l - 2 + a ∧ idx m = 2 * varOf m - 2 + b ∧ 0 ≤ a ∧ a ≤ 1 ∧ 0 ≤ b ∧ b ≤ 1 ∧ (a = 0 → l = varOf l) ∧ (a = 1 → l = -varOf l) ∧ (b = 0 → m = varOf m) ∧ (b = 1 → m = -varOf m) ∧ 1 ≤ varOf l ∧ 1 ≤ varOf m := by
    by_cases hs : 0 < l <;> by_cases hn : 0 < m
    · obtain ⟨e1, e2⟩ := there_pos hf hs; obtain ⟨e3, e4⟩ := there_pos hm hn
      exact ⟨0, 0, by omega, by omega, by omega, by omega, by omega, by omega, by omega, by omega, by omega, by omega, by omega, by omega⟩
    · obtain ⟨e1, e2⟩ := there_pos hf hs; obtain ⟨e3, e4⟩ := there_neg hm (by omega)
      exact ⟨0, 1, by omega, by omega, by omega, by omega, by omega, by omega, by omega, by omega, by omega, by omega, by omega, by omega⟩
    · obtain ⟨e1, e2⟩ := there_neg hf (by omega); obtain ⟨e3, e4⟩ := there_pos hm hn
      exact ⟨1, 0, by omega, by omega, by omega, by omega, by omega, by omega, by omega, by omega, by omega, by omega, by omega, by omega⟩
    · obtain ⟨e1, e2⟩ := there_neg hf (by omega); obtain ⟨e3, e4⟩ := there_neg hm (by omega)
      exact ⟨1, 1, by omega, by omega, by omega, by omega, by omega, by omega, by omega, by omega, by omega, by omega, by omega, by omega⟩
  obtain ⟨a, b, e1, e2, a0, a1, b0, b1, l0, l1, m0, m1, v1, v2⟩ := key
  refine ⟨?_, ?_, ?_⟩
  · rw [Bool.eq_iff_iff]; simp only [beq_iff_eq]
    rcases (by omega : a = 0 ∨ a = 1) with ha | ha <;> rcases (by omega : b = 0 ∨ b = 1) with hb | hb <;> (first | have q1 := l0 ha | have q1 := l1 ha) <;> (first | have q2 := m0 hb | have q2 := m1 hb) <;> omega
  · rw [Bool.eq_iff_iff]; simp only [beq_iff_eq]; omega
  · rw [Bool.eq_iff_iff]; simp only [decide_eq_true_eq]; omega

set_option maxHeartbeats 1600000 in
theorem walk_formed (a0 a1 : Int) (hf : fmd a0 = true) (h0 : a0 ≠ 0) (h1 : -1048576 ≤ a0) (h2 : a0 ≤ 1048576) (w : World) :
    Calls Try.prog 3 #[.int .i64 a0, .int .i64 a1] w fun e w' => e = .returned (.bool true) ∧ Grown w w' := by
  have hg := fmd_neg hf
  have hl := litAt_idx hf
  have hl' := litAt_idx hg
  obtain ⟨f1, f2, f3, f4, f5, f6, f7, f8, f9, f10⟩ := there_facts hf
  have hz : (a0 == 0) = false := by simp; omega
  rcases fmd_cases a1 with ⟨hm, m0, m1, m2⟩ | ⟨hm, m0⟩
  · obtain ⟨t1, t2, t3⟩ := there_two hf hm
    obtain ⟨g1, g2, -⟩ := there_facts hm
    by_cases hs : 0 < a0
    · have f9' := f9 hs
      clear f9 f10 h0 m0 m1 m2
      go_enter Try.func3, Try.ntmps3
      go_wp2_with (first | (go_at_call 9; refine (formed_any _ _).mono ?_; rintro e w' ⟨rfl, rfl⟩) | (go_at_call 11; refine (var_any _ _).mono ?_; rintro e w' ⟨rfl, rfl⟩) | (go_at_call 10; refine (index_any _ _).mono ?_; rintro e w' ⟨rfl, rfl⟩) | (go_at_call 12; refine (at_any _ _).mono ?_; rintro e w' ⟨rfl, rfl⟩))
      all_goals (go_ret; exact ⟨by simp, Grown.refl _⟩)
    · have f10' := f10 (by omega)
      have d1 : decide (idx a0 < idx (-a0)) = false := decide_eq_false f10'
      have d2 : decide (0 < a0) = false := decide_eq_false hs
      clear f9 f10 h0 m0 m1 m2
      go_enter Try.func3, Try.ntmps3
      go_wp2_with (first | (go_at_call 9; refine (formed_any _ _).mono ?_; rintro e w' ⟨rfl, rfl⟩) | (go_at_call 11; refine (var_any _ _).mono ?_; rintro e w' ⟨rfl, rfl⟩) | (go_at_call 10; refine (index_any _ _).mono ?_; rintro e w' ⟨rfl, rfl⟩) | (go_at_call 12; refine (at_any _ _).mono ?_; rintro e w' ⟨rfl, rfl⟩))
      all_goals (go_ret; exact ⟨by simp, Grown.refl _⟩)
  · have hk : idx a1 = -1 := by simp [idx, hm]
    clear m0
    by_cases hs : 0 < a0
    · have f9' := f9 hs
      clear f9 f10 h0
      go_enter Try.func3, Try.ntmps3
      go_wp2_with (first | (go_at_call 9; refine (formed_any _ _).mono ?_; rintro e w' ⟨rfl, rfl⟩) | (go_at_call 11; refine (var_any _ _).mono ?_; rintro e w' ⟨rfl, rfl⟩) | (go_at_call 10; refine (index_any _ _).mono ?_; rintro e w' ⟨rfl, rfl⟩) | (go_at_call 12; refine (at_any _ _).mono ?_; rintro e w' ⟨rfl, rfl⟩))
      all_goals (go_ret; exact ⟨by simp, Grown.refl _⟩)
    · have f10' := f10 (by omega)
      have d1 : decide (idx a0 < idx (-a0)) = false := decide_eq_false f10'
      have d2 : decide (0 < a0) = false := decide_eq_false hs
      clear f9 f10 h0
      go_enter Try.func3, Try.ntmps3
      go_wp2_with (first | (go_at_call 9; refine (formed_any _ _).mono ?_; rintro e w' ⟨rfl, rfl⟩) | (go_at_call 11; refine (var_any _ _).mono ?_; rintro e w' ⟨rfl, rfl⟩) | (go_at_call 10; refine (index_any _ _).mono ?_; rintro e w' ⟨rfl, rfl⟩) | (go_at_call 12; refine (at_any _ _).mono ?_; rintro e w' ⟨rfl, rfl⟩))
      all_goals (go_ret; exact ⟨by simp, Grown.refl _⟩)

theorem walk (a0 : Int) (a1 : Int) (w0 : (Lit.int .i64 a0).wf = true) (w1 : (Lit.int .i64 a1).wf = true) (w : World) :
    Calls Try.prog 3 #[.int .i64 a0, .int .i64 a1] w fun e w' => e = .returned (.bool true) ∧ Grown w w' := by
  rcases fmd_cases a0 with ⟨hf, h0, h1, h2⟩ | ⟨hf, h0⟩
  · exact walk_formed a0 a1 hf h0 h1 h2 w
  · exact walk_none a0 a1 hf h0 w

set_option maxRecDepth 100000 in
theorem lifted (os : Os) (started : os.Started) (H : Type) (enc : TypeId × Value → H) :
    ReturnsInHanded {} Try.checked os 3 .any (Rows.litsThereSpec.pre6 enc Try.prog Try.f3 Rows.litsThereRow.domain false) (Rows.litsThereSpec.post enc Try.prog Try.f3 false true false false) := by
  refine returnsInHanded_of_change (C := Try.checked) own started (by kernel_rfl) Try.func3
    (ChangeSpec.witness6 (enc := enc) (C := Try.checked) false ⟨#[], #[.int .i64 0, .int .i64 0], []⟩ 8 (by kernel_rfl) (by kernel_rfl) (by kernel_rfl) (by kernel_rfl)) ?_
  intro W base args ds gs before hval0 hW hcnd _
  have hval : ∀ (j : Nat) t v, Try.f3.params[j]? = some t → args[j]? = some v → Value.okWide Try.prog W .any base t v := hval0
  have hW' := hW
  obtain ⟨p, q, hA0, hV, rfl, hfz, hnd⟩ := hW
  have hA : DataW.TrodAll enc Try.prog W 0 (fun _ => true) true Try.f3.params.toList args.toList ds p := hA0
  rw [Try.params3] at hA hval
  obtain ⟨v0, vs0, d0, ds0, p0, q0, hargs, rfl, rfl, h0, r0⟩ := trodAll_cons hA
  obtain ⟨v1, vs1, d1, ds1, p1, q1, rfl, rfl, rfl, h1, r1⟩ := trodAll_cons r0
  obtain ⟨rfl, rfl, rfl⟩ := trodAll_nil r1
  obtain rfl : args = #[v0, v1] := by cases args; simp_all
  obtain ⟨rfl, rfl⟩ := trodVars_none hV
  obtain ⟨a0, rfl, rfl, rfl, w0⟩ := open_int Try.underlying3 (hval 0 3 v0 rfl rfl) h0
  obtain ⟨a1, rfl, rfl, rfl, w1⟩ := open_int Try.underlying3 (hval 1 3 v1 rfl rfl) h1
  clear hA0 hval0
  simp only [List.append_nil] at hW'
  refine (walk a0 a1 w0 w1 W).mono fun e W' ⟨he, hg⟩ => ?_
  subst he
  exact ⟨_, rfl, post_of_same (pa := []) (pv := []) hW' (fun _ _ _ => (trodAll_cons_mk (shut_bool Try.underlying4 _) trodAll_mk0)) (fun sp _ => (trodAll_cons_mk (shut_int Try.underlying3 w0) (trodAll_cons_mk (shut_int Try.underlying3 w1) trodAll_mk0))) (fun _ _ => rfl) rfl
    (hg.frame _) hg.2.1 (ok_one (by kernel_rfl) rfl (okWide_bool_mk Try.underlying4 _))⟩

theorem over : Rows.litsThereRow.holds Try.pinned (OpenSpec.ofChange Rows.litsThereSpec) :=
  OpenClaim.holds_of_wide 3 Try.f3 rfl rfl rfl rfl rfl rfl rfl ⟨rfl, rfl, rfl, rfl, rfl⟩ rfl rfl rfl rfl rfl (by kernel_rfl) Try.func3 (by kernel_rfl)
    (of_decide_eq_true (by kernel_rfl)) (by unfold Func.isWrapper; first | (rw [if_pos (by decide +kernel)]; kernel_rfl) | (rw [if_neg (by decide +kernel)]; exact ⟨rfl, rfl⟩))
    (fun os started H enc _ => lifted os started H enc)

theorem proved : Rows.LitsThereSaid :=
  over
end Go.Proofs.Ythplkllphpnaoab.litsThere

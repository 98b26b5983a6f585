/-
  The document's Resolve, walked.
-/
import Derived.Test.YthplkllphpnaoabRefC
import Derived.Test.YthplkllphpnaoabRes
set_option linter.unusedSimpArgs false
set_option linter.unusedVariables false
namespace Go.Proofs.Ythplkllphpnaoab
open Go.RowKit

theorem resolve8 (a b : List Int) (v : Int) : (resolveOf a b v).2.length * 8 ≤ 140737488351232 := by
  unfold resolveOf
  split
  · split
    · exact tid8 _
    · simp
  · simp

theorem refResolve_any (va vb : Value) (a b : List Int) (v : Int) (w : World) (ha : Rd w va a) (hb : Rd w vb b) :
    Calls Try.prog 53 #[va, vb, .int .i64 v] w fun e w' => ∃ v', e = .returned (.tuple #[v', .int .i64 (resolveOf a b v).1]) ∧ Own w.heap.size w' v' (resolveOf a b v).2 ∧ Below w.heap.size w w' := by
  cases hfa : a.all fmd
  · rw [resolveOf_shape (by rw [hfa]; rfl)]
    go_enter Try.func53, Try.ntmps53
    go_wp2_with fail
    refine (refSound_any va a w ha).mono ?_
    rintro e wx ⟨rfl, hwx⟩
    rw [hwx, hfa]
    clear hwx wx
    go_wp2
    go_ret2
    exact ⟨_, rfl, World.ownsRow_nil _ _ _ _, Below.refl _ _⟩
  cases hfb : b.all fmd
  · rw [resolveOf_shape (by rw [hfb]; simp)]
    go_enter Try.func53, Try.ntmps53
    go_wp2_with fail
    refine (refSound_any va a w ha).mono ?_
    rintro e wx ⟨rfl, hwx⟩
    rw [hwx, hfa]
    clear hwx wx
    go_wp2_with fail
    refine (refSound_any vb b w hb).mono ?_
    rintro e wx ⟨rfl, hwx⟩
    rw [hwx, hfb]
    clear hwx wx
    go_wp2
    go_ret2
    exact ⟨_, rfl, World.ownsRow_nil _ _ _ _, Below.refl _ _⟩
  by_cases hv : 1 ≤ v ∧ v ≤ 1048576
  · obtain ⟨hv1, hv2⟩ := hv
    have hd1 : decide (v < 1) = false := decide_eq_false (by omega)
    have hd2 : decide (1048576 < v) = false := decide_eq_false (by omega)
    have f1 : fmd v = true := fmd_true (by omega) (by omega) (by omega)
    have f2 : fmd (-v) = true := fmd_neg f1
    have er : resolveOf a b v = if a.contains v && b.contains (-v) then (0, tid (wout (tid a) v ++ wout (tid b) (-v))) else (10, []) := by
      unfold resolveOf; rw [hfa, hfb, decide_eq_true (show 1 ≤ v ∧ v ≤ 1048576 from ⟨hv1, hv2⟩)]; rfl
    have HA : Hid (Calls Try.prog 36 #[va, .int .i64 v] w fun e w' => e = .returned (.bool (a.contains v)) ∧ w' = w) := by
      have := refHas_any va a v w ha
      rw [f1, Bool.true_and] at this
      exact this
    have HB : Hid (Calls Try.prog 36 #[vb, .int .i64 (-v)] w fun e w' => e = .returned (.bool (b.contains (-v))) ∧ w' = w) := by
      have := refHas_any vb b (-v) w hb
      rw [f2, Bool.true_and] at this
      exact this
    cases hca : a.contains v
    · rw [hca] at er HA
      have er2 : resolveOf a b v = (10, []) := by rw [er]; rfl
      rw [er2]
      clear er er2
      go_enter Try.func53, Try.ntmps53
      go_wp2_with fail
      refine (refSound_any va a w ha).mono ?_
      rintro e wx ⟨rfl, hwx⟩
      rw [hwx, hfa]
      clear hwx wx
      go_wp2_with fail
      refine (refSound_any vb b w hb).mono ?_
      rintro e wx ⟨rfl, hwx⟩
      rw [hwx, hfb]
      clear hwx wx
      go_wp2_with fail
      refine HA.out.mono ?_
      rintro e wx ⟨rfl, hwx⟩
      rw [hwx]
      clear hwx wx
      go_wp2
      go_ret2
      exact ⟨_, rfl, World.ownsRow_nil _ _ _ _, Below.refl _ _⟩
    cases hcb : b.contains (-v)
    · rw [hca, hcb] at er
      rw [hca] at HA
      rw [hcb] at HB
      have er2 : resolveOf a b v = (10, []) := by rw [er]; rfl
      rw [er2]
      clear er er2
      go_enter Try.func53, Try.ntmps53
      go_wp2_with fail
      refine (refSound_any va a w ha).mono ?_
      rintro e wx ⟨rfl, hwx⟩
      rw [hwx, hfa]
      clear hwx wx
      go_wp2_with fail
      refine (refSound_any vb b w hb).mono ?_
      rintro e wx ⟨rfl, hwx⟩
      rw [hwx, hfb]
      clear hwx wx
      go_wp2_with fail
      refine HA.out.mono ?_
      rintro e wx ⟨rfl, hwx⟩
      rw [hwx]
      clear hwx wx
      go_wp2_with fail
      refine HB.out.mono ?_
      rintro e wx ⟨rfl, hwx⟩
      rw [hwx]
      clear hwx wx
      go_wp2
      go_ret2
      exact ⟨_, rfl, World.ownsRow_nil _ _ _ _, Below.refl _ _⟩
    · rw [hca, hcb] at er
      rw [hca] at HA
      rw [hcb] at HB
      have er2 : resolveOf a b v = (0, tid (wout (tid a) v ++ wout (tid b) (-v))) := by rw [er]; rfl
      rw [er2]
      clear er er2
      go_enter Try.func53, Try.ntmps53
      go_wp2_with fail
      refine (refSound_any va a w ha).mono ?_
      rintro e wx ⟨rfl, hwx⟩
      rw [hwx, hfa]
      clear hwx wx
      go_wp2_with fail
      refine (refSound_any vb b w hb).mono ?_
      rintro e wx ⟨rfl, hwx⟩
      rw [hwx, hfb]
      clear hwx wx
      go_wp2_with fail
      refine HA.out.mono ?_
      rintro e wx ⟨rfl, hwx⟩
      rw [hwx]
      clear hwx wx
      go_wp2_with fail
      refine HB.out.mono ?_
      rintro e wx ⟨rfl, hwx⟩
      rw [hwx]
      clear hwx wx
      go_wp2_with fail
      refine (refWithout_any va a v w ha).mono ?_
      rintro e w1 ⟨v1, rfl, own1, bel1⟩
      go_wp2_with fail
      refine (refWithout_any vb b (-v) w1 (hb.below bel1)).mono ?_
      rintro e w2 ⟨v2, rfl, own2, bel2⟩
      go_wp2_with fail
      refine (refJoin_any v1 v2 (wout (tid a) v) (wout (tid b) (-v)) w2 ((own1.rd (by have := wout_len (tid a) v; have := tid_len a; omega)).below bel2) (own2.rd (by have := wout_len (tid b) (-v); have := tid_len b; omega))).mono ?_
      rintro e w3 ⟨v3, rfl, own3, bel3⟩
      go_wp2
      go_ret2
      exact ⟨_, rfl, own3.mono (Below.step bel1 bel2).size, Below.step (Below.step bel1 bel2) bel3⟩
  · rw [resolveOf_shape (by rw [hfa, hfb]; simp only [Bool.true_and]; exact decide_eq_false hv)]
    have hv' : v < 1 ∨ 1048576 < v := by omega
    rcases hv' with hv' | hv'
    · go_enter Try.func53, Try.ntmps53
      go_wp2_with fail
      refine (refSound_any va a w ha).mono ?_
      rintro e wx ⟨rfl, hwx⟩
      rw [hwx, hfa]
      clear hwx wx
      go_wp2_with fail
      refine (refSound_any vb b w hb).mono ?_
      rintro e wx ⟨rfl, hwx⟩
      rw [hwx, hfb]
      clear hwx wx
      go_wp2
      go_ret2
      exact ⟨_, rfl, World.ownsRow_nil _ _ _ _, Below.refl _ _⟩
    · have hd1 : decide (v < 1) = false := decide_eq_false (by omega)
      go_enter Try.func53, Try.ntmps53
      go_wp2_with fail
      refine (refSound_any va a w ha).mono ?_
      rintro e wx ⟨rfl, hwx⟩
      rw [hwx, hfa]
      clear hwx wx
      go_wp2_with fail
      refine (refSound_any vb b w hb).mono ?_
      rintro e wx ⟨rfl, hwx⟩
      rw [hwx, hfb]
      clear hwx wx
      go_wp2
      go_ret2
      exact ⟨_, rfl, World.ownsRow_nil _ _ _ _, Below.refl _ _⟩

end Go.Proofs.Ythplkllphpnaoab

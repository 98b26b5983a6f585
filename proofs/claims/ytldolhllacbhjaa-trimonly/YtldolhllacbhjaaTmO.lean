/-
  trim: Only; the document's Only and Rising.
  KEEP: len below nil form rd mono one more grown lt size cell some none of ofNat add out step row get at drop on app start bx ans own box bel rds
-/
import Derived.Test.YtldolhllacbhjaaFormAns
import Derived.Test.YtldolhllacbhjaaCopy
import Derived.Test.YtldolhllacbhjaaConcat
import Derived.Handy
import Derived.Deep.RegionWith
import Derived.Deep.QuietTactic
import Derived.Deep.RegionHeld
import Derived.Deep.CutRange
set_option linter.unusedSimpArgs false
set_option linter.unusedVariables false
namespace Go.Proofs.Ytldolhllacbhjaa
open Go Go.RowKit
/-- numbers that rise, above the last one and below n -/
def risF (n : Int) : Int → List Int → Bool
  | _, [] => true
  | last, x :: r => decide (last < x ∧ x < n) && risF n x r
def pikF (css : List (List Int)) (core : List Int) : List (List Int) := core.map fun i => css.getD i.toNat []
def onlF (v : Int) (css : List (List Int)) (core : List Int) : Int × List (List Int) × Int :=
  if frm v css then (if risF css.length (-1) core then (v, pikF css core, 0) else (0, [], 2)) else (0, [], 1)
theorem pik_more (css : List (List Int)) (core : List Int) (k : Nat) (h : k < core.length) : pikF css (core.take (k + 1)) = pikF css (core.take k) ++ [css.getD (core.getD k 0).toNat []] := by
  unfold pikF
  rw [take_succ_getD core 0 k h, List.map_append]; rfl
theorem ris_at (n last : Int) (core : List Int) (k : Nat) (h : k < core.length) : risF n last (core.drop k) = (decide (last < core.getD k 0 ∧ core.getD k 0 < n) && risF n (core.getD k 0) (core.drop (k + 1))) := by
  have e : core.drop k = core.getD k 0 :: core.drop (k + 1) := by
    rw [List.drop_eq_getElem_cons h]; simp [List.getD_eq_getElem?_getD, h]
  rw [e, risF]
/-- what stands ahead of a place -/
def lstF (core : List Int) : Nat → Int
  | 0 => -1
  | k + 1 => core.getD k 0

set_option maxHeartbeats 1600000 in
set_option maxRecDepth 100000 in
theorem rising_any (vc : Value) (core : List Int) (n : Int) (w : World) (hr : Rd w vc core) :
    Calls Try.prog 18 #[vc, .int .i64 n] w fun e w' => e = .returned (.bool (risF n (-1) core)) ∧ Below w.heap.size w w' := by
  have hl := hr.len
  have HR : Hid (Rd w vc core) := hr
  obtain ⟨a, c, rfl, hc, hm, hcell⟩ := hr.form
  have HC : Hid (∀ k, k < core.length → ∃ b off, a = some ⟨b, off, none⟩ ∧ b < w.heap.size ∧ w.cell? ⟨b, off + k, none⟩ = some (.int .i64 (core.getD k 0))) := fun k hk => by
    obtain ⟨b, off, e, h⟩ := hcell k hk
    exact ⟨b, off, e, World.block_lt_of_cell? w _ h, h⟩
  clear hr hcell
  go_enter Try.func18, Try.ntmps18
  go_wp2
  go_loopg [5] core.length (fun g i wr => ∃ k : Nat, k + g = core.length ∧ i = .int .i64 k ∧ Hid (risF n (-1) core = risF n (lstF core k) (core.drop k)) ∧ (0 < k → 0 ≤ lstF core k) ∧ Below w.heap.size w wr)
  case atStart => exact ⟨0, by omega, rfl, by rw [List.drop_zero]; exact Lib.hid rfl, fun h => absurd h (by omega), Below.refl _ _⟩
  case round =>
    obtain ⟨k, hk, rfl, HS, hpos, bel⟩ := hrel
    have HK : Hid (k + gk = core.length) := hk
    by_cases hlt : k < core.length
    · obtain ⟨b, off, rfl, hb, h0⟩ := HC.out k hlt
      have k0 := (bel.cell (p := ⟨b, off + k, none⟩) hb).trans h0
      have HR2 : Hid (risF n (lstF core k) (core.drop k) = (decide (lstF core k < core.getD k 0 ∧ core.getD k 0 < n) && risF n (core.getD k 0) (core.drop (k + 1)))) := ris_at n _ core k hlt
      have HL : Hid (lstF core (k + 1) = core.getD k 0) := rfl
      generalize hx : core.getD k 0 = x at *
      by_cases h1 : x < 0
      · have HE : Hid (risF n (-1) core = false) := by
          show _ = _
          rw [HS.out, HR2.out, decide_eq_false (fun q => ?_), Bool.false_and]
          rcases Nat.eq_zero_or_pos k with e | e
          · subst e; have := q.1; rw [show lstF core 0 = -1 from rfl] at this; omega
          · have := hpos e; have := q.1; omega
        clear hk hpos
        go_upto_region 4 with fail
        go_quiet (fail)
        go_wp2_with fail
        go_ret
        exact ⟨ret_bool HE.out.symm, Below.step bel (below_drewN _ _)⟩
      · by_cases h2 : n ≤ x
        · have HE : Hid (risF n (-1) core = false) := by
            show _ = _
            rw [HS.out, HR2.out, decide_eq_false (fun q => by have := q.2; omega), Bool.false_and]
          clear hk hpos
          go_upto_region 4 with fail
          go_quiet (fail)
          go_wp2_with fail
          go_ret
          exact ⟨ret_bool HE.out.symm, Below.step bel (below_drewN _ _)⟩
        · rcases Nat.eq_zero_or_pos k with e | e
          · have HE : Hid (risF n (-1) core = risF n (lstF core (k + 1)) (core.drop (k + 1))) := by
              show _ = _
              have hl0 : lstF core k = -1 := by rw [e]; rfl
              rw [HS.out, HR2.out, HL.out, decide_eq_true (by rw [hl0]; omega), Bool.true_and]
            have hkz : ¬ ((0 : Int) < (k : Int)) := by omega
            have hkz2 : ¬ (0 < k) := by omega
            clear hk hpos e
            go_upto_region 4 with fail
            go_quiet (fail)
            go_wp2_with fail
            go_roundg (gk - 1)
            case measure => have := HK.out; omega
            case rel => exact ⟨k + 1, by have := HK.out; omega, by go_num, HE, fun _ => by rw [HL.out]; omega, Below.step bel (below_drewN _ _)⟩
          · obtain ⟨m, rfl⟩ : ∃ m, k = m + 1 := ⟨k - 1, by omega⟩
            obtain ⟨b', off', e', hb', h0'⟩ := HC.out m (by omega)
            injection e' with e'
            injection e' with q1 q2
            subst q1; subst q2
            have k1 := (bel.cell (p := ⟨b, off + m, none⟩) hb').trans h0'
            have hlm : lstF core (m + 1) = core.getD m 0 := rfl
            rw [hlm] at HS HR2 hpos
            have hp := hpos (by omega)
            generalize core.getD m 0 = y at *
            have hm1 : ((m + 1 : Nat) : Int) - 1 = (m : Int) := by omega
            by_cases h3 : x ≤ y
            · have HE : Hid (risF n (-1) core = false) := by
                show _ = _
                rw [HS.out, HR2.out, decide_eq_false (fun q => by have := q.1; omega), Bool.false_and]
              clear hk hpos hlm
              go_upto_region 4 with fail
              go_quiet (fail)
              go_wp2_with fail
              go_ret
              exact ⟨ret_bool HE.out.symm, Below.step bel (below_drewN _ _)⟩
            · have HE : Hid (risF n (-1) core = risF n (lstF core (m + 1 + 1)) (core.drop (m + 1 + 1))) := by
                show _ = _
                rw [HS.out, HR2.out, HL.out, decide_eq_true (by omega), Bool.true_and]
              clear hk hpos hlm
              go_upto_region 4 with fail
              go_quiet (fail)
              go_wp2_with fail
              go_roundg (gk - 1)
              case measure => have := HK.out; omega
              case rel => exact ⟨m + 1 + 1, by have := HK.out; omega, by go_num, HE, fun _ => by rw [HL.out]; omega, Below.step bel (below_drewN _ _)⟩
    · obtain rfl : k = core.length := by omega
      have HE : Hid (risF n (-1) core = true) := by show _ = _; rw [HS.out, List.drop_length]; rfl
      clear hk
      go_wp2
      go_ret
      exact ⟨ret_bool HE.out.symm, bel⟩
end Go.Proofs.Ytldolhllacbhjaa

/-
  The program's reader of relations: what a byte is; its box; kindOf, slices.Index, slices.Contains of kinds, walked.
  KEEP: off c0 c1 c2 c3 c4 s0 s1 s2 s3 s4 newS rds lt f t q x len below nil form rd mono on app start at new trans refl kept own row out grown rdz set one more lt size cell some none letL tail next step go add put del get look no yes e c f b k n m box
-/
import Derived.Test.YtmfcaoacklbkoaaDoorRlE
import Derived.Test.YtmfcaoacklbkoaaDoorNum
import Derived.Deep.LoopGhost
import Derived.BigQuiet
import Derived.BigCall
import Derived.BigGuard
import Derived.Lib.Hide
import Derived.Handy
import Derived.WalkKit
import Derived.Deep.QuietTactic
import Derived.Deep.CutRange
import Derived.Deep.RegionHeld
set_option linter.unusedSimpArgs false
set_option linter.unusedVariables false
namespace Go.Proofs.YtmfcaoacklbkoaaDoor
open Go Go.RowKit

/-- what a piece may be that begins with the byte -/
def kdZ (z : Int) : Int :=
  if z = 32 then 1 else if z = 9 then 1 else if z = 10 then 1 else if z = 60 then 3 else if z = 61 then 3 else if z = 62 then 3 else if z = 40 then 4 else if z = 41 then 5 else if z = 124 then 6 else if z = 44 then 7 else 2
def ixF : Nat → List Int → Int → Int
  | _, [], _ => -1
  | i, a :: r, k => if k = a then (i : Int) else ixF (i + 1) r k
/-- is it one of these kinds -/
def inK (ks : List Int) (z : Int) : Bool := decide (ixF 0 ks (kdZ z) ≥ 0)
theorem kd_gap (z : Int) : inK [1] z = gapZ z := by
  unfold inK ixF ixF kdZ gapZ
  repeat' split
  all_goals first | (subst_vars; rfl) | (simp <;> omega)
theorem kd_sgn (z : Int) : inK [3] z = sgnZ z := by
  unfold inK ixF ixF kdZ sgnZ
  repeat' split
  all_goals first | (subst_vars; rfl) | (simp <;> omega)
theorem kd_wrd (z : Int) : inK [2, 3] z = wrdZ z := by
  unfold inK ixF ixF ixF kdZ wrdZ gapZ
  repeat' split
  all_goals first | (subst_vars; rfl) | (simp <;> omega)
/-- what the next piece may be, where it begins at a place -/
def lkF (s : ByteArray) (a : Nat) : Int := if h : a < s.size then kdZ ((s[a]'h).toNat : Int) else 0
theorem lk_in {s : ByteArray} {a : Nat} (h : a < s.size) : lkF s a = kdZ ((s[a]'h).toNat : Int) := dif_pos h
theorem lk_out {s : ByteArray} {a : Nat} (h : ¬ a < s.size) : lkF s a = 0 := dif_neg h
theorem kd_ne0 (z : Int) : kdZ z ≠ 0 := fun e => by
  unfold kdZ at e
  repeat' split at e
  all_goals omega
theorem kd_4 (z : Int) : kdZ z = 4 ↔ z = 40 := by unfold kdZ; repeat' split; all_goals omega
theorem kd_5 (z : Int) : kdZ z = 5 ↔ z = 41 := by unfold kdZ; repeat' split; all_goals omega
theorem kd_6 (z : Int) : kdZ z = 6 ↔ z = 124 := by unfold kdZ; repeat' split; all_goals omega
theorem kd_7 (z : Int) : kdZ z = 7 ↔ z = 44 := by unfold kdZ; repeat' split; all_goals omega
theorem lk_end {s : ByteArray} {a : Nat} : lkF s a = 0 ↔ s.size ≤ a := by
  by_cases h : a < s.size
  · rw [lk_in h]; exact ⟨fun e => absurd e (kd_ne0 _), fun e => by omega⟩
  · rw [lk_out h]; exact ⟨fun _ => by omega, fun _ => rfl⟩
theorem lk_at {s : ByteArray} {a : Nat} {K Z : Int} (hK : ∀ z, kdZ z = K ↔ z = Z) (h0 : K ≠ 0) (hZ : 0 ≤ Z) : lkF s a = K ↔ atB s a = Z := by
  by_cases h : a < s.size
  · rw [lk_in h, atB_in h]; exact hK _
  · rw [lk_out h, atB_out h]; exact ⟨fun e => absurd e.symm h0, fun e => by omega⟩

set_option maxHeartbeats 1600000 in
theorem kindOf22 (z : Int) (w : World) : Calls Tryd.prog 53 #[.int .u8 z] w fun e w' => e = .returned (.int .i64 (kdZ z)) ∧ w' = w := by
  obtain ⟨K, hK⟩ : ∃ K, K = kdZ z := ⟨_, rfl⟩
  have HP : Hid (K = if z = 32 then 1 else if z = 9 then 1 else if z = 10 then 1 else if z = 60 then 3 else if z = 61 then 3 else if z = 62 then 3 else if z = 40 then 4 else if z = 41 then 5 else if z = 124 then 6 else if z = 44 then 7 else 2) := hK
  rw [← hK]
  clear hK
  by_cases c : z = 32 ∨ z = 9 ∨ z = 10 ∨ z = 60 ∨ z = 61 ∨ z = 62 ∨ z = 40 ∨ z = 41 ∨ z = 124 ∨ z = 44
  · rcases c with rfl | rfl | rfl | rfl | rfl | rfl | rfl | rfl | rfl | rfl
    all_goals
      go_enter Tryd.func53, Tryd.ntmps53
      go_wp2
      go_ret
      exact ⟨by rw [HP.out]; rfl, rfl⟩
  · have d1 : (z == 32) = false := by simp; omega
    have d2 : (z == 9) = false := by simp; omega
    have d3 : (z == 10) = false := by simp; omega
    have d4 : (z == 60) = false := by simp; omega
    have d5 : (z == 61) = false := by simp; omega
    have d6 : (z == 62) = false := by simp; omega
    have d7 : (z == 40) = false := by simp; omega
    have d8 : (z == 41) = false := by simp; omega
    have d9 : (z == 124) = false := by simp; omega
    have d0 : (z == 44) = false := by simp; omega
    have HE : Hid (K = 2) := by
      show _ = _
      rw [HP.out]; repeat' split
      all_goals omega
    clear HP c
    go_enter Tryd.func53, Tryd.ntmps53
    go_wp2
    go_ret
    exact ⟨by rw [HE.out]; rfl, rfl⟩

set_option maxHeartbeats 1600000 in
theorem kIndex22 (ks : List Int) (k : Int) (b c : Nat) (w : World) (hl : ks.length ≤ 16) (hc : ks.length ≤ c) (hc2 : c ≤ 16) (hr : ∀ j, j < ks.length → w.cell? ⟨b, j, none⟩ = some (.int .i64 (ks.getD j 0))) :
    Calls Tryd.prog 69 #[.slice (some ⟨b, 0, none⟩) ks.length c, .int .i64 k] w fun e w' => e = .returned (.int .i64 (ixF 0 ks k)) ∧ w' = w := by
  obtain ⟨R, hR⟩ : ∃ R, R = ixF 0 ks k := ⟨_, rfl⟩
  rw [← hR]
  have HR : Hid (R = ixF 0 (ks.drop 0) k) := hR
  have HC : Hid (∀ j, j < ks.length → w.cell? ⟨b, j, none⟩ = some (.int .i64 (ks.getD j 0))) := hr
  have HD : Hid (∀ i, i < ks.length → ks.drop i = ks.getD i 0 :: ks.drop (i + 1)) := fun i hi => by
    rw [List.drop_eq_getElem_cons hi, List.getD_eq_getElem?_getD, List.getElem?_eq_getElem hi]; rfl
  have HN : Hid (ks.drop ks.length = []) := List.drop_length
  clear hR hr
  obtain ⟨n, hn⟩ : ∃ n, n = ks.length := ⟨_, rfl⟩
  rw [← hn] at HC HD HN hl hc ⊢
  clear hn
  go_enter Tryd.func69, Tryd.ntmps69
  go_wp2
  go_loopg [8] n (fun g i wr => ∃ j : Nat, j + g = n ∧ i = .int .i64 j ∧ Hid (R = ixF j (ks.drop j) k) ∧ w = wr)
  case atStart => exact ⟨0, by omega, rfl, HR.out, rfl⟩
  case round =>
    obtain ⟨j, hj, rfl, HK, hw⟩ := hrel
    subst hw
    have HG : Hid (j + gk = n) := hj
    clear HR
    by_cases hlt : j < n
    · have hcell := HC.out j hlt
      have HK2 : Hid (R = if k = ks.getD j 0 then (j : Int) else ixF (j + 1) (ks.drop (j + 1)) k) := by show _ = _; rw [HK.out, HD.out j hlt, ixF]
      clear HK hj HD HN
      generalize ks.getD j 0 = z at *
      by_cases hz : k = z
      · have hb : (k == z) = true := by simpa using hz
        have HE : Hid (R = j) := by show _ = _; rw [HK2.out, if_pos hz]
        clear HK2 hz
        go_wp2
        go_ret
        exact ⟨by rw [HE.out]; rfl, rfl⟩
      · have hb : (k == z) = false := by simpa using hz
        have HE : Hid (R = ixF (j + 1) (ks.drop (j + 1)) k) := by show _ = _; rw [HK2.out, if_neg hz]
        clear HK2 hz
        go_wp2
        go_roundg (gk - 1)
        case measure => have := HG.out; omega
        case rel => exact ⟨j + 1, by have := HG.out; omega, by first | rfl | go_num, HE.out, rfl⟩
    · have HE : Hid (R = -1) := by
        show _ = _
        have e : j = n := by omega
        rw [HK.out, e, HN.out, ixF]
      clear HK hj HD HN
      go_wp2
      go_ret
      exact ⟨by rw [HE.out]; rfl, rfl⟩
theorem kContains22 (ks : List Int) (k : Int) (b c : Nat) (w : World) (hl : ks.length ≤ 16) (hc : ks.length ≤ c) (hc2 : c ≤ 16) (hr : ∀ j, j < ks.length → w.cell? ⟨b, j, none⟩ = some (.int .i64 (ks.getD j 0))) :
    Calls Tryd.prog 64 #[.slice (some ⟨b, 0, none⟩) ks.length c, .int .i64 k] w fun e w' => e = .returned (.bool (decide (ixF 0 ks k ≥ 0))) ∧ w' = w := by
  have HI : Hid (Calls Tryd.prog 69 #[.slice (some ⟨b, 0, none⟩) ks.length c, .int .i64 k] w fun e w' => e = .returned (.int .i64 (ixF 0 ks k)) ∧ w' = w) := kIndex22 ks k b c w hl hc hc2 hr
  clear hr
  generalize ixF 0 ks k = x at *
  generalize ks.length = n at *
  go_enter Tryd.func64, Tryd.ntmps64
  go_wp2_with (go_at_call 69; refine HI.out.mono ?_; rintro e w9 ⟨rfl, h9⟩; have h9s := h9.symm; clear h9; subst h9s)
  go_ret
  exact ⟨ret_bool rfl, rfl⟩

end Go.Proofs.YtmfcaoacklbkoaaDoor

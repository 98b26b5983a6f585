/-
  The document's gap, behind, word, sign, Sign, Name of relations, walked.
  KEEP: len below nil form rd mono on app start at new trans refl kept own row out grown rdz set one more lt size cell some none letL tail next step go add put del get look no yes e c f b k n m box
-/
import Derived.Test.YtmanjignognplaaDoorRlP
import Derived.Test.YtmanjignognplaaDoorNum
import Derived.Test.YtmanjignognplaaDoorVsD
import Derived.Deep.LoopGhost
import Derived.BigQuiet
import Derived.BigCall
import Derived.BigGuard
import Derived.Lib.Hide
import Derived.Handy
import Derived.WalkKit
import Derived.Deep.QuietTactic
import Derived.Deep.CutRange
set_option linter.unusedSimpArgs false
set_option linter.unusedVariables false
namespace Go.Proofs.YtmanjignognplaaDoor
open Go Go.RowKit

set_option maxHeartbeats 800000 in
theorem rGap22_any (z : Int) (w : World) : Calls Tryd.prog 62 #[.int .u8 z] w fun e w' => e = .returned (.bool (gapZ z)) ∧ w' = w := by
  have HP : Hid (gapZ z = (z == 32 || z == 9 || z == 10)) := rfl
  cases h1 : (z == 32) <;> cases h2 : (z == 9) <;> cases h3 : (z == 10)
  all_goals
    go_enter Tryd.func62, Tryd.ntmps62
    go_wp2
    go_ret
    exact ⟨ret_bool (by rw [HP.out, h1, h2, h3]; rfl), rfl⟩

set_option maxHeartbeats 3200000 in
theorem rBehind22_any (s : ByteArray) (k0 : Nat) (w : World) (hs : s.size ≤ 281474976710656) (hk0 : k0 ≤ s.size) :
    Calls Tryd.prog 45 #[.string s, .int .i64 k0] w fun e w' => e = .returned (.int .i64 (runF gapZ s.data.toList k0)) ∧ w' = w := by
  obtain ⟨R, hR⟩ : ∃ R, R = runF gapZ s.data.toList k0 := ⟨_, rfl⟩
  rw [← hR]
  have HSz : Hid (s.data.toList.length = s.size) := size20 s
  have HR : Hid (R = runF gapZ s.data.toList k0) := hR
  clear hR
  go_enter Tryd.func45, Tryd.ntmps45
  go_wp2
  go_loopg [1] (s.size - k0) (fun g i wr => ∃ k : Nat, k + g = s.size ∧ i = .int .i64 k ∧ Hid (R = runF gapZ s.data.toList k) ∧ w = wr)
  case atStart => exact ⟨k0, by omega, rfl, HR.out, rfl⟩
  case round =>
    obtain ⟨k, hk, rfl, HK, hw⟩ := hrel
    subst hw
    have HG : Hid (k + gk = s.size) := hk
    clear HR hk0
    by_cases hlt : k < s.size
    · have HY : Hid (gapZ ((s[k]'hlt).toNat : Int) = true → R = runF gapZ s.data.toList (k + 1)) := fun h => by rw [HK.out]; exact runF_yes hlt h
      have HN : Hid (gapZ ((s[k]'hlt).toNat : Int) = false → R = k) := fun h => by rw [HK.out]; exact runF_no hlt h
      have HB : Hid (Calls Tryd.prog 62 #[.int .u8 (((s[k]'hlt).toNat : Nat) : Int)] w fun e w' => e = .returned (.bool (gapZ ((s[k]'hlt).toNat : Int))) ∧ w' = w) := rGap22_any _ w
      clear hk HK
      cases hb : gapZ ((s[k]'hlt).toNat : Int)
      · rw [hb] at HB
        have HE : Hid (R = k) := HN.out hb
        clear HY HN hb
        go_wp2_with (go_at_call 62; refine HB.out.mono ?_; rintro e w9 ⟨rfl, h9⟩; have h9s := h9.symm; clear h9; subst h9s)
        go_ret
        exact ⟨by rw [HE.out]; rfl, rfl⟩
      · rw [hb] at HB
        have HE : Hid (R = runF gapZ s.data.toList (k + 1)) := HY.out hb
        clear HY HN hb
        go_wp2_with (go_at_call 62; refine HB.out.mono ?_; rintro e w9 ⟨rfl, h9⟩; have h9s := h9.symm; clear h9; subst h9s)
        go_roundg (gk - 1)
        case measure => have := HG.out; omega
        case rel => exact ⟨k + 1, by have := HG.out; omega, by first | rfl | go_num, HE.out, rfl⟩
    · have HE : Hid (R = k) := by show _ = _; rw [HK.out]; exact runF_end _ _ _ (by rw [HSz.out]; omega)
      clear HK hk
      go_wp2
      go_ret
      exact ⟨by rw [HE.out]; rfl, rfl⟩

set_option maxHeartbeats 3200000 in
theorem rWord22_any (s : ByteArray) (k0 : Nat) (w : World) (hs : s.size ≤ 281474976710656) (hk0 : k0 ≤ s.size) :
    Calls Tryd.prog 63 #[.string s, .int .i64 k0] w fun e w' => e = .returned (.int .i64 (runF wrdZ s.data.toList k0)) ∧ w' = w := by
  obtain ⟨R, hR⟩ : ∃ R, R = runF wrdZ s.data.toList k0 := ⟨_, rfl⟩
  rw [← hR]
  have HSz : Hid (s.data.toList.length = s.size) := size20 s
  have HR : Hid (R = runF wrdZ s.data.toList k0) := hR
  clear hR
  go_enter Tryd.func63, Tryd.ntmps63
  go_wp2
  go_loopg [1] (s.size - k0) (fun g i wr => ∃ k : Nat, k + g = s.size ∧ i = .int .i64 k ∧ Hid (R = runF wrdZ s.data.toList k) ∧ w = wr)
  case atStart => exact ⟨k0, by omega, rfl, HR.out, rfl⟩
  case round =>
    obtain ⟨k, hk, rfl, HK, hw⟩ := hrel
    subst hw
    have HG : Hid (k + gk = s.size) := hk
    clear HR hk0
    by_cases hlt : k < s.size
    · have HY : Hid (wrdZ ((s[k]'hlt).toNat : Int) = true → R = runF wrdZ s.data.toList (k + 1)) := fun h => by rw [HK.out]; exact runF_yes hlt h
      have HN : Hid (wrdZ ((s[k]'hlt).toNat : Int) = false → R = k) := fun h => by rw [HK.out]; exact runF_no hlt h
      clear hk HK
      obtain ⟨z, hz⟩ : ∃ z : Int, z = (((s[k]'hlt).toNat : Nat) : Int) := ⟨_, rfl⟩
      have hzz : (((s[k]'hlt).toNat : Nat) : Int) = z := hz.symm
      rw [← hz] at HY HN
      clear hz
      have HB : Hid (Calls Tryd.prog 62 #[.int .u8 z] w fun e w' => e = .returned (.bool (gapZ z)) ∧ w' = w) := rGap22_any _ w
      have HU : Hid (wrdZ z = (!gapZ z && z != 44 && z != 124 && z != 40 && z != 41)) := rfl
      cases hb : gapZ z
      · rw [hb] at HB HU
        by_cases c1 : z = 44
        · subst c1
          have HE : Hid (R = k) := HN.out rfl
          clear HY HN HU hb
          go_wp2_with (go_at_call 62; refine HB.out.mono ?_; rintro e w9 ⟨rfl, h9⟩; have h9s := h9.symm; clear h9; subst h9s)
          go_ret
          exact ⟨by rw [HE.out]; rfl, rfl⟩
        by_cases c2 : z = 124
        · subst c2
          have HE : Hid (R = k) := HN.out rfl
          clear HY HN HU hb c1
          go_wp2_with (go_at_call 62; refine HB.out.mono ?_; rintro e w9 ⟨rfl, h9⟩; have h9s := h9.symm; clear h9; subst h9s)
          go_ret
          exact ⟨by rw [HE.out]; rfl, rfl⟩
        by_cases c3 : z = 40
        · subst c3
          have HE : Hid (R = k) := HN.out rfl
          clear HY HN HU hb c1 c2
          go_wp2_with (go_at_call 62; refine HB.out.mono ?_; rintro e w9 ⟨rfl, h9⟩; have h9s := h9.symm; clear h9; subst h9s)
          go_ret
          exact ⟨by rw [HE.out]; rfl, rfl⟩
        by_cases c4 : z = 41
        · subst c4
          have HE : Hid (R = k) := HN.out rfl
          clear HY HN HU hb c1 c2 c3
          go_wp2_with (go_at_call 62; refine HB.out.mono ?_; rintro e w9 ⟨rfl, h9⟩; have h9s := h9.symm; clear h9; subst h9s)
          go_ret
          exact ⟨by rw [HE.out]; rfl, rfl⟩
        have b1 : (z != 44) = true := by simpa using c1
        have b2 : (z != 124) = true := by simpa using c2
        have b3 : (z != 40) = true := by simpa using c3
        have b4 : (z != 41) = true := by simpa using c4
        have d1 : (z == 44) = false := by simpa using c1
        have d2 : (z == 124) = false := by simpa using c2
        have d3 : (z == 40) = false := by simpa using c3
        have d4 : (z == 41) = false := by simpa using c4
        have HE : Hid (R = runF wrdZ s.data.toList (k + 1)) := HY.out (by rw [HU.out, b1, b2, b3, b4]; rfl)
        clear HY HN HU hb c1 c2 c3 c4
        go_wp2_with (go_at_call 62; refine HB.out.mono ?_; rintro e w9 ⟨rfl, h9⟩; have h9s := h9.symm; clear h9; subst h9s)
        go_roundg (gk - 1)
        case measure => have := HG.out; omega
        case rel => exact ⟨k + 1, by have := HG.out; omega, by first | rfl | go_num, HE.out, rfl⟩
      · rw [hb] at HB HU
        have HE : Hid (R = k) := HN.out HU.out
        clear HY HN HU hb
        go_wp2_with (go_at_call 62; refine HB.out.mono ?_; rintro e w9 ⟨rfl, h9⟩; have h9s := h9.symm; clear h9; subst h9s)
        go_ret
        exact ⟨by rw [HE.out]; rfl, rfl⟩
    · have HE : Hid (R = k) := by show _ = _; rw [HK.out]; exact runF_end _ _ _ (by rw [HSz.out]; omega)
      clear HK hk
      go_wp2
      go_ret
      exact ⟨by rw [HE.out]; rfl, rfl⟩

set_option maxHeartbeats 3200000 in
theorem rSign22_any (s : ByteArray) (k0 : Nat) (w : World) (hs : s.size ≤ 281474976710656) (hk0 : k0 ≤ s.size) :
    Calls Tryd.prog 64 #[.string s, .int .i64 k0] w fun e w' => e = .returned (.int .i64 (runF sgnZ s.data.toList k0)) ∧ w' = w := by
  obtain ⟨R, hR⟩ : ∃ R, R = runF sgnZ s.data.toList k0 := ⟨_, rfl⟩
  rw [← hR]
  have HSz : Hid (s.data.toList.length = s.size) := size20 s
  have HR : Hid (R = runF sgnZ s.data.toList k0) := hR
  clear hR
  go_enter Tryd.func64, Tryd.ntmps64
  go_wp2
  go_loopg [1] (s.size - k0) (fun g i wr => ∃ k : Nat, k + g = s.size ∧ i = .int .i64 k ∧ Hid (R = runF sgnZ s.data.toList k) ∧ w = wr)
  case atStart => exact ⟨k0, by omega, rfl, HR.out, rfl⟩
  case round =>
    obtain ⟨k, hk, rfl, HK, hw⟩ := hrel
    subst hw
    have HG : Hid (k + gk = s.size) := hk
    clear HR hk0
    by_cases hlt : k < s.size
    · have HY : Hid (sgnZ ((s[k]'hlt).toNat : Int) = true → R = runF sgnZ s.data.toList (k + 1)) := fun h => by rw [HK.out]; exact runF_yes hlt h
      have HN : Hid (sgnZ ((s[k]'hlt).toNat : Int) = false → R = k) := fun h => by rw [HK.out]; exact runF_no hlt h
      clear hk HK
      obtain ⟨z, hz⟩ : ∃ z : Int, z = (((s[k]'hlt).toNat : Nat) : Int) := ⟨_, rfl⟩
      have hzz : (((s[k]'hlt).toNat : Nat) : Int) = z := hz.symm
      rw [← hz] at HY HN
      clear hz
      by_cases c1 : z = 60
      · subst c1
        have HE : Hid (R = runF sgnZ s.data.toList (k + 1)) := HY.out rfl
        clear HY HN
        go_wp2
        go_roundg (gk - 1)
        case measure => have := HG.out; omega
        case rel => exact ⟨k + 1, by have := HG.out; omega, by first | rfl | go_num, HE.out, rfl⟩
      by_cases c2 : z = 61
      · subst c2
        have HE : Hid (R = runF sgnZ s.data.toList (k + 1)) := HY.out rfl
        clear HY HN c1
        go_wp2
        go_roundg (gk - 1)
        case measure => have := HG.out; omega
        case rel => exact ⟨k + 1, by have := HG.out; omega, by first | rfl | go_num, HE.out, rfl⟩
      by_cases c3 : z = 62
      · subst c3
        have HE : Hid (R = runF sgnZ s.data.toList (k + 1)) := HY.out rfl
        clear HY HN c1 c2
        go_wp2
        go_roundg (gk - 1)
        case measure => have := HG.out; omega
        case rel => exact ⟨k + 1, by have := HG.out; omega, by first | rfl | go_num, HE.out, rfl⟩
      have d1 : (z == 60) = false := by simpa using c1
      have d2 : (z == 61) = false := by simpa using c2
      have d3 : (z == 62) = false := by simpa using c3
      have HE : Hid (R = k) := HN.out (by unfold sgnZ; rw [d1, d2, d3]; rfl)
      clear HY HN c1 c2 c3
      go_wp2
      go_ret
      exact ⟨by rw [HE.out]; rfl, rfl⟩
    · have HE : Hid (R = k) := by show _ = _; rw [HK.out]; exact runF_end _ _ _ (by rw [HSz.out]; omega)
      clear HK hk
      go_wp2
      go_ret
      exact ⟨by rw [HE.out]; rfl, rfl⟩

end Go.Proofs.YtmanjignognplaaDoor

/-
  The document's Sign, Name, Formed of relations, walked.
  KEEP: len below nil form rd mono on app start at new trans refl kept own row out grown rdz set one more lt size cell some none letL tail next step go add put del get look no yes e c f b k n m box
-/
import Derived.Test.YtmanjignognplaaDoorRlA
set_option linter.unusedSimpArgs false
set_option linter.unusedVariables false
namespace Go.Proofs.YtmanjignognplaaDoor
open Go Go.RowKit

set_option maxHeartbeats 1600000 in
theorem rSign22o_any (z : Int) (w : World) : Calls Tryd.prog 25 #[.int .i64 z] w fun e w' => e = .returned (.string (sgF z)) ∧ w' = w := by
  obtain ⟨R, hR⟩ : ∃ R, R = sgF z := ⟨_, rfl⟩
  rw [← hR]
  have HR : Hid (R = sgF z) := hR
  clear hR
  by_cases c1 : z = 1
  · subst c1
    go_enter Tryd.func25, Tryd.ntmps25
    go_wp2
    go_ret
    exact ⟨by rw [HR.out]; rfl, rfl⟩
  by_cases c2 : z = 2
  · subst c2
    go_enter Tryd.func25, Tryd.ntmps25
    go_wp2
    go_ret
    exact ⟨by rw [HR.out]; rfl, rfl⟩
  by_cases c3 : z = 3
  · subst c3
    go_enter Tryd.func25, Tryd.ntmps25
    go_wp2
    go_ret
    exact ⟨by rw [HR.out]; rfl, rfl⟩
  by_cases c4 : z = 4
  · subst c4
    go_enter Tryd.func25, Tryd.ntmps25
    go_wp2
    go_ret
    exact ⟨by rw [HR.out]; rfl, rfl⟩
  by_cases c5 : z = 5
  · subst c5
    go_enter Tryd.func25, Tryd.ntmps25
    go_wp2
    go_ret
    exact ⟨by rw [HR.out]; rfl, rfl⟩
  have HE : Hid (R = ⟨#[]⟩) := by show _ = _; rw [HR.out]; unfold sgF; rw [if_neg c1, if_neg c2, if_neg c3, if_neg c4, if_neg c5]
  have d1 : (z == 1) = false := by simpa using c1
  have d2 : (z == 2) = false := by simpa using c2
  have d3 : (z == 3) = false := by simpa using c3
  have d4 : (z == 4) = false := by simpa using c4
  have d5 : (z == 5) = false := by simpa using c5
  clear c1 c2 c3 c4 c5 HR
  go_enter Tryd.func25, Tryd.ntmps25
  go_wp2
  go_ret
  exact ⟨by rw [HE.out]; rfl, rfl⟩

theorem rn_step {s : ByteArray} {k : Nat} (h : k < s.size) : rnA k (s.data.toList.drop k) = ((pnZ (s[k]'h).toNat || (k != 0 && (((s[k]'h).toNat : Int) == 43 || ((s[k]'h).toNat : Int) == 45 || ((s[k]'h).toNat : Int) == 46))) && rnA (k + 1) (s.data.toList.drop (k + 1))) := by
  rw [drop20 h, rnA]
set_option maxHeartbeats 3200000 in
theorem rName22_any (s : ByteArray) (w : World) (hs : s.size ≤ 281474976710656) :
    Calls Tryd.prog 9 #[.string s] w fun e w' => e = .returned (.bool (rnmF s.data.toList)) ∧ w' = w := by
  have HSz : Hid (s.data.toList.length = s.size) := size20 s
  have HF : Hid (rnmF s.data.toList = (decide (2 ≤ s.size) && rnA 0 (s.data.toList.drop 0))) := by show _ = _; unfold rnmF; rw [HSz.out, List.drop_zero]
  generalize rnmF s.data.toList = F at *
  by_cases h2 : s.size < 2
  · have HE : Hid (F = false) := by show _ = _; rw [HF.out, decide_eq_false (by omega)]; rfl
    clear HF
    go_enter Tryd.func9, Tryd.ntmps9
    go_wp2
    go_ret
    exact ⟨ret_bool HE.out.symm, rfl⟩
  have HA : Hid (F = rnA 0 (s.data.toList.drop 0)) := by show _ = _; rw [HF.out, decide_eq_true (by omega)]; rfl
  clear HF
  go_enter Tryd.func9, Tryd.ntmps9
  go_wp2
  clear h2
  go_loopg [3] s.size (fun g i wr => ∃ k : Nat, k + g = s.size ∧ i = .int .i64 k ∧ Hid (F = rnA k (s.data.toList.drop k)) ∧ w = wr)
  case atStart => exact ⟨0, by omega, rfl, HA.out, rfl⟩
  case round =>
    obtain ⟨k, hk, rfl, HK, hw⟩ := hrel
    subst hw
    have HG : Hid (k + gk = s.size) := hk
    by_cases hlt : k < s.size
    · have HK2 : Hid (F = ((pnZ (s[k]'hlt).toNat || (k != 0 && (((s[k]'hlt).toNat : Int) == 43 || ((s[k]'hlt).toNat : Int) == 45 || ((s[k]'hlt).toNat : Int) == 46))) && rnA (k + 1) (s.data.toList.drop (k + 1)))) := by show _ = _; rw [HK.out]; exact rn_step hlt
      clear hk HK HA
      obtain ⟨z, hz⟩ : ∃ z : Int, z = (((s[k]'hlt).toNat : Nat) : Int) := ⟨_, rfl⟩
      have hzz : (((s[k]'hlt).toNat : Nat) : Int) = z := hz.symm
      rw [← hz] at HK2
      clear hz
      have HP : Hid (pnZ z = ((decide (97 ≤ z) && decide (z ≤ 122)) || (decide (48 ≤ z) && decide (z ≤ 57)))) := rfl
      by_cases a1 : 97 ≤ z ∧ z ≤ 122
      · obtain ⟨a1, a2⟩ := a1
        have HE : Hid (F = rnA (k + 1) (s.data.toList.drop (k + 1))) := by show _ = _; rw [HK2.out, HP.out, decide_eq_true a1, decide_eq_true a2]; rfl
        clear HK2 HP
        go_wp2
        go_roundg (gk - 1)
        case measure => have := HG.out; omega
        case rel => exact ⟨k + 1, by have := HG.out; omega, by go_num, HE.out, rfl⟩
      by_cases a2 : 48 ≤ z ∧ z ≤ 57
      · obtain ⟨a3, a4⟩ := a2
        have HE : Hid (F = rnA (k + 1) (s.data.toList.drop (k + 1))) := by show _ = _; rw [HK2.out, HP.out, decide_eq_true a3, decide_eq_true a4, Bool.and_true, Bool.or_true, Bool.true_or, Bool.true_and]
        clear HK2 HP a1
        have a5 : ¬ 97 ≤ z := by omega
        go_wp2
        go_roundg (gk - 1)
        case measure => have := HG.out; omega
        case rel => exact ⟨k + 1, by have := HG.out; omega, by go_num, HE.out, rfl⟩
      have hpn : pnZ z = false := by rw [HP.out]; simp; omega
      have HK3 : Hid (F = ((k != 0 && (z == 43 || z == 45 || z == 46)) && rnA (k + 1) (s.data.toList.drop (k + 1)))) := by show _ = _; rw [HK2.out, hpn, Bool.false_or]
      clear HK2 HP hpn
      by_cases hk0 : k = 0
      · subst hk0
        have HE : Hid (F = false) := HK3.out
        clear HK3
        by_cases b1 : 97 ≤ z <;> by_cases b2 : z ≤ 122 <;> by_cases b3 : 48 ≤ z <;> by_cases b4 : z ≤ 57
        all_goals
          first
          | (exfalso; omega)
          | (clear a1 a2
             go_wp2
             go_ret
             exact ⟨ret_bool HE.out.symm, rfl⟩)
      have hkk : ((k : Int) == 0) = false := by simpa using hk0
      have hkn : (k != 0) = true := by simpa using hk0
      by_cases b1 : 97 ≤ z <;> by_cases b2 : z ≤ 122 <;> by_cases b3 : 48 ≤ z <;> by_cases b4 : z ≤ 57
      all_goals
        first
        | (exfalso; omega)
        | (clear a1 a2
           by_cases c1 : z = 43
           · subst c1
             have HE : Hid (F = rnA (k + 1) (s.data.toList.drop (k + 1))) := by show _ = _; rw [HK3.out, hkn]; rfl
             clear HK3
             go_wp2
             go_roundg (gk - 1)
             case measure => have := HG.out; omega
             case rel => exact ⟨k + 1, by have := HG.out; omega, by go_num, HE.out, rfl⟩
           by_cases c2 : z = 45
           · subst c2
             have HE : Hid (F = rnA (k + 1) (s.data.toList.drop (k + 1))) := by show _ = _; rw [HK3.out, hkn]; rfl
             clear HK3 c1
             go_wp2
             go_roundg (gk - 1)
             case measure => have := HG.out; omega
             case rel => exact ⟨k + 1, by have := HG.out; omega, by go_num, HE.out, rfl⟩
           by_cases c3 : z = 46
           · subst c3
             have HE : Hid (F = rnA (k + 1) (s.data.toList.drop (k + 1))) := by show _ = _; rw [HK3.out, hkn]; rfl
             clear HK3 c1 c2
             go_wp2
             go_roundg (gk - 1)
             case measure => have := HG.out; omega
             case rel => exact ⟨k + 1, by have := HG.out; omega, by go_num, HE.out, rfl⟩
           have d1 : (z != 43) = true := by simpa using c1
           have d2 : (z != 45) = true := by simpa using c2
           have d3 : (z != 46) = true := by simpa using c3
           have e1 : (z == 43) = false := by simpa using c1
           have e2 : (z == 45) = false := by simpa using c2
           have e3 : (z == 46) = false := by simpa using c3
           have HE : Hid (F = false) := by show _ = _; rw [HK3.out, e1, e2, e3, hkn]; rfl
           clear HK3 c1 c2 c3 hk0
           go_wp2
           go_ret
           exact ⟨ret_bool HE.out.symm, rfl⟩)
    · have HE : Hid (F = true) := by show _ = _; rw [HK.out, List.drop_eq_nil_of_le (by rw [HSz.out]; omega)]; rfl
      clear HK hk HA
      go_wp2
      go_ret
      exact ⟨ret_bool HE.out.symm, rfl⟩

end Go.Proofs.YtmanjignognplaaDoor

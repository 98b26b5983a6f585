/-
  The document's first, last, parted, walked.
  KEEP: set below kept
-/
import Derived.Test.YtmanjignognplaaDoorVsR
import Derived.RangeFuncRecord
set_option linter.unusedSimpArgs false
set_option linter.unusedVariables false
namespace Go.Proofs.YtmanjignognplaaDoor
open Go Go.RowKit

set_option maxHeartbeats 1600000 in
theorem rFirst20_any (s : ByteArray) (w : World) (hs : s.size ≤ 281474976710656) :
    Calls Tryd.prog 58 #[.string s, .int .u8 58] w fun e w' => e = .returned (.int .i64 (iC s)) ∧ w' = w := by
  have HI : Hid (shI 0 (Lib.indexByte (s.data.toList.drop 0) 58) = iC s) := by show _ = _; rw [shI_zero]; rfl
  have HSz : Hid (s.data.toList.length = s.size) := size20 s
  generalize iC s = I at *
  go_enter Tryd.func58, Tryd.ntmps58
  go_wp2
  go_loopg [5] s.size (fun g i wr => ∃ k : Nat, k + g = s.size ∧ i = .int .i64 k ∧ Hid (shI k (Lib.indexByte (s.data.toList.drop k) 58) = I) ∧ wr = w)
  case atStart => exact ⟨0, by omega, rfl, HI.out, rfl⟩
  case round =>
    obtain ⟨k, hk, rfl, HK, rfl⟩ := hrel
    have HG : Hid (k + gk = s.size) := hk
    by_cases hlt : k < s.size
    · have HD : Hid (s.data.toList.drop k = s[k] :: s.data.toList.drop (k + 1)) := drop20 hlt
      rw [HD.out] at HK
      clear hk
      by_cases hb : s[k] = 58
      · rw [hb] at HK
        have HE : Hid (I = (k : Int)) := HK.out.symm.trans shI_here
        have hz : (((s[k]'hlt).toNat : Int) == 58) = true := by rw [hb]; rfl
        go_wp2
        go_ret
        exact ⟨by rw [HE.out]; rfl, rfl⟩
      · have HE : Hid (shI (k + 1) (Lib.indexByte (s.data.toList.drop (k + 1)) 58) = I) := (shI_step hb).symm.trans HK.out
        have hz : (((s[k]'hlt).toNat : Int) == 58) = false := by
          refine beq_eq_false_iff_ne.2 fun e => hb (UInt8.toNat_inj.1 ?_)
          show _ = 58
          omega
        go_wp2
        go_roundg (gk - 1)
        case measure => have := HG.out; omega
        case rel => exact ⟨k + 1, by have := HG.out; omega, by go_num, HE.out, rfl⟩
    · have HE : Hid (I = -1) := by
        have := HK.out
        rw [List.drop_eq_nil_of_le (by rw [HSz.out]; omega), shI_nil] at this
        exact this.symm
      clear HK hk
      go_wp2
      go_ret
      exact ⟨by rw [HE.out]; rfl, rfl⟩
theorem bang20 (s : ByteArray) (k : Nat) (h : k < s.size) : s.data[k]! = s[k]'h := by
  rw [getElem!_pos s.data k h]; rfl
set_option maxHeartbeats 1600000 in
theorem rLast20_any (s : ByteArray) (w : World) (hs : s.size ≤ 281474976710656) :
    Calls Tryd.prog 59 #[.string s, .int .u8 45] w fun e w' => e = .returned (.int .i64 (iM s)) ∧ w' = w := by
  have HI : Hid (iM s = Lib.lastIdx s 45 s.size) := rfl
  generalize iM s = I at *
  go_enter Tryd.func59, Tryd.ntmps59
  go_wp2
  go_loopg [5] s.size (fun g i wr => ∃ k : Nat, k = g ∧ k ≤ s.size ∧ i = .int .i64 ((k : Int) - 1) ∧ Hid (I = Lib.lastIdx s 45 k) ∧ wr = w)
  case atStart => exact ⟨s.size, rfl, Nat.le_refl _, by first | rfl | go_num | (congr 1; omega), HI.out, rfl⟩
  case round =>
    obtain ⟨k, hk, hks, rfl, HK, rfl⟩ := hrel
    have HG : Hid (k = gk) := hk
    clear hk
    by_cases h0 : k = 0
    · subst h0
      have HE : Hid (I = -1) := HK.out
      clear HK
      go_wp2
      go_ret
      exact ⟨by rw [HE.out]; rfl, rfl⟩
    · obtain ⟨j, rfl⟩ : ∃ j, k = j + 1 := ⟨k - 1, by omega⟩
      have hj : j < s.size := by omega
      have e1 : (((j + 1 : Nat) : Int) - 1) = (j : Int) := by omega
      rw [e1]
      clear e1
      by_cases hb : ((s[j]'hj).toNat : Int) = 45
      · have HE : Hid (I = (j : Int)) := by show _ = _; rw [HK.out, Lib.lastIdx, if_pos (by rw [bang20 s j hj]; exact hb)]
        have hz : (((s[j]'hj).toNat : Int) == 45) = true := by rw [hb]; rfl
        clear HK hb
        go_wp2
        go_ret
        exact ⟨by rw [HE.out]; rfl, rfl⟩
      · have HE : Hid (I = Lib.lastIdx s 45 j) := by show _ = _; rw [HK.out, Lib.lastIdx, if_neg (by rw [bang20 s j hj]; exact hb)]
        have hz : (((s[j]'hj).toNat : Int) == 45) = false := beq_eq_false_iff_ne.2 hb
        clear HK hb
        go_wp2
        go_roundg (gk - 1)
        case measure => have := HG.out; omega
        case rel => exact ⟨j, by have := HG.out; omega, by omega, by go_num, HE.out, rfl⟩

end Go.Proofs.YtmanjignognplaaDoor

/-
  The document's blank, more, Trim, Letters, Fair, Name, Alike, colon, walked.
  KEEP: len below nil form rd mono on app start at new trans refl kept own row out grown rdz set one more lt size cell some none letL tail next step go add put del get look no yes e c f b k n m box
-/
import Derived.Test.YtblkhkfjaggnfaaDoorCtP
import Derived.Test.YtblkhkfjaggnfaaDoorNum
import Derived.Deep.LoopGhost
import Derived.BigQuiet
import Derived.BigCall
import Derived.BigGuard
import Derived.Lib.Hide
import Derived.Handy
import Derived.WalkKit
import Derived.Deep.QuietTactic
import Derived.Deep.CutRange
set_option linter.unusedSimpArgs false
set_option linter.unusedVariables false
namespace Go.Proofs.YtblkhkfjaggnfaaDoor
open Go Go.RowKit

set_option maxHeartbeats 800000 in
theorem rBlank21_any (z : Int) (w : World) : Calls Tryd.prog 37 #[.int .u8 z] w fun e w' => e = .returned (.bool (blZ z)) ∧ w' = w := by
  have HP : Hid (blZ z = (z == 32 || z == 9)) := rfl
  cases h1 : (z == 32) <;> cases h2 : (z == 9)
  all_goals
    go_enter Tryd.func37, Tryd.ntmps37
    go_wp2
    go_ret
    exact ⟨ret_bool (by rw [HP.out, h1, h2]; rfl), rfl⟩
set_option maxHeartbeats 1600000 in
theorem rMore21_any (z : Int) (w : World) (h0 : 0 ≤ z) : Calls Tryd.prog 48 #[.int .u8 z] w fun e w' => e = .returned (.tuple #[.int .i64 (moreF z).1, .int .u8 (moreF z).2.1, .int .u8 (moreF z).2.2]) ∧ w' = w := by
  obtain ⟨M, hM⟩ : ∃ M, M = moreF z := ⟨_, rfl⟩
  rw [← hM]
  have HM : Hid (M = moreF z) := hM
  clear hM
  by_cases c1 : z < 128
  · have HE : Hid (M = (0, 0, 0)) := by show _ = _; rw [HM.out, moreF, if_pos c1]
    go_enter Tryd.func48, Tryd.ntmps48
    go_wp2
    go_returns
    exact ⟨by rw [HE.out]; rfl, rfl⟩
  by_cases c2 : 194 ≤ z ∧ z ≤ 223
  · have HE : Hid (M = (1, 128, 191)) := by show _ = _; rw [HM.out, moreF, if_neg c1, if_pos c2]
    obtain ⟨d1, d2⟩ := c2
    go_enter Tryd.func48, Tryd.ntmps48
    go_wp2
    go_returns
    exact ⟨by rw [HE.out]; rfl, rfl⟩
  by_cases c3 : z = 224
  · have HE : Hid (M = (2, 160, 191)) := by show _ = _; rw [HM.out, moreF, if_neg c1, if_neg c2, if_pos c3]
    subst c3
    clear c1 c2
    go_enter Tryd.func48, Tryd.ntmps48
    go_wp2
    go_returns
    exact ⟨by rw [HE.out]; rfl, rfl⟩
  by_cases c4 : z = 237
  · have HE : Hid (M = (2, 128, 159)) := by show _ = _; rw [HM.out, moreF, if_neg c1, if_neg c2, if_neg c3, if_pos c4]
    subst c4
    clear c1 c2 c3
    go_enter Tryd.func48, Tryd.ntmps48
    go_wp2
    go_returns
    exact ⟨by rw [HE.out]; rfl, rfl⟩
  have b3 : (z == 224) = false := by simpa using c3
  have b4 : (z == 237) = false := by simpa using c4
  by_cases c5 : 225 ≤ z ∧ z ≤ 239
  · have HE : Hid (M = (2, 128, 191)) := by show _ = _; rw [HM.out, moreF, if_neg c1, if_neg c2, if_neg c3, if_neg c4, if_pos c5]
    obtain ⟨d1, d2⟩ := c5
    have d3 : 194 ≤ z := by omega
    have d4 : ¬ z ≤ 223 := by omega
    clear c2
    go_enter Tryd.func48, Tryd.ntmps48
    go_wp2
    go_returns
    exact ⟨by rw [HE.out]; rfl, rfl⟩
  by_cases c6 : z = 240
  · have HE : Hid (M = (3, 144, 191)) := by show _ = _; rw [HM.out, moreF, if_neg c1, if_neg c2, if_neg c3, if_neg c4, if_neg c5, if_pos c6]
    subst c6
    clear c1 c2 c3 c4 c5 b3 b4
    go_enter Tryd.func48, Tryd.ntmps48
    go_wp2
    go_returns
    exact ⟨by rw [HE.out]; rfl, rfl⟩
  have b6 : (z == 240) = false := by simpa using c6
  by_cases c7 : 241 ≤ z ∧ z ≤ 243
  · have HE : Hid (M = (3, 128, 191)) := by show _ = _; rw [HM.out, moreF, if_neg c1, if_neg c2, if_neg c3, if_neg c4, if_neg c5, if_neg c6, if_pos c7]
    obtain ⟨d1, d2⟩ := c7
    have d3 : 194 ≤ z := by omega
    have d4 : ¬ z ≤ 223 := by omega
    have d5 : 225 ≤ z := by omega
    have d6 : ¬ z ≤ 239 := by omega
    clear c2 c5
    go_enter Tryd.func48, Tryd.ntmps48
    go_wp2
    go_returns
    exact ⟨by rw [HE.out]; rfl, rfl⟩
  by_cases c8 : z = 244
  · have HE : Hid (M = (3, 128, 143)) := by show _ = _; rw [HM.out, moreF, if_neg c1, if_neg c2, if_neg c3, if_neg c4, if_neg c5, if_neg c6, if_neg c7, if_pos c8]
    subst c8
    clear c1 c2 c3 c4 c5 c6 c7 b3 b4 b6
    go_enter Tryd.func48, Tryd.ntmps48
    go_wp2
    go_returns
    exact ⟨by rw [HE.out]; rfl, rfl⟩
  have b8 : (z == 244) = false := by simpa using c8
  have HE : Hid (M = (-1, 0, 0)) := by show _ = _; rw [HM.out, moreF, if_neg c1, if_neg c2, if_neg c3, if_neg c4, if_neg c5, if_neg c6, if_neg c7, if_neg c8]
  by_cases k1 : 194 ≤ z
  · have k2 : 245 ≤ z := by omega
    have d4 : ¬ z ≤ 223 := by omega
    have d5 : 225 ≤ z := by omega
    have d6 : ¬ z ≤ 239 := by omega
    have d7 : 241 ≤ z := by omega
    have d8 : ¬ z ≤ 243 := by omega
    clear c2 c5 c7
    go_enter Tryd.func48, Tryd.ntmps48
    go_wp2
    go_returns
    exact ⟨by rw [HE.out]; rfl, rfl⟩
  · have d5 : ¬ 225 ≤ z := by omega
    have d7 : ¬ 241 ≤ z := by omega
    clear c2 c5 c7
    go_enter Tryd.func48, Tryd.ntmps48
    go_wp2
    go_returns
    exact ⟨by rw [HE.out]; rfl, rfl⟩
set_option maxHeartbeats 1600000 in
theorem rColon21_any (s : ByteArray) (w : World) (hs : s.size ≤ 281474976710656) :
    Calls Tryd.prog 38 #[.string s] w fun e w' => e = .returned (.int .i64 (iC s)) ∧ w' = w := by
  have HI : Hid (shI 0 (Lib.indexByte (s.data.toList.drop 0) 58) = iC s) := by show _ = _; rw [shI_zero]; rfl
  have HSz : Hid (s.data.toList.length = s.size) := size20 s
  generalize iC s = I at *
  go_enter Tryd.func38, Tryd.ntmps38
  go_wp2
  go_loopg [3] s.size (fun g i wr => ∃ k : Nat, k + g = s.size ∧ i = .int .i64 k ∧ Hid (shI k (Lib.indexByte (s.data.toList.drop k) 58) = I) ∧ wr = w)
  case atStart => exact ⟨0, by omega, rfl, HI.out, rfl⟩
  case round =>
    obtain ⟨k, hk, rfl, HK, rfl⟩ := hrel
    have HG : Hid (k + gk = s.size) := hk
    by_cases hlt : k < s.size
    · have HD : Hid (s.data.toList.drop k = s[k] :: s.data.toList.drop (k + 1)) := drop20 hlt
      rw [HD.out] at HK
      clear hk
      by_cases hb : s[k] = 58
      · rw [hb] at HK
        have HE : Hid (I = (k : Int)) := HK.out.symm.trans shI_here
        have hz : (((s[k]'hlt).toNat : Int) == 58) = true := by rw [hb]; rfl
        go_wp2
        go_ret
        exact ⟨by rw [HE.out]; rfl, rfl⟩
      · have HE : Hid (shI (k + 1) (Lib.indexByte (s.data.toList.drop (k + 1)) 58) = I) := (shI_step hb).symm.trans HK.out
        have hz : (((s[k]'hlt).toNat : Int) == 58) = false := by
          refine beq_eq_false_iff_ne.2 fun e => hb (UInt8.toNat_inj.1 ?_)
          show _ = 58
          omega
        go_wp2
        go_roundg (gk - 1)
        case measure => have := HG.out; omega
        case rel => exact ⟨k + 1, by have := HG.out; omega, by go_num, HE.out, rfl⟩
    · have HE : Hid (I = -1) := by
        have := HK.out
        rw [List.drop_eq_nil_of_le (by rw [HSz.out]; omega), shI_nil] at this
        exact this.symm
      clear HK hk
      go_wp2
      go_ret
      exact ⟨by rw [HE.out]; rfl, rfl⟩
set_option maxHeartbeats 1600000 in
theorem rTrim21_any (s : ByteArray) (w : World) (hs : s.size ≤ 281474976710656) :
    Calls Tryd.prog 19 #[.string s] w fun e w' => e = .returned (.string ⟨(trF s.data.toList).toArray⟩) ∧ w' = w := by
  obtain ⟨T, hT⟩ : ∃ T, T = trL s.data.toList := ⟨_, rfl⟩
  have HF : Hid (trF s.data.toList = trR T) := by show _ = _; rw [hT]; rfl
  have HT : Hid (trL s.data.toList = T) := hT.symm
  obtain ⟨Z, hZ⟩ : ∃ Z : ByteArray, Z = ⟨(trF s.data.toList).toArray⟩ := ⟨_, rfl⟩
  have HZ : Hid (Z = ⟨(trR T).toArray⟩) := by show _ = _; rw [hZ, HF.out]
  rw [← hZ]
  clear hT hZ HF
  go_enter Tryd.func19, Tryd.ntmps19
  go_wp2
  go_loopg [0] s.size (fun g v wr => ∃ S : ByteArray, v = .string S ∧ S.size = g ∧ S.size ≤ 281474976710656 ∧ Hid (trL S.data.toList = T) ∧ w = wr)
  case atStart => exact ⟨s, rfl, rfl, hs, HT.out, rfl⟩
  case round =>
    obtain ⟨S, rfl, hg, hS, HL, hw⟩ := hrel
    subst hw
    have HG : Hid (S.size = gk) := hg
    clear hg HT hs
    have tail : Hid (S.data.toList = T → True) := fun _ => trivial
    by_cases h0 : 0 < S.size
    · have hh := ba_head h0
      have HB : Hid (Calls Tryd.prog 37 #[.int .u8 (((S[0]'h0).toNat : Nat) : Int)] w fun e w' => e = .returned (.bool (blZ ((S[0]'h0).toNat : Int))) ∧ w' = w) := rBlank21_any _ w
      have hbb := blZ_byte (S[0]'h0)
      cases hb : blZ ((S[0]'h0).toNat : Int)
      · rw [hb] at HB hbb
        have HS : Hid (S.data.toList = T) := by show _ = _; rw [← HL.out, hh, trL_no hbb.symm]
        clear hh hbb hb tail HL
        go_wp2_with (go_at_call 37; refine HB.out.mono ?_; rintro e w9 ⟨rfl, h9⟩; have h9s := h9.symm; clear h9; subst h9s)
        clear HB
        have HR : Hid (trR S.data.toList = trR T) := by show _ = _; rw [HS.out]
        clear HS HG
        go_loopg [0] S.size (fun g v wr => ∃ V : ByteArray, v = .string V ∧ V.size = g ∧ V.size ≤ 281474976710656 ∧ Hid (trR V.data.toList = trR T) ∧ w = wr)
        case atStart => exact ⟨S, rfl, rfl, hS, HR.out, rfl⟩
        case round =>
          obtain ⟨V, rfl, hg, hV, HV, hw⟩ := hrel
          subst hw
          have HG : Hid (V.size = gk) := hg
          clear hg HR
          by_cases h1 : 0 < V.size
          · have hl := ba_last h1
            have HB : Hid (Calls Tryd.prog 37 #[.int .u8 (((V[V.size - 1]'(by omega)).toNat : Nat) : Int)] w fun e w' => e = .returned (.bool (blZ ((V[V.size - 1]'(by omega)).toNat : Int))) ∧ w' = w) := rBlank21_any _ w
            have hbb := blZ_byte (V[V.size - 1]'(by omega))
            have i1 : (0 : Int) ≤ (V.size : Int) - 1 := by omega
            have i2 : (V.size : Int) - 1 ≤ (V.size : Int) := by omega
            cases hb : blZ ((V[V.size - 1]'(by omega)).toNat : Int)
            · rw [hb] at HB hbb
              have HX : Hid (⟨(trR T).toArray⟩ = V) := by show _ = _; rw [← HV.out, hl, trR_no hbb.symm, ← hl]; all_goals exact ba_mk V
              clear hl hbb hb HV
              go_wp2_with (go_at_call 37; refine HB.out.mono ?_; rintro e w9 ⟨rfl, h9⟩; have h9s := h9.symm; clear h9; subst h9s)
              go_ret
              exact ⟨by rw [HZ.out, HX.out]; rfl, rfl⟩
            · rw [hb] at HB hbb
              have HX : Hid (trR (V.extract 0 (V.size - 1)).data.toList = trR T) := by show _ = _; rw [← HV.out]; conv => rhs; rw [hl, trR_yes hbb.symm]
              have hsz : (V.extract 0 (V.size - 1)).size = V.size - 1 := by rw [ByteArray.size_extract]; omega
              have HSz : Hid ((V.extract 0 (V.size - 1)).size = V.size - 1) := hsz
              clear hl hbb hb HV hsz
              go_wp2_with (go_at_call 37; refine HB.out.mono ?_; rintro e w9 ⟨rfl, h9⟩; have h9s := h9.symm; clear h9; subst h9s)
              go_roundg (gk - 1)
              case measure => have := HG.out; omega
              case rel => exact ⟨_, rfl, by rw [HSz.out, HG.out], by rw [HSz.out]; omega, HX.out, rfl⟩
          · have HX : Hid (⟨(trR T).toArray⟩ = V) := by
              show _ = _
              have hn : V.data.toList = [] := List.eq_nil_of_length_eq_zero (by rw [ba_len]; omega)
              rw [← HV.out, hn]
              exact ba_eq (by rw [hn]; first | rfl | simp)
            clear HV
            go_wp2
            go_ret
            exact ⟨by rw [HZ.out, HX.out]; rfl, rfl⟩
      · rw [hb] at HB hbb
        have HS : Hid (trL (S.extract 1 S.size).data.toList = T) := by show _ = _; rw [← HL.out, hh, trL_yes hbb.symm]
        have hsz : (S.extract 1 S.size).size = S.size - 1 := by rw [ByteArray.size_extract]; omega
        have HSz : Hid ((S.extract 1 S.size).size = S.size - 1) := hsz
        clear hh hbb hb tail HL hsz
        go_wp2_with (go_at_call 37; refine HB.out.mono ?_; rintro e w9 ⟨rfl, h9⟩; have h9s := h9.symm; clear h9; subst h9s)
        go_roundg (gk - 1)
        case measure => have := HG.out; omega
        case rel => exact ⟨_, rfl, by rw [HSz.out, HG.out], by rw [HSz.out]; omega, HS.out, rfl⟩
    · have HS : Hid (S.data.toList = T) := by
        show _ = _
        have hn : S.data.toList = [] := List.eq_nil_of_length_eq_zero (by rw [ba_len]; omega)
        rw [← HL.out, hn]; rfl
      clear HL tail
      go_wp2_with fail
      have HR : Hid (trR S.data.toList = trR T) := by show _ = _; rw [HS.out]
      clear HS HG
      go_loopg [0] S.size (fun g v wr => ∃ V : ByteArray, v = .string V ∧ V.size = g ∧ V.size ≤ 281474976710656 ∧ Hid (trR V.data.toList = trR T) ∧ w = wr)
      case atStart => exact ⟨S, rfl, rfl, hS, HR.out, rfl⟩
      case round =>
        obtain ⟨V, rfl, hg, hV, HV, hw⟩ := hrel
        subst hw
        have HG : Hid (V.size = gk) := hg
        clear hg HR
        by_cases h1 : 0 < V.size
        · have hl := ba_last h1
          have HB : Hid (Calls Tryd.prog 37 #[.int .u8 (((V[V.size - 1]'(by omega)).toNat : Nat) : Int)] w fun e w' => e = .returned (.bool (blZ ((V[V.size - 1]'(by omega)).toNat : Int))) ∧ w' = w) := rBlank21_any _ w
          have hbb := blZ_byte (V[V.size - 1]'(by omega))
          have i1 : (0 : Int) ≤ (V.size : Int) - 1 := by omega
          have i2 : (V.size : Int) - 1 ≤ (V.size : Int) := by omega
          cases hb : blZ ((V[V.size - 1]'(by omega)).toNat : Int)
          · rw [hb] at HB hbb
            have HX : Hid (⟨(trR T).toArray⟩ = V) := by show _ = _; rw [← HV.out, hl, trR_no hbb.symm, ← hl]; all_goals exact ba_mk V
            clear hl hbb hb HV
            go_wp2_with (go_at_call 37; refine HB.out.mono ?_; rintro e w9 ⟨rfl, h9⟩; have h9s := h9.symm; clear h9; subst h9s)
            go_ret
            exact ⟨by rw [HZ.out, HX.out]; rfl, rfl⟩
          · rw [hb] at HB hbb
            have HX : Hid (trR (V.extract 0 (V.size - 1)).data.toList = trR T) := by show _ = _; rw [← HV.out]; conv => rhs; rw [hl, trR_yes hbb.symm]
            have hsz : (V.extract 0 (V.size - 1)).size = V.size - 1 := by rw [ByteArray.size_extract]; omega
            have HSz : Hid ((V.extract 0 (V.size - 1)).size = V.size - 1) := hsz
            clear hl hbb hb HV hsz
            go_wp2_with (go_at_call 37; refine HB.out.mono ?_; rintro e w9 ⟨rfl, h9⟩; have h9s := h9.symm; clear h9; subst h9s)
            go_roundg (gk - 1)
            case measure => have := HG.out; omega
            case rel => exact ⟨_, rfl, by rw [HSz.out, HG.out], by rw [HSz.out]; omega, HX.out, rfl⟩
        · have HX : Hid (⟨(trR T).toArray⟩ = V) := by
            show _ = _
            have hn : V.data.toList = [] := List.eq_nil_of_length_eq_zero (by rw [ba_len]; omega)
            rw [← HV.out, hn]
            exact ba_eq (by rw [hn]; first | rfl | simp)
          clear HV
          go_wp2
          go_ret
          exact ⟨by rw [HZ.out, HX.out]; rfl, rfl⟩

end Go.Proofs.YtblkhkfjaggnfaaDoor

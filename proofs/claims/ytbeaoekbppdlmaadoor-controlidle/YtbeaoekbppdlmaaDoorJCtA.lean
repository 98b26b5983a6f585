/-
  joined: CtA CtL CtN
-/
import Derived.Test.YtbeaoekbppdlmaaDoorKCtP
import Derived.Test.YtbeaoekbppdlmaaDoorNum
import Derived.Deep.LoopGhost
import Derived.BigQuiet
import Derived.BigCall
import Derived.BigGuard
import Derived.Lib.Hide
import Derived.Handy
import Derived.WalkKit
import Derived.Deep.QuietTactic
import Derived.Deep.CutRange
set_option linter.unusedSimpArgs false
set_option linter.unusedVariables false
namespace Go.Proofs.YtbeaoekbppdlmaaDoor
open Go Go.RowKit

set_option maxHeartbeats 800000 in
theorem rBlank21_any (z : Int) (w : World) : Calls Tryd.prog 58 #[.int .u8 z] w fun e w' => e = .returned (.bool (blZ z)) ∧ w' = w := by
  have HP : Hid (blZ z = (z == 32 || z == 9)) := rfl
  cases h1 : (z == 32) <;> cases h2 : (z == 9)
  all_goals
    go_enter Tryd.func58, Tryd.ntmps58
    go_wp2
    go_ret
    exact ⟨ret_bool (by rw [HP.out, h1, h2]; rfl), rfl⟩
set_option maxHeartbeats 1600000 in
theorem rMore21_any (z : Int) (w : World) (h0 : 0 ≤ z) : Calls Tryd.prog 75 #[.int .u8 z] w fun e w' => e = .returned (.tuple #[.int .i64 (moreF z).1, .int .u8 (moreF z).2.1, .int .u8 (moreF z).2.2]) ∧ w' = w := by
  obtain ⟨M, hM⟩ : ∃ M, M = moreF z := ⟨_, rfl⟩
  rw [← hM]
  have HM : Hid (M = moreF z) := hM
  clear hM
  by_cases c1 : z < 128
  · have HE : Hid (M = (0, 0, 0)) := by show _ = _; rw [HM.out, moreF, if_pos c1]
    go_enter Tryd.func75, Tryd.ntmps75
    go_wp2
    go_returns
    exact ⟨by rw [HE.out]; rfl, rfl⟩
  by_cases c2 : 194 ≤ z ∧ z ≤ 223
  · have HE : Hid (M = (1, 128, 191)) := by show _ = _; rw [HM.out, moreF, if_neg c1, if_pos c2]
    obtain ⟨d1, d2⟩ := c2
    go_enter Tryd.func75, Tryd.ntmps75
    go_wp2
    go_returns
    exact ⟨by rw [HE.out]; rfl, rfl⟩
  by_cases c3 : z = 224
  · have HE : Hid (M = (2, 160, 191)) := by show _ = _; rw [HM.out, moreF, if_neg c1, if_neg c2, if_pos c3]
    subst c3
    clear c1 c2
    go_enter Tryd.func75, Tryd.ntmps75
    go_wp2
    go_returns
    exact ⟨by rw [HE.out]; rfl, rfl⟩
  by_cases c4 : z = 237
  · have HE : Hid (M = (2, 128, 159)) := by show _ = _; rw [HM.out, moreF, if_neg c1, if_neg c2, if_neg c3, if_pos c4]
    subst c4
    clear c1 c2 c3
    go_enter Tryd.func75, Tryd.ntmps75
    go_wp2
    go_returns
    exact ⟨by rw [HE.out]; rfl, rfl⟩
  have b3 : (z == 224) = false := by simpa using c3
  have b4 : (z == 237) = false := by simpa using c4
  by_cases c5 : 225 ≤ z ∧ z ≤ 239
  · have HE : Hid (M = (2, 128, 191)) := by show _ = _; rw [HM.out, moreF, if_neg c1, if_neg c2, if_neg c3, if_neg c4, if_pos c5]
    obtain ⟨d1, d2⟩ := c5
    have d3 : 194 ≤ z := by omega
    have d4 : ¬ z ≤ 223 := by omega
    clear c2
    go_enter Tryd.func75, Tryd.ntmps75
    go_wp2
    go_returns
    exact ⟨by rw [HE.out]; rfl, rfl⟩
  by_cases c6 : z = 240
  · have HE : Hid (M = (3, 144, 191)) := by show _ = _; rw [HM.out, moreF, if_neg c1, if_neg c2, if_neg c3, if_neg c4, if_neg c5, if_pos c6]
    subst c6
    clear c1 c2 c3 c4 c5 b3 b4
    go_enter Tryd.func75, Tryd.ntmps75
    go_wp2
    go_returns
    exact ⟨by rw [HE.out]; rfl, rfl⟩
  have b6 : (z == 240) = false := by simpa using c6
  by_cases c7 : 241 ≤ z ∧ z ≤ 243
  · have HE : Hid (M = (3, 128, 191)) := by show _ = _; rw [HM.out, moreF, if_neg c1, if_neg c2, if_neg c3, if_neg c4, if_neg c5, if_neg c6, if_pos c7]
    obtain ⟨d1, d2⟩ := c7
    have d3 : 194 ≤ z := by omega
    have d4 : ¬ z ≤ 223 := by omega
    have d5 : 225 ≤ z := by omega
    have d6 : ¬ z ≤ 239 := by omega
    clear c2 c5
    go_enter Tryd.func75, Tryd.ntmps75
    go_wp2
    go_returns
    exact ⟨by rw [HE.out]; rfl, rfl⟩
  by_cases c8 : z = 244
  · have HE : Hid (M = (3, 128, 143)) := by show _ = _; rw [HM.out, moreF, if_neg c1, if_neg c2, if_neg c3, if_neg c4, if_neg c5, if_neg c6, if_neg c7, if_pos c8]
    subst c8
    clear c1 c2 c3 c4 c5 c6 c7 b3 b4 b6
    go_enter Tryd.func75, Tryd.ntmps75
    go_wp2
    go_returns
    exact ⟨by rw [HE.out]; rfl, rfl⟩
  have b8 : (z == 244) = false := by simpa using c8
  have HE : Hid (M = (-1, 0, 0)) := by show _ = _; rw [HM.out, moreF, if_neg c1, if_neg c2, if_neg c3, if_neg c4, if_neg c5, if_neg c6, if_neg c7, if_neg c8]
  by_cases k1 : 194 ≤ z
  · have k2 : 245 ≤ z := by omega
    have d4 : ¬ z ≤ 223 := by omega
    have d5 : 225 ≤ z := by omega
    have d6 : ¬ z ≤ 239 := by omega
    have d7 : 241 ≤ z := by omega
    have d8 : ¬ z ≤ 243 := by omega
    clear c2 c5 c7
    go_enter Tryd.func75, Tryd.ntmps75
    go_wp2
    go_returns
    exact ⟨by rw [HE.out]; rfl, rfl⟩
  · have d5 : ¬ 225 ≤ z := by omega
    have d7 : ¬ 241 ≤ z := by omega
    clear c2 c5 c7
    go_enter Tryd.func75, Tryd.ntmps75
    go_wp2
    go_returns
    exact ⟨by rw [HE.out]; rfl, rfl⟩
set_option maxHeartbeats 1600000 in
theorem rColon21_any (s : ByteArray) (w : World) (hs : s.size ≤ 281474976710656) :
    Calls Tryd.prog 60 #[.string s] w fun e w' => e = .returned (.int .i64 (iC s)) ∧ w' = w := by
  have HI : Hid (shI 0 (Lib.indexByte (s.data.toList.drop 0) 58) = iC s) := by show _ = _; rw [shI_zero]; rfl
  have HSz : Hid (s.data.toList.length = s.size) := size20 s
  generalize iC s = I at *
  go_enter Tryd.func60, Tryd.ntmps60
  go_wp2
  go_loopg [3] s.size (fun g i wr => ∃ k : Nat, k + g = s.size ∧ i = .int .i64 k ∧ Hid (shI k (Lib.indexByte (s.data.toList.drop k) 58) = I) ∧ wr = w)
  case atStart => exact ⟨0, by omega, rfl, HI.out, rfl⟩
  case round =>
    obtain ⟨k, hk, rfl, HK, rfl⟩ := hrel
    have HG : Hid (k + gk = s.size) := hk
    by_cases hlt : k < s.size
    · have HD : Hid (s.data.toList.drop k = s[k] :: s.data.toList.drop (k + 1)) := drop20 hlt
      rw [HD.out] at HK
      clear hk
      by_cases hb : s[k] = 58
      · rw [hb] at HK
        have HE : Hid (I = (k : Int)) := HK.out.symm.trans shI_here
        have hz : (((s[k]'hlt).toNat : Int) == 58) = true := by rw [hb]; rfl
        go_wp2
        go_ret
        exact ⟨by rw [HE.out]; rfl, rfl⟩
      · have HE : Hid (shI (k + 1) (Lib.indexByte (s.data.toList.drop (k + 1)) 58) = I) := (shI_step hb).symm.trans HK.out
        have hz : (((s[k]'hlt).toNat : Int) == 58) = false := by
          refine beq_eq_false_iff_ne.2 fun e => hb (UInt8.toNat_inj.1 ?_)
          show _ = 58
          omega
        go_wp2
        go_roundg (gk - 1)
        case measure => have := HG.out; omega
        case rel => exact ⟨k + 1, by have := HG.out; omega, by go_num, HE.out, rfl⟩
    · have HE : Hid (I = -1) := by
        have := HK.out
        rw [List.drop_eq_nil_of_le (by rw [HSz.out]; omega), shI_nil] at this
        exact this.symm
      clear HK hk
      go_wp2
      go_ret
      exact ⟨by rw [HE.out]; rfl, rfl⟩
set_option maxHeartbeats 1600000 in
theorem rTrim21_any (s : ByteArray) (w : World) (hs : s.size ≤ 281474976710656) :
    Calls Tryd.prog 43 #[.string s] w fun e w' => e = .returned (.string ⟨(trF s.data.toList).toArray⟩) ∧ w' = w := by
  obtain ⟨T, hT⟩ : ∃ T, T = trL s.data.toList := ⟨_, rfl⟩
  have HF : Hid (trF s.data.toList = trR T) := by show _ = _; rw [hT]; rfl
  have HT : Hid (trL s.data.toList = T) := hT.symm
  obtain ⟨Z, hZ⟩ : ∃ Z : ByteArray, Z = ⟨(trF s.data.toList).toArray⟩ := ⟨_, rfl⟩
  have HZ : Hid (Z = ⟨(trR T).toArray⟩) := by show _ = _; rw [hZ, HF.out]
  rw [← hZ]
  clear hT hZ HF
  go_enter Tryd.func43, Tryd.ntmps43
  go_wp2
  go_loopg [0] s.size (fun g v wr => ∃ S : ByteArray, v = .string S ∧ S.size = g ∧ S.size ≤ 281474976710656 ∧ Hid (trL S.data.toList = T) ∧ w = wr)
  case atStart => exact ⟨s, rfl, rfl, hs, HT.out, rfl⟩
  case round =>
    obtain ⟨S, rfl, hg, hS, HL, hw⟩ := hrel
    subst hw
    have HG : Hid (S.size = gk) := hg
    clear hg HT hs
    have tail : Hid (S.data.toList = T → True) := fun _ => trivial
    by_cases h0 : 0 < S.size
    · have hh := ba_head h0
      have HB : Hid (Calls Tryd.prog 58 #[.int .u8 (((S[0]'h0).toNat : Nat) : Int)] w fun e w' => e = .returned (.bool (blZ ((S[0]'h0).toNat : Int))) ∧ w' = w) := rBlank21_any _ w
      have hbb := blZ_byte (S[0]'h0)
      cases hb : blZ ((S[0]'h0).toNat : Int)
      · rw [hb] at HB hbb
        have HS : Hid (S.data.toList = T) := by show _ = _; rw [← HL.out, hh, trL_no hbb.symm]
        clear hh hbb hb tail HL
        go_wp2_with (go_at_call 58; refine HB.out.mono ?_; rintro e w9 ⟨rfl, h9⟩; have h9s := h9.symm; clear h9; subst h9s)
        clear HB
        have HR : Hid (trR S.data.toList = trR T) := by show _ = _; rw [HS.out]
        clear HS HG
        go_loopg [0] S.size (fun g v wr => ∃ V : ByteArray, v = .string V ∧ V.size = g ∧ V.size ≤ 281474976710656 ∧ Hid (trR V.data.toList = trR T) ∧ w = wr)
        case atStart => exact ⟨S, rfl, rfl, hS, HR.out, rfl⟩
        case round =>
          obtain ⟨V, rfl, hg, hV, HV, hw⟩ := hrel
          subst hw
          have HG : Hid (V.size = gk) := hg
          clear hg HR
          by_cases h1 : 0 < V.size
          · have hl := ba_last h1
            have HB : Hid (Calls Tryd.prog 58 #[.int .u8 (((V[V.size - 1]'(by omega)).toNat : Nat) : Int)] w fun e w' => e = .returned (.bool (blZ ((V[V.size - 1]'(by omega)).toNat : Int))) ∧ w' = w) := rBlank21_any _ w
            have hbb := blZ_byte (V[V.size - 1]'(by omega))
            have i1 : (0 : Int) ≤ (V.size : Int) - 1 := by omega
            have i2 : (V.size : Int) - 1 ≤ (V.size : Int) := by omega
            cases hb : blZ ((V[V.size - 1]'(by omega)).toNat : Int)
            · rw [hb] at HB hbb
              have HX : Hid (⟨(trR T).toArray⟩ = V) := by show _ = _; rw [← HV.out, hl, trR_no hbb.symm, ← hl]; all_goals exact ba_mk V
              clear hl hbb hb HV
              go_wp2_with (go_at_call 58; refine HB.out.mono ?_; rintro e w9 ⟨rfl, h9⟩; have h9s := h9.symm; clear h9; subst h9s)
              go_ret
              exact ⟨by rw [HZ.out, HX.out]; rfl, rfl⟩
            · rw [hb] at HB hbb
              have HX : Hid (trR (V.extract 0 (V.size - 1)).data.toList = trR T) := by show _ = _; rw [← HV.out]; conv => rhs; rw [hl, trR_yes hbb.symm]
              have hsz : (V.extract 0 (V.size - 1)).size = V.size - 1 := by rw [ByteArray.size_extract]; omega
              have HSz : Hid ((V.extract 0 (V.size - 1)).size = V.size - 1) := hsz
              clear hl hbb hb HV hsz
              go_wp2_with (go_at_call 58; refine HB.out.mono ?_; rintro e w9 ⟨rfl, h9⟩; have h9s := h9.symm; clear h9; subst h9s)
              go_roundg (gk - 1)
              case measure => have := HG.out; omega
              case rel => exact ⟨_, rfl, by rw [HSz.out, HG.out], by rw [HSz.out]; omega, HX.out, rfl⟩
          · have HX : Hid (⟨(trR T).toArray⟩ = V) := by
              show _ = _
              have hn : V.data.toList = [] := List.eq_nil_of_length_eq_zero (by rw [ba_len]; omega)
              rw [← HV.out, hn]
              exact ba_eq (by rw [hn]; first | rfl | simp)
            clear HV
            go_wp2
            go_ret
            exact ⟨by rw [HZ.out, HX.out]; rfl, rfl⟩
      · rw [hb] at HB hbb
        have HS : Hid (trL (S.extract 1 S.size).data.toList = T) := by show _ = _; rw [← HL.out, hh, trL_yes hbb.symm]
        have hsz : (S.extract 1 S.size).size = S.size - 1 := by rw [ByteArray.size_extract]; omega
        have HSz : Hid ((S.extract 1 S.size).size = S.size - 1) := hsz
        clear hh hbb hb tail HL hsz
        go_wp2_with (go_at_call 58; refine HB.out.mono ?_; rintro e w9 ⟨rfl, h9⟩; have h9s := h9.symm; clear h9; subst h9s)
        go_roundg (gk - 1)
        case measure => have := HG.out; omega
        case rel => exact ⟨_, rfl, by rw [HSz.out, HG.out], by rw [HSz.out]; omega, HS.out, rfl⟩
    · have HS : Hid (S.data.toList = T) := by
        show _ = _
        have hn : S.data.toList = [] := List.eq_nil_of_length_eq_zero (by rw [ba_len]; omega)
        rw [← HL.out, hn]; rfl
      clear HL tail
      go_wp2_with fail
      have HR : Hid (trR S.data.toList = trR T) := by show _ = _; rw [HS.out]
      clear HS HG
      go_loopg [0] S.size (fun g v wr => ∃ V : ByteArray, v = .string V ∧ V.size = g ∧ V.size ≤ 281474976710656 ∧ Hid (trR V.data.toList = trR T) ∧ w = wr)
      case atStart => exact ⟨S, rfl, rfl, hS, HR.out, rfl⟩
      case round =>
        obtain ⟨V, rfl, hg, hV, HV, hw⟩ := hrel
        subst hw
        have HG : Hid (V.size = gk) := hg
        clear hg HR
        by_cases h1 : 0 < V.size
        · have hl := ba_last h1
          have HB : Hid (Calls Tryd.prog 58 #[.int .u8 (((V[V.size - 1]'(by omega)).toNat : Nat) : Int)] w fun e w' => e = .returned (.bool (blZ ((V[V.size - 1]'(by omega)).toNat : Int))) ∧ w' = w) := rBlank21_any _ w
          have hbb := blZ_byte (V[V.size - 1]'(by omega))
          have i1 : (0 : Int) ≤ (V.size : Int) - 1 := by omega
          have i2 : (V.size : Int) - 1 ≤ (V.size : Int) := by omega
          cases hb : blZ ((V[V.size - 1]'(by omega)).toNat : Int)
          · rw [hb] at HB hbb
            have HX : Hid (⟨(trR T).toArray⟩ = V) := by show _ = _; rw [← HV.out, hl, trR_no hbb.symm, ← hl]; all_goals exact ba_mk V
            clear hl hbb hb HV
            go_wp2_with (go_at_call 58; refine HB.out.mono ?_; rintro e w9 ⟨rfl, h9⟩; have h9s := h9.symm; clear h9; subst h9s)
            go_ret
            exact ⟨by rw [HZ.out, HX.out]; rfl, rfl⟩
          · rw [hb] at HB hbb
            have HX : Hid (trR (V.extract 0 (V.size - 1)).data.toList = trR T) := by show _ = _; rw [← HV.out]; conv => rhs; rw [hl, trR_yes hbb.symm]
            have hsz : (V.extract 0 (V.size - 1)).size = V.size - 1 := by rw [ByteArray.size_extract]; omega
            have HSz : Hid ((V.extract 0 (V.size - 1)).size = V.size - 1) := hsz
            clear hl hbb hb HV hsz
            go_wp2_with (go_at_call 58; refine HB.out.mono ?_; rintro e w9 ⟨rfl, h9⟩; have h9s := h9.symm; clear h9; subst h9s)
            go_roundg (gk - 1)
            case measure => have := HG.out; omega
            case rel => exact ⟨_, rfl, by rw [HSz.out, HG.out], by rw [HSz.out]; omega, HX.out, rfl⟩
        · have HX : Hid (⟨(trR T).toArray⟩ = V) := by
            show _ = _
            have hn : V.data.toList = [] := List.eq_nil_of_length_eq_zero (by rw [ba_len]; omega)
            rw [← HV.out, hn]
            exact ba_eq (by rw [hn]; first | rfl | simp)
          clear HV
          go_wp2
          go_ret
          exact ⟨by rw [HZ.out, HX.out]; rfl, rfl⟩

end Go.Proofs.YtbeaoekbppdlmaaDoor
set_option linter.unusedSimpArgs false
set_option linter.unusedVariables false
namespace Go.Proofs.YtbeaoekbppdlmaaDoor
open Go Go.RowKit

set_option maxHeartbeats 3200000 in
theorem rLetters21_any (s : ByteArray) (w : World) (hs : s.size ≤ 281474976710656) :
    Calls Tryd.prog 59 #[.string s] w fun e w' => e = .returned (.bool (letL s.data.toList)) ∧ w' = w := by
  obtain ⟨E, hE⟩ : ∃ E, E = letL s.data.toList := ⟨_, rfl⟩
  rw [← hE]
  have H0 : Hid (letS 0 0 0 (s.data.toList.drop 0) = E) := hE.symm
  have HSz : Hid (s.data.toList.length = s.size) := size20 s
  clear hE
  go_enter Tryd.func59, Tryd.ntmps59
  go_wp2
  go_loopg [3] s.size (fun g i wr => ∃ (k : Nat) (lo hi : Int), k ≤ s.size ∧ g = s.size - k ∧ i = .int .i64 k ∧ Hid (letS 0 lo hi (s.data.toList.drop k) = E) ∧ w = wr)
  case atStart => exact ⟨0, 0, 0, by omega, by omega, rfl, H0.out, rfl⟩
  case round =>
    obtain ⟨k, lo, hi, hks, hg, rfl, HK, hw⟩ := hrel
    subst hw
    have HG : Hid (gk = s.size - k) := hg
    clear hg H0
    by_cases hlt : k < s.size
    · have hd := drop20 hlt
      have HM : Hid (Calls Tryd.prog 75 #[.int .u8 (((s[k]'hlt).toNat : Nat) : Int)] w fun e w' => e = .returned (.tuple #[.int .i64 (moreF ((s[k]'hlt).toNat : Int)).1, .int .u8 (moreF ((s[k]'hlt).toNat : Int)).2.1, .int .u8 (moreF ((s[k]'hlt).toNat : Int)).2.2]) ∧ w' = w) := rMore21_any _ w (by omega)
      have hmm := moreF_ok ((s[k]'hlt).toNat : Int)
      have HLn : Hid ((s.data.toList.drop (k + 1)).length = s.size - (k + 1)) := by show _ = _; rw [List.length_drop, size20]
      rcases hmm with hneg | ⟨n, hn, hn3⟩
      · have HE : Hid (E = false) := by show _ = _; rw [← HK.out, hd]; exact letS_bad (by omega)
        rw [hneg] at HM
        clear hd HK hneg
        generalize (moreF ((s[k]'hlt).toNat : Int)).2.1 = l1 at *
        generalize (moreF ((s[k]'hlt).toNat : Int)).2.2 = l2 at *
        go_wp2_with (go_at_call 75; refine HM.out.mono ?_; rintro e w9 ⟨rfl, h9⟩; have h9s := h9.symm; clear h9; subst h9s)
        go_ret
        exact ⟨ret_bool HE.out.symm, rfl⟩
      · have HE : Hid (letS n (moreF ((s[k]'hlt).toNat : Int)).2.1 (moreF ((s[k]'hlt).toNat : Int)).2.2 (s.data.toList.drop (k + 1)) = E) := by show _ = _; rw [← HK.out, hd]; exact (letS_go hn).symm
        rw [hn] at HM
        clear hd HK hn
        generalize (moreF ((s[k]'hlt).toNat : Int)).2.1 = l1 at *
        generalize (moreF ((s[k]'hlt).toNat : Int)).2.2 = l2 at *
        by_cases hsh : s.size ≤ k + n
        · have HF : Hid (E = false) := by show _ = _; rw [← HE.out]; exact letS_short _ _ _ _ (by rw [HLn.out]; omega)
          have hsi : (s.size : Int) ≤ (k : Int) + n := by omega
          go_wp2_with (go_at_call 75; refine HM.out.mono ?_; rintro e w9 ⟨rfl, h9⟩; have h9s := h9.symm; clear h9; subst h9s)
          go_ret
          exact ⟨ret_bool HF.out.symm, rfl⟩
        · have hsi : ¬ (s.size : Int) ≤ (k : Int) + n := by omega
          go_wp2_with (go_at_call 75; refine HM.out.mono ?_; rintro e w9 ⟨rfl, h9⟩; have h9s := h9.symm; clear h9; subst h9s)
          clear HM
          go_loopg [7, 8] n (fun g j x wr => ∃ (q : Nat) (a b : Int), q + g = n + 1 ∧ 1 ≤ q ∧ j = .int .i64 q ∧ (q = 1 → a = l1 ∧ b = l2) ∧ (q ≠ 1 → a = 128 ∧ b = 191) ∧ Hid (letS (n + 1 - q) a b (s.data.toList.drop (k + q)) = E) ∧ w = wr)
          case atStart => exact ⟨1, l1, l2, by omega, Nat.le_refl _, by first | rfl | go_num, fun _ => ⟨rfl, rfl⟩, fun h => absurd rfl h, HE.out, rfl⟩
          case round =>
            obtain ⟨q, a, b, hq, hq1, rfl, ha1, ha2, HQ, hw⟩ := hrel
            subst hw
            have HGq : Hid (q + gk = n + 1) := hq
            have HA1 : Hid (q = 1 → a = l1 ∧ b = l2) := ha1
            have HA2 : Hid (q ≠ 1 → a = 128 ∧ b = 191) := ha2
            clear hq ha1 ha2 HE
            by_cases hqn : q ≤ n
            · have hlt2 : k + q < s.size := by omega
              have hd2 := drop20 hlt2
              have HS2 : Hid (((decide (128 ≤ ((s[k + q]'hlt2).toNat : Int) ∧ ((s[k + q]'hlt2).toNat : Int) ≤ 191) && decide (a ≤ ((s[k + q]'hlt2).toNat : Int) ∧ ((s[k + q]'hlt2).toNat : Int) ≤ b)) && letS (n - q) 128 191 (s.data.toList.drop (k + q + 1))) = E) := by
                show _ = _
                rw [← HQ.out, hd2, show n + 1 - q = (n - q) + 1 by omega]; rfl
              have hw1 : IntKind.i64.wrap ((k : Int) + (q : Int)) = (k : Int) + (q : Int) := by rw [IntKind.wrap_i64]; omega
              have hqi : (q : Int) ≤ (n : Int) := by omega
              clear HQ hd2
              obtain ⟨z, hz⟩ : ∃ z : Int, z = ((s[k + q]'hlt2).toNat : Int) := ⟨_, rfl⟩
              have hzz : ((s[k + q]'hlt2).toNat : Int) = z := hz.symm
              rw [← hz] at HS2
              clear hz
              by_cases h1 : z < 128
              · have HF : Hid (E = false) := by show _ = _; rw [← HS2.out, decide_eq_false (by omega)]; rfl
                clear HS2
                go_wp2
                go_ret
                exact ⟨ret_bool HF.out.symm, rfl⟩
              by_cases h2 : 191 < z
              · have HF : Hid (E = false) := by show _ = _; rw [← HS2.out, decide_eq_false (by omega)]; rfl
                clear HS2
                go_wp2
                go_ret
                exact ⟨ret_bool HF.out.symm, rfl⟩
              have HS3 : Hid ((decide (a ≤ z ∧ z ≤ b) && letS (n - q) 128 191 (s.data.toList.drop (k + q + 1))) = E) := by show _ = _; rw [← HS2.out, decide_eq_true (show 128 ≤ z ∧ z ≤ 191 by omega)]; rfl
              clear HS2
              by_cases hq2 : q = 1
              · obtain ⟨ea, eb⟩ := HA1.out hq2
                rw [ea, eb] at HS3
                clear HA1 HA2 ea eb
                have hq3 : ((q : Int) == 1) = true := by rw [hq2]; rfl
                by_cases h3 : z < l1
                · have HF : Hid (E = false) := by show _ = _; rw [← HS3.out, decide_eq_false (by omega)]; rfl
                  clear HS3 hq2
                  go_wp2
                  go_ret
                  exact ⟨ret_bool HF.out.symm, rfl⟩
                by_cases h4 : l2 < z
                · have HF : Hid (E = false) := by show _ = _; rw [← HS3.out, decide_eq_false (by omega)]; rfl
                  clear HS3 hq2
                  go_wp2
                  go_ret
                  exact ⟨ret_bool HF.out.symm, rfl⟩
                have HS4 : Hid (letS (n - q) 128 191 (s.data.toList.drop (k + q + 1)) = E) := by show _ = _; rw [← HS3.out, decide_eq_true (by omega)]; rfl
                clear HS3 hq2
                go_wp2
                go_roundg (gk - 1)
                case measure => have := HGq.out; omega
                case rel => exact ⟨q + 1, 128, 191, by have := HGq.out; omega, by omega, by go_num, fun h => by omega, fun _ => ⟨rfl, rfl⟩, by rw [show n + 1 - (q + 1) = n - q by omega]; exact HS4.out, rfl⟩
              · obtain ⟨ea, eb⟩ := HA2.out hq2
                rw [ea, eb] at HS3
                clear HA1 HA2 ea eb
                have hq3 : ((q : Int) == 1) = false := by simp; omega
                have HS4 : Hid (letS (n - q) 128 191 (s.data.toList.drop (k + q + 1)) = E) := by show _ = _; rw [← HS3.out, decide_eq_true (by omega)]; rfl
                clear HS3
                go_wp2
                go_roundg (gk - 1)
                case measure => have := HGq.out; omega
                case rel => exact ⟨q + 1, 128, 191, by have := HGq.out; omega, by omega, by go_num, fun h => by omega, fun _ => ⟨rfl, rfl⟩, by rw [show n + 1 - (q + 1) = n - q by omega]; exact HS4.out, rfl⟩
            · have hqe : q = n + 1 := by have := HGq.out; omega
              have HX : Hid (letS 0 a b (s.data.toList.drop (k + n + 1)) = E) := by
                have := HQ.out
                rw [hqe, show n + 1 - (n + 1) = 0 by omega] at this
                exact this
              have hqi : ¬ (q : Int) ≤ (n : Int) := by omega
              clear HQ HA1 HA2 hqe
              have HGo := HG
              go_wp2
              go_roundg (s.size - (k + n + 1))
              case measure => have := HG.out; omega
              case rel => exact ⟨k + n + 1, a, b, by omega, rfl, by go_num, HX.out, rfl⟩
    · have HE : Hid (E = true) := by
        have := HK.out
        rw [List.drop_eq_nil_of_le (by rw [HSz.out]; omega)] at this
        exact this.symm
      clear HK
      go_wp2
      go_ret
      exact ⟨ret_bool HE.out.symm, rfl⟩

end Go.Proofs.YtbeaoekbppdlmaaDoor
set_option linter.unusedSimpArgs false
set_option linter.unusedVariables false
namespace Go.Proofs.YtbeaoekbppdlmaaDoor
open Go Go.RowKit

set_option maxHeartbeats 3200000 in
theorem rFair21_any (s : ByteArray) (fd : Bool) (w : World) (hs : s.size ≤ 281474976710656) :
    Calls Tryd.prog 44 #[.string s, .bool fd] w fun e w' => e = .returned (.bool (fairF fd s.data.toList)) ∧ w' = w := by
  have HL : Hid (Calls Tryd.prog 59 #[.string s] w fun e w' => e = .returned (.bool (letL s.data.toList)) ∧ w' = w) := rLetters21_any s w hs
  have HF : Hid (fairF fd s.data.toList = (s.data.toList.all (fun b => frB fd b.toNat) && letL s.data.toList)) := rfl
  have HSz : Hid (s.data.toList.length = s.size) := size20 s
  have HA : Hid (s.data.toList.all (fun b => frB fd b.toNat) = (s.data.toList.drop 0).all (fun b => frB fd b.toNat)) := rfl
  generalize letL s.data.toList = L at *
  generalize fairF fd s.data.toList = F at *
  generalize hA : s.data.toList.all (fun b => frB fd b.toNat) = a at *
  clear hA
  go_enter Tryd.func44, Tryd.ntmps44
  go_wp2
  go_loopg [5] s.size (fun g i wr => ∃ k : Nat, k + g = s.size ∧ i = .int .i64 k ∧ Hid (a = (s.data.toList.drop k).all (fun b => frB fd b.toNat)) ∧ w = wr)
  case atStart => exact ⟨0, by omega, rfl, HA.out, rfl⟩
  case round =>
    obtain ⟨k, hk, rfl, HK, hw⟩ := hrel
    subst hw
    have HG : Hid (k + gk = s.size) := hk
    by_cases hlt : k < s.size
    · have hd := drop20 hlt
      have HK2 : Hid (a = (frB fd (s[k]'hlt).toNat && (s.data.toList.drop (k + 1)).all (fun b => frB fd b.toNat))) := by show _ = _; rw [HK.out, hd, List.all_cons]
      have hz0 : 0 ≤ (((s[k]'hlt).toNat : Nat) : Int) := by omega
      clear hk HK hd HA
      obtain ⟨z, hz⟩ : ∃ z : Int, z = (((s[k]'hlt).toNat : Nat) : Int) := ⟨_, rfl⟩
      have hzz : (((s[k]'hlt).toNat : Nat) : Int) = z := hz.symm
      rw [← hz] at HK2 hz0
      clear hz
      have HX : Hid (frB fd z = true → a = (s.data.toList.drop (k + 1)).all (fun b => frB fd b.toNat)) := fun h => by rw [HK2.out, h]; rfl
      have HY : Hid (frB fd z = false → F = false) := fun h => by rw [HF.out, HK2.out, h]; rfl
      clear HK2
      by_cases c1 : z = 127
      · subst c1
        have HE : Hid (F = false) := HY.out (by cases fd <;> rfl)
        clear HX HY
        go_wp2
        go_ret
        exact ⟨ret_bool HE.out.symm, rfl⟩
      have b1 : (z == 127) = false := by simpa using c1
      by_cases c2 : z < 32
      · by_cases c3 : z = 9
        · subst c3
          have HE := HX.out (by cases fd <;> rfl)
          have HE2 : Hid (a = (s.data.toList.drop (k + 1)).all (fun b => frB fd b.toNat)) := HE
          clear HX HY HE c1
          go_wp2
          go_roundg (gk - 1)
          case measure => have := HG.out; omega
          case rel => exact ⟨k + 1, by have := HG.out; omega, by go_num, HE2.out, rfl⟩
        have b3 : (z != 9) = true := by simpa using c3
        have b3' : (z == 9) = false := by simpa using c3
        cases fd
        · have HE : Hid (F = false) := HY.out (by unfold frB; rw [b1, decide_eq_true c2, b3]; rfl)
          clear HX HY c1
          go_wp2
          go_ret
          exact ⟨ret_bool HE.out.symm, rfl⟩
        · by_cases c4 : z = 10
          · subst c4
            have HE := HX.out (by rfl)
            have HE2 : Hid (a = (s.data.toList.drop (k + 1)).all (fun b => frB true b.toNat)) := HE
            clear HX HY HE c1 c3
            go_wp2
            go_roundg (gk - 1)
            case measure => have := HG.out; omega
            case rel => exact ⟨k + 1, by have := HG.out; omega, by go_num, HE2.out, rfl⟩
          · have b4 : (z == 10) = false := by simpa using c4
            have HE : Hid (F = false) := HY.out (by unfold frB; rw [b1, decide_eq_true c2, b3, b4]; rfl)
            clear HX HY c1
            go_wp2
            go_ret
            exact ⟨ret_bool HE.out.symm, rfl⟩
      · have HE := HX.out (by unfold frB; rw [b1, decide_eq_false c2]; rfl)
        have HE2 : Hid (a = (s.data.toList.drop (k + 1)).all (fun b => frB fd b.toNat)) := HE
        clear HX HY HE c1
        go_wp2
        go_roundg (gk - 1)
        case measure => have := HG.out; omega
        case rel => exact ⟨k + 1, by have := HG.out; omega, by go_num, HE2.out, rfl⟩
    · have HE : Hid (F = L) := by show _ = _; rw [HF.out, HK.out, List.drop_eq_nil_of_le (by rw [HSz.out]; omega)]; rfl
      clear HK hk HA
      go_wp2_with (go_at_call 59; refine HL.out.mono ?_; rintro e w9 ⟨rfl, h9⟩; have h9s := h9.symm; clear h9; subst h9s)
      go_ret
      exact ⟨ret_bool HE.out.symm, rfl⟩

theorem hd_at (U : ByteArray) (h : 0 < U.size) : hdB U.data.toList = (((U[0]'h).toNat : Int) != 35 && ((U[0]'h).toNat : Int) != 45) := by
  have hd := drop20 h
  rw [List.drop_zero] at hd
  rw [hd]; rfl
set_option maxHeartbeats 3200000 in
theorem rName21_any (s : ByteArray) (w : World) (hs : s.size ≤ 281474976710656) :
    Calls Tryd.prog 31 #[.string s] w fun e w' => e = .returned (.bool (nameF s.data.toList)) ∧ w' = w := by
  have HF : Hid (nameF s.data.toList = (s.data.toList.all (fun b => nmB b.toNat) && hdB s.data.toList)) := rfl
  have HSz : Hid (s.data.toList.length = s.size) := size20 s
  have HA : Hid (s.data.toList.all (fun b => nmB b.toNat) = (s.data.toList.drop 0).all (fun b => nmB b.toNat)) := rfl
  generalize nameF s.data.toList = F at *
  generalize hA : s.data.toList.all (fun b => nmB b.toNat) = a at *
  clear hA
  go_enter Tryd.func31, Tryd.ntmps31
  go_wp2
  go_loopg [3] s.size (fun g i wr => ∃ k : Nat, k + g = s.size ∧ i = .int .i64 k ∧ Hid (a = (s.data.toList.drop k).all (fun b => nmB b.toNat)) ∧ w = wr)
  case atStart => exact ⟨0, by omega, rfl, HA.out, rfl⟩
  case round =>
    obtain ⟨k, hk, rfl, HK, hw⟩ := hrel
    subst hw
    have HG : Hid (k + gk = s.size) := hk
    by_cases hlt : k < s.size
    · have hd := drop20 hlt
      have HK2 : Hid (a = (nmB (s[k]'hlt).toNat && (s.data.toList.drop (k + 1)).all (fun b => nmB b.toNat))) := by show _ = _; rw [HK.out, hd, List.all_cons]
      clear hk HK hd HA
      obtain ⟨z, hz⟩ : ∃ z : Int, z = (((s[k]'hlt).toNat : Nat) : Int) := ⟨_, rfl⟩
      have hzz : (((s[k]'hlt).toNat : Nat) : Int) = z := hz.symm
      rw [← hz] at HK2
      clear hz
      have HX : Hid (nmB z = true → a = (s.data.toList.drop (k + 1)).all (fun b => nmB b.toNat)) := fun h => by rw [HK2.out, h]; rfl
      have HY : Hid (nmB z = false → F = false) := fun h => by rw [HF.out, HK2.out, h]; rfl
      have HU : Hid (nmB z = !(decide (z < 33) || decide (126 < z) || z == 58)) := rfl
      clear HK2
      by_cases c1 : z < 33
      · have HE : Hid (F = false) := HY.out (by rw [HU.out, decide_eq_true c1]; rfl)
        clear HX HY HU
        go_wp2
        go_ret
        exact ⟨ret_bool HE.out.symm, rfl⟩
      by_cases c2 : 126 < z
      · have HE : Hid (F = false) := HY.out (by rw [HU.out, decide_eq_true c2, decide_eq_false c1]; rfl)
        clear HX HY HU
        go_wp2
        go_ret
        exact ⟨ret_bool HE.out.symm, rfl⟩
      by_cases c3 : z = 58
      · subst c3
        have HE : Hid (F = false) := HY.out (by rfl)
        clear HX HY HU c1 c2
        go_wp2
        go_ret
        exact ⟨ret_bool HE.out.symm, rfl⟩
      have b3 : (z == 58) = false := by simpa using c3
      have HE := HX.out (by rw [HU.out, decide_eq_false c2, decide_eq_false c1, b3]; rfl)
      have HE2 : Hid (a = (s.data.toList.drop (k + 1)).all (fun b => nmB b.toNat)) := HE
      clear HX HY HE HU c3
      go_wp2
      go_roundg (gk - 1)
      case measure => have := HG.out; omega
      case rel => exact ⟨k + 1, by have := HG.out; omega, by go_num, HE2.out, rfl⟩
    · have HE : Hid (F = hdB s.data.toList) := by show _ = _; rw [HF.out, HK.out, List.drop_eq_nil_of_le (by rw [HSz.out]; omega)]; rfl
      clear HK hk HA
      by_cases h0 : 0 < s.size
      · have HH : Hid (F = (((s[0]'h0).toNat : Int) != 35 && ((s[0]'h0).toNat : Int) != 45)) := by show _ = _; rw [HE.out]; exact hd_at s h0
        have h0i : (0 : Int) < s.size := by omega
        clear HE
        obtain ⟨z, hz⟩ : ∃ z : Int, z = (((s[0]'h0).toNat : Nat) : Int) := ⟨_, rfl⟩
        have hzz : (((s[0]'h0).toNat : Nat) : Int) = z := hz.symm
        rw [← hz] at HH
        clear hz
        cases h1 : (z != 35) <;> cases h2 : (z != 45)
        all_goals
          go_wp2
          go_ret
          exact ⟨ret_bool (by rw [HH.out, h1, h2]; rfl), rfl⟩
      · have hH : Hid (F = false) := by
          show _ = _
          rw [HE.out, show s.data.toList = [] from List.eq_nil_of_length_eq_zero (by rw [size20]; omega)]
          rfl
        clear HE
        go_wp2
        go_ret
        exact ⟨ret_bool hH.out.symm, rfl⟩

theorem low3 {x l : Int} (h : l = if 65 ≤ x ∧ x ≤ 90 then x + 32 else x) : (x < 65 ∧ l = x) ∨ (65 ≤ x ∧ x ≤ 90 ∧ l = x + 32) ∨ (65 ≤ x ∧ 90 < x ∧ l = x) := by
  split at h
  · exact .inr (.inl ⟨by omega, by omega, h⟩)
  · by_cases h1 : x < 65
    · exact .inl ⟨h1, h⟩
    · exact .inr (.inr ⟨by omega, by omega, h⟩)
theorem low_range (z : Int) (h0 : 0 ≤ z) (h1 : z < 256) : 0 ≤ lowZ z ∧ lowZ z < 256 := by unfold lowZ; split <;> omega
set_option maxHeartbeats 3200000 in
theorem rAlike21_any (s t : ByteArray) (w : World) (hs : s.size ≤ 281474976710656) :
    Calls Tryd.prog 29 #[.string s, .string t] w fun e w' => e = .returned (.bool (alkF s.data.toList t.data.toList)) ∧ Below w.heap.size w w' := by
  have HSz : Hid (s.data.toList.length = s.size) := size20 s
  have HTz : Hid (t.data.toList.length = t.size) := size20 t
  obtain ⟨F, hF⟩ : ∃ F, F = alkF s.data.toList t.data.toList := ⟨_, rfl⟩
  rw [← hF]
  by_cases hlen : s.size = t.size
  case neg =>
    have HE : Hid (F = false) := by show _ = _; rw [hF]; exact alkF_len (by rw [HSz.out, HTz.out]; exact hlen)
    have hn : ((s.size : Int) == (t.size : Int)) = false := by simp; omega
    have hn2 : ((s.size : Int) != (t.size : Int)) = true := by simp; omega
    clear hF
    go_enter Tryd.func29, Tryd.ntmps29
    go_wp2
    go_ret
    exact ⟨ret_bool HE.out.symm, Below.refl _ _⟩
  have HA : Hid (F = alkF (s.data.toList.drop 0) (t.data.toList.drop 0)) := hF
  have hn : ((s.size : Int) == (t.size : Int)) = true := by simp; omega
  have hn2 : ((s.size : Int) != (t.size : Int)) = false := by simp; omega
  have HLen : Hid (s.size = t.size) := hlen
  clear hF hlen
  go_enter Tryd.func29, Tryd.ntmps29
  go_wp2
  go_loopg [5, 6, 7] s.size (fun g i x y wr => ∃ k : Nat, k + g = s.size ∧ i = .int .i64 k ∧ Hid (F = alkF (s.data.toList.drop k) (t.data.toList.drop k)) ∧ Hid (Below w.heap.size w wr))
  case atStart => exact ⟨0, by omega, rfl, HA.out, Below.refl _ _⟩
  case round =>
    obtain ⟨k, hk, rfl, HK, HB⟩ := hrel
    have HG : Hid (k + gk = s.size) := hk
    clear HA
    by_cases hlt : k < s.size
    · have hlt2 : k < t.size := by have := HLen.out; omega
      have hd := drop20 hlt
      have hd2 := drop20 hlt2
      have hX : F = ((lowZ (s[k]'hlt).toNat == lowZ (t[k]'hlt2).toNat) && alkF (s.data.toList.drop (k + 1)) (t.data.toList.drop (k + 1))) := by rw [HK.out, hd, hd2]; rfl
      have hr1 : 0 ≤ (((s[k]'hlt).toNat : Nat) : Int) ∧ (((s[k]'hlt).toNat : Nat) : Int) < 256 := ⟨by omega, by have := (s[k]'hlt).toNat_lt; omega⟩
      have hr2 : 0 ≤ (((t[k]'hlt2).toNat : Nat) : Int) ∧ (((t[k]'hlt2).toNat : Nat) : Int) < 256 := ⟨by omega, by have := (t[k]'hlt2).toNat_lt; omega⟩
      clear hd hd2 HK hk
      obtain ⟨x, hx⟩ : ∃ x : Int, x = (((s[k]'hlt).toNat : Nat) : Int) := ⟨_, rfl⟩
      obtain ⟨y, hy⟩ : ∃ y : Int, y = (((t[k]'hlt2).toNat : Nat) : Int) := ⟨_, rfl⟩
      have hxx : (((s[k]'hlt).toNat : Nat) : Int) = x := hx.symm
      have hyy : (((t[k]'hlt2).toNat : Nat) : Int) = y := hy.symm
      rw [← hx, ← hy] at hX
      rw [← hx] at hr1
      rw [← hy] at hr2
      have HX : Hid (F = ((lowZ x == lowZ y) && alkF (s.data.toList.drop (k + 1)) (t.data.toList.drop (k + 1)))) := hX
      have HLx : Hid (lowZ x = if 65 ≤ x ∧ x ≤ 90 then x + 32 else x) := rfl
      have HLy : Hid (lowZ y = if 65 ≤ y ∧ y ≤ 90 then y + 32 else y) := rfl
      clear hx hy hX
      generalize lowZ x = lx at *
      generalize lowZ y = ly at *
      go_wp2_with fail
      go_quiet (fail)
      have HBq : Hid (Below w.heap.size w (wr.drewN nq)) := HB.out.trans ⟨rfl, rfl, rfl, Nat.le_refl _, fun _ _ => rfl⟩
      generalize wr.drewN nq = wq at *
      clear HB hxx hyy
      have hx3 := low3 HLx.out
      have hy3 := low3 HLy.out
      clear HLx HLy
      by_cases hq : lx = ly
      · have q1 : (lx != ly) = false := by simpa using hq
        have HE : Hid (F = alkF (s.data.toList.drop (k + 1)) (t.data.toList.drop (k + 1))) := by show _ = _; rw [HX.out, hq]; simp
        clear HX hq
        rcases hx3 with ⟨a1, e1⟩ | ⟨a1, a2, e1⟩ | ⟨a1, a2, e1⟩ <;> rcases hy3 with ⟨b1, e2⟩ | ⟨b1, b2, e2⟩ | ⟨b1, b2, e2⟩
        all_goals
          rw [e1, e2] at q1
          clear e1 e2
          go_wp2
          go_roundg (gk - 1)
          case measure => have := HG.out; omega
          case rel => exact ⟨k + 1, by have := HG.out; omega, by go_num, HE.out, HBq.out⟩
      · have q1 : (lx != ly) = true := by simpa using hq
        have HE : Hid (F = false) := by show _ = _; rw [HX.out, beq_eq_false_iff_ne.2 hq]; rfl
        clear HX hq
        rcases hx3 with ⟨a1, e1⟩ | ⟨a1, a2, e1⟩ | ⟨a1, a2, e1⟩ <;> rcases hy3 with ⟨b1, e2⟩ | ⟨b1, b2, e2⟩ | ⟨b1, b2, e2⟩
        all_goals
          rw [e1, e2] at q1
          clear e1 e2
          go_wp2
          go_ret
          exact ⟨ret_bool HE.out.symm, HBq.out⟩
    · have HE : Hid (F = true) := by show _ = _; rw [HK.out, List.drop_eq_nil_of_le (by rw [HSz.out]; omega), List.drop_eq_nil_of_le (by rw [HTz.out, ← HLen.out]; omega)]; rfl
      clear HK hk
      go_wp2
      go_ret
      exact ⟨ret_bool HE.out.symm, HB.out⟩

end Go.Proofs.YtbeaoekbppdlmaaDoor

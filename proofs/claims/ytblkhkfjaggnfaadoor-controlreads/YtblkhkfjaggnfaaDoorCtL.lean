/-
  The document's Letters, walked.
  KEEP: len below nil form rd mono on app start at new trans refl kept own row out grown rdz set one more lt size cell some none letL tail next step go add put del get look no yes e c f b k n m box
-/
import Derived.Test.YtblkhkfjaggnfaaDoorCtA
set_option linter.unusedSimpArgs false
set_option linter.unusedVariables false
namespace Go.Proofs.YtblkhkfjaggnfaaDoor
open Go Go.RowKit

set_option maxHeartbeats 3200000 in
theorem rLetters21_any (s : ByteArray) (w : World) (hs : s.size ≤ 281474976710656) :
    Calls Tryd.prog 36 #[.string s] w fun e w' => e = .returned (.bool (letL s.data.toList)) ∧ w' = w := by
  obtain ⟨E, hE⟩ : ∃ E, E = letL s.data.toList := ⟨_, rfl⟩
  rw [← hE]
  have H0 : Hid (letS 0 0 0 (s.data.toList.drop 0) = E) := hE.symm
  have HSz : Hid (s.data.toList.length = s.size) := size20 s
  clear hE
  go_enter Tryd.func36, Tryd.ntmps36
  go_wp2
  go_loopg [3] s.size (fun g i wr => ∃ (k : Nat) (lo hi : Int), k ≤ s.size ∧ g = s.size - k ∧ i = .int .i64 k ∧ Hid (letS 0 lo hi (s.data.toList.drop k) = E) ∧ w = wr)
  case atStart => exact ⟨0, 0, 0, by omega, by omega, rfl, H0.out, rfl⟩
  case round =>
    obtain ⟨k, lo, hi, hks, hg, rfl, HK, hw⟩ := hrel
    subst hw
    have HG : Hid (gk = s.size - k) := hg
    clear hg H0
    by_cases hlt : k < s.size
    · have hd := drop20 hlt
      have HM : Hid (Calls Tryd.prog 48 #[.int .u8 (((s[k]'hlt).toNat : Nat) : Int)] w fun e w' => e = .returned (.tuple #[.int .i64 (moreF ((s[k]'hlt).toNat : Int)).1, .int .u8 (moreF ((s[k]'hlt).toNat : Int)).2.1, .int .u8 (moreF ((s[k]'hlt).toNat : Int)).2.2]) ∧ w' = w) := rMore21_any _ w (by omega)
      have hmm := moreF_ok ((s[k]'hlt).toNat : Int)
      have HLn : Hid ((s.data.toList.drop (k + 1)).length = s.size - (k + 1)) := by show _ = _; rw [List.length_drop, size20]
      rcases hmm with hneg | ⟨n, hn, hn3⟩
      · have HE : Hid (E = false) := by show _ = _; rw [← HK.out, hd]; exact letS_bad (by omega)
        rw [hneg] at HM
        clear hd HK hneg
        generalize (moreF ((s[k]'hlt).toNat : Int)).2.1 = l1 at *
        generalize (moreF ((s[k]'hlt).toNat : Int)).2.2 = l2 at *
        go_wp2_with (go_at_call 48; refine HM.out.mono ?_; rintro e w9 ⟨rfl, h9⟩; have h9s := h9.symm; clear h9; subst h9s)
        go_ret
        exact ⟨ret_bool HE.out.symm, rfl⟩
      · have HE : Hid (letS n (moreF ((s[k]'hlt).toNat : Int)).2.1 (moreF ((s[k]'hlt).toNat : Int)).2.2 (s.data.toList.drop (k + 1)) = E) := by show _ = _; rw [← HK.out, hd]; exact (letS_go hn).symm
        rw [hn] at HM
        clear hd HK hn
        generalize (moreF ((s[k]'hlt).toNat : Int)).2.1 = l1 at *
        generalize (moreF ((s[k]'hlt).toNat : Int)).2.2 = l2 at *
        by_cases hsh : s.size ≤ k + n
        · have HF : Hid (E = false) := by show _ = _; rw [← HE.out]; exact letS_short _ _ _ _ (by rw [HLn.out]; omega)
          have hsi : (s.size : Int) ≤ (k : Int) + n := by omega
          go_wp2_with (go_at_call 48; refine HM.out.mono ?_; rintro e w9 ⟨rfl, h9⟩; have h9s := h9.symm; clear h9; subst h9s)
          go_ret
          exact ⟨ret_bool HF.out.symm, rfl⟩
        · have hsi : ¬ (s.size : Int) ≤ (k : Int) + n := by omega
          go_wp2_with (go_at_call 48; refine HM.out.mono ?_; rintro e w9 ⟨rfl, h9⟩; have h9s := h9.symm; clear h9; subst h9s)
          clear HM
          go_loopg [7, 8] n (fun g j x wr => ∃ (q : Nat) (a b : Int), q + g = n + 1 ∧ 1 ≤ q ∧ j = .int .i64 q ∧ (q = 1 → a = l1 ∧ b = l2) ∧ (q ≠ 1 → a = 128 ∧ b = 191) ∧ Hid (letS (n + 1 - q) a b (s.data.toList.drop (k + q)) = E) ∧ w = wr)
          case atStart => exact ⟨1, l1, l2, by omega, Nat.le_refl _, by first | rfl | go_num, fun _ => ⟨rfl, rfl⟩, fun h => absurd rfl h, HE.out, rfl⟩
          case round =>
            obtain ⟨q, a, b, hq, hq1, rfl, ha1, ha2, HQ, hw⟩ := hrel
            subst hw
            have HGq : Hid (q + gk = n + 1) := hq
            have HA1 : Hid (q = 1 → a = l1 ∧ b = l2) := ha1
            have HA2 : Hid (q ≠ 1 → a = 128 ∧ b = 191) := ha2
            clear hq ha1 ha2 HE
            by_cases hqn : q ≤ n
            · have hlt2 : k + q < s.size := by omega
              have hd2 := drop20 hlt2
              have HS2 : Hid (((decide (128 ≤ ((s[k + q]'hlt2).toNat : Int) ∧ ((s[k + q]'hlt2).toNat : Int) ≤ 191) && decide (a ≤ ((s[k + q]'hlt2).toNat : Int) ∧ ((s[k + q]'hlt2).toNat : Int) ≤ b)) && letS (n - q) 128 191 (s.data.toList.drop (k + q + 1))) = E) := by
                show _ = _
                rw [← HQ.out, hd2, show n + 1 - q = (n - q) + 1 by omega]; rfl
              have hw1 : IntKind.i64.wrap ((k : Int) + (q : Int)) = (k : Int) + (q : Int) := by rw [IntKind.wrap_i64]; omega
              have hqi : (q : Int) ≤ (n : Int) := by omega
              clear HQ hd2
              obtain ⟨z, hz⟩ : ∃ z : Int, z = ((s[k + q]'hlt2).toNat : Int) := ⟨_, rfl⟩
              have hzz : ((s[k + q]'hlt2).toNat : Int) = z := hz.symm
              rw [← hz] at HS2
              clear hz
              by_cases h1 : z < 128
              · have HF : Hid (E = false) := by show _ = _; rw [← HS2.out, decide_eq_false (by omega)]; rfl
                clear HS2
                go_wp2
                go_ret
                exact ⟨ret_bool HF.out.symm, rfl⟩
              by_cases h2 : 191 < z
              · have HF : Hid (E = false) := by show _ = _; rw [← HS2.out, decide_eq_false (by omega)]; rfl
                clear HS2
                go_wp2
                go_ret
                exact ⟨ret_bool HF.out.symm, rfl⟩
              have HS3 : Hid ((decide (a ≤ z ∧ z ≤ b) && letS (n - q) 128 191 (s.data.toList.drop (k + q + 1))) = E) := by show _ = _; rw [← HS2.out, decide_eq_true (show 128 ≤ z ∧ z ≤ 191 by omega)]; rfl
              clear HS2
              by_cases hq2 : q = 1
              · obtain ⟨ea, eb⟩ := HA1.out hq2
                rw [ea, eb] at HS3
                clear HA1 HA2 ea eb
                have hq3 : ((q : Int) == 1) = true := by rw [hq2]; rfl
                by_cases h3 : z < l1
                · have HF : Hid (E = false) := by show _ = _; rw [← HS3.out, decide_eq_false (by omega)]; rfl
                  clear HS3 hq2
                  go_wp2
                  go_ret
                  exact ⟨ret_bool HF.out.symm, rfl⟩
                by_cases h4 : l2 < z
                · have HF : Hid (E = false) := by show _ = _; rw [← HS3.out, decide_eq_false (by omega)]; rfl
                  clear HS3 hq2
                  go_wp2
                  go_ret
                  exact ⟨ret_bool HF.out.symm, rfl⟩
                have HS4 : Hid (letS (n - q) 128 191 (s.data.toList.drop (k + q + 1)) = E) := by show _ = _; rw [← HS3.out, decide_eq_true (by omega)]; rfl
                clear HS3 hq2
                go_wp2
                go_roundg (gk - 1)
                case measure => have := HGq.out; omega
                case rel => exact ⟨q + 1, 128, 191, by have := HGq.out; omega, by omega, by go_num, fun h => by omega, fun _ => ⟨rfl, rfl⟩, by rw [show n + 1 - (q + 1) = n - q by omega]; exact HS4.out, rfl⟩
              · obtain ⟨ea, eb⟩ := HA2.out hq2
                rw [ea, eb] at HS3
                clear HA1 HA2 ea eb
                have hq3 : ((q : Int) == 1) = false := by simp; omega
                have HS4 : Hid (letS (n - q) 128 191 (s.data.toList.drop (k + q + 1)) = E) := by show _ = _; rw [← HS3.out, decide_eq_true (by omega)]; rfl
                clear HS3
                go_wp2
                go_roundg (gk - 1)
                case measure => have := HGq.out; omega
                case rel => exact ⟨q + 1, 128, 191, by have := HGq.out; omega, by omega, by go_num, fun h => by omega, fun _ => ⟨rfl, rfl⟩, by rw [show n + 1 - (q + 1) = n - q by omega]; exact HS4.out, rfl⟩
            · have hqe : q = n + 1 := by have := HGq.out; omega
              have HX : Hid (letS 0 a b (s.data.toList.drop (k + n + 1)) = E) := by
                have := HQ.out
                rw [hqe, show n + 1 - (n + 1) = 0 by omega] at this
                exact this
              have hqi : ¬ (q : Int) ≤ (n : Int) := by omega
              clear HQ HA1 HA2 hqe
              have HGo := HG
              go_wp2
              go_roundg (s.size - (k + n + 1))
              case measure => have := HG.out; omega
              case rel => exact ⟨k + n + 1, a, b, by omega, rfl, by go_num, HX.out, rfl⟩
    · have HE : Hid (E = true) := by
        have := HK.out
        rw [List.drop_eq_nil_of_le (by rw [HSz.out]; omega)] at this
        exact this.symm
      clear HK
      go_wp2
      go_ret
      exact ⟨ret_bool HE.out.symm, rfl⟩

end Go.Proofs.YtblkhkfjaggnfaaDoor

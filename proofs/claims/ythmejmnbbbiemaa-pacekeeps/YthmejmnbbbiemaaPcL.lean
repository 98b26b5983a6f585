/-
  pace.Luby, and the document's Luby, walked: both say lubI.
-/
import Derived.Test.YthmejmnbbbiemaaPcP
import Derived.Test.YthmejmnbbbiemaaShelfR
import Derived.WalkKit
import Derived.Handy
import Derived.Below
set_option linter.unusedSimpArgs false
set_option linter.unusedVariables false
namespace Go.Proofs.Ythmejmnbbbiemaa
open Go Go.RowKit

theorem ret_int13 {k : IntKind} {a b : Int} (h : a = b) : Ending.returned (.int k a) = .returned (.int k b) := by rw [h]
theorem ret_bool13 {a b : Bool} (h : a = b) : Ending.returned (.bool a) = .returned (.bool b) := by rw [h]

theorem shl13 {n : Nat} (h0 : n ≠ 0) (h : n < 9223372036854775808) : wrap64 ((2 : Int) ^ (Lib.bitLen n - 1)) = (hlf n : Int) := by
  obtain ⟨a, b, c⟩ := hlf_bitLen h0 h
  have hb := hlf_bound h0 h
  have e2 : ((2 : Int) ^ (Lib.bitLen n - 1)) = ((2 ^ (Lib.bitLen n - 1) : Nat) : Int) := by simp
  rw [e2, c]; unfold wrap64; omega

set_option maxHeartbeats 1000000 in
theorem luby_nat (n : Nat) (w : World) (h0 : 1 ≤ n) (h : n < 9223372036854775808) :
    Calls Try.prog 9 #[.int .i64 n] w fun e w' => e = .returned (.int .i64 (lub n)) ∧ w' = w := by
  go_enter Try.func9, Try.ntmps9
  go_wp2
  go_loop [0] (fun x => ∃ m : Nat, 1 ≤ m ∧ m < 9223372036854775808 ∧ x = .int .i64 m ∧ lub m = lub n) (fun x => (intOf x).toNat)
  case atStart => exact ⟨n, h0, h, rfl, rfl⟩
  case round =>
    obtain ⟨m, hm0, hm, rfl, he⟩ := hrel
    have HE : Hid (lub m = lub n) := he
    have hb := hlf_bound (n := m) (by omega) hm
    have hs := shl13 (n := m) (by omega) hm
    obtain ⟨b1, b2, b3⟩ := hlf_bitLen (n := m) (by omega) hm
    clear he b3
    have hp := hlf_pos m
    have hle := hlf_le (i := m) (by omega)
    by_cases ht : m + 1 = 2 * hlf m
    · have HT : Hid (lub m = hlf m) := lub_top (by omega) ht
      have hq : ((m : Int) - (hlf m : Int) == (hlf m : Int) - 1) = true := by simp; omega
      clear ht
      go_wp2_with (go_at_call 18; refine (Try.bits_Len _ _ (by omega) (by omega)).mono ?_; rintro e w' ⟨rfl, rfl⟩)
      go_ret
      exact ⟨ret_int13 (by rw [← HE.out, HT.out]; exact shl13 (by omega) hm), rfl⟩
    · have HT : Hid (lub m = lub (m - (hlf m - 1))) := lub_down (by omega) ht
      have hd := down_lt (i := m) (by omega) ht
      have hq : ((m : Int) - (hlf m : Int) == (hlf m : Int) - 1) = false := by simp; omega
      go_wp2_with (go_at_call 18; refine (Try.bits_Len _ _ (by omega) (by omega)).mono ?_; rintro e w' ⟨rfl, rfl⟩)
      go_round
      case rel => exact ⟨m - (hlf m - 1), by omega, by omega, by congr 1; omega, by rw [← HE.out, HT.out]⟩
      case measure => simp [intOf]; omega

theorem luby_any (i : Int) (w : World) (h1 : -9223372036854775808 ≤ i) (h2 : i ≤ 9223372036854775807) :
    Calls Try.prog 9 #[.int .i64 i] w fun e w' => e = .returned (.int .i64 (lubI i)) ∧ w' = w := by
  by_cases h : i < 1
  · have HL : Hid (lubI i = 0) := lubI_low h
    go_enter Try.func9, Try.ntmps9
    go_wp2
    go_ret
    exact ⟨ret_int13 HL.out.symm, rfl⟩
  · obtain ⟨n, rfl⟩ : ∃ n : Nat, i = n := ⟨i.toNat, by omega⟩
    rw [lubI_nat (by omega)]
    exact luby_nat n w (by omega) (by omega)

end Go.Proofs.Ythmejmnbbbiemaa
namespace Go.Proofs.Ythmejmnbbbiemaa.paceLuby
open Go Go.RowKit
end Go.Proofs.Ythmejmnbbbiemaa.paceLuby

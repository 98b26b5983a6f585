/-
  PackBack, walked.
  KEEP: len below nil form rd mono rdz on app start at new trans refl kept own row ap out step
-/
import Derived.Test.YtaalgilickkggaaPkR
set_option linter.unusedSimpArgs false
set_option linter.unusedVariables false
namespace Go.Proofs.Ytaalgilickkggaa
namespace packBack
open Go Go.RowKit

theorem pow7 (k : Nat) : (2 : Int) ^ (7 * k) = ((128 ^ k : Nat) : Int) := by
  have e : (128 : Nat) ^ k = 2 ^ (7 * k) := by rw [Nat.pow_mul]
  rw [e]; simp

set_option maxHeartbeats 3200000 in
set_option maxRecDepth 100000 in
theorem walk (n : Nat) (s : Value) (T : List UInt8) (w : World) (hn : n < 18446744073709551616) (hr : RdY w s T) (hb : T.length ≤ 140737488351232) :
    Calls Try.prog 7 #[.int .u64 n, s] w fun e w' => e = .returned (.bool true) ∧ RowKit.Below w.heap.size w w' := by
  have hl := hr.len
  have HR : Hid (RdY w s T) := hr
  obtain ⟨a, c, rfl, hc, hm, _⟩ := hr.form
  have h10 := numB_10 hn
  obtain ⟨m, hL⟩ : ∃ m, (numB n).length = m + 1 := ⟨(numB n).length - 1, by have := numB_pos n; omega⟩
  have hm9 : m ≤ 9 := by omega
  have HLast : Hid (((numB n).getD m 0).toNat < 128) := by have := numB_last n; rw [hL] at this; exact this
  have HHigh : Hid (∀ i, i < m → 128 ≤ ((numB n).getD i 0).toNat) := fun i hi => numB_high n i (by omega)
  have HLow : Hid (0 < m → 128 ^ m ≤ n) := fun h => by have := numB_ge (n := n) (by omega); rw [hL] at this; exact this
  have HUp : Hid (n < 128 ^ (m + 1)) := numB_lt (m + 1) n (by omega)
  have HNum : Hid (Calls Try.prog 11 #[.int .u64 n] w fun e w' => ∃ g, e = .returned (.slice (some ⟨g, 0, none⟩) (m + 1) 10) ∧ w.heap.size ≤ g ∧ RdY w' (.slice (some ⟨g, 0, none⟩) (m + 1) 10) (numB n) ∧ Below w.heap.size w w') := by
    have := number_any n w hn; rw [hL] at this; exact this
  have HTk : Hid (tkB 0 0 (numB n ++ T) = (n, m + 1, 0)) := by have := tk_back n T hn; rw [hL] at this; exact this
  have HLn : Hid ((numB n).length = m + 1) := hL
  have HAll : Hid ((numB n ++ T).length ≤ 140737488355328) := by show _ ≤ _; rw [List.length_append, hL]; omega
  clear hr hL h10
  generalize numB n = N at *
  go_enter Try.func7, Try.ntmps7
  go_wp2_with fail
  refine HNum.out.mono ?_
  rintro e w1 ⟨g, rfl, hg, rx, bel1⟩
  have RX : Hid (RdY w1 (.slice (some ⟨g, 0, none⟩) (m + 1) 10) N) := rx
  have R1 : Hid (RdY w1 (.slice a T.length c) T) := HR.out.below bel1
  have HCell : Hid (∀ j, j ≤ m → w1.cell? ⟨g, j, none⟩ = some (.int .u8 (N.getD j 0).toNat)) := fun j hj => by
    obtain ⟨a', c', e', _, _, hcell⟩ := rx.form
    obtain ⟨b, off, ha, _, h⟩ := hcell j (by have := HLn.out; omega)
    have e3 : a' = some ⟨g, 0, none⟩ := by injection e' with q1 q2 q3; exact q1.symm
    rw [ha] at e3
    injection e3 with e3
    injection e3 with q1 q2
    subst q1; subst q2
    rw [Nat.zero_add] at h
    exact h
  have hcm := HCell.out m (Nat.le_refl _)
  have hlast := HLast.out
  clear rx HNum
  have hlast2 : (N.getD m 0).toNat < 128 := hlast
  clear hlast
  generalize N.getD m 0 = y at *
  go_wp2
  go_loopg [6] m (fun g i wr => ∃ k : Nat, k + g = m ∧ i = .int .i64 k ∧ wr = w1)
  case atStart => exact ⟨0, by omega, rfl, rfl⟩
  case round =>
    obtain ⟨k, hk, rfl, rfl⟩ := hrel
    have HK : Hid (k + gk = m) := hk
    by_cases hlt : k < m
    · have hck := HCell.out k (by omega)
      have hy := HHigh.out k hlt
      have hyl : (N.getD k 0).toNat < 256 := (N.getD k 0).toNat_lt
      clear hk hcm
      generalize N.getD k 0 = z at *
      go_wp2
      go_roundg (gk - 1)
      case measure => have := HK.out; omega
      case rel => exact ⟨k + 1, by have := HK.out; omega, by go_num, rfl⟩
    · obtain rfl : k = m := by omega
      clear hk hcm
      have hnn : ((n : Int) == (n : Int)) = true := beq_self_eq_true _
      rcases Nat.eq_zero_or_pos k with hk0 | hk0
      · subst hk0
        have hsA : ((n : Int) / 128 != 0) = false := by have := HUp.out; simp; omega
        go_wp2_with fail
        refine (copiedY_any _ N _ RX.out).mono ?_
        rintro e w2 ⟨u2, rfl, own2, bel2⟩
        have O2 : Hid (OwnT wr.heap.size w2 u2 N) := own2
        have R2 : Hid (RdY w2 (.slice a T.length c) T) := R1.out.below bel2
        have hs2 := bel2.size
        clear own2
        go_wp2_with (at_builtin; refine wpList_append_y rfl _ _ rfl wr.heap.size _ N rfl O2.out _ T rfl R2.out (by have := HLn.out; omega) hs2 ?_; intro v3 w3 own3 gr3; refine Hid.out ?_)
        refine Lib.hid ?_
        have R3 : Hid (RdY w3 v3 (N ++ T)) := own3.rd (by have := HAll.out; omega)
        have bel3 : Below wr.heap.size wr w3 := bel2.grown gr3 hs2 (fun q hq => (O2.out.lt q hq).1)
        have HT2 : Hid (∀ W v, RdY W v (N ++ T) → Calls Try.prog 8 #[v] W fun e w' => e = .returned (.tuple #[.int .u64 n, .int .i64 (1), .int .i64 0]) ∧ w' = W) := fun W v h => by have := take_any v _ W h; rw [HTk.out] at this; exact this
        clear own3 gr3 bel2
        go_wp2_with (go_at_call 8; refine (HT2.out _ _ R3.out).mono ?_; rintro e w4 ⟨rfl, rfl⟩)
        go_ret
        exact ⟨rfl, Below.step bel1 bel3⟩
      rcases Nat.lt_or_ge k 9 with hk9 | hk9
      · have hsA : ((n : Int) / 2 ^ (7 * (k + 1)) != 0) = false := by
          have h1 := HUp.out
          have h2 : (n : Int) / ((128 ^ (k + 1) : Nat) : Int) = 0 := by rw [← Int.natCast_ediv, Nat.div_eq_of_lt h1]; rfl
          rw [pow7, h2]; rfl
        have hsB : ((n : Int) / 2 ^ (7 * k) == 0) = false := by
          have h1 := HLow.out hk0
          have h2 : 0 < n / 128 ^ k := Nat.div_pos h1 (Nat.pos_of_ne_zero (by simp))
          rw [pow7, ← Int.natCast_ediv]
          simp only [beq_eq_false_iff_ne, ne_eq]
          omega
        have hkk : (((k : Int) + 1) == ((k : Int) + 1)) = true := beq_self_eq_true _
        go_wp2_with fail
        refine (copiedY_any _ N _ RX.out).mono ?_
        rintro e w2 ⟨u2, rfl, own2, bel2⟩
        have O2 : Hid (OwnT wr.heap.size w2 u2 N) := own2
        have R2 : Hid (RdY w2 (.slice a T.length c) T) := R1.out.below bel2
        have hs2 := bel2.size
        clear own2
        go_wp2_with (at_builtin; refine wpList_append_y rfl _ _ rfl wr.heap.size _ N rfl O2.out _ T rfl R2.out (by have := HLn.out; omega) hs2 ?_; intro v3 w3 own3 gr3; refine Hid.out ?_)
        refine Lib.hid ?_
        have R3 : Hid (RdY w3 v3 (N ++ T)) := own3.rd (by have := HAll.out; omega)
        have bel3 : Below wr.heap.size wr w3 := bel2.grown gr3 hs2 (fun q hq => (O2.out.lt q hq).1)
        have HT2 : Hid (∀ W v, RdY W v (N ++ T) → Calls Try.prog 8 #[v] W fun e w' => e = .returned (.tuple #[.int .u64 n, .int .i64 ((k : Int) + 1), .int .i64 0]) ∧ w' = W) := fun W v h => by have := take_any v _ W h; rw [HTk.out] at this; exact this
        clear own3 gr3 bel2
        go_wp2_with (go_at_call 8; refine (HT2.out _ _ R3.out).mono ?_; rintro e w4 ⟨rfl, rfl⟩)
        go_ret
        exact ⟨rfl, Below.step bel1 bel3⟩
      · obtain rfl : k = 9 := by omega
        have hsB : ((n : Int) / 9223372036854775808 == 0) = false := by
          have h1 := HLow.out (by omega)
          simp only [beq_eq_false_iff_ne, ne_eq]
          omega
        go_wp2_with fail
        refine (copiedY_any _ N _ RX.out).mono ?_
        rintro e w2 ⟨u2, rfl, own2, bel2⟩
        have O2 : Hid (OwnT wr.heap.size w2 u2 N) := own2
        have R2 : Hid (RdY w2 (.slice a T.length c) T) := R1.out.below bel2
        have hs2 := bel2.size
        clear own2
        go_wp2_with (at_builtin; refine wpList_append_y rfl _ _ rfl wr.heap.size _ N rfl O2.out _ T rfl R2.out (by have := HLn.out; omega) hs2 ?_; intro v3 w3 own3 gr3; refine Hid.out ?_)
        refine Lib.hid ?_
        have R3 : Hid (RdY w3 v3 (N ++ T)) := own3.rd (by have := HAll.out; omega)
        have bel3 : Below wr.heap.size wr w3 := bel2.grown gr3 hs2 (fun q hq => (O2.out.lt q hq).1)
        have HT2 : Hid (∀ W v, RdY W v (N ++ T) → Calls Try.prog 8 #[v] W fun e w' => e = .returned (.tuple #[.int .u64 n, .int .i64 (10), .int .i64 0]) ∧ w' = W) := fun W v h => by have := take_any v _ W h; rw [HTk.out] at this; exact this
        clear own3 gr3 bel2
        go_wp2_with (go_at_call 8; refine (HT2.out _ _ R3.out).mono ?_; rintro e w4 ⟨rfl, rfl⟩)
        go_ret
        exact ⟨rfl, Below.step bel1 bel3⟩

end packBack
end Go.Proofs.Ytaalgilickkggaa

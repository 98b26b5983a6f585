/-
  HeatBegins, walked.
  KEEP: set on app at below new trans refl start kept mono lt add none own nil put len pos other cell ty blt fz box k p r pr a0 a1 a2 c0 c1 c2 hb setK setP setR unique grown step fin bij up q1 q2 pl held mk v1 v2 t1 t2 hs few cut root z kl nl sl d1 d2 row down has holds stp bel heat walk
-/
import Derived.Test.YtbfjhgiifmhccaaHtO
set_option linter.unusedSimpArgs false
set_option linter.unusedVariables false
namespace Go.Proofs.Ytbfjhgiifmhccaa
open Go Go.RowKit

theorem nat_swap14 (a b : Nat) : compare a b = (compare b a).swap := Std.OrientedCmp.eq_swap
theorem int_swap14 (a b : Int) : compare a b = (compare b a).swap := Std.OrientedCmp.eq_swap
theorem ord_swap14 : ∀ x y : Ieee.Datum, x.order y = (y.order x).map Ordering.swap
  | .nan .., y => by cases y <;> rfl
  | .infinity s, .nan .. => rfl
  | .infinity s, .infinity t => by cases s <;> cases t <;> rfl
  | .infinity s, .number .. => by cases s <;> rfl
  | .number .., .nan .. => rfl
  | .number .., .infinity t => by cases t <;> rfl
  | .number s m i, .number t n j => by
    simp only [Ieee.Datum.order, Option.map_some]
    rw [Int.min_comm j i, int_swap14]
theorem ge_swap14 (a b : Nat) : (FloatKind.f64.format.order a b == some .gt || FloatKind.f64.format.order a b == some .eq) = leF b a := by
  unfold leF Ieee.Format.order
  rw [ord_swap14]
  cases (Ieee.Datum.order (FloatKind.f64.format.read b) (FloatKind.f64.format.read a)) with
  | none => rfl
  | some o => cases o <;> rfl
theorem in_is {B b n dec st : Nat} {v : Hv} {K : List Nat} {H : Nat → Bool} {w : World} (h : Ht B w b v n dec st K H) (x : Int) (r : Bool) (hr : inB n H x = r) :
    Calls Try.prog 14 #[.pointer (some ⟨b, 0, none⟩), .int .i64 x] w fun e w' => e = .returned (.bool r) ∧ w' = w := by
  rw [← hr]; exact in_any x w h
namespace heatBegins
set_option maxHeartbeats 2000000 in
theorem walk (n : Int) (d : Nat) (w : World) (hn1 : -9223372036854775808 ≤ n) (hn2 : n ≤ 9223372036854775807) (hd : d < 18446744073709551616) :
    Calls Try.prog 4 #[.int .i64 n, .float .f64 d] w fun e w' => e = .returned (.bool true) ∧ Below w.heap.size w w' := by
  have HN1 : Hid (Calls Try.prog 10 #[.int .i64 2, .float .f64 4604930618986332160] w fun e w' => NewS w 2 4604930618986332160 e w') := new_yes 2 4604930618986332160 w (by omega) (by omega) (by decide +kernel)
  have HI1 : Hid (∀ W b v, Ht w.heap.size W b v 2 4604930618986332160 4607182418800017408 (List.replicate (2 + 1) 0) (fun _ => true) → Calls Try.prog 14 #[.pointer (some ⟨b, 0, none⟩), .int .i64 1] W fun e w' => e = .returned (.bool true) ∧ w' = W) := fun W b v h => in_is h 1 true (by decide)
  have HI3 : Hid (∀ W b v, Ht w.heap.size W b v 2 4604930618986332160 4607182418800017408 (List.replicate (2 + 1) 0) (fun _ => true) → Calls Try.prog 14 #[.pointer (some ⟨b, 0, none⟩), .int .i64 3] W fun e w' => e = .returned (.bool false) ∧ w' = W) := fun W b v h => in_is h 3 false (by decide)
  go_enter Try.func4, Try.ntmps4
  go_upto_region 4 with (first | (go_at_call 10; refine HN1.out.mono ?_; rintro e w1 ⟨b, v, rfl, ht, hb⟩; have HT : Hid (Ht w.heap.size w1 b v 2 4604930618986332160 4607182418800017408 (List.replicate (2 + 1) 0) (fun _ => true)) := ht; have HB : Hid (Below w.heap.size w w1) := hb; clear ht hb) | (go_at_call 14; with_reducible refine Calls.mono (HI1.out _ _ _ HT.out) ?_; rintro e w' ⟨rfl, hw'⟩; have hw'' := hw'.symm; clear hw'; subst hw'') | (go_at_call 14; with_reducible refine Calls.mono (HI3.out _ _ _ HT.out) ?_; rintro e w' ⟨rfl, hw'⟩; have hw'' := hw'.symm; clear hw'; subst hw''))
  clear HI1 HI3 HN1 HT
  have hge := ge_swap14 d 4602678819172646912
  by_cases hr : n < 0 ∨ 1048576 < n
  · have HN : Hid (Calls Try.prog 10 #[.int .i64 n, .float .f64 d] w1 fun e w' => e = .returned (.tuple #[.pointer none, .int .i64 2]) ∧ w' = w1) := new_far n d w1 hr
    by_cases h0 : n < 0
    · clear hr hge
      go_wp2_with (go_at_call 10; refine HN.out.mono ?_; rintro e w' ⟨rfl, hw'⟩; have hw'' := hw'.symm; clear hw'; subst hw'')
      go_ret
      exact ⟨rfl, HB.out⟩
    · have h1 : 1048576 < n := by omega
      clear hr hge
      go_wp2_with (go_at_call 10; refine HN.out.mono ?_; rintro e w' ⟨rfl, hw'⟩; have hw'' := hw'.symm; clear hw'; subst hw'')
      go_ret
      exact ⟨rfl, HB.out⟩
  · obtain ⟨m, rfl⟩ : ∃ m : Nat, n = m := ⟨n.toNat, by omega⟩
    have hm : m ≤ 1048576 := by omega
    have hm0 : ¬ ((m : Int) < 0) := by omega
    have hm1 : ¬ (1048576 < (m : Int)) := by omega
    have hle : (FloatKind.f64.format.order d 4607182418800017408 == some .lt || FloatKind.f64.format.order d 4607182418800017408 == some .eq) = leF d 4607182418800017408 := rfl
    clear hr hn1 hn2
    cases hdc : dcB d
    · have HN : Hid (Calls Try.prog 10 #[.int .i64 (m : Int), .float .f64 d] w1 fun e w' => e = .returned (.tuple #[.pointer none, .int .i64 2]) ∧ w' = w1) := new_bad m d w1 hm hdc
      unfold dcB at hdc
      cases ha : leF 4602678819172646912 d
      · rw [ha] at hge
        clear hdc hle ha
        go_wp2_with (go_at_call 10; refine HN.out.mono ?_; rintro e w' ⟨rfl, hw'⟩; have hw'' := hw'.symm; clear hw'; subst hw'')
        go_ret
        exact ⟨rfl, HB.out⟩
      · rw [ha] at hge hdc
        rw [Bool.true_and] at hdc
        rw [hdc] at hle
        clear hdc ha
        go_wp2_with (go_at_call 10; refine HN.out.mono ?_; rintro e w' ⟨rfl, hw'⟩; have hw'' := hw'.symm; clear hw'; subst hw'')
        go_ret
        exact ⟨rfl, HB.out⟩
    · have HN : Hid (Calls Try.prog 10 #[.int .i64 (m : Int), .float .f64 d] w1 fun e w' => NewS w1 m d e w') := new_yes m d w1 hm hd hdc
      unfold dcB at hdc
      rw [Bool.and_eq_true] at hdc
      rw [hdc.1] at hge
      rw [hdc.2] at hle
      clear hdc
      have HI0 : Hid (∀ W b v, Ht w1.heap.size W b v m d 4607182418800017408 (List.replicate (m + 1) 0) (fun _ => true) → Calls Try.prog 14 #[.pointer (some ⟨b, 0, none⟩), .int .i64 0] W fun e w' => e = .returned (.bool false) ∧ w' = W) := fun W b v h => in_is h 0 false (by simp [inB])
      have HIn : Hid (∀ W b v, Ht w1.heap.size W b v m d 4607182418800017408 (List.replicate (m + 1) 0) (fun _ => true) → Calls Try.prog 14 #[.pointer (some ⟨b, 0, none⟩), .int .i64 ((m : Int) + 1)] W fun e w' => e = .returned (.bool false) ∧ w' = W) := fun W b v h => in_is h _ false (by simp [inB]; omega)
      by_cases hz : m = 0
      · subst hz
        have HS : Hid (∀ W b v, Ht w1.heap.size W b v 0 d 4607182418800017408 (List.replicate (0 + 1) 0) (fun _ => true) → Calls Try.prog 15 #[.pointer (some ⟨b, 0, none⟩), .int .i64 0] W fun e w' => e = .returned (.tuple #[.float .f64 0, .int .i64 2]) ∧ w' = W) := fun W b v h => score_no 0 W h (by omega)
        have HIn1 : Hid (∀ W b v, Ht w1.heap.size W b v 0 d 4607182418800017408 (List.replicate (0 + 1) 0) (fun _ => true) → Calls Try.prog 14 #[.pointer (some ⟨b, 0, none⟩), .int .i64 1] W fun e w' => e = .returned (.bool false) ∧ w' = W) := fun W b v h => in_is h _ false (by simp [inB])
        clear HIn
        go_wp2_with (first | (go_at_call 10; refine HN.out.mono ?_; rintro e w2 ⟨b2, v2, rfl, ht, hb⟩; have HT : Hid (Ht w1.heap.size w2 b2 v2 0 d 4607182418800017408 (List.replicate (0 + 1) 0) (fun _ => true)) := ht; have HB2 : Hid (Below w1.heap.size w1 w2) := hb; clear ht hb) | (go_at_call 14; with_reducible refine Calls.mono (HI0.out _ _ _ HT.out) ?_; rintro e w' ⟨rfl, hw'⟩; have hw'' := hw'.symm; clear hw'; subst hw'') | (go_at_call 14; with_reducible refine Calls.mono (HIn1.out _ _ _ HT.out) ?_; rintro e w' ⟨rfl, hw'⟩; have hw'' := hw'.symm; clear hw'; subst hw'') | (go_at_call 15; refine Calls.mono (HS.out _ _ _ HT.out) ?_; rintro e w' ⟨rfl, hw'⟩; have hw'' := hw'.symm; clear hw'; subst hw''))
        go_ret
        exact ⟨rfl, Below.step HB.out HB2.out⟩
      · have HS : Hid (∀ W b v, Ht w1.heap.size W b v m d 4607182418800017408 (List.replicate (m + 1) 0) (fun _ => true) → Calls Try.prog 15 #[.pointer (some ⟨b, 0, none⟩), .int .i64 (m : Int)] W fun e w' => e = .returned (.tuple #[.float .f64 0, .int .i64 0]) ∧ w' = W) := fun W b v h => by have := score_yes m W h (by omega) (by omega); rw [gt_repl] at this; exact this
        have HI1 : Hid (∀ W b v, Ht w1.heap.size W b v m d 4607182418800017408 (List.replicate (m + 1) 0) (fun _ => true) → Calls Try.prog 14 #[.pointer (some ⟨b, 0, none⟩), .int .i64 1] W fun e w' => e = .returned (.bool true) ∧ w' = W) := fun W b v h => in_is h _ true (by simp [inB]; omega)
        have HIm : Hid (∀ W b v, Ht w1.heap.size W b v m d 4607182418800017408 (List.replicate (m + 1) 0) (fun _ => true) → Calls Try.prog 14 #[.pointer (some ⟨b, 0, none⟩), .int .i64 (m : Int)] W fun e w' => e = .returned (.bool true) ∧ w' = W) := fun W b v h => in_is h _ true (by simp [inB]; omega)
        have hzz : (FloatKind.f64.format.order 0 0 == some .eq) = true := by decide +kernel
        have hmp : 0 < (m : Int) := by omega
        have hmn : ((m : Int) == 0) = false := by simpa using hz
        go_wp2_with (first | (go_at_call 10; refine HN.out.mono ?_; rintro e w2 ⟨b2, v2, rfl, ht, hb⟩; have HT : Hid (Ht w1.heap.size w2 b2 v2 m d 4607182418800017408 (List.replicate (m + 1) 0) (fun _ => true)) := ht; have HB2 : Hid (Below w1.heap.size w1 w2) := hb; clear ht hb) | (go_at_call 14; with_reducible refine Calls.mono (HI0.out _ _ _ HT.out) ?_; rintro e w' ⟨rfl, hw'⟩; have hw'' := hw'.symm; clear hw'; subst hw'') | (go_at_call 14; with_reducible refine Calls.mono (HIn.out _ _ _ HT.out) ?_; rintro e w' ⟨rfl, hw'⟩; have hw'' := hw'.symm; clear hw'; subst hw'') | (go_at_call 14; with_reducible refine Calls.mono (HI1.out _ _ _ HT.out) ?_; rintro e w' ⟨rfl, hw'⟩; have hw'' := hw'.symm; clear hw'; subst hw'') | (go_at_call 14; with_reducible refine Calls.mono (HIm.out _ _ _ HT.out) ?_; rintro e w' ⟨rfl, hw'⟩; have hw'' := hw'.symm; clear hw'; subst hw'') | (go_at_call 15; refine Calls.mono (HS.out _ _ _ HT.out) ?_; rintro e w' ⟨rfl, hw'⟩; have hw'' := hw'.symm; clear hw'; subst hw''))
        go_ret
        exact ⟨rfl, Below.step HB.out HB2.out⟩
end heatBegins
end Go.Proofs.Ytbfjhgiifmhccaa

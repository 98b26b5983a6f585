/-
  HeatScales, walked.
  KEEP: set on app at below new trans refl start kept mono lt add none own nil put len pos other cell ty blt fz box k p r pr a0 a1 a2 c0 c1 c2 hb setK setP setR unique grown step fin bij up q1 q2 pl held mk v1 v2 t1 t2 hs few cut root z kl nl sl d1 d2 row down has holds stp bel heat walk
-/
import Derived.Test.YtbfjhgiifmhccaaHtPk
import Derived.Test.YtbfjhgiifmhccaaHtSc
set_option linter.unusedSimpArgs false
set_option linter.unusedVariables false
namespace Go.Proofs.Ytbfjhgiifmhccaa
open Go Go.RowKit

theorem ord_self {x : Nat} (h : x ≤ infR) : (FloatKind.f64.format.order x x == some .eq) = true := by
  show (Ieee.double.order x x == some .eq) = true
  rw [ord_word h h, Nat.compare_eq_eq.2 rfl]; rfl
namespace heatScales
theorem bump1 : bmpK [0, 0, 0] oneF 1 = [0, oneF, 0] ∧ bmpS [0, 0, 0] oneF 1 = oneF := by decide +kernel
theorem bump2 {i : Nat} (h : i < 665) : bmpK [0, scO i, 0] (scS i) 2 = [0, scO i, scS i] := by
  unfold bmpK
  have e : gt [0, scO i, 0] 2 = 0 := rfl
  rw [e, (scS_end h).1, if_neg (Nat.not_lt.2 (scS_end h).2)]
  rfl
set_option maxHeartbeats 2000000 in
theorem walk (cools : Int) (w : World) (hr1 : -9223372036854775808 ≤ cools) (hr2 : cools ≤ 9223372036854775807) :
    Calls Try.prog 7 #[.int .i64 cools] w fun e w' => e = .returned (.bool true) ∧ Below w.heap.size w w' := by
  have HP : Hid (Calls Try.prog 9 #[.int .i64 cools, .int .i64 665] w fun e w' => e = .returned (.int .i64 (pk14 cools 665 : Nat)) ∧ w' = w) := pick14_any cools 665 w (by omega) (by omega)
  have hn := pk14_lt cools (k := 665) (by omega)
  generalize pk14 cools 665 = n at *
  have HN1 : Hid (Calls Try.prog 10 #[.int .i64 2, .float .f64 4602678819172646912] w fun e w' => NewS w 2 4602678819172646912 e w') := new_yes 2 4602678819172646912 w (by omega) (by omega) (by decide +kernel)
  have HB1 : Hid (∀ W b v, Ht w.heap.size W b v 2 4602678819172646912 4607182418800017408 (List.replicate (2 + 1) 0) (fun _ => true) → Calls Try.prog 23 #[.pointer (some ⟨b, 0, none⟩), .int .i64 1] W fun e w' => e = .returned (.int .i64 0) ∧ Ht w.heap.size w' b v 2 hlfF (scS 0) [0, scO 0, 0] (fun _ => true) ∧ Mf W (v.own b) w' (v.own b)) := fun W b v h => by
    have := bump_yes 1 W h (by omega) (by omega)
    have e1 : bmpK (List.replicate (2 + 1) 0) 4607182418800017408 1 = [0, scO 0, 0] := bump1.1
    have e2 : bmpS (List.replicate (2 + 1) 0) 4607182418800017408 1 = scS 0 := bump1.2
    rw [e1, e2] at this
    exact this
  have HCl : Hid (∀ i W b v, i < 664 → Ht w.heap.size W b v 2 hlfF (scS i) [0, scO i, 0] (fun _ => true) → Calls Try.prog 24 #[.pointer (some ⟨b, 0, none⟩)] W fun e w' => e = .returned (.tuple #[]) ∧ Ht w.heap.size w' b v 2 hlfF (scS (i + 1)) [0, scO (i + 1), 0] (fun _ => true) ∧ Mf W (v.own b) w' (v.own b)) := fun i W b v hi h => by
    have := cool_any W h
    rw [scK hi] at this
    exact this
  have HBn : Hid (∀ W b v, Ht w.heap.size W b v 2 hlfF (scS n) [0, scO n, 0] (fun _ => true) → Calls Try.prog 23 #[.pointer (some ⟨b, 0, none⟩), .int .i64 2] W fun e w' => e = .returned (.int .i64 0) ∧ Ht w.heap.size w' b v 2 hlfF (bmpS [0, scO n, 0] (scS n) 2) [0, scO n, scS n] (fun _ => true) ∧ Mf W (v.own b) w' (v.own b)) := fun W b v h => by
    have := bump_yes 2 W h (by omega) (by omega)
    rw [bump2 hn] at this
    exact this
  have HS1 : Hid (∀ W b v st, Ht w.heap.size W b v 2 hlfF st [0, scO n, scS n] (fun _ => true) → Calls Try.prog 15 #[.pointer (some ⟨b, 0, none⟩), .int .i64 1] W fun e w' => e = .returned (.tuple #[.float .f64 (scO n), .int .i64 0]) ∧ w' = W) := fun W b v st h => score_yes 1 W h (by omega) (by omega)
  have HS2 : Hid (∀ W b v st, Ht w.heap.size W b v 2 hlfF st [0, scO n, scS n] (fun _ => true) → Calls Try.prog 15 #[.pointer (some ⟨b, 0, none⟩), .int .i64 2] W fun e w' => e = .returned (.tuple #[.float .f64 (scS n), .int .i64 0]) ∧ w' = W) := fun W b v st h => score_yes 2 W h (by omega) (by omega)
  have hE1 := ord_self (scO_le n)
  have hE2 := ord_self (Nat.le_trans (scS_end hn).2 (Nat.le_of_lt top_lt))
  go_enter Try.func7, Try.ntmps7
  go_wp2_with (first | (go_at_call 9; refine HP.out.mono ?_; rintro e w' ⟨rfl, hw'⟩; have hw'' := hw'.symm; clear hw'; subst hw'') | (go_at_call 10; refine HN1.out.mono ?_; rintro e w1 ⟨b, v, rfl, ht, hb⟩; have HT : Hid (Ht w.heap.size w1 b v 2 4602678819172646912 4607182418800017408 (List.replicate (2 + 1) 0) (fun _ => true)) := ht; have HB : Hid (Below w.heap.size w w1) := hb; clear ht hb) | (go_at_call 23; refine Calls.mono (HB1.out _ _ _ HT.out) ?_; rintro e w2 ⟨rfl, ht, hm⟩; have HT2 : Hid (Ht w.heap.size w2 b v 2 hlfF (scS 0) [0, scO 0, 0] (fun _ => true)) := ht; have HBB : Hid (Below w.heap.size w w2) := Mf.bel HB.out (fun k hk => (HT.out.lt k hk).1) hm; clear ht hm))
  go_loopg [6, 7, 8] n (fun g x y z wx => ∃ i : Nat, i + g = n ∧ x = .float .f64 (scO i) ∧ y = .float .f64 (scS i) ∧ z = .int .i64 (i : Int) ∧ Hid (Ht w.heap.size wx b v 2 hlfF (scS i) [0, scO i, 0] (fun _ => true)) ∧ Hid (Below w.heap.size w wx))
  case atStart => exact ⟨0, by omega, rfl, rfl, rfl, HT2, HBB⟩
  case round =>
    obtain ⟨i, hi, rfl, rfl, rfl, H1, H2⟩ := hrel
    clear HT HT2 HBB HB HB1 HN1 HP
    by_cases hlt : i < n
    · have hg : n - (i + 1) < gk := by omega
      have HKN : Hid (i + 1 + (n - (i + 1)) = n) := by show _ = _; omega
      obtain ⟨q1, q2⟩ := scS_ok (i := i) (by omega)
      have hm1 : ∀ W, (binOp .mul 23 (.float .f64 (scS i)) (.float .f64 4611686018427387904)).run Try.prog W = .ok (.float .f64 (fdiv (scS i) hlfF)) W := fun W => run_float_arith W .mul _ .f64 _ _ _ q2
      have HC1 : Hid (Calls Try.prog 24 #[.pointer (some ⟨b, 0, none⟩)] wr fun e w' => e = .returned (.tuple #[]) ∧ Ht w.heap.size w' b v 2 hlfF (scS (i + 1)) [0, scO (i + 1), 0] (fun _ => true) ∧ Below w.heap.size w w') := (HCl.out i wr b v (by omega) H1.out).mono fun e w' h => ⟨h.1, h.2.1, Mf.bel H2.out (fun k hk => (H1.out.lt k hk).1) h.2.2⟩
      have hdl : fdiv (scS i) hlfF ≤ infR := (div_ok (Nat.le_trans (scS_end (i := i) (by omega)).2 (Nat.le_of_lt top_lt)) (by decide) (dec_ne (by decide))).2
      by_cases h332 : i = 332
      · have hS : scS (i + 1) = scl (fdiv (scS i) hlfF) := by show colS hlfF (scS i) = _; unfold colS; rw [if_pos (q1.2 h332)]
        have hO : scO (i + 1) = scl (scO i) := by show (if i = 332 then scl (scO i) else scO i) = _; rw [if_pos h332]
        have hm2 := scl_run hdl 23
        have hm3 := scl_run (scO_le i) 23
        have HSO : Hid (scl (fdiv (scS i) hlfF) = scS (i + 1) ∧ scl (scO i) = scO (i + 1)) := ⟨hS.symm, hO.symm⟩
        have hib : ((i : Int) == 332) = true := by rw [h332]; rfl
        generalize scl (fdiv (scS i) hlfF) = y2 at *
        generalize scl (scO i) = x2 at *
        generalize fdiv (scS i) hlfF = y1 at *
        generalize scS i = y0 at *
        generalize scO i = x0 at *
        clear q1 q2 hS hO H1 H2 h332 hdl
        go_wp2_with (go_at_call 24; refine HC1.out.mono ?_; rintro e w3 ⟨rfl, h3, b3⟩; have H3 : Hid _ := h3; have B3 : Hid _ := b3; clear h3 b3)
        go_roundg (n - (i + 1))
        case rel => exact ⟨i + 1, HKN.out, by rw [HSO.out.2], by rw [HSO.out.1], by simp, H3.out, B3.out⟩
        case measure => exact hg
      · have hS : scS (i + 1) = fdiv (scS i) hlfF := by show colS hlfF (scS i) = _; unfold colS; rw [if_neg (fun h => h332 (q1.1 h))]
        have hO : scO (i + 1) = scO i := by show (if i = 332 then scl (scO i) else scO i) = _; rw [if_neg h332]
        have HSO : Hid (fdiv (scS i) hlfF = scS (i + 1) ∧ scO i = scO (i + 1)) := ⟨hS.symm, hO.symm⟩
        have hib : ((i : Int) == 332) = false := by simp; omega
        generalize fdiv (scS i) hlfF = y1 at *
        generalize scS i = y0 at *
        generalize scO i = x0 at *
        clear q1 q2 hS hO H1 H2 h332 hdl
        go_wp2_with (go_at_call 24; refine HC1.out.mono ?_; rintro e w3 ⟨rfl, h3, b3⟩; have H3 : Hid _ := h3; have B3 : Hid _ := b3; clear h3 b3)
        go_roundg (n - (i + 1))
        case rel => exact ⟨i + 1, HKN.out, by rw [HSO.out.2], by rw [HSO.out.1], by simp, H3.out, B3.out⟩
        case measure => exact hg
    · have hie : i = n := by omega
      subst hie
      clear HCl
      generalize scO i = x0 at *
      generalize scS i = y0 at *
      go_wp2_with (first | (go_at_call 23; refine Calls.mono (HBn.out _ _ _ H1.out) ?_; rintro e w4 ⟨rfl, ht, hm⟩; have HT4 : Hid _ := ht; have HB4 : Hid (Below w.heap.size w w4) := Mf.bel H2.out (fun k hk => (H1.out.lt k hk).1) hm; clear ht hm) | (go_at_call 15; with_reducible refine Calls.mono (HS1.out _ _ _ _ HT4.out) ?_; rintro e w' ⟨rfl, hw'⟩; have hw'' := hw'.symm; clear hw'; subst hw'') | (go_at_call 15; with_reducible refine Calls.mono (HS2.out _ _ _ _ HT4.out) ?_; rintro e w' ⟨rfl, hw'⟩; have hw'' := hw'.symm; clear hw'; subst hw''))
      go_ret
      exact ⟨rfl, HB4.out⟩
end heatScales
end Go.Proofs.Ytbfjhgiifmhccaa

/-
  TrimOnly, walked.
  KEEP: len below nil form rd mono one more grown lt size cell some none of ofNat add out step row get at drop on app start bx ans own box bel rds
-/
import Derived.Test.YtldolhllacbhjaaTmR
import Derived.Test.YtldolhllacbhjaaSameF
set_option linter.unusedSimpArgs false
set_option linter.unusedVariables false
namespace Go.Proofs.Ytldolhllacbhjaa
namespace trimOnly
open Go Go.RowKit
set_option maxHeartbeats 1600000 in
set_option maxRecDepth 100000 in
theorem walk (n : Int) (s : Value) (css : List (List Int)) (vc : Value) (core : List Int) (w : World) (_ : (Lit.int .i64 n).wf = true) (hr : Rds w s css) (hc : Rd w vc core) :
    Calls Try.prog 3 #[.agg #[.int .i64 n, s], vc] w fun e w' => e = .returned (.bool true) ∧ Below w.heap.size w w' := by
  have hbx := below_box w (.cells #[.int .i64 n, s] 24)
  have hX := Bx2.new w 24 (.int .i64 n) s
  have HR : Hid (Rds w s css ∧ Rd w vc core) := ⟨hr, hc⟩
  have HX : Hid (Bx2 (w.alloc (.cells #[.int .i64 n, s] 24)) w.heap.size 24 (.int .i64 n) s ∧ Below w.heap.size w (w.alloc (.cells #[.int .i64 n, s] 24))) := ⟨hX, hbx⟩
  obtain ⟨q, hq⟩ : ∃ q, onlF n css core = q := ⟨_, rfl⟩
  have HO : Hid (∀ W u v, Rds W u css → Rd W v core → Calls Try.prog 6 #[.agg #[.int .i64 n, u], v] W fun e w' => ∃ s', e = .returned (.tuple #[.agg #[.int .i64 q.1, s'], .int .i64 q.2.2]) ∧ Rds w' s' q.2.1 ∧ Below W.heap.size W w') := fun W u v h g => (only_any n u v css core W h g).mono fun e w' hh => by
    rw [hq] at hh
    obtain ⟨s', h1, h2, h3⟩ := hh
    exact ⟨s', h1, by have := only_rds (v := n) (core := core) (w := W) (W := w') (s := u) (s' := s') h (by rw [hq]; exact h2); rw [hq] at this; exact this, h3⟩
  have HD : Hid (∀ W, Below w.heap.size w W → Calls Try.prog 9 #[.agg #[.int .i64 n, s], vc] W fun e w' => ∃ s', e = .returned (.tuple #[.agg #[.int .i64 q.1, s'], .int .i64 q.2.2]) ∧ Rds w' s' q.2.1 ∧ Below W.heap.size W w') := fun W h => (rOnly_any n s vc css core W (hr.below h) (hc.below h)).mono fun e w' hh => by
    rw [hq] at hh
    obtain ⟨s', h1, h2, h3⟩ := hh
    exact ⟨s', h1, by have := only_rds (v := n) (core := core) (w := W) (W := w') (s := s) (s' := s') (hr.below h) (by rw [hq]; exact h2); rw [hq] at this; exact this, h3⟩
  obtain ⟨q1, q2, q3⟩ := q
  dsimp only at HO HD
  have hr24 := hr.len
  have hr8 := rds_each hr
  obtain ⟨sa, sc, rfl, _⟩ := hr.form
  obtain ⟨ac, cc, rfl, _⟩ := hc.form
  have hc8 := hc.len
  have hee : (q3 == q3) = true := beq_self_eq_true q3
  clear hr hc hbx hX hq
  go_enter Try.func3, Try.ntmps3
  go_upto_region 1 with fail
  generalize w.alloc (.cells #[.int .i64 n, .slice sa css.length sc] 24) = W1 at *
  obtain ⟨X, hXe⟩ : ∃ X, w.heap.size = X := ⟨_, rfl⟩
  have HXe : Hid (w.heap.size = X) := hXe
  rw [hXe] at HX ⊢
  clear hXe
  have f0 := HX.out.1.c0
  have f1 := HX.out.1.c1
  have HB1 : Hid (Below w.heap.size w W1) := by have := HX.out.2; rw [← HXe.out] at this; exact this
  go_wp2_with fail
  refine (copyFormula_any n _ css W1 (HR.out.1.below HB1.out)).mono ?_
  rintro e w2 ⟨u2, rfl, o2, b2⟩
  have H2 : Hid (Rds w2 u2 css ∧ Below W1.heap.size W1 w2) := ⟨o2.rds hr24 hr8, b2⟩
  clear o2 b2 f0 f1
  go_wp2_with fail
  refine (copyInts_any _ core w2 (HR.out.2.below (Below.step HB1.out H2.out.2))).mono ?_
  rintro e w3 ⟨u3, rfl, o3, b3⟩
  have H3 : Hid (Rds w3 u2 css ∧ Rd w3 u3 core ∧ Below W1.heap.size W1 w3) := ⟨H2.out.1.below b3, o3.rd hc8, Below.step H2.out.2 b3⟩
  clear o3 b3
  go_wp2_with fail
  refine (HO.out w3 u2 u3 H3.out.1 H3.out.2.1).mono ?_
  rintro e w4 ⟨s4, rfl, r4, b4⟩
  have H4 : Hid (Rds w4 s4 q2 ∧ Below W1.heap.size W1 w4) := ⟨r4, Below.step H3.out.2.2 b4⟩
  clear r4 b4
  have hb5 := below_box w4 (.cells #[.int .i64 q1, s4] 24)
  have hx5 := Bx2.new w4 24 (.int .i64 q1) s4
  have H5 : Hid (Rds (w4.alloc (.cells #[.int .i64 q1, s4] 24)) s4 q2 ∧ Below W1.heap.size W1 (w4.alloc (.cells #[.int .i64 q1, s4] 24)) ∧ Bx2 (w4.alloc (.cells #[.int .i64 q1, s4] 24)) w4.heap.size 24 (.int .i64 q1) s4) := ⟨H4.out.1.below hb5, Below.step H4.out.2 hb5, hx5⟩
  obtain ⟨a4, c4, rfl, _⟩ := H4.out.1.form
  clear hb5 hx5
  go_upto_region 2 with fail
  generalize w4.alloc (.cells #[.int .i64 q1, .slice a4 q2.length c4] 24) = w5 at *
  generalize w4.heap.size = Y at *
  have f0 := (HX.out.1.below H5.out.2.1).c0
  have f1 := (HX.out.1.below H5.out.2.1).c1
  go_wp2_with fail
  refine (HD.out w5 (Below.step HB1.out H5.out.2.1)).mono ?_
  rintro e w6 ⟨s6, rfl, r6, b6⟩
  have hb7 := below_box w6 (.cells #[.int .i64 q1, s6] 24)
  have hx7 := Bx2.new w6 24 (.int .i64 q1) s6
  have H7 : Hid (Rds (w6.alloc (.cells #[.int .i64 q1, s6] 24)) (.slice a4 q2.length c4) q2 ∧ Rds (w6.alloc (.cells #[.int .i64 q1, s6] 24)) s6 q2 ∧ Below W1.heap.size W1 (w6.alloc (.cells #[.int .i64 q1, s6] 24)) ∧ Bx2 (w6.alloc (.cells #[.int .i64 q1, s6] 24)) Y 24 (.int .i64 q1) (.slice a4 q2.length c4) ∧ Bx2 (w6.alloc (.cells #[.int .i64 q1, s6] 24)) w6.heap.size 24 (.int .i64 q1) s6) := ⟨(H5.out.1.below b6).below hb7, r6.below hb7, Below.step (Below.step H5.out.2.1 b6) hb7, (H5.out.2.2.below b6).below hb7, hx7⟩
  obtain ⟨a6, c6, rfl, _⟩ := r6.form
  clear r6 b6 hb7 hx7 f0 f1
  go_upto_region 3 with fail
  generalize w6.alloc (.cells #[.int .i64 q1, .slice a6 q2.length c6] 24) = w7 at *
  generalize w6.heap.size = Z at *
  have y0 := H7.out.2.2.2.1.c0
  have y1 := H7.out.2.2.2.1.c1
  have z0 := H7.out.2.2.2.2.c0
  have z1 := H7.out.2.2.2.2.c1
  go_wp2_with fail
  refine (sameFormula_self q1 _ _ q2 w7 H7.out.1 H7.out.2.1).mono ?_
  rintro e w8 ⟨rfl, b8⟩
  have H8 : Hid (Below w.heap.size w w8) := Below.step (Below.step HB1.out H7.out.2.2.1) b8
  clear b8 y0 y1 z0 z1
  go_wp2_with fail
  go_ret
  exact ⟨rfl, H8.out⟩
end trimOnly
end Go.Proofs.Ytldolhllacbhjaa

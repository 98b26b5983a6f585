/-
  CnfCounts, walked.
-/
import Derived.Test.YtbphbnfnolgkfaaDoorRCnt
import Derived.Test.YtbphbnfnolgkfaaDoorSmall
set_option linter.unusedSimpArgs false
set_option linter.unusedVariables false
namespace Go.Proofs.YtbphbnfnolgkfaaDoor.cnfCounts
open Go Go.RowKit

theorem small_one : (modF 2 smallF).length = 1 ∧ cntE 2 smallF = 0 := by decide

set_option maxRecDepth 100000 in
set_option maxHeartbeats 1600000 in
theorem walk (n : Int) (s : Value) (css : List (List Int)) (vc : Value) (zs : List Int) (w : World) (_ : (Lit.int .i64 n).wf = true) (hr : Rds w s css) (hz : Rd w vc zs) (ht : Tens w) :
    Calls Tryd.prog 5 #[.agg #[.int .i64 n, s], vc] w fun e w' => e = .returned (.bool true) ∧ Below w.heap.size w w' := by
  have HX : Hid (Bx w n s css (w.alloc (.cells #[.int .i64 n, s] 24))) := Bx.new hr _
  have HZ : Hid (Rd (w.alloc (.cells #[.int .i64 n, s] 24)) vc zs) := hz.below (below_box _ _)
  have HT : Hid (Tens w) := ht
  obtain ⟨a, c, rfl, hc, hm, _⟩ := hr.form
  obtain ⟨az, cz, rfl, hcz, hmz, _⟩ := hz.form
  have HS1 : Hid ((modF 2 smallF).length = 1 ∧ cntE 2 smallF = 0) := small_one
  have HML : Hid ((modF n css).length ≤ 65536) := modF_len n css
  clear hr hz ht
  go_enter Tryd.func5, Tryd.ntmps5
  go_wp2_with fail
  refine (small_any _).mono ?_
  rintro e w1 ⟨s1, rfl, r1, bel1⟩
  have HX1 : Hid (Bx w n (.slice a css.length c) css w1) := HX.out.on bel1
  have R1 : Hid (Rds w1 s1 smallF) := r1
  have HZ1 : Hid (Rd w1 (.slice az zs.length cz) zs) := HZ.out.below bel1
  clear HX HZ r1
  go_wp2_with fail
  refine (cnfCount_any 2 s1 smallF w1 R1.out (HT.out.below HX1.out.bel)).mono ?_
  rw [HS1.out.1, HS1.out.2]
  rintro e w2 ⟨rfl, bel2⟩
  have HX2 : Hid (Bx w n (.slice a css.length c) css w2) := HX1.out.on bel2
  have HZ2 : Hid (Rd w2 (.slice az zs.length cz) zs) := HZ1.out.below bel2
  have c0 := HX2.out.c0
  have c1 := HX2.out.c1
  clear HX1 HZ1 R1 bel1 bel2
  obtain ⟨N, hN⟩ : ∃ N : Nat, N = (modF n css).length := ⟨_, rfl⟩
  obtain ⟨E, hE⟩ : ∃ E, E = cntE n css := ⟨_, rfl⟩
  have HC : Hid (∀ W, Bx w n (.slice a css.length c) css W → Calls Tryd.prog 13 #[.agg #[.int .i64 n, .slice a css.length c]] W fun e w' => e = .returned (.tuple #[.int .i64 N, .int .i64 E]) ∧ Below W.heap.size W w') := fun W h => by rw [hN, hE]; exact cnfCount_any n _ css W h.rd (HT.out.below h.bel)
  have HR : Hid (∀ W, Bx w n (.slice a css.length c) css W → Calls Tryd.prog 15 #[.agg #[.int .i64 n, .slice a css.length c]] W fun e w' => e = .returned (.tuple #[.int .i64 N, .int .i64 E]) ∧ Below W.heap.size W w') := fun W h => by rw [hN, hE]; exact rCount_any n _ css W h.rd
  obtain ⟨B, hB⟩ : ∃ B, B = entB n css zs := ⟨_, rfl⟩
  obtain ⟨D, hD⟩ : ∃ D, D = entE n css zs := ⟨_, rfl⟩
  have HCE : Hid (∀ W, Bx w n (.slice a css.length c) css W → Rd W (.slice az zs.length cz) zs → Calls Tryd.prog 16 #[.agg #[.int .i64 n, .slice a css.length c], .slice az zs.length cz] W fun e w' => e = .returned (.tuple #[.bool B, .int .i64 D]) ∧ Below W.heap.size W w') := fun W h h2 => by rw [hB, hD]; exact cnfEntails_any n _ _ css zs W h.rd h2 (HT.out.below h.bel)
  have HRE : Hid (∀ W, Bx w n (.slice a css.length c) css W → Rd W (.slice az zs.length cz) zs → Calls Tryd.prog 17 #[.agg #[.int .i64 n, .slice a css.length c], .slice az zs.length cz] W fun e w' => e = .returned (.tuple #[.bool B, .int .i64 D]) ∧ Below W.heap.size W w') := fun W h h2 => by rw [hB, hD]; exact rEntails_any n _ _ css zs W h.rd h2
  clear hN hE hB hD
  go_wp2_with fail
  refine (HC.out w2 HX2.out).mono ?_
  rintro e w3 ⟨rfl, bel3⟩
  have HX3 : Hid (Bx w n (.slice a css.length c) css w3) := HX2.out.on bel3
  have HZ3 : Hid (Rd w3 (.slice az zs.length cz) zs) := HZ2.out.below bel3
  have d0 := HX3.out.c0
  have d1 := HX3.out.c1
  clear c0 c1 HX2 HZ2 bel3
  go_wp2_with fail
  refine (HR.out w3 HX3.out).mono ?_
  rintro e w4 ⟨rfl, bel4⟩
  have HX4 : Hid (Bx w n (.slice a css.length c) css w4) := HX3.out.on bel4
  have HZ4 : Hid (Rd w4 (.slice az zs.length cz) zs) := HZ3.out.below bel4
  have c0 := HX4.out.c0
  have c1 := HX4.out.c1
  clear d0 d1 HX3 HZ3 bel4
  go_wp2_with fail
  refine (HCE.out w4 HX4.out HZ4.out).mono ?_
  rintro e w5 ⟨rfl, bel5⟩
  have HX5 : Hid (Bx w n (.slice a css.length c) css w5) := HX4.out.on bel5
  have HZ5 : Hid (Rd w5 (.slice az zs.length cz) zs) := HZ4.out.below bel5
  have d0 := HX5.out.c0
  have d1 := HX5.out.c1
  clear c0 c1 HX4 HZ4 bel5
  go_wp2_with fail
  refine (HRE.out w5 HX5.out HZ5.out).mono ?_
  rintro e w6 ⟨rfl, bel6⟩
  have HX6 : Hid (Bx w n (.slice a css.length c) css w6) := HX5.out.on bel6
  go_wp2
  go_ret
  exact ⟨rfl, HX6.out.bel⟩

end Go.Proofs.YtbphbnfnolgkfaaDoor.cnfCounts

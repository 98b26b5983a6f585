/-
  RupPartners: the walk.
  KEEP: set on app at below new trans refl start ap kept rd rds mono lt add none own nil put len pos setF setV putL putR other neV same_any walk
-/
import Derived.Test.YtkinilhapgagcaaRpQ
import Derived.Test.YtkinilhapgagcaaRuS
import Derived.Test.YtkinilhapgagcaaSames
import Derived.Test.YtkinilhapgagcaaNwf
import Derived.Test.YtkinilhapgagcaaGrow
import Derived.Deep.RegionHeld
set_option linter.unusedSimpArgs false
set_option linter.unusedVariables false
namespace Go.Proofs.Ytkinilhapgagcaa
open Go Go.RowKit
theorem ptn_sml : ptnA 2 sml8 (ngw 1) = [0] := by decide
namespace rupPartners
set_option maxHeartbeats 1600000 in
theorem walk (n : Int) (s : Value) (css : List (List Int)) (l : Int) (w : World) (_ : (Lit.int .i64 n).wf = true) (hr : Rds w s css) (hl0 : (Lit.int .i64 l).wf = true) :
    Calls Try.prog 3 #[.agg #[.int .i64 n, s], .int .i64 l] w fun e w' => e = .returned (.bool true) ∧ Below w.heap.size w w' := by
  have hl := wf_i64 hl0
  clear hl0
  have HX : Hid (Bx w n s css (w.alloc (.cells #[.int .i64 n, s] 24))) := Bx.new hr _
  have HL : Hid (i64 l ∧ css.length * 24 ≤ 140737488351232) := ⟨hl, hr.len⟩
  clear hr hl
  go_enter Try.func3, Try.ntmps3
  go_wp2_with fail
  refine (small8_any _).mono ?_
  rintro e w1 ⟨s1, rfl, hr1, bel1⟩
  have HX1 : Hid (Bx w n s css w1) := HX.out.on bel1
  have HR1 : Hid (Rds w1 s1 sml8) := hr1
  clear hr1 bel1 HX
  go_wp2_with fail
  refine (partners_any 2 _ sml8 1 _ HR1.out).mono ?_
  rintro e w2 ⟨v2, rfl, own2, bel2⟩
  rw [ptn_sml] at own2
  have HX2 : Hid (Bx w n s css w2) := HX1.out.on bel2
  obtain ⟨a2, c2, e2⟩ := own_form own2
  subst e2
  obtain ⟨b2, o2, e2, k2⟩ : ∃ b2 o2, a2 = some ⟨b2, o2, none⟩ ∧ w2.cell? ⟨b2, o2, none⟩ = some (.int .i64 0) := by
    obtain ⟨a3, c3, e3, -, -, hc⟩ := (own2.rd (by simp)).form
    injection e3 with e31
    obtain ⟨b, o, e4, hk⟩ := hc 0 (by simp)
    exact ⟨b, o, e31.trans e4, hk⟩
  subst e2
  have c0 := HX2.out.c0
  have c1 := HX2.out.c1
  clear own2 bel2 HX1 HR1
  have hp := ptnA_len n css (ngw l)
  have HLn : Hid ((ptnA n css (ngw l)).length * 8 ≤ 140737488351232) := by show _ ≤ _; have := HL.out.2; omega
  have HP1 : Hid (∀ W, Below w2.heap.size w2 W → Calls Try.prog 5 #[.agg #[.int .i64 n, s], .int .i64 l] W fun e w' => ∃ a3 c3, e = .returned (.slice a3 (ptnA n css (ngw l)).length c3) ∧ Rd w' (.slice a3 (ptnA n css (ngw l)).length c3) (ptnA n css (ngw l)) ∧ Below w2.heap.size w2 w') := fun W hW => (partners_any n _ css l W (HX2.out.rd.below hW)).mono fun e w' ⟨v3, he, ho, hb⟩ => by
    obtain ⟨a3, c3, e3⟩ := own_form ho
    subst e3
    exact ⟨a3, c3, he, ho.rd HLn.out, Below.step hW hb⟩
  have HP2 : Hid (∀ W, Below w2.heap.size w2 W → Calls Try.prog 8 #[.agg #[.int .i64 n, s], .int .i64 l] W fun e w' => ∃ a3 c3, e = .returned (.slice a3 (ptnA n css (ngw l)).length c3) ∧ Rd w' (.slice a3 (ptnA n css (ngw l)).length c3) (ptnA n css (ngw l)) ∧ Below W.heap.size W w') := fun W hW => (rPartners_any n _ css l W (HX2.out.rd.below hW) HL.out.1).mono fun e w' ⟨v3, he, ho, hb⟩ => by
    obtain ⟨a3, c3, e3⟩ := own_form ho
    subst e3
    exact ⟨a3, c3, he, ho.rd HLn.out, hb⟩
  have HSm : Hid (∀ W a3 c3 a4 c4, Rd W (.slice a3 (ptnA n css (ngw l)).length c3) (ptnA n css (ngw l)) → Rd W (.slice a4 (ptnA n css (ngw l)).length c4) (ptnA n css (ngw l)) → Calls Try.prog 7 #[.slice a3 (ptnA n css (ngw l)).length c3, .slice a4 (ptnA n css (ngw l)).length c4] W fun e w' => e = .returned (.bool true) ∧ Below W.heap.size W w') := fun W a3 c3 a4 c4 h3 h4 => by
    have h9 := sameInts_any _ _ (ptnA n css (ngw l)) (ptnA n css (ngw l)) W h3 h4
    rw [beq_self_eq_true] at h9
    exact h9
  have HSt : Hid (∀ W, Below w2.heap.size w2 W → Below w2.heap.size w2 W ∧ W.cell? ⟨w.heap.size, 0, none⟩ = some (.int .i64 n) ∧ W.cell? ⟨w.heap.size, 1, none⟩ = some s) := fun W hW => ⟨hW, (HX2.out.on hW).c0, (HX2.out.on hW).c1⟩
  have HBw : Hid (∀ W, Below w2.heap.size w2 W → Below w.heap.size w W) := fun W hW => Below.step HX2.out.bel hW
  generalize hpq : ptnA n css (ngw l) = pq at *
  clear hpq
  generalize hpl : pq.length = pl at *
  clear hpl
  go_wp2_with fail
  go_region_held (fun W => Below w2.heap.size w2 W ∧ W.cell? ⟨w.heap.size, 0, none⟩ = some (.int .i64 n) ∧ W.cell? ⟨w.heap.size, 1, none⟩ = some s) (first | exact HSt.out _ (Below.refl _ _).drew | exact HSt.out _ B5.out | exact HSt.out _ B4.out | exact HSt.out _ B3.out) (first
    | (have qq := B4.out; go_at_call 7; refine (HSm.out _ _ _ _ _ R34.out R4.out).mono ?_; rintro e w5 ⟨rfl, hb5⟩; have B5 : Hid (Below w2.heap.size w2 w5) := Below.step B4.out hb5; clear hb5 qq)
    | (have qq := B3.out; go_at_call 8; refine (HP2.out _ B3.out).mono ?_; rintro e w4 ⟨a4, c4, rfl, hr4, hb4⟩; have R4 : Hid (Rd w4 (.slice a4 pl c4) pq) := hr4; have R34 : Hid (Rd w4 (.slice a3 pl c3) pq) := R3.out.below hb4; have B4 : Hid (Below w2.heap.size w2 w4) := Below.step B3.out hb4; clear hr4 hb4 qq)
    | (go_at_call 5; refine (HP1.out _ (Below.refl _ _).drew).mono ?_; rintro e w3 ⟨a3, c3, rfl, hr3, hb3⟩; have R3 : Hid (Rd w3 (.slice a3 pl c3) pq) := hr3; have B3 : Hid (Below w2.heap.size w2 w3) := hb3; clear hr3 hb3))
  have HB : Hid (Below w.heap.size w w5) := HBw.out _ B5.out
  go_wp2
  go_ret
  exact ⟨rfl, HB.out⟩
end rupPartners
end Go.Proofs.Ytkinilhapgagcaa

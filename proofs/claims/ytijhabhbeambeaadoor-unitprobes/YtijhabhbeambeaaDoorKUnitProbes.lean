/-
  UnitProbes: the walk (walks/genrp.py writes it).
  KEEP: set on app at below new trans refl start ap kept rd rds mono lt add none own nil put len pos setF setV putL putR other neV same_any
-/
import Derived.Test.YtijhabhbeambeaaDoorKRUp
set_option linter.unusedSimpArgs false
set_option linter.unusedVariables false
namespace Go.Proofs.YtijhabhbeambeaaDoor
open Go Go.RowKit
namespace unitProbes
set_option maxRecDepth 100000 in
set_option maxHeartbeats 3200000 in
theorem walk (n : Int) (s : Value) (css : List (List Int)) (w : World) (_ : (Lit.int .i64 n).wf = true) (hr : Rds w s css) (hb : css.length + (css.map List.length).sum ≤ 1048576) (hD : Deb w) :
    Calls Tryd.prog 3 #[.agg #[.int .i64 n, s]] w fun e w' => e = .returned (.bool true) ∧ Below w.heap.size w w' := by
  have HR : Hid (Rds w s css ∧ Deb w ∧ Few css) := ⟨hr, hD, Few.of (by omega) (by unfold lsum; omega)⟩
  have H8 : Hid (css.length * 24 ≤ 140737488351232 ∧ (∀ z ∈ css, z.length * 8 ≤ 140737488351232) ∧ css.length ≤ 1073741824) := ⟨hr.len, rds_each hr, by omega⟩
  have HB1 : Hid (Below w.heap.size w (w.alloc (.cells #[.int .i64 n, s] 24))) := below_box _ _
  have k0 := box0 w (.int .i64 n) s 24
  have k1 := box1 w (.int .i64 n) s 24
  have hbs : w.heap.size < (w.alloc (.cells #[.int .i64 n, s] 24)).heap.size := by rw [World.size_alloc]; exact Nat.lt_succ_self _
  have HX0 : Hid (∀ W, Below (w.alloc (.cells #[.int .i64 n, s] 24)).heap.size (w.alloc (.cells #[.int .i64 n, s] 24)) W → W.cell? ⟨w.heap.size, 0, none⟩ = some (.int .i64 n) ∧ W.cell? ⟨w.heap.size, 1, none⟩ = some s) := fun W hW => ⟨(hW.cell (p := ⟨w.heap.size, 0, none⟩) hbs).trans k0, (hW.cell (p := ⟨w.heap.size, 1, none⟩) hbs).trans k1⟩
  clear hr hD hb hbs k0 k1
  go_enter Tryd.func3, Tryd.ntmps3
  go_wp2_with fail
  refine (copyFormula_any n _ css _ (HR.out.1.below (below_box _ _))).mono ?_
  rintro e w1 ⟨u1, rfl, own1, bel1⟩
  generalize w.alloc (.cells #[.int .i64 n, s] 24) = W0 at *
  have H1 : Hid (Rds w1 u1 css ∧ Below W0.heap.size W0 w1) := ⟨own1.rds H8.out.1 H8.out.2.1, bel1⟩
  obtain ⟨a1, c1, e1⟩ := ownf_form own1
  subst e1
  clear own1 bel1
  go_wp2_with fail
  refine (uProbe_any n _ css w1 H1.out.1 HR.out.2.2 (HR.out.2.1.below (Below.step HB1.out H1.out.2))).mono ?_
  rintro e w2 ⟨u2, D, rfl, pb2⟩
  have H2 : Hid (Pb w1 w2 n css u2 D ∧ Below W0.heap.size W0 w2) := ⟨pb2, Below.step H1.out.2 pb2.bel⟩
  obtain ⟨k2, k3⟩ := HX0.out w2 (Below.step H1.out.2 pb2.bel)
  obtain ⟨a2, c2, e2⟩ := own_form pb2.own
  subst e2
  clear pb2
  go_wp2_with fail
  refine (rProbe_any n s css w2 (HR.out.1.below (Below.step HB1.out H2.out.2)) H8.out.2.2).mono ?_
  rintro e w3 ⟨u3, D3, rfl, pb3⟩
  obtain rfl : D = D3 := H2.out.1.same pb3
  have HRd : Hid (Rd w3 (.slice a2 D.length c2) D ∧ Rd w3 u3 D ∧ Below W0.heap.size W0 w3) := ⟨(H2.out.1.own.rd (by have := H2.out.1.len; omega)).below pb3.bel, pb3.own.rd (by have := pb3.len; omega), Below.step H2.out.2 pb3.bel⟩
  obtain ⟨a3, c3, e3⟩ := own_form pb3.own
  subst e3
  have HSame : Hid (Calls Tryd.prog 8 #[.slice a2 D.length c2, .slice a3 D.length c3] w3 fun e w' => e = .returned (.bool true) ∧ Below w3.heap.size w3 w') := by
    have := sameInts_any _ _ D D w3 HRd.out.1 HRd.out.2.1
    rw [show (D == D) = true by simp] at this
    exact this
  generalize prE n css = E at *
  clear pb3 k2 k3
  go_wp2_with fail
  refine Calls.mono HSame.out ?_
  rintro e w4 ⟨rfl, bel4⟩
  have HF : Hid (Below w.heap.size w w4) := Below.step HB1.out (Below.step HRd.out.2.2 bel4)
  clear bel4
  go_wp2
  go_ret
  exact ⟨rfl, HF.out⟩
end unitProbes
end Go.Proofs.YtijhabhbeambeaaDoor

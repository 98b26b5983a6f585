/-
  DimacsWrites, walked.
-/
import Derived.Test.YtbjahkgachcbkaaDoorWr
import Derived.Test.YtbjahkgachcbkaaDoorRWr
import Derived.Test.YtbjahkgachcbkaaDoorCopy
set_option linter.unusedSimpArgs false
set_option linter.unusedVariables false
namespace Go.Proofs.YtbjahkgachcbkaaDoor.dimacsWrites
open Go Go.RowKit Go.Lib Go.Sort

set_option maxHeartbeats 3200000 in
set_option maxRecDepth 100000 in
theorem walk0 (n : Int) (s : Value) (css : List (List Int)) (w : World) (hr : Rds w s css) (hbig : frm n css = true → (wrF n css).length ≤ 1099511627776) (htab : TensY w) :
    Calls Tryd.prog 5 #[.agg #[.int .i64 n, s]] w fun e w' => e = .returned (.bool true) ∧ Below w.heap.size w w' := by
  have hl := hr.len
  have h8 := rds_each hr
  have HX : Hid (Bx w n s css (w.alloc (.cells #[.int .i64 n, s] 25))) := Bx.new hr _
  obtain ⟨a, c, rfl, hc, hm, _⟩ := hr.form
  have HB0 : Hid (frm n css = true → (wrF n css).length ≤ 1099511627776) := hbig
  have H8 : Hid (∀ z ∈ css, z.length * 8 ≤ 140737488351232) := h8
  have HT0 : Hid (TensY w) := htab
  obtain ⟨X, hX⟩ : ∃ X, X = (if frm n css = true then wrF n css else []) := ⟨_, rfl⟩
  obtain ⟨E, hE⟩ : ∃ E : Int, E = (if frm n css = true then 0 else 1) := ⟨_, rfl⟩
  have HW : Hid (∀ W u, Rds W u css → TensY W → Calls Tryd.prog 12 #[.agg #[.int .i64 n, u]] W fun e w' => e = .returned (.tuple #[.string ⟨X.toArray⟩, .int .i64 E]) ∧ RowKit.Below W.heap.size W w') := fun W u h1 h2 => by rw [hX, hE]; exact dimWrite_any n u css W h1 hbig h2
  have HR : Hid (∀ W u, Rds W u css → TensY W → Calls Tryd.prog 14 #[.agg #[.int .i64 n, u]] W fun e w' => e = .returned (.tuple #[.string ⟨X.toArray⟩, .int .i64 E]) ∧ RowKit.Below W.heap.size W w') := fun W u h1 h2 => by rw [hX, hE]; exact rWrite_any n u css W h1 hbig h2
  clear hr hbig htab h8 hX hE
  go_enter Tryd.func5, Tryd.ntmps5
  go_wp2_with fail
  refine (copyFormula_any n _ css _ HX.out.rd).mono ?_
  rintro e w1 ⟨u1, rfl, own1, bel1⟩
  have HX1 : Hid (Bx w n (.slice a css.length c) css w1) := HX.out.on bel1
  have R1 : Hid (Rds w1 u1 css) := own1.rds hl H8.out
  have T1 : Hid (TensY w1) := HT0.out.below HX1.out.bel
  clear HX own1
  go_wp2_with fail
  refine (HW.out w1 u1 R1.out T1.out).mono ?_
  rintro e w2 ⟨rfl, bel2⟩
  have HX2 : Hid (Bx w n (.slice a css.length c) css w2) := HX1.out.on bel2
  have T2 : Hid (TensY w2) := T1.out.below bel2
  have c0 := HX2.out.c0
  have c1 := HX2.out.c1
  clear HX1
  go_wp2_with fail
  refine (HR.out w2 _ HX2.out.rd T2.out).mono ?_
  rintro e w3 ⟨rfl, bel3⟩
  have HX3 : Hid (Bx w n (.slice a css.length c) css w3) := HX2.out.on bel3
  go_wp2
  go_ret
  exact ⟨rfl, HX3.out.bel⟩

theorem walk (n : Int) (s : Value) (css : List (List Int)) (w : World) (_ : (Lit.int .i64 n).wf = true) (hr : Rds w s css) (hb : css.length + (css.map List.length).sum ≤ 1048576) (htab : TensY w) :
    Calls Tryd.prog 5 #[.agg #[.int .i64 n, s]] w fun e w' => e = .returned (.bool true) ∧ RowKit.Below w.heap.size w w' :=
  walk0 n s css w hr (fun h => by have := wrF_len n css h (by omega); omega) htab

end Go.Proofs.YtbjahkgachcbkaaDoor.dimacsWrites

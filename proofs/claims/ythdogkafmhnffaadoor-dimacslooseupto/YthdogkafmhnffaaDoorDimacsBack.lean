/-
  DimacsBack, walked.
  KEEP: set on app at below new trans refl start ap kept rd rds mono
-/
import Derived.Test.YthdogkafmhnffaaDoorShaped
import Derived.Test.YthdogkafmhnffaaDoorWr
import Derived.Test.YthdogkafmhnffaaDoorCopy
set_option linter.unusedSimpArgs false
set_option linter.unusedVariables false
namespace Go.Proofs.YthdogkafmhnffaaDoor
open Go Go.RowKit
theorem itoa_ascii (n : Int) : ∀ b ∈ Lib.itoa n, b.toNat < 128 := by
  intro b hb
  unfold Lib.itoa at hb
  split at hb
  · rcases List.mem_cons.1 hb with rfl | hb
    · decide
    · have := dec_bytes _ b hb; omega
  · have := dec_bytes _ b hb; omega
theorem wrF_ascii (n : Int) (css : List (List Int)) : ∀ b ∈ wrF n css, b.toNat < 128 := by
  intro b hb
  unfold wrF headOf bodyOf textOf at hb
  simp only [List.mem_append, List.mem_flatMap, List.mem_cons, List.not_mem_nil, or_false] at hb
  rcases hb with ((((h | h) | rfl) | h) | rfl) | ⟨c, _, (⟨l, _, h | rfl⟩ | rfl | rfl)⟩
  · rcases h with rfl | rfl | rfl | rfl | rfl | rfl <;> decide
  · exact itoa_ascii _ b h
  · decide
  · exact itoa_ascii _ b h
  · decide
  · exact itoa_ascii _ b h
  · decide
  · decide
  · decide
end Go.Proofs.YthdogkafmhnffaaDoor
namespace Go.Proofs.YthdogkafmhnffaaDoor.dimacsBack
open Go Go.RowKit

set_option maxHeartbeats 3200000 in
set_option maxRecDepth 100000 in
theorem walk (n : Int) (s : Value) (css : List (List Int)) (w : World) (_ : (Lit.int .i64 n).wf = true) (hr : Rds w s css) (hb : css.length + (css.map List.length).sum ≤ 1048576) (htab : TensY w) :
    Calls Tryd.prog 6 #[.agg #[.int .i64 n, s]] w fun e w' => e = .returned (.bool true) ∧ RowKit.Below w.heap.size w w' := by
  have hl := hr.len
  have h8 := rds_each hr
  have HX : Hid (Bx w n s css (w.alloc (.cells #[.int .i64 n, s] 25))) := Bx.new hr _
  obtain ⟨a, c, rfl, hc, hm, _⟩ := hr.form
  have H8 : Hid (∀ z ∈ css, z.length * 8 ≤ 140737488351232) := h8
  have HT0 : Hid (TensY w) := htab
  have HLen : Hid (frm n css = true → (wrF n css).length < 4294967281) := fun h => by have := wrF_len n css h (by omega); omega
  have HLc : Hid (css.length ≤ 2147483647) := by show _ ≤ _; omega
  clear hr htab h8 hb
  cases hf : frm n css
  case false =>
    have HW : Hid (∀ W u, Rds W u css → TensY W → Calls Tryd.prog 15 #[.agg #[.int .i64 n, u]] W fun e w' => e = .returned (.tuple #[.string ⟨#[]⟩, .int .i64 1]) ∧ RowKit.Below W.heap.size W w') := fun W u h1 h2 => by
      have := dimWrite_any n u css W h1 (fun h => by have := HLen.out h; omega) h2
      rw [hf] at this; exact this
    have HS : Hid (∀ W u, Rds W u css → Calls Tryd.prog 17 #[.agg #[.int .i64 n, u]] W fun e w' => e = .returned (.bool false) ∧ Below W.heap.size W w') := fun W u h1 => by rw [← hf]; exact shaped_any n u css W h1
    go_enter Tryd.func6, Tryd.ntmps6
    go_wp2_with fail
    refine (copyFormula_any n _ css _ HX.out.rd).mono ?_
    rintro e w1 ⟨u1, rfl, own1, bel1⟩
    have HX1 : Hid (Bx w n (.slice a css.length c) css w1) := HX.out.on bel1
    have R1 : Hid (Rds w1 u1 css) := own1.rds hl H8.out
    have T1 : Hid (TensY w1) := HT0.out.below HX1.out.bel
    clear HX own1
    go_wp2_with fail
    refine (HW.out w1 u1 R1.out T1.out).mono ?_
    rintro e w2 ⟨rfl, bel2⟩
    have HX2 : Hid (Bx w n (.slice a css.length c) css w2) := HX1.out.on bel2
    have c0 := HX2.out.c0
    have c1 := HX2.out.c1
    clear HX1
    go_wp2_with fail
    refine (HS.out w2 _ HX2.out.rd).mono ?_
    rintro e w3 ⟨rfl, bel3⟩
    have HX3 : Hid (Bx w n (.slice a css.length c) css w3) := HX2.out.on bel3
    clear c0 c1
    go_wp2
    go_ret
    exact ⟨rfl, HX3.out.bel⟩
  have HW : Hid (∀ W u, Rds W u css → TensY W → Calls Tryd.prog 15 #[.agg #[.int .i64 n, u]] W fun e w' => e = .returned (.tuple #[.string ⟨(wrF n css).toArray⟩, .int .i64 0]) ∧ RowKit.Below W.heap.size W w') := fun W u h1 h2 => by
    have := dimWrite_any n u css W h1 (fun h => by have := HLen.out h; omega) h2
    rw [hf] at this; exact this
  have HS : Hid (∀ W u, Rds W u css → Calls Tryd.prog 17 #[.agg #[.int .i64 n, u]] W fun e w' => e = .returned (.bool true) ∧ Below W.heap.size W w') := fun W u h1 => by rw [← hf]; exact shaped_any n u css W h1
  have HRd : Hid (∀ W, Calls Tryd.prog 9 #[.string ⟨(wrF n css).toArray⟩] W fun e w' => RdS W ⟨n, css, 0, 0⟩ e w') := fun W => by
    have := dimRead_any ⟨(wrF n css).toArray⟩ W (by rw [mk_list]; exact HLen.out hf) (by rw [mk_list]; exact wrF_ascii n css)
    rw [mk_list, rdF_wrF n css hf HLc.out] at this
    exact this
  go_enter Tryd.func6, Tryd.ntmps6
  go_wp2_with fail
  refine (copyFormula_any n _ css _ HX.out.rd).mono ?_
  rintro e w1 ⟨u1, rfl, own1, bel1⟩
  have HX1 : Hid (Bx w n (.slice a css.length c) css w1) := HX.out.on bel1
  have R1 : Hid (Rds w1 u1 css) := own1.rds hl H8.out
  have T1 : Hid (TensY w1) := HT0.out.below HX1.out.bel
  clear HX own1
  go_wp2_with fail
  refine (HW.out w1 u1 R1.out T1.out).mono ?_
  rintro e w2 ⟨rfl, bel2⟩
  have HX2 : Hid (Bx w n (.slice a css.length c) css w2) := HX1.out.on bel2
  have c0 := HX2.out.c0
  have c1 := HX2.out.c1
  clear HX1
  go_wp2_with fail
  refine (HS.out w2 _ HX2.out.rd).mono ?_
  rintro e w3 ⟨rfl, bel3⟩
  have HX3 : Hid (Bx w n (.slice a css.length c) css w3) := HX2.out.on bel3
  clear c0 c1
  generalize (⟨(wrF n css).toArray⟩ : ByteArray) = T at *
  go_wp2_with fail
  refine (HRd.out w3).mono ?_
  rintro e w4 ⟨s4, rfl, own4, bel4⟩
  simp only at own4 ⊢
  have HX4 : Hid (Bx w n (.slice a css.length c) css w4) := HX3.out.on bel4
  have R4 : Hid (Rds w4 s4 css) := own4.rds hl H8.out
  have HX5 : Hid (Bx w n (.slice a css.length c) css (w4.alloc (.cells #[.int .i64 n, s4] 25))) := HX4.out.on (below_box _ _)
  have HX6 : Hid (Bx w4 n s4 css (w4.alloc (.cells #[.int .i64 n, s4] 25))) := Bx.new R4.out _
  obtain ⟨a4, k4, hs4⟩ := (show ∃ a4 k4, s4 = .slice a4 css.length k4 by obtain ⟨a4, k4, e, _⟩ := R4.out.form; exact ⟨a4, k4, e⟩)
  subst hs4
  have c0 := HX5.out.c0
  have c1 := HX5.out.c1
  have e0 := HX6.out.c0
  have e1 := HX6.out.c1
  clear own4 bel4 bel3 bel2
  go_wp2_with fail
  generalize w4.alloc (.cells #[.int .i64 n, .slice a4 css.length k4] 25) = W5 at *
  refine (sameFormula_self n _ _ css W5 HX5.out.rd HX6.out.rd).mono ?_
  rintro e w6 ⟨rfl, bel6⟩
  have HB6 : Hid (Below w.heap.size w w6) := (HX5.out.on bel6).bel
  clear bel6 c0 c1 e0 e1
  go_wp2
  go_ret
  exact ⟨rfl, HB6.out⟩

end Go.Proofs.YthdogkafmhnffaaDoor.dimacsBack

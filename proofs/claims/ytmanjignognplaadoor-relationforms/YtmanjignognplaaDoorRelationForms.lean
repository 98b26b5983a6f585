/-
  RelationForms.
  KEEP: walk len below nil form rd mono on app start at new trans refl kept own row out grown rdz set one more lt size cell some none letL tail next step go add put del get look no yes e c f b k n m box c0 c1 c2 newS
-/
import Derived.Test.YtmanjignognplaaDoorRlO
import Derived.Test.YtmanjignognplaaDoorRlC
set_option linter.unusedSimpArgs false
set_option linter.unusedVariables false
namespace Go.Proofs.YtmanjignognplaaDoor
open Go Go.RowKit
namespace relationForms

set_option maxHeartbeats 3200000 in
set_option maxRecDepth 20000 in
theorem walk (n : ByteArray) (o : Int) (v : ByteArray) (m : ByteArray) (W : World) (h1 : n.size ≤ 281474976710656) (h3 : v.size ≤ 281474976710656) (h2 : m.size ≤ 281474976710656) (hT : OpT W) :
    Calls Tryd.prog 3 #[.agg #[.string n, .int .i64 o, .string v], .string m] W fun e W' => e = .returned (.bool true) ∧ Below W.heap.size W W' := by
  have HF : Hid (∀ V, OpT V → Calls Tryd.prog 6 #[.agg #[.string n, .int .i64 o, .string v]] V fun e w' => e = .returned (.bool (relB n o v)) ∧ Below V.heap.size V w') := fun V h => pFormed22 n o v V (by omega) (by omega) h
  have HNn : Hid (∀ V, Calls Tryd.prog 7 #[.string n] V fun e w' => e = .returned (.bool (rnmF n.data.toList)) ∧ w' = V) := fun V => pName22 n V (by omega)
  have HNm : Hid (∀ V, Calls Tryd.prog 7 #[.string m] V fun e w' => e = .returned (.bool (rnmF m.data.toList)) ∧ w' = V) := fun V => pName22 m V (by omega)
  have RF : Hid (∀ V, Calls Tryd.prog 8 #[.agg #[.string n, .int .i64 o, .string v]] V fun e w' => e = .returned (.bool (relB n o v)) ∧ Below V.heap.size V w') := fun V => rFormed22_any n o v V (by omega) (by omega) (fun V => rLegal20_any v V (by omega))
  have RNn : Hid (∀ V, Calls Tryd.prog 9 #[.string n] V fun e w' => e = .returned (.bool (rnmF n.data.toList)) ∧ w' = V) := fun V => rName22_any n V (by omega)
  have RNm : Hid (∀ V, Calls Tryd.prog 9 #[.string m] V fun e w' => e = .returned (.bool (rnmF m.data.toList)) ∧ w' = V) := fun V => rName22_any m V (by omega)
  generalize relB n o v = F at *
  generalize rnmF n.data.toList = A at *
  generalize rnmF m.data.toList = B at *
  clear h1 h2 h3
  have HT : Hid (OpT (W.alloc (.cells #[.string n, .int .i64 o, .string v] 23))) := hT.blw (Below.alloc (Below.refl _ _) (Nat.le_refl _) _)
  have HQ : Hid (Rq (W.alloc (.cells #[.string n, .int .i64 o, .string v] 23)) W.heap.size n o v) := Rq.newS _ _ _ _ _ rfl
  have HB : Hid (Below W.heap.size W (W.alloc (.cells #[.string n, .int .i64 o, .string v] 23))) := Below.alloc (Below.refl _ _) (Nat.le_refl _) _
  clear hT
  go_enter Tryd.func3, Tryd.ntmps3
  go_wp2_with fail
  generalize W.alloc (.cells #[.string n, .int .i64 o, .string v] 23) = W0 at *
  refine (HF.out _ HT.out).mono ?_
  rintro e w1 ⟨rfl, b1⟩
  have HQ1 : Hid (Rq w1 W.heap.size n o v) := HQ.out.below b1 HQ.out.lt
  have HB1 : Hid (Below W.heap.size W w1) := HB.out.trans (b1.mono HB.out.size)
  clear HF HT HQ HB b1
  have c0 := HQ1.out.c0
  have c1 := HQ1.out.c1
  have c2 := HQ1.out.c2
  go_wp2_with fail
  refine (HNm.out _).mono ?_
  rintro e w9 ⟨rfl, h9⟩
  have h9s := h9.symm; clear h9; subst h9s
  go_wp2_with fail
  refine (HNn.out _).mono ?_
  rintro e w9 ⟨rfl, h9⟩
  have h9s := h9.symm; clear h9; subst h9s
  clear HNm HNn
  have hF : (F == F) = true := by simp
  have hA : (A == A) = true := by simp
  have hB : (B == B) = true := by simp
  go_wp2_with fail
  refine (RF.out _).mono ?_
  rintro e w2 ⟨rfl, b2⟩
  have HQ2 : Hid (Rq w2 W.heap.size n o v) := HQ1.out.below b2 HQ1.out.lt
  have HB2 : Hid (Below W.heap.size W w2) := HB1.out.trans (b2.mono HB1.out.size)
  clear RF HQ1 HB1 b2 c0 c1 c2
  have c0 := HQ2.out.c0
  go_wp2_with fail
  refine (RNm.out _).mono ?_
  rintro e w9 ⟨rfl, h9⟩
  have h9s := h9.symm; clear h9; subst h9s
  go_wp2_with fail
  refine (RNn.out _).mono ?_
  rintro e w9 ⟨rfl, h9⟩
  have h9s := h9.symm; clear h9; subst h9s
  go_wp2
  go_ret
  exact ⟨rfl, HB2.out⟩
end relationForms
end Go.Proofs.YtmanjignognplaaDoor

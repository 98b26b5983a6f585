/-
  The document's Formed of relations, walked.
  KEEP: len below nil form rd mono on app start at new trans refl kept own row out grown rdz set one more lt size cell some none letL tail next step go add put del get look no yes e c f b k n m box
-/
import Derived.Test.YtmanjignognplaaDoorRlQ
import Derived.Test.YtmanjignognplaaDoorVsF
set_option linter.unusedSimpArgs false
set_option linter.unusedVariables false
namespace Go.Proofs.YtmanjignognplaaDoor
open Go Go.RowKit

set_option maxHeartbeats 3200000 in
theorem rFormed22_any (n : ByteArray) (o : Int) (v : ByteArray) (w : World) (hn : n.size ≤ 281474976710656) (hv : v.size ≤ 281474976710656)
    (HL0 : ∀ V, Calls Tryd.prog 26 #[.string v] V fun e w' => e = .returned (.bool (okS v)) ∧ Below V.heap.size V w') :
    Calls Tryd.prog 8 #[.agg #[.string n, .int .i64 o, .string v]] w fun e w' => e = .returned (.bool (relB n o v)) ∧ Below w.heap.size w w' := by
  have HN : Hid (∀ V, Calls Tryd.prog 9 #[.string n] V fun e w' => e = .returned (.bool (rnmF n.data.toList)) ∧ w' = V) := fun V => rName22_any n V hn
  have HS : Hid (∀ V, Calls Tryd.prog 25 #[.int .i64 o] V fun e w' => e = .returned (.string (sgF o)) ∧ w' = V) := fun V => rSign22o_any o V
  have HL : Hid (∀ V, Calls Tryd.prog 26 #[.string v] V fun e w' => e = .returned (.bool (okS v)) ∧ Below V.heap.size V w') := HL0
  have HF : Hid (relB n o v = (rnmF n.data.toList && (if o = 0 then v.data.toList.isEmpty else !(sgF o).data.toList.isEmpty && okS v))) := rfl
  clear HL0
  generalize relB n o v = F at *
  generalize rnmF n.data.toList = N at *
  generalize okS v = V at *
  go_enter Tryd.func8, Tryd.ntmps8
  go_wp2_with fail
  have HBa : Hid (Below w.heap.size w (w.alloc (.cells #[.string n, .int .i64 o, .string v] 23))) := Below.alloc (Below.refl _ _) (Nat.le_refl _) _
  have HQ : Hid (Rq (w.alloc (.cells #[.string n, .int .i64 o, .string v] 23)) w.heap.size n o v) := Rq.newS _ _ _ _ _ rfl
  generalize w.alloc (.cells #[.string n, .int .i64 o, .string v] 23) = W at *
  have hD := HQ.out.lt
  have c1 := HQ.out.c1
  have c2 := HQ.out.c2
  refine (HN.out _).mono ?_
  rintro e w9 ⟨rfl, h9⟩
  have h9s := h9.symm; clear h9; subst h9s
  cases N
  · have HE : Hid (F = false) := HF.out
    clear HF
    go_wp2
    go_ret
    exact ⟨ret_bool HE.out.symm, HBa.out⟩
  by_cases h0 : o = 0
  · subst h0
    have HE : Hid (F = v.data.toList.isEmpty) := HF.out
    clear HF
    cases hb : v.toList.isEmpty
    · have hb2 := emp_cons hb
      have HE2 : Hid (F = false) := by show _ = _; rw [HE.out, emp20, hb]
      clear HE
      go_wp2
      go_ret
      exact ⟨ret_bool HE2.out.symm, HBa.out⟩
    · have hb2 := emp_nil hb
      have HE2 : Hid (F = true) := by show _ = _; rw [HE.out, emp20, hb]
      clear HE
      go_wp2
      go_ret
      exact ⟨ret_bool HE2.out.symm, HBa.out⟩
  · have d0 : (o == 0) = false := by simpa using h0
    have HE : Hid (F = (!(sgF o).data.toList.isEmpty && V)) := by show _ = _; rw [HF.out, if_neg h0]; rfl
    clear HF h0
    generalize sgF o = S at *
    cases hb : S.toList.isEmpty
    · have hb2 := emp_cons hb
      have hb3 : ¬ S.data = #[] := fun e => hb2 (by rw [ByteArray.toList_eq, e])
      have HE2 : Hid (F = V) := by show _ = _; rw [HE.out, emp20, hb]; rfl
      clear HE
      go_wp2_with (first | (go_at_call 25; refine (HS.out _).mono ?_; rintro e w9 ⟨rfl, h9⟩; have h9s := h9.symm; clear h9; subst h9s) | fail)
      refine (HL.out _).mono ?_
      rintro e w9 ⟨rfl, h9⟩
      have HB9 : Hid (Below w.heap.size w w9) := HBa.out.trans (h9.mono HBa.out.size)
      clear h9
      go_wp2
      go_ret
      exact ⟨ret_bool HE2.out.symm, HB9.out⟩
    · have hb2 := emp_nil hb
      have hb3 : S.data = #[] := by have := hb2; rw [ByteArray.toList_eq] at this; exact Array.toList_eq_nil_iff.1 this
      have HE2 : Hid (F = false) := by show _ = _; rw [HE.out, emp20, hb]; rfl
      clear HE
      go_wp2_with (first | (go_at_call 25; refine (HS.out _).mono ?_; rintro e w9 ⟨rfl, h9⟩; have h9s := h9.symm; clear h9; subst h9s) | fail)
      go_ret
      exact ⟨ret_bool HE2.out.symm, HBa.out⟩
end Go.Proofs.YtmanjignognplaaDoor

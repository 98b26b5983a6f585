/-
  The program's operator, relation, walked (walks/genrls.py writes it).
  KEEP: off c0 c1 c2 c3 c4 s0 s1 s2 s3 s4 newS rds lt f t q x len below nil form rd mono on app start at new trans refl kept own row out grown rdz set one more lt size cell some none letL tail next step go add put del get look no yes e c f b k n m box blw c0 c1 c2 s0 s1 s2 s3 newS drewN x t q
-/
import Derived.Test.YtmfcaoacklbkoaaDoorRlR
set_option linter.unusedSimpArgs false
set_option linter.unusedVariables false
namespace Go.Proofs.YtmfcaoacklbkoaaDoor
open Go Go.RowKit

theorem OpT.lk {W W' : World} {D : Nat} {s s' : ByteArray} {k a : Nat} (hT : OpT W) (hR : Rx W D s k) (h : LkA W W' D s' a) : OpT W' := by
  obtain ⟨t, e⟩ := hT
  refine ⟨t, (h.2.block _ (OpT.lt ⟨t, e⟩) ?_).trans e⟩
  intro q
  injection q with q
  have e2 : W.heap[D]? = some (.cells #[.string s, .int .i64 k] 59 (0, 0)) := hR
  rw [← q] at e2
  rw [e] at e2
  injection e2 with e2
  injection e2 with e3
  have := congrArg Array.size e3
  simp [opsC] at this
/-- an operator: what is read, the error, the place -/
def oprF (s : ByteArray) (a : Nat) : Int × Int × Nat :=
  if opF (s.extract a (runF sgnZ s.data.toList a)) = 0 then (0, 220, a) else (opF (s.extract a (runF sgnZ s.data.toList a)), 0, runF sgnZ s.data.toList a)
set_option maxHeartbeats 3200000 in
set_option maxRecDepth 20000 in
theorem operator22 (s : ByteArray) (k D : Nat) (w : World) (hR : Rx w D s k) (hT : OpT w) (hk : k ≤ s.size) (hs : s.size ≤ 281474976710656) :
    Calls Tryd.prog 49 #[.pointer (some ⟨D, 0, none⟩)] w fun e w' => e = .returned (.tuple #[.int .i64 (oprF s (runF gapZ s.data.toList k)).1, .int .i64 (oprF s (runF gapZ s.data.toList k)).2.1]) ∧ LkA w w' D s (oprF s (runF gapZ s.data.toList k)).2.2 := by
  have has := runF_le22 gapZ s hk
  have HLo : Hid (Calls Tryd.prog 44 #[.pointer (some ⟨D, 0, none⟩)] w fun e w' => e = .returned (.int .i64 (lkF s (runF gapZ s.data.toList k))) ∧ LkA w w' D s (runF gapZ s.data.toList k)) := look22 s k D w hR hk hs
  have HOT : Hid (∀ w' a, LkA w w' D s a → OpT w') := fun w' a h => hT.lk hR h
  clear hR hk hT
  generalize runF gapZ s.data.toList k = a at *
  have hat := runF_ge sgnZ s.data.toList a
  have hts := runF_le22 sgnZ s has
  have HRun : Hid (∀ W, Rx W D s a → Calls Tryd.prog 52 #[.pointer (some ⟨D, 0, none⟩), .slice (some ⟨W.heap.size, 0, none⟩) 1 1] (W.alloc (.cells #[.int .i64 3] 82)) fun e w' => e = .returned (.string (s.extract a (runF sgnZ s.data.toList a))) ∧ Below W.heap.size W w') := fun W h => run22s s a D W h has hs
  have HOf : Hid (∀ V, OpT V → Calls Tryd.prog 55 #[.string (s.extract a (runF sgnZ s.data.toList a))] V fun e w' => OpAns V w' e (opF (s.extract a (runF sgnZ s.data.toList a))) (sgF (opF (s.extract a (runF sgnZ s.data.toList a)))) (decide (opF (s.extract a (runF sgnZ s.data.toList a)) ≠ 0))) := fun V h => ofText22 _ V h
  have HWd : Hid (oprF s a = if opF (s.extract a (runF sgnZ s.data.toList a)) = 0 then (0, 220, a) else (opF (s.extract a (runF sgnZ s.data.toList a)), 0, runF sgnZ s.data.toList a)) := rfl
  have hG : (s.extract a (runF sgnZ s.data.toList a)).size = runF sgnZ s.data.toList a - a := by rw [ByteArray.size_extract]; omega
  generalize oprF s a = R at *
  generalize runF sgnZ s.data.toList a = t at *
  generalize s.extract a t = G at *
  generalize sgF (opF G) = S at *
  generalize opF G = o at *
  go_enter Tryd.func49, Tryd.ntmps49
  go_wp2_with fail
  refine HLo.out.mono ?_
  rintro e w1 ⟨rfl, h1⟩
  have HX1 : Hid (LkA w w1 D s a) := h1
  clear h1 HLo
  have HRn : Hid (Calls Tryd.prog 52 #[.pointer (some ⟨D, 0, none⟩), .slice (some ⟨w1.heap.size, 0, none⟩) 1 1] (w1.alloc (.cells #[.int .i64 3] 82)) fun e w' => e = .returned (.string G) ∧ Below w1.heap.size w1 w') := HRun.out w1 HX1.out.1
  clear HRun
  go_wp2_with fail
  refine HRn.out.mono ?_
  rintro e w2 ⟨rfl, b2⟩
  have HX2 : Hid (LkA w w2 D s a) := HX1.out.blw22 b2
  have HT2 : Hid (OpT w2) := HOT.out _ _ HX2.out
  clear b2 HX1 HRn HOT
  go_wp2_with fail
  refine (HOf.out _ HT2.out).mono ?_
  rintro e w3 ⟨l, m, rfl, b3⟩
  have HX3 : Hid (LkA w (w3.alloc (.cells #[.int .i64 o, .string S, .int .i64 l, .int .i64 m] 76)) D s a) := HX2.out.blw22 (Below.alloc b3 b3.size _)
  have HO3 : Hid (Oq (w3.alloc (.cells #[.int .i64 o, .string S, .int .i64 l, .int .i64 m] 76)) w3.heap.size o S l m) := Oq.newS _ _ _ _ _
  have HN3 : Hid (D ≠ w3.heap.size) := by
    have := HX2.out.1.lt
    have := b3.size
    show ¬ _ = _
    omega
  clear b3 HX2 HT2 HOf
  by_cases h0 : o = 0
  · have HE : Hid (R = (0, 220, a)) := by show _ = _; rw [HWd.out, if_pos h0]
    have hd : decide (o ≠ 0) = false := by simpa using h0
    rw [hd]
    clear HWd h0 hd
    go_wp2
    go_returns
    exact ⟨by rw [HE.out]; rfl, by rw [HE.out]; exact HX3.out⟩
  have HE : Hid (R = (o, 0, t)) := by show _ = _; rw [HWd.out, if_neg h0]
  have hd : decide (o ≠ 0) = true := by simpa using h0
  rw [hd]
  clear HWd h0 hd
  obtain ⟨m', hm⟩ : ∃ m, m = G.size := ⟨_, rfl⟩
  have hw1 : IntKind.i64.wrap ((a : Int) + (m' : Int)) = (t : Int) := by rw [IntKind.wrap_i64]; omega
  have hmm : G.size = m' := hm.symm
  clear hm hG
  go_upto_region 4 with fail
  generalize w3.alloc (.cells #[.int .i64 o, .string S, .int .i64 l, .int .i64 m] 76) = w4 at *
  generalize w3.heap.size = O4 at *
  have c1 := HX3.out.1.c1
  have z1 := HX3.out.1.fz 1
  go_upto_region 7 with fail
  have HX5 : Hid (LkA w (w4.setCell ⟨D, 1, none⟩ (.int .i64 t)) D s t) := HX3.out.put22 t
  have HO5 : Hid (Oq (w4.setCell ⟨D, 1, none⟩ (.int .i64 t)) O4 o S l m) := (Below.heap_setCell _ _ _ _ (Ne.symm HN3.out)).trans HO3.out
  clear c1 z1 HX3 HO3 hw1 hmm
  generalize w4.setCell ⟨D, 1, none⟩ (.int .i64 t) = w5 at *
  have c0 := HO5.out.c0
  go_wp2
  go_returns
  exact ⟨by rw [HE.out]; rfl, by rw [HE.out]; exact HX5.out⟩

end Go.Proofs.YtmfcaoacklbkoaaDoor

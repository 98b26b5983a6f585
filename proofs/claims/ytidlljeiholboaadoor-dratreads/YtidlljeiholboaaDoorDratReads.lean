/-
  DratReads, walked.
  KEEP: len below nil form rd mono rdz on app start at new trans refl kept own row ap out step
-/
import Derived.Test.YtidlljeiholboaaDoorPaR
import Derived.Test.YtidlljeiholboaaDoorDrRe
import Derived.Test.YtidlljeiholboaaDoorDrC
set_option linter.unusedSimpArgs false
set_option linter.unusedVariables false
namespace Go.Proofs.YtidlljeiholboaaDoor.dratReads
open Go Go.RowKit Go.Proofs.YtidlljeiholboaaDoor

def dOne : ByteArray := ⟨#[100, 32, 49, 32, 48]⟩
theorem par_dOne : parD dOne.data.toList = ([(true, [1])], 0) := by decide

set_option maxHeartbeats 3200000 in
set_option maxRecDepth 100000 in
theorem walk (s : ByteArray) (w : World) (hs0 : s.data.toList.length ≤ 1048576) (he : Env w) :
    Calls Tryd.prog 3 #[.string s] w fun e w' => e = .returned (.bool true) ∧ RowKit.Below w.heap.size w w' := by
  have hs : s.size ≤ 1048576 := by rw [← ba_len]; exact hs0
  clear hs0
  have HEnv : Hid (Env w) := he
  have HR1 := readD_any s w (by omega) he
  have HR2 := fun W => rRead_any s W (by omega)
  have hlen := red_len s.data.toList
  rw [ba_len] at hlen
  have HLn : Hid ((redB s.data.toList).1.length ≤ s.size ∧ ∀ x ∈ (redB s.data.toList).1, x.2.length ≤ s.size) := hlen
  clear hlen
  have e0 : (if (parD s.data.toList).2 = 0 then (0 : Int) else 90) = (redB s.data.toList).2.1 := by unfold redB; split <;> rfl
  have e1 : (parD s.data.toList).2 = (redB s.data.toList).2.2 := by
    unfold redB; split
    · rename_i h; exact h
    · rfl
  have e2 : (if (parD s.data.toList).2 = 0 then (parD s.data.toList).1 else []) = (redB s.data.toList).1 := by unfold redB; split <;> rfl
  rw [e0, e2, e1] at HR1
  clear e0 e1 e2 he
  generalize redB s.data.toList = X at *
  obtain ⟨l, E, P⟩ := X
  dsimp only at *
  have HR1 : Hid (Calls Tryd.prog 8 #[.string s] w fun e w' => ∃ v, e = .returned (.tuple #[v, .int .i64 E, .int .i64 (P : Int)]) ∧ OwnS w.heap.size w' v l ∧ RdZ w' v l ∧ Below w.heap.size w w') := HR1
  have HR2 : Hid (∀ W : World, Calls Tryd.prog 9 #[.string s] W fun e w' => ∃ v, e = .returned (.tuple #[v, .int .i64 E, .int .i64 (P : Int)]) ∧ OwnS W.heap.size w' v l ∧ Below W.heap.size W w') := HR2
  go_enter Tryd.func3, Tryd.ntmps3
  go_wp2_with fail
  refine HR1.out.mono ?_
  rintro e w1 ⟨v1, rfl, own1, r1, bel1⟩
  have R1 : Hid (RdZ w1 v1 l) := r1
  obtain ⟨a1, c1, rfl⟩ := own1.form
  clear own1 r1
  go_wp2_with fail
  refine (HR2.out w1).mono ?_
  rintro e w2 ⟨v2, rfl, own2, bel2⟩
  have R2 : Hid (RdZ w2 v2 l) := own2.rdz (by have := HLn.out.1; omega) (fun x hx => by have := HLn.out.2 x hx; omega)
  have R1b : Hid (RdZ w2 (.slice a1 l.length c1) l) := R1.out.below bel2
  obtain ⟨a2, c2, rfl⟩ := own2.form
  clear own2 R1
  have HR3 : Hid (Calls Tryd.prog 8 #[.string dOne] w2 fun e w' => ∃ v, e = .returned (.tuple #[v, .int .i64 0, .int .i64 0]) ∧ OwnS w2.heap.size w' v [(true, [1])] ∧ RdZ w' v [(true, [1])] ∧ Below w2.heap.size w2 w') :=
    (readD_any dOne w2 (by decide) (HEnv.out.below (Below.step bel1 bel2))).mono fun e w' ⟨v, q1, q2, q3, q4⟩ => by
      rw [par_dOne] at q1 q2 q3
      exact ⟨v, q1, q2, q3, q4⟩
  go_wp2_with fail
  refine HR3.out.mono ?_
  rintro e w3 ⟨v3, rfl, own3, r3, bel3⟩
  obtain ⟨a3, c3, hv3, _, _, hcell⟩ := r3.form
  obtain ⟨b3, o3, _, ha3, hb3, hd3, _, _⟩ := hcell 0 (by simp)
  subst hv3
  subst ha3
  have hd3 : w3.cell? ⟨b3, o3, none⟩ = some (.bool true) := hd3
  have HS : Hid (∀ W : World, Below w3.heap.size w3 W → Calls Tryd.prog 10 #[.slice a1 l.length c1, .slice a2 l.length c2] W fun e w' => e = .returned (.bool true) ∧ RowKit.Below W.heap.size W w') := fun W hb => by
    have := sameSteps_any _ _ l l W ((R1b.out.below bel3).below hb) ((R2.out.below bel3).below hb)
    rwa [show (l == l) = true from beq_self_eq_true l] at this
  have HB : Hid (RowKit.Below w.heap.size w w3) := Below.step (Below.step bel1 bel2) bel3
  have HC3 : Hid (∀ W : World, Below w3.heap.size w3 W → W.cell? ⟨b3, o3, none⟩ = some (.bool true)) := fun W hb => (hb.cell (p := ⟨b3, o3, none⟩) hb3).trans hd3
  clear hcell own3 r3 bel1 bel2 bel3 HR1 HR2 HR3 hd3
  have hE : (E == E) = true := beq_self_eq_true _
  have hP : ((P : Int) == (P : Int)) = true := beq_self_eq_true _
  simp only [List.length_cons, List.length_nil, Nat.zero_add]
  go_wp2_with (go_at_call 10; refine (HS.out _ (by first | exact Below.refl _ _ | exact (Below.refl _ _).drew)).mono ?_; rintro e w4 ⟨rfl, bel4⟩; have q4 := HC3.out w4 bel4)
  go_ret
  exact ⟨rfl, Below.step HB.out bel4⟩

end Go.Proofs.YtidlljeiholboaaDoor.dratReads

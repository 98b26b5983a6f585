/-
  The law ControlShapes, walked.
  KEEP: walk below len form out each rd mono nil own row set on app start grown at new
-/
import Derived.Test.YtblkhkfjaggnfaaDoorStN
set_option linter.unusedSimpArgs false
set_option linter.unusedVariables false
namespace Go.Proofs.YtblkhkfjaggnfaaDoor.controlShapes
open Go Go.RowKit

set_option maxHeartbeats 1600000 in
set_option maxRecDepth 100000 in
theorem walk (v : Value) (l : List Stz) (W : World) (hr : RdSt W v l) (hb : stzN l ≤ 1048576) :
    Calls Tryd.prog 5 #[v] W fun e w' => e = .returned (.bool true) ∧ Below W.heap.size W w' := by
  have HR : Hid (RdSt W v l) := hr
  obtain ⟨a, c, rfl, -⟩ := hr.form
  have hsz := stzN_sz hb
  have htf := totF_le l
  have HCp : Hid (∀ w, RdSt w (.slice a l.length c) l → Calls Tryd.prog 12 #[.slice a l.length c] w fun e w' => ∃ v' L, e = .returned v' ∧ OwnSt w.heap.size w' v' L ∧ sgS L = l ∧ Below w.heap.size w w') := fun w h => copied21 _ _ w h
  have HFp : Hid (∀ w v, RdSt w v l → Calls Tryd.prog 11 #[v] w fun e w' => e = .returned (.bool (fmdL l)) ∧ Below w.heap.size w w') := fun w v h => formed21 v l w h (fun s hs f hf => by have := hsz s hs f hf; omega) (by omega)
  have HFr : Hid (∀ w v, RdSt w v l → Calls Tryd.prog 13 #[v] w fun e w' => e = .returned (.bool (fmdL l)) ∧ Below w.heap.size w w') := fun w v h => rFormed21_any v l w h (fun s hs f hf => by have := hsz s hs f hf; omega)
  have HF0 : Hid (∀ w, Calls Tryd.prog 11 #[.slice none 0 0] w fun e w' => e = .returned (.bool true) ∧ Below w.heap.size w w') := fun w => formed21 (.slice none 0 0) [] w (RdSt.nil w) (fun s hs => (by cases hs)) (by simp [totF])
  have HOr : Hid (∀ B W v L, OwnSt B W v L → sgS L = l → RdSt W v l) := fun B W v L h e => own_rd h e hb
  clear hr hsz htf hb
  generalize fmdL l = fm at *
  go_enter Tryd.func5, Tryd.ntmps5
  go_wp2_with fail
  refine (HCp.out _ HR.out).mono ?_
  rintro e w1 ⟨v1, L1, rfl, own1, hL1, bel1⟩
  have HR1 : Hid (RdSt w1 v1 l) := HOr.out _ _ _ _ own1 hL1
  have HB1 : Hid (Below W.heap.size W w1) := bel1
  have HRw : Hid (RdSt w1 (.slice a l.length c) l) := HR.out.below bel1
  clear own1 hL1 bel1
  go_wp2_with fail
  refine (HFp.out _ _ HR1.out).mono ?_
  rintro e w2 ⟨rfl, bel2⟩
  have HB2 : Hid (Below W.heap.size W w2) := HB1.out.trans (bel2.mono HB1.out.size)
  have HR2 : Hid (RdSt w2 (.slice a l.length c) l) := HRw.out.below bel2
  clear bel2 HRw HB1
  go_wp2_with fail
  refine (HFr.out _ _ HR2.out).mono ?_
  rintro e w3 ⟨rfl, bel3⟩
  have HB3 : Hid (Below W.heap.size W w3) := HB2.out.trans (bel3.mono HB2.out.size)
  clear bel3 HR2 HB2
  have hfe : (fm == fm) = true := by cases fm <;> rfl
  go_wp2_with (go_at_call 11; refine (HF0.out _).mono ?_; rintro e w4 ⟨rfl, bel4⟩; have HB4 : Hid (Below W.heap.size W w4) := HB3.out.trans (bel4.mono HB3.out.size); clear bel4)
  all_goals
    go_ret
    exact ⟨ret_bool (by simp), HB4.out⟩

end Go.Proofs.YtblkhkfjaggnfaaDoor.controlShapes

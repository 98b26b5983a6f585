/-
  The law ControlWrites, walked.
  KEEP: walk below len form out each rd mono nil own row set on app start grown at new
-/
import Derived.Test.YtblkhkfjaggnfaaDoorWtN
set_option linter.unusedSimpArgs false
set_option linter.unusedVariables false
namespace Go.Proofs.YtblkhkfjaggnfaaDoor.controlWrites
open Go Go.RowKit

def wrS (l : List Stz) : List UInt8 := if fmdL l then wrtF l else []
def wrE (l : List Stz) : Int := if fmdL l then 0 else 1
theorem wrAns_form (l : List Stz) : wrAns l = .tuple #[.string ⟨(wrS l).toArray⟩, .int .i64 (wrE l)] := by
  unfold wrAns wrS wrE
  cases fmdL l <;> rfl

set_option maxHeartbeats 1600000 in
set_option maxRecDepth 100000 in
theorem walk (v : Value) (l : List Stz) (W : World) (hr : RdSt W v l) (hb : stzN l ≤ 1048576) :
    Calls Tryd.prog 6 #[v] W fun e w' => e = .returned (.bool true) ∧ Below W.heap.size W w' := by
  have HR : Hid (RdSt W v l) := hr
  obtain ⟨a, c, rfl, -⟩ := hr.form
  have hsz := stzN_sz hb
  have htf := totF_le l
  have htw := wrtF_len l
  have HCp : Hid (∀ w, RdSt w (.slice a l.length c) l → Calls Tryd.prog 12 #[.slice a l.length c] w fun e w' => ∃ v' L, e = .returned v' ∧ OwnSt w.heap.size w' v' L ∧ sgS L = l ∧ Below w.heap.size w w') := fun w h => copied21 _ _ w h
  have HWp : Hid (∀ w v, RdSt w v l → Calls Tryd.prog 14 #[v] w fun e w' => e = .returned (.tuple #[.string ⟨(wrS l).toArray⟩, .int .i64 (wrE l)]) ∧ Below w.heap.size w w') := fun w v h => by
    rw [← wrAns_form]; exact write21 v l w h (fun s hs f hf => by have := hsz s hs f hf; omega) (by omega) (by omega)
  have HWr : Hid (∀ w v, RdSt w v l → Calls Tryd.prog 15 #[v] w fun e w' => e = .returned (.tuple #[.string ⟨(wrS l).toArray⟩, .int .i64 (wrE l)]) ∧ Below w.heap.size w w') := fun w v h => by
    rw [← wrAns_form]; exact rWrite21_any v l w h (fun s hs f hf => by have := hsz s hs f hf; omega) (by omega)
  have HOr : Hid (∀ B W v L, OwnSt B W v L → sgS L = l → RdSt W v l) := fun B W v L h e => own_rd h e hb
  clear hr hsz htf htw hb
  generalize (⟨(wrS l).toArray⟩ : ByteArray) = ws at *
  generalize wrE l = we at *
  go_enter Tryd.func6, Tryd.ntmps6
  go_wp2_with fail
  refine (HCp.out _ HR.out).mono ?_
  rintro e w1 ⟨v1, L1, rfl, own1, hL1, bel1⟩
  have HR1 : Hid (RdSt w1 v1 l) := HOr.out _ _ _ _ own1 hL1
  have HB1 : Hid (Below W.heap.size W w1) := bel1
  have HRw : Hid (RdSt w1 (.slice a l.length c) l) := HR.out.below bel1
  clear own1 hL1 bel1
  go_wp2_with fail
  refine (HWp.out _ _ HR1.out).mono ?_
  rintro e w2 ⟨rfl, bel2⟩
  have HB2 : Hid (Below W.heap.size W w2) := HB1.out.trans (bel2.mono HB1.out.size)
  have HR2 : Hid (RdSt w2 (.slice a l.length c) l) := HRw.out.below bel2
  clear bel2 HRw HB1
  go_wp2_with fail
  refine (HWr.out _ _ HR2.out).mono ?_
  rintro e w3 ⟨rfl, bel3⟩
  have HB3 : Hid (Below W.heap.size W w3) := HB2.out.trans (bel3.mono HB2.out.size)
  clear bel3 HR2 HB2
  go_wp2
  all_goals
    go_ret
    exact ⟨ret_bool (by simp), HB3.out⟩

end Go.Proofs.YtblkhkfjaggnfaaDoor.controlWrites

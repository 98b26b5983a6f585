/-
  The law ControlBack, walked.
  KEEP: walk below len form out each rd mono nil own row set on app start grown at new one
-/
import Derived.Test.YtbeaoekbppdlmaaDoorKCpB
import Derived.Test.YtbeaoekbppdlmaaDoorKWrF
import Derived.Test.YtbeaoekbppdlmaaDoorKAwS
import Derived.Test.YtbeaoekbppdlmaaDoorKSmA
import Derived.Test.YtbeaoekbppdlmaaDoorKWtN
set_option linter.unusedSimpArgs false
set_option linter.unusedVariables false
namespace Go.Proofs.YtbeaoekbppdlmaaDoor.controlBack
open Go Go.RowKit

set_option maxHeartbeats 3200000 in
set_option maxRecDepth 100000 in
theorem walk (v : Value) (l : List Stz) (W : World) (hr : RdSt W v l) (hb : stzN l ≤ 1048576) :
    Calls Tryd.prog 4 #[v] W fun e w' => e = .returned (.bool true) ∧ Below W.heap.size W w' := by
  have HR : Hid (RdSt W v l) := hr
  obtain ⟨a, c, rfl, -⟩ := hr.form
  have hsz := stzN_sz hb
  have htf := totF_le l
  have htw := wrtF_len l
  have HCp : Hid (∀ w, RdSt w (.slice a l.length c) l → Calls Tryd.prog 17 #[.slice a l.length c] w fun e w' => ∃ v' L, e = .returned v' ∧ OwnSt w.heap.size w' v' L ∧ sgS L = l ∧ Below w.heap.size w w') := fun w h => copied21 _ _ w h
  have HWp : Hid (∀ w v, RdSt w v l → Calls Tryd.prog 8 #[v] w fun e w' => e = .returned (.tuple #[.string ⟨(wrS21 l).toArray⟩, .int .i64 (wrE21 l)]) ∧ Below w.heap.size w w') := fun w v h => by
    rw [← wrAns_form21]; exact write21 v l w h (fun s hs f hf => by have := hsz s hs f hf; omega) (by omega) (by omega)
  have HFp : Hid (∀ w v, RdSt w v l → Calls Tryd.prog 9 #[v] w fun e w' => e = .returned (.bool (fmdL l)) ∧ Below w.heap.size w w') := fun w v h => formed21 v l w h (fun s hs f hf => by have := hsz s hs f hf; omega) (by omega)
  have HOr : Hid (∀ B W v L, OwnSt B W v L → sgS L = l → RdSt W v l) := fun B W v L h e => own_rd h e hb
  have HAw : Hid (∀ w, Calls Tryd.prog 18 #[] w fun e w' => e = .returned (.bool true) ∧ Below w.heap.size w w') := awake21
  have HRd : Hid (fmdL l = true → ∀ w, Calls Tryd.prog 19 #[.string ⟨(wrtF l).toArray⟩] w fun e w' => ∃ a' c' m, e = .returned (.tuple #[.slice a' m.length c', .int .i64 0, .int .i64 0]) ∧ RdSt w' (.slice a' m.length c') m ∧ SmL false l m ∧ Below w.heap.size w w') := fun hf w => by
    obtain ⟨m, h1, h2⟩ := back21 hf
    have hR := read21 ⟨(wrtF l).toArray⟩ w (by rw [sizeL]; omega)
    rw [strV_list] at hR
    refine hR.mono fun e w' h => ?_
    rcases rd_ans (by omega) h with ⟨c, ln, q, _⟩ | ⟨v, l2, q, he, hr, hb, _⟩
    · rw [h1] at q; cases q
    · rw [h1] at q
      injection q with q
      subst q
      obtain ⟨a', c', rfl, -⟩ := hr.form
      exact ⟨a', c', m, he, hr, h2, hb⟩
  clear hr hsz htf htw hb
  cases hfm : fmdL l
  case false =>
    have hS : wrS21 l = [] := by unfold wrS21; rw [hfm]; rfl
    have hE : wrE21 l = 1 := by unfold wrE21; rw [hfm]; rfl
    rw [hS, hE] at HWp
    rw [hfm] at HFp
    clear HRd hS hE hfm
    go_enter Tryd.func4, Tryd.ntmps4
    go_wp2_with fail
    refine (HCp.out _ HR.out).mono ?_
    rintro e w1 ⟨v1, L1, rfl, own1, hL1, bel1⟩
    have HR1 : Hid (RdSt w1 v1 l) := HOr.out _ _ _ _ own1 hL1
    have HB1 : Hid (Below W.heap.size W w1) := bel1
    have HRw : Hid (RdSt w1 (.slice a l.length c) l) := HR.out.below bel1
    clear own1 hL1 bel1
    go_wp2_with fail
    refine (HWp.out _ _ HR1.out).mono ?_
    rintro e w2 ⟨rfl, bel2⟩
    have HB2 : Hid (Below W.heap.size W w2) := HB1.out.trans (bel2.mono HB1.out.size)
    have HR2 : Hid (RdSt w2 (.slice a l.length c) l) := HRw.out.below bel2
    clear bel2 HRw HB1
    go_wp2_with fail
    refine (HCp.out _ HR2.out).mono ?_
    rintro e w3 ⟨v3, L3, rfl, own3, hL3, bel3⟩
    have HR3 : Hid (RdSt w3 v3 l) := HOr.out _ _ _ _ own3 hL3
    have HB3 : Hid (Below W.heap.size W w3) := HB2.out.trans (bel3.mono HB2.out.size)
    clear own3 hL3 bel3
    go_wp2_with fail
    refine (HFp.out _ _ HR3.out).mono ?_
    rintro e w4 ⟨rfl, bel4⟩
    have HB4 : Hid (Below W.heap.size W w4) := HB3.out.trans (bel4.mono HB3.out.size)
    clear bel4
    go_wp2_with (go_at_call 18; refine (HAw.out _).mono ?_; rintro e w5 ⟨rfl, bel5⟩; have HB5 : Hid (Below W.heap.size W w5) := HB4.out.trans (bel5.mono HB4.out.size); clear bel5)
    all_goals
      go_ret
      exact ⟨ret_bool (by simp), HB5.out⟩
  case true =>
    have hS : wrS21 l = wrtF l := by unfold wrS21; rw [hfm]; rfl
    have hE : wrE21 l = 0 := by unfold wrE21; rw [hfm]; rfl
    rw [hS, hE] at HWp
    rw [hfm] at HFp
    have HRe : Hid (∀ w, Calls Tryd.prog 19 #[.string ⟨(wrtF l).toArray⟩] w fun e w' => ∃ a' c' m, e = .returned (.tuple #[.slice a' m.length c', .int .i64 0, .int .i64 0]) ∧ RdSt w' (.slice a' m.length c') m ∧ SmL false l m ∧ Below w.heap.size w w') := HRd.out hfm
    clear HRd hS hE hfm
    generalize (⟨(wrtF l).toArray⟩ : ByteArray) = TX at *
    go_enter Tryd.func4, Tryd.ntmps4
    go_wp2_with fail
    refine (HCp.out _ HR.out).mono ?_
    rintro e w1 ⟨v1, L1, rfl, own1, hL1, bel1⟩
    have HR1 : Hid (RdSt w1 v1 l) := HOr.out _ _ _ _ own1 hL1
    have HB1 : Hid (Below W.heap.size W w1) := bel1
    have HRw : Hid (RdSt w1 (.slice a l.length c) l) := HR.out.below bel1
    clear own1 hL1 bel1
    go_wp2_with fail
    refine (HWp.out _ _ HR1.out).mono ?_
    rintro e w2 ⟨rfl, bel2⟩
    have HB2 : Hid (Below W.heap.size W w2) := HB1.out.trans (bel2.mono HB1.out.size)
    have HR2 : Hid (RdSt w2 (.slice a l.length c) l) := HRw.out.below bel2
    clear bel2 HRw HB1
    go_wp2_with fail
    refine (HCp.out _ HR2.out).mono ?_
    rintro e w3 ⟨v3, L3, rfl, own3, hL3, bel3⟩
    have HR3 : Hid (RdSt w3 v3 l) := HOr.out _ _ _ _ own3 hL3
    have HB3 : Hid (Below W.heap.size W w3) := HB2.out.trans (bel3.mono HB2.out.size)
    have HRx : Hid (RdSt w3 (.slice a l.length c) l) := HR2.out.below bel3
    clear own3 hL3 bel3
    go_wp2_with fail
    refine (HFp.out _ _ HR3.out).mono ?_
    rintro e w4 ⟨rfl, bel4⟩
    have HB4 : Hid (Below W.heap.size W w4) := HB3.out.trans (bel4.mono HB3.out.size)
    have HRy : Hid (RdSt w4 (.slice a l.length c) l) := HRx.out.below bel4
    clear bel4
    go_wp2_with fail
    refine (HRe.out _).mono ?_
    rintro e w5 ⟨a5, c5, m, rfl, hm, hsm, bel5⟩
    have HB5 : Hid (Below W.heap.size W w5) := HB4.out.trans (bel5.mono HB4.out.size)
    have HRl : Hid (RdSt w5 (.slice a l.length c) l) := HRy.out.below bel5
    have HSm : Hid (Calls Tryd.prog 20 #[.slice a l.length c, .slice a5 m.length c5, .bool false] w5 fun e w' => e = .returned (.bool true) ∧ Below w5.heap.size w5 w') := same21 _ _ l m false w5 HRl.out hm hsm
    clear bel5 hm hsm
    go_wp2_with (first | (go_at_call 20; refine HSm.out.mono ?_; rintro e w6 ⟨rfl, bel6⟩; have HB6 : Hid (Below W.heap.size W w6) := HB5.out.trans (bel6.mono HB5.out.size); clear bel6) | (go_at_call 18; refine (HAw.out _).mono ?_; rintro e w7 ⟨rfl, bel7⟩; have HB7 : Hid (Below W.heap.size W w7) := HB6.out.trans (bel7.mono HB6.out.size); clear bel7))
    all_goals
      go_ret
      exact ⟨ret_bool (by simp), HB7.out⟩

end Go.Proofs.YtbeaoekbppdlmaaDoor.controlBack

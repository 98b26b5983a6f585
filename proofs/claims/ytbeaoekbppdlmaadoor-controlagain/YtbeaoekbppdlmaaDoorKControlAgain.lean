/-
  The law ControlAgain, walked.
  KEEP: walk below len form out each rd mono nil own row set on app start grown at new one
-/
import Derived.Test.YtbeaoekbppdlmaaDoorKCpA
import Derived.Test.YtbeaoekbppdlmaaDoorKWrF
import Derived.Test.YtbeaoekbppdlmaaDoorKAwS
import Derived.Test.YtbeaoekbppdlmaaDoorKSmA
import Derived.Test.YtbeaoekbppdlmaaDoorKWtN
set_option linter.unusedSimpArgs false
set_option linter.unusedVariables false
namespace Go.Proofs.YtbeaoekbppdlmaaDoor.controlAgain
open Go Go.RowKit

set_option maxHeartbeats 3200000 in
set_option maxRecDepth 100000 in
theorem walk (s : ByteArray) (W : World) (hs : s.data.toList.length ≤ 1048576) :
    Calls Tryd.prog 5 #[.string s] W fun e w' => e = .returned (.bool true) ∧ Below W.heap.size W w' := by
  have hsz := size20 s
  have HAw : Hid (∀ w, Calls Tryd.prog 18 #[] w fun e w' => e = .returned (.bool true) ∧ Below w.heap.size w w') := awake21
  have hP := read21 s W (by omega)
  have HA : Hid (∀ w' e, RdAns W.heap.size W w' e (rdF21 s.data.toList) → (∃ c ln, rdF21 s.data.toList = .error (c, ln) ∧ e = .returned (.tuple #[.slice none 0 0, .int .i64 c, .int .i64 ln]) ∧ Below W.heap.size W w') ∨ (∃ v l, rdF21 s.data.toList = .ok l ∧ e = .returned (.tuple #[v, .int .i64 0, .int .i64 0]) ∧ RdSt w' v l ∧ Below W.heap.size W w' ∧ ∃ L, OwnSt W.heap.size w' v L ∧ sgS L = l)) := fun w' e h => rd_ans (by omega) h
  have HE : Hid (∀ c ln, rdF21 s.data.toList = .error (c, ln) → (c == 0) = false) := fun c ln h => rd_err h
  have HOk : Hid (∀ l, rdF21 s.data.toList = .ok l → fmdL l = true ∧ stzN l ≤ 1048578) := fun l h => ⟨read_formed h, by have := read_tot h; omega⟩
  have HP : Hid (Calls Tryd.prog 19 #[.string s] W fun e w' => RdAns W.heap.size W w' e (rdF21 s.data.toList)) := hP
  clear hP hs hsz
  generalize rdF21 s.data.toList = R at *
  go_enter Tryd.func5, Tryd.ntmps5
  go_wp2_with fail
  refine HP.out.mono ?_
  intro e w1 h1
  rcases HA.out _ _ h1 with ⟨c, ln, hR, rfl, b1⟩ | ⟨v, l, hR, rfl, hr, b1, -⟩
  · have HB1 : Hid (Below W.heap.size W w1) := b1
    have hc0 := HE.out c ln hR
    have hc1 : (c != 0) = true := by rw [bne, hc0]; rfl
    have hcn : ¬ c = 0 := by simpa using hc0
    clear h1 b1 hR HA HP HE HOk
    go_wp2_with (go_at_call 18; refine (HAw.out _).mono ?_; rintro e w2 ⟨rfl, bel2⟩; have HB2 : Hid (Below W.heap.size W w2) := HB1.out.trans (bel2.mono HB1.out.size); clear bel2)
    all_goals
      go_ret
      exact ⟨ret_bool (by simp), HB2.out⟩
  · obtain ⟨hfm, htot⟩ := HOk.out l hR
    have HB1 : Hid (Below W.heap.size W w1) := b1
    have HR1 : Hid (RdSt w1 v l) := hr
    obtain ⟨a, c, rfl, -⟩ := hr.form
    have hsz := stzN_sz htot
    have htf := totF_le l
    have htw := wrtF_len l
    have hS : wrS21 l = wrtF l := by unfold wrS21; rw [hfm]; rfl
    have hE : wrE21 l = 0 := by unfold wrE21; rw [hfm]; rfl
    have HCp : Hid (∀ w, RdSt w (.slice a l.length c) l → Calls Tryd.prog 17 #[.slice a l.length c] w fun e w' => ∃ v' L, e = .returned v' ∧ OwnSt w.heap.size w' v' L ∧ sgS L = l ∧ Below w.heap.size w w') := fun w h => copied21 _ _ w h
    have HWp : Hid (∀ w v, RdSt w v l → Calls Tryd.prog 8 #[v] w fun e w' => e = .returned (.tuple #[.string ⟨(wrtF l).toArray⟩, .int .i64 0]) ∧ Below w.heap.size w w') := fun w v h => by
      have := write21 v l w h (fun s hs f hf => by have := hsz s hs f hf; omega) (by omega) (by omega)
      rwa [wrAns_form21, hS, hE] at this
    have HFp : Hid (∀ w v, RdSt w v l → Calls Tryd.prog 9 #[v] w fun e w' => e = .returned (.bool true) ∧ Below w.heap.size w w') := fun w v h => by
      have := formed21 v l w h (fun s hs f hf => by have := hsz s hs f hf; omega) (by omega)
      rwa [hfm] at this
    have HOr : Hid (∀ B W v L, OwnSt B W v L → sgS L = l → RdSt W v l) := fun B W v L h e => own_rd2 h e htot
    have HRe : Hid (∀ w, Calls Tryd.prog 19 #[.string ⟨(wrtF l).toArray⟩] w fun e w' => ∃ a' c' m, e = .returned (.tuple #[.slice a' m.length c', .int .i64 0, .int .i64 0]) ∧ RdSt w' (.slice a' m.length c') m ∧ SmL false l m ∧ Below w.heap.size w w') := fun w => by
      obtain ⟨m, h1, h2⟩ := back21 hfm
      have hR := read21 ⟨(wrtF l).toArray⟩ w (by rw [sizeL]; omega)
      rw [strV_list] at hR
      refine hR.mono fun e w' h => ?_
      rcases rd_ans (by omega) h with ⟨c, ln, q, _⟩ | ⟨v, l2, q, he, hr, hb, _⟩
      · rw [h1] at q; cases q
      · rw [h1] at q
        injection q with q
        subst q
        obtain ⟨a', c', rfl, -⟩ := hr.form
        exact ⟨a', c', m, he, hr, h2, hb⟩
    clear h1 b1 hR hr hfm htot hsz htf htw hS hE HA HP HE HOk
    generalize (⟨(wrtF l).toArray⟩ : ByteArray) = TX at *
    go_wp2_with fail
    refine (HCp.out _ HR1.out).mono ?_
    rintro e w2 ⟨v2, L2, rfl, own2, hL2, bel2⟩
    have HR2 : Hid (RdSt w2 v2 l) := HOr.out _ _ _ _ own2 hL2
    have HB2 : Hid (Below W.heap.size W w2) := HB1.out.trans (bel2.mono HB1.out.size)
    have HRw : Hid (RdSt w2 (.slice a l.length c) l) := HR1.out.below bel2
    clear own2 hL2 bel2 HR1 HB1
    go_wp2_with fail
    refine (HWp.out _ _ HR2.out).mono ?_
    rintro e w3 ⟨rfl, bel3⟩
    have HB3 : Hid (Below W.heap.size W w3) := HB2.out.trans (bel3.mono HB2.out.size)
    have HR3 : Hid (RdSt w3 (.slice a l.length c) l) := HRw.out.below bel3
    clear bel3 HRw HB2 HR2
    go_wp2_with fail
    refine (HRe.out _).mono ?_
    rintro e w4 ⟨a4, c4, m, rfl, hm, hsm, bel4⟩
    have HB4 : Hid (Below W.heap.size W w4) := HB3.out.trans (bel4.mono HB3.out.size)
    have HR4 : Hid (RdSt w4 (.slice a l.length c) l) := HR3.out.below bel4
    have HM4 : Hid (RdSt w4 (.slice a4 m.length c4) m) := hm
    have HSl : Hid (SmL false l m) := hsm
    clear bel4 hm hsm HB3 HR3
    go_wp2_with fail
    refine (HCp.out _ HR4.out).mono ?_
    rintro e w5 ⟨v5, L5, rfl, own5, hL5, bel5⟩
    have HR5 : Hid (RdSt w5 v5 l) := HOr.out _ _ _ _ own5 hL5
    have HB5 : Hid (Below W.heap.size W w5) := HB4.out.trans (bel5.mono HB4.out.size)
    have HRl : Hid (RdSt w5 (.slice a l.length c) l) := HR4.out.below bel5
    have HM5 : Hid (RdSt w5 (.slice a4 m.length c4) m) := HM4.out.below bel5
    clear own5 hL5 bel5 HR4 HM4 HB4
    go_wp2_with fail
    refine (HFp.out _ _ HR5.out).mono ?_
    rintro e w6 ⟨rfl, bel6⟩
    have HB6 : Hid (Below W.heap.size W w6) := HB5.out.trans (bel6.mono HB5.out.size)
    have HSm : Hid (Calls Tryd.prog 20 #[.slice a l.length c, .slice a4 m.length c4, .bool false] w6 fun e w' => e = .returned (.bool true) ∧ Below w6.heap.size w6 w') := same21 _ _ l m false w6 (HRl.out.below bel6) (HM5.out.below bel6) HSl.out
    clear bel6
    go_wp2_with (first | (go_at_call 20; refine HSm.out.mono ?_; rintro e w7 ⟨rfl, bel7⟩; have HB7 : Hid (Below W.heap.size W w7) := HB6.out.trans (bel7.mono HB6.out.size); clear bel7) | (go_at_call 18; refine (HAw.out _).mono ?_; rintro e w8 ⟨rfl, bel8⟩; have HB8 : Hid (Below W.heap.size W w8) := HB7.out.trans (bel8.mono HB7.out.size); clear bel8))
    all_goals
      go_ret
      exact ⟨ret_bool (by simp), HB8.out⟩

end Go.Proofs.YtbeaoekbppdlmaaDoor.controlAgain

/-
  Satisfies and False, the program's and the document's, walked.
-/
import Derived.Test.YtfklgfdkpmfdnaaDoorTruth
set_option linter.unusedSimpArgs false
set_option linter.unusedVariables false
namespace Go.Proofs.YtfklgfdkpmfdnaaDoor
open Go.RowKit

/-- so many truths as the formula has variables -/
def mdl (n : Int) (css : List (List Int)) (ms : List Bool) : Bool := frm n css && ((ms.length : Int) == n)
theorem mdl_fits {n : Int} {css : List (List Int)} {ms : List Bool} (h : mdl n css ms = true) {k : Nat} (hk : k < css.length) : fitsP ms.length (css.getD k []) = true := by
  unfold mdl frm at h
  simp only [Bool.and_eq_true, beq_iff_eq] at h
  have := List.all_eq_true.1 h.1.2 _ (getD_mem' (d := []) hk)
  rw [h.2]; exact this

set_option maxHeartbeats 3200000 in
theorem isModel_any (n : Int) (s vm : Value) (css : List (List Int)) (ms : List Bool) (w : World) (hr : Rds w s css) (hm : RdB w vm ms) :
    Calls Tryd.prog 39 #[.agg #[.int .i64 n, s], vm] w fun e w' => e = .returned (.bool (mdl n css ms)) ∧ Below w.heap.size w w' := by
  have HX : Hid (Bx w n s css (w.alloc (.cells #[.int .i64 n, s] 24))) := Bx.new hr _
  have hlm := hm.len
  obtain ⟨am, cm, rfl, _⟩ := hm.form
  clear hr hm
  have HD : Hid (mdl n css ms = (frm n css && ((ms.length : Int) == n))) := rfl
  cases hf : frm n css
  · rw [hf] at HD
    go_enter Tryd.func39, Tryd.ntmps39
    go_wp2_with fail
    refine (cnfFormed_any n s css _ HX.out.rd).mono ?_
    rw [hf]
    rintro e w1 ⟨rfl, bel1⟩
    have HX1 : Hid (Bx w n s css w1) := HX.out.on bel1
    go_wp2
    go_ret
    exact ⟨ret_bool HD.out.symm, HX1.out.bel⟩
  · rw [hf, Bool.true_and] at HD
    go_enter Tryd.func39, Tryd.ntmps39
    go_wp2_with fail
    refine (cnfFormed_any n s css _ HX.out.rd).mono ?_
    rw [hf]
    rintro e w1 ⟨rfl, bel1⟩
    have HX1 : Hid (Bx w n s css w1) := HX.out.on bel1
    have c0 := HX1.out.c0
    have c1 := HX1.out.c1
    clear HX bel1
    go_wp2
    go_ret
    exact ⟨ret_bool HD.out.symm, HX1.out.bel⟩

set_option maxHeartbeats 3200000 in
theorem satisfies_any (n : Int) (s vm : Value) (css : List (List Int)) (ms : List Bool) (w : World) (hr : Rds w s css) (hm : RdB w vm ms) (hd : mdl n css ms = true) :
    Calls Tryd.prog 36 #[.agg #[.int .i64 n, s], vm] w fun e w' => e = .returned (.bool (satT ms css)) ∧ Below w.heap.size w w' := by
  have hl := hr.len
  have HX : Hid (Bx w n s css (w.alloc (.cells #[.int .i64 n, s] 24))) := Bx.new hr _
  have HM : Hid (RdB (w.alloc (.cells #[.int .i64 n, s] 24)) vm ms) := hm.below (below_box _ _)
  have HD : Hid (mdl n css ms = true) := hd
  obtain ⟨a, c, rfl, hc, hmx, _⟩ := hr.form
  clear hr hm hd
  go_enter Tryd.func36, Tryd.ntmps36
  go_wp2
  generalize w.alloc (.cells #[.int .i64 n, .slice a css.length c] 24) = W0 at *
  go_loopg [10] css.length (fun g i wr => ∃ k : Nat, k + g = css.length ∧ i = .int .i64 k ∧ satT ms (css.take k) = true ∧ wr = W0)
  case atStart => exact ⟨0, by omega, rfl, by simp [satT], rfl⟩
  case round =>
    obtain ⟨k, hk, rfl, hall, rfl⟩ := hrel
    have HA : Hid (satT ms (css.take k) = true) := hall
    have HK : Hid (k + gk = css.length) := hk
    clear hall
    by_cases hlt : k < css.length
    · obtain ⟨b, off, u, rfl, hck, hu0⟩ := HX.out.at hlt
      have HU : Hid (Rd wr u (css.getD k [])) := hu0
      have HG : Hid (fitsP ms.length (css.getD k []) = true) := mdl_fits HD.out hlt
      have HS : Hid (satT ms (css.take (k + 1)) = (satT ms (css.take k) && mkT ms (css.getD k []))) := all_take_getD _ css [] k hlt
      have HF : Hid (mkT ms (css.getD k []) = false → satT ms css = false) := fun h => all_false_getD hlt h
      obtain ⟨_, ua, uc, hu, _⟩ := hu0
      clear hk
      generalize css.getD k [] = z at *
      subst hu
      cases hf : mkT ms z
      · go_wp2_with (go_at_call 40; refine (makesTrue_any _ _ ms z _ HM.out HU.out HG.out).mono ?_; rw [hf]; rintro e w' ⟨rfl, rfl⟩)
        go_ret
        exact ⟨ret_bool (HF.out hf).symm, HX.out.bel⟩
      · go_wp2_with (go_at_call 40; refine (makesTrue_any _ _ ms z _ HM.out HU.out HG.out).mono ?_; rw [hf]; rintro e w' ⟨rfl, rfl⟩)
        go_roundg (gk - 1)
        case measure => have := HK.out; omega
        case rel => exact ⟨k + 1, by have := HK.out; omega, by go_num, by rw [HS.out, HA.out, hf]; rfl, rfl⟩
    · obtain rfl : k = css.length := by omega
      have HE : Hid (satT ms css = true) := by have := HA.out; rw [List.take_length] at this; exact this
      clear hk
      go_wp2
      go_ret
      exact ⟨ret_bool HE.out.symm, HX.out.bel⟩

set_option maxHeartbeats 3200000 in
theorem cnfSatisfies_any (n : Int) (s vm : Value) (css : List (List Int)) (ms : List Bool) (w : World) (hr : Rds w s css) (hm : RdB w vm ms) :
    Calls Tryd.prog 15 #[.agg #[.int .i64 n, s], vm] w fun e w' => e = .returned (.bool (mdl n css ms && satT ms css)) ∧ Below w.heap.size w w' := by
  have HX : Hid (Bx w n s css (w.alloc (.cells #[.int .i64 n, s] 24))) := Bx.new hr _
  have HM : Hid (RdB (w.alloc (.cells #[.int .i64 n, s] 24)) vm ms) := hm.below (below_box _ _)
  clear hr hm
  cases hd : mdl n css ms
  · go_enter Tryd.func15, Tryd.ntmps15
    go_wp2_with fail
    refine (isModel_any n s vm css ms _ HX.out.rd HM.out).mono ?_
    rw [hd]
    rintro e w1 ⟨rfl, bel1⟩
    have HX1 : Hid (Bx w n s css w1) := HX.out.on bel1
    go_wp2
    go_ret
    exact ⟨rfl, HX1.out.bel⟩
  · have HD : Hid (mdl n css ms = true) := hd
    go_enter Tryd.func15, Tryd.ntmps15
    go_wp2_with fail
    refine (isModel_any n s vm css ms _ HX.out.rd HM.out).mono ?_
    rw [hd]
    rintro e w1 ⟨rfl, bel1⟩
    have HX1 : Hid (Bx w n s css w1) := HX.out.on bel1
    have HM1 : Hid (RdB w1 vm ms) := HM.out.below bel1
    have c0 := HX1.out.c0
    have c1 := HX1.out.c1
    clear HX bel1 HM hd
    go_wp2_with fail
    refine (satisfies_any n s vm css ms _ HX1.out.rd HM1.out HD.out).mono ?_
    rintro e w2 ⟨rfl, bel2⟩
    have HX2 : Hid (Bx w n s css w2) := HX1.out.on bel2
    go_wp2
    go_ret
    exact ⟨by simp, HX2.out.bel⟩

set_option maxHeartbeats 3200000 in
theorem rSatisfied_any (n : Int) (s vm : Value) (css : List (List Int)) (ms : List Bool) (w : World) (hr : Rds w s css) (hm : RdB w vm ms) (hd : mdl n css ms = true) :
    Calls Tryd.prog 30 #[.agg #[.int .i64 n, s], vm] w fun e w' => e = .returned (.bool (satT ms css)) ∧ Below w.heap.size w w' := by
  have hl := hr.len
  have HX : Hid (Bx w n s css (w.alloc (.cells #[.int .i64 n, s] 24))) := Bx.new hr _
  have HM : Hid (RdB (w.alloc (.cells #[.int .i64 n, s] 24)) vm ms) := hm.below (below_box _ _)
  have HD : Hid (mdl n css ms = true) := hd
  obtain ⟨a, c, rfl, hc, hmx, _⟩ := hr.form
  clear hr hm hd
  have c0 := HX.out.c0
  have c1 := HX.out.c1
  go_enter Tryd.func30, Tryd.ntmps30
  go_wp2
  generalize w.alloc (.cells #[.int .i64 n, .slice a css.length c] 24) = W0 at *
  go_loopg [5] css.length (fun g i wr => ∃ k : Nat, k + g = css.length ∧ i = .int .i64 k ∧ satT ms (css.take k) = true ∧ wr = W0)
  case atStart => exact ⟨0, by omega, rfl, by simp [satT], rfl⟩
  case round =>
    obtain ⟨k, hk, rfl, hall, rfl⟩ := hrel
    have HA : Hid (satT ms (css.take k) = true) := hall
    have HK : Hid (k + gk = css.length) := hk
    clear hall
    by_cases hlt : k < css.length
    · obtain ⟨b, off, u, rfl, hck, hu0⟩ := HX.out.at hlt
      have HU : Hid (Rd wr u (css.getD k [])) := hu0
      have HG : Hid (fitsP ms.length (css.getD k []) = true) := mdl_fits HD.out hlt
      have HS : Hid (satT ms (css.take (k + 1)) = (satT ms (css.take k) && mkT ms (css.getD k []))) := all_take_getD _ css [] k hlt
      have HF : Hid (mkT ms (css.getD k []) = false → satT ms css = false) := fun h => all_false_getD hlt h
      obtain ⟨_, ua, uc, hu, _⟩ := hu0
      clear hk
      generalize css.getD k [] = z at *
      subst hu
      cases hf : mkT ms z
      · go_wp2_with (go_at_call 42; refine (rTrue_any _ _ ms z _ HM.out HU.out HG.out).mono ?_; rw [hf]; rintro e w' ⟨rfl, rfl⟩)
        go_ret
        exact ⟨ret_bool (HF.out hf).symm, HX.out.bel⟩
      · go_wp2_with (go_at_call 42; refine (rTrue_any _ _ ms z _ HM.out HU.out HG.out).mono ?_; rw [hf]; rintro e w' ⟨rfl, rfl⟩)
        go_roundg (gk - 1)
        case measure => have := HK.out; omega
        case rel => exact ⟨k + 1, by have := HK.out; omega, by go_num, by rw [HS.out, HA.out, hf]; rfl, rfl⟩
    · obtain rfl : k = css.length := by omega
      have HE : Hid (satT ms css = true) := by have := HA.out; rw [List.take_length] at this; exact this
      clear hk
      go_wp2
      go_ret
      exact ⟨ret_bool HE.out.symm, HX.out.bel⟩

end Go.Proofs.YtfklgfdkpmfdnaaDoor

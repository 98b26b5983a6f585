/-
  drat.number, walked.
  KEEP: below out mono nil form app grown rdz
-/
import Derived.Test.YtilcokpaeapmeaaDoorJItoaD
import Derived.Lib.AtoiTie
import Derived.Lib.AtoiErrMem
import Derived.Lib.AtoiAllMem
import Derived.Handy
import Derived.Deep.QuietTactic
import Derived.BigQuiet
set_option linter.unusedSimpArgs false
set_option linter.unusedVariables false
namespace Go.Proofs.YtilcokpaeapmeaaDoor
open Go Go.RowKit Go.Lib Go.Sort

theorem par_dec : ∀ (l : List UInt8) (acc : Nat), l.all isDg = true → l.foldl (fun a b => 10 * a + (b.toNat - 48)) acc < 9223372036854775808 → Lib.parseUint10 acc l = .ok (l.foldl (fun a b => 10 * a + (b.toNat - 48)) acc)
  | [], acc, _, _ => rfl
  | b :: r, acc, h, hv => by
    simp only [List.all_cons, Bool.and_eq_true] at h
    have hb := h.1
    simp only [isDg, Bool.and_eq_true, decide_eq_true_eq] at hb
    rw [List.foldl_cons] at hv
    have mono : ∀ (r : List UInt8) (a : Nat), a ≤ r.foldl (fun a b => 10 * a + (b.toNat - 48)) a := by
      intro r
      induction r with
      | nil => intro a; exact Nat.le_refl _
      | cons x r ih => intro a; rw [List.foldl_cons]; exact Nat.le_trans (by omega) (ih _)
    have hm := mono r (10 * acc + (b.toNat - 48))
    have ih := par_dec r (10 * acc + (b.toNat - 48)) h.2 hv
    rw [Lib.parseUint10, if_pos ⟨hb.1, hb.2⟩, if_neg (by omega), if_neg (by omega), List.foldl_cons, ← ih]
    congr 1; omega
theorem atoi_itoa9 {z : Int} (h : okN z = true) : Lib.atoiAll (Lib.itoa z) = .ok z := by
  have hr := okN_range h
  have key : ∀ u : Nat, u ≤ 1048576 → Lib.parseMag (Lib.decDigits u) = .ok u := fun u hu => by
    have h1 := par_dec (Lib.decDigits u) 0 (dec_all u) (by have := dec_val u; unfold decV at this; omega)
    have h2 : (Lib.decDigits u).foldl (fun a b => 10 * a + (b.toNat - 48)) 0 = u := dec_val u
    rw [h2] at h1
    unfold Lib.parseMag
    cases hd : Lib.decDigits u with
    | nil => exact absurd hd (dec_ne u)
    | cons b r => rw [hd] at h1; exact h1
  unfold Lib.itoa
  split
  · rename_i hn
    have hk := key z.natAbs (by omega)
    unfold Lib.atoiAll
    simp only [show (45 : UInt8).toNat = 45 from rfl, if_true, or_true]
    rw [hk]
    simp only [not_true_eq_false, false_and, if_false, true_and]
    rw [if_neg (by omega)]
    congr 1; omega
  · rename_i hn
    have hk := key z.toNat (by omega)
    cases hd : Lib.decDigits z.toNat with
    | nil => exact absurd hd (dec_ne _)
    | cons b r =>
      have hb := dec_bytes z.toNat b (by rw [hd]; simp)
      unfold Lib.atoiAll
      have e1 : ¬ (b.toNat = 43 ∨ b.toNat = 45) := by omega
      have e2 : ¬ b.toNat = 45 := by omega
      rw [hd] at hk
      simp only [e2, or_false]
      rw [if_neg (show ¬ b.toNat = 43 by omega), hk]
      simp only [not_false_eq_true, true_and, false_and, if_false]
      rw [if_neg (by omega)]
      congr 1; omega

/-- the library's errors, as the program's text lays them -/
def ErrsY (w : World) : Prop := (∃ tp p, w.var? Tryd.prog "strconv.ErrSyntax" = some #[.iface tp p]) ∧ (∃ tp p, w.var? Tryd.prog "strconv.ErrRange" = some #[.iface tp p])
theorem gES9 : Tryd.prog.globalNamed "strconv.ErrSyntax" = some 1 := by kernel_rfl
theorem gER9 : Tryd.prog.globalNamed "strconv.ErrRange" = some 2 := by kernel_rfl
theorem ErrsY.below {w w' : World} (h : ErrsY w) (hb : Below w.heap.size w w') : ErrsY w' := by
  obtain ⟨⟨t1, p1, h1⟩, ⟨t2, p2, h2⟩⟩ := h
  exact ⟨⟨t1, p1, Go.Joins.var_stays gES9 h1 hb (Nat.le_refl _)⟩, ⟨t2, p2, Go.Joins.var_stays gER9 h2 hb (Nat.le_refl _)⟩⟩
def Env (w : World) : Prop := TensY w ∧ ErrsY w
theorem Env.below {w w' : World} (h : Env w) (hb : Below w.heap.size w w') : Env w' := ⟨h.1.below hb, h.2.below hb⟩

theorem bytes_below (w : World) (t : ByteArray) : Below w.heap.size w (Lib.bytesWorld w 5 t) := Lib.bytesWorld_below _ _ _

theorem ba_ext {s : ByteArray} {l : List UInt8} (h : s.data.toList = l) : s = ⟨l.toArray⟩ := by
  cases s; subst h; simp

set_option maxRecDepth 100000 in
set_option maxHeartbeats 1600000 in
theorem number9_any (s : ByteArray) (w : World) (hs : s.size ≤ 281474976710656) (he : Env w) :
    Calls Tryd.prog 64 #[.string s] w fun e w' => ∃ n : Int, e = .returned (.tuple #[.int .i64 n, .bool (numD s.data.toList).isSome]) ∧ (∀ z, numD s.data.toList = some z → n = z) ∧ Below w.heap.size w w' := by
  obtain ⟨htab, ⟨t1, p1, hv1⟩, ⟨t2, p2, hv2⟩⟩ := he
  have HD : Hid (∀ z, numD s.data.toList = some z → Lib.atoiAll s.data.toList = .ok z ∧ okN z = true ∧ s.data.toList = Lib.itoa z) := fun z hz => by
    obtain ⟨h1, h2⟩ := numD_some hz
    exact ⟨by rw [h1]; exact atoi_itoa9 h2, h2, h1⟩
  cases h : Lib.atoiAll s.data.toList with
  | «syntax» =>
    have HN : Hid (numD s.data.toList = none) := by
      show _ = _
      cases hn : numD s.data.toList with
      | none => rfl
      | some z => have := (HD.out z hn).1; rw [h] at this; cases this
    have hc := Tryd.strconv_Atoi_syntax_var s hs h t1 p1 w hv1
    clear h HD htab hv1 hv2
    go_enter Tryd.func64, Tryd.ntmps64
    go_wp2_with fail
    refine hc.mono ?_
    rintro e w1 ⟨N, rfl, hN, _, bel1⟩
    go_wp2
    go_returns
    rw [HN.out]
    exact ⟨0, rfl, (fun z hz => by cases hz), bel1⟩
  | range =>
    have HN : Hid (numD s.data.toList = none) := by
      show _ = _
      cases hn : numD s.data.toList with
      | none => rfl
      | some z => have := (HD.out z hn).1; rw [h] at this; cases this
    have hc := Tryd.strconv_Atoi_range_var s hs h t2 p2 w hv2
    clear h HD htab hv1 hv2
    generalize Lib.atoiSat s.data.toList = sat at *
    go_enter Tryd.func64, Tryd.ntmps64
    go_wp2_with fail
    refine hc.mono ?_
    rintro e w1 ⟨N, rfl, hN, _, bel1⟩
    go_wp2
    go_returns
    rw [HN.out]
    exact ⟨0, rfl, (fun z hz => by cases hz), bel1⟩
  | ok v =>
    have hvb := Lib.atoiAll_bounds h
    have hc := Tryd.strconv_Atoi_ok s (by omega) v h w
    have HT : Hid (TensY w) := htab
    have HD2 : Hid (∀ z, numD s.data.toList = some z → v = z ∧ okN z = true ∧ s.data.toList = Lib.itoa z) := fun z hz => by
      obtain ⟨h1, h2, h3⟩ := HD.out z hz
      rw [h] at h1
      injection h1 with h1
      exact ⟨h1, h2, h3⟩
    clear h HD htab hv1 hv2
    by_cases hk : okN v = true
    · have HY : Hid (s = ⟨(Lib.itoa v).toArray⟩ → numD s.data.toList = some v) := fun e => by rw [e]; exact numD_itoa hk
      have HNo : Hid (s ≠ ⟨(Lib.itoa v).toArray⟩ → numD s.data.toList = none) := fun e => by
        cases hn : numD s.data.toList with
        | none => rfl
        | some z =>
          obtain ⟨h1, h2, h3⟩ := HD2.out z hn
          subst h1
          exact absurd (ba_ext h3) e
      have HB : Hid ((numD s.data.toList).isSome = (Lib.itoa v == s.toList)) := by
        show _ = _
        rw [ByteArray.toList_eq]
        by_cases e : s = ⟨(Lib.itoa v).toArray⟩
        · rw [HY.out e, e]; simp
        · rw [HNo.out e]
          have : Lib.itoa v ≠ s.data.toList := fun h => e (ba_ext h.symm)
          symm; simpa using this
      have HV : Hid (∀ z, numD s.data.toList = some z → v = z) := fun z hz => (HD2.out z hz).1
      clear HD2 HY HNo
      go_enter Tryd.func64, Tryd.ntmps64
      go_wp2_with fail
      refine hc.mono ?_
      rintro e w1 ⟨rfl, hw⟩
      have bel1 : Below w.heap.size w w1 := by
        rcases hw with rfl | ⟨t, rfl⟩
        · exact Below.refl _ _
        · exact bytes_below _ _
      have hI := itoa9_any v (by omega) (by omega) w1 (HT.out.below bel1)
      clear hw
      by_cases hv0 : v = 0
      · subst hv0
        go_wp2_with (go_at_call 34; refine hI.mono ?_; rintro e w2 ⟨rfl, bel2⟩)
        go_returns
        rw [HB.out]
        exact ⟨0, rfl, HV.out, Below.step bel1 bel2⟩
      · have h0 : (v != 0) = true := by simpa using hv0
        have hf : fmd v = true := by
          simp only [okN, Bool.or_eq_true, beq_iff_eq] at hk
          exact hk.resolve_left hv0
        go_wp2_with (first | (go_at_call 48; refine (formed_any _ _).mono ?_; rintro e w' ⟨rfl, rfl⟩) | (go_at_call 34; refine hI.mono ?_; rintro e w2 ⟨rfl, bel2⟩))
        go_returns
        rw [HB.out]
        exact ⟨v, rfl, HV.out, Below.step bel1 bel2⟩
    · have HN : Hid (numD s.data.toList = none) := by
        show _ = _
        cases hn : numD s.data.toList with
        | none => rfl
        | some z => obtain ⟨h1, h2, h3⟩ := HD2.out z hn; subst h1; exact absurd h2 hk
      have hv0 : v ≠ 0 := by rintro rfl; exact hk rfl
      have hfv : fmd v = false := by
        cases hf : fmd v with
        | false => rfl
        | true => exact absurd (by unfold okN; rw [hf]; simp) hk
      have h0 : (v != 0) = true := by simpa using hv0
      clear HD2 hk
      go_enter Tryd.func64, Tryd.ntmps64
      go_wp2_with fail
      refine hc.mono ?_
      rintro e w1 ⟨rfl, hw⟩
      have bel1 : Below w.heap.size w w1 := by
        rcases hw with rfl | ⟨t, rfl⟩
        · exact Below.refl _ _
        · exact bytes_below _ _
      clear hw
      go_wp2_with (go_at_call 48; refine (formed_any _ _).mono ?_; rintro e w' ⟨rfl, rfl⟩)
      go_returns
      rw [HN.out]
      exact ⟨0, rfl, (fun z hz => by cases hz), bel1⟩

end Go.Proofs.YtilcokpaeapmeaaDoor

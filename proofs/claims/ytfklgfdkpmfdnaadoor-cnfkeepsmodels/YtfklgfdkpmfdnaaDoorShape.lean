/-
  Formed and Size, the program's and the document's, and the law's small formula, walked.
-/
import Derived.Test.YtfklgfdkpmfdnaaDoorForms
import Derived.Test.YtfklgfdkpmfdnaaDoorNum
import Derived.BigQuiet
import Derived.Deep.QuietTactic
set_option linter.unusedSimpArgs false
set_option linter.unusedVariables false
namespace Go.Proofs.YtfklgfdkpmfdnaaDoor
open Go.RowKit

theorem fit1 (n : Int) (l : Int) : (fmd l && decide (varOf l ≤ n)) = (fmd l && (!decide (n < l) && !decide (n < -l))) := by
  unfold varOf
  rcases fmd_cases l with ⟨h, h0, h1, h2⟩ | ⟨h, h0⟩
  · rw [h, Bool.eq_iff_iff]
    by_cases hs : l < 0
    · simp only [hs, Bool.true_and, if_true, decide_eq_true_eq, Bool.and_eq_true, Bool.not_eq_true', decide_eq_false_iff_not]; omega
    · simp only [hs, Bool.true_and, if_true, if_false, decide_eq_true_eq, Bool.and_eq_true, Bool.not_eq_true', decide_eq_false_iff_not]; omega
  · rw [h]; rfl

set_option maxHeartbeats 1600000 in
theorem fits_any (v : Value) (zs : List Int) (n : Int) (w : World) (hr : Rd w v zs) :
    Calls Tryd.prog 37 #[v, .int .i64 n] w fun e w' => e = .returned (.bool (fitsP n zs)) ∧ w' = w := by
  have hl := hr.len
  obtain ⟨a, c, rfl, hc, hm, hcell⟩ := hr.form
  have HC : Hid (∀ k, k < zs.length → ∃ b off, a = some ⟨b, off, none⟩ ∧ w.cell? ⟨b, off + k, none⟩ = some (.int .i64 (zs.getD k 0))) := hcell
  clear hcell hr
  go_enter Tryd.func37, Tryd.ntmps37
  go_wp2
  go_loopg [9] zs.length (fun g i wr => ∃ k : Nat, k + g = zs.length ∧ i = .int .i64 k ∧ fitsP n (zs.take k) = true ∧ wr = w)
  case atStart => exact ⟨0, by omega, rfl, by simp [fitsP], rfl⟩
  case round =>
    obtain ⟨k, hk, rfl, hall, rfl⟩ := hrel
    have HA : Hid (fitsP n (zs.take k) = true) := hall
    have HK : Hid (k + gk = zs.length) := hk
    clear hall
    by_cases hlt : k < zs.length
    · obtain ⟨b, off, rfl, hck⟩ := HC.out k hlt
      have HS : Hid (fitsP n (zs.take (k + 1)) = (fitsP n (zs.take k) && (fmd (zs.getD k 0) && decide (varOf (zs.getD k 0) ≤ n)))) := all_take_getD _ zs 0 k hlt
      have HF : Hid ((fmd (zs.getD k 0) && decide (varOf (zs.getD k 0) ≤ n)) = false → fitsP n zs = false) := fun h => all_false_getD (f := fun l => fmd l && decide (varOf l ≤ n)) hlt h
      clear hk
      generalize zs.getD k 0 = z at *
      cases hf : fmd z
      · go_wp2_with (go_at_call 48; refine (formed_any _ _).mono ?_; rintro e w' ⟨rfl, rfl⟩)
        go_ret
        exact ⟨ret_bool (HF.out (by rw [hf]; rfl)).symm, rfl⟩
      · cases hv : decide (varOf z ≤ n)
        · have hgt : decide (n < varOf z) = true := by simp at hv ⊢; omega
          go_wp2_with (first | (go_at_call 48; refine (formed_any _ _).mono ?_; rintro e w' ⟨rfl, rfl⟩) | (go_at_call 49; refine (var_any _ _).mono ?_; rintro e w' ⟨rfl, rfl⟩))
          go_ret
          exact ⟨ret_bool (HF.out (by rw [hf, hv]; rfl)).symm, rfl⟩
        · have hgt : decide (n < varOf z) = false := by simp at hv ⊢; omega
          go_wp2_with (first | (go_at_call 48; refine (formed_any _ _).mono ?_; rintro e w' ⟨rfl, rfl⟩) | (go_at_call 49; refine (var_any _ _).mono ?_; rintro e w' ⟨rfl, rfl⟩))
          go_roundg (gk - 1)
          case measure => have := HK.out; omega
          case rel => exact ⟨k + 1, by have := HK.out; omega, by go_num, by rw [HS.out, HA.out, hf, hv]; rfl, rfl⟩
    · obtain rfl : k = zs.length := by omega
      have HE : Hid (fitsP n zs = true) := by have := HA.out; rw [List.take_length] at this; exact this
      clear hk
      go_wp2
      go_ret
      exact ⟨ret_bool HE.out.symm, rfl⟩

theorem szs_step (css : List (List Int)) (k : Nat) (h : k < css.length) : szs (css.take (k + 1)) = wrap64 (szs (css.take k) + (css.getD k []).length) := by
  rw [take_succ_getD css [] k h]; unfold szs; rw [List.foldl_append]; rfl
theorem box0 (w : World) (x y : Value) (t : TypeId) : (w.alloc (.cells #[x, y] t)).cell? ⟨w.heap.size, 0, none⟩ = some x := by rw [World.cell?_alloc_at _ _ _ _ rfl]; rfl
theorem box1 (w : World) (x y : Value) (t : TypeId) : (w.alloc (.cells #[x, y] t)).cell? ⟨w.heap.size, 1, none⟩ = some y := by rw [World.cell?_alloc_at _ _ _ _ rfl]; rfl
theorem below_box (w : World) (o : Obj) : Below w.heap.size w (w.alloc o) := (Below.refl _ _).alloc (Nat.le_refl _) _

set_option maxHeartbeats 1600000 in
theorem cnfFormed_any (n : Int) (s : Value) (css : List (List Int)) (w : World) (hr : Rds w s css) :
    Calls Tryd.prog 9 #[.agg #[.int .i64 n, s]] w fun e w' => e = .returned (.bool (frm n css)) ∧ Below w.heap.size w w' := by
  have hl := hr.len
  obtain ⟨a, c, rfl, hc, hm, hcell⟩ := hr.form
  have HC : Hid (∀ k, k < css.length → ∃ b off u, a = some ⟨b, off, none⟩ ∧ w.cell? ⟨b, off + k, none⟩ = some u ∧ Rd w u (css.getD k [])) := hcell
  clear hcell
  cases h0 : decide (n < 0)
  case true =>
    have HE : Hid (frm n css = false) := by unfold frm Hid; simp at h0; simp; omega
    go_enter Tryd.func9, Tryd.ntmps9
    go_wp2
    go_ret
    exact ⟨ret_bool HE.out.symm, below_box _ _⟩
  cases h1 : decide (1048576 < n)
  case true =>
    have HE : Hid (frm n css = false) := by unfold frm Hid; simp at h1; simp; omega
    go_enter Tryd.func9, Tryd.ntmps9
    go_wp2
    go_ret
    exact ⟨ret_bool HE.out.symm, below_box _ _⟩
  have HN : Hid (frm n css = css.all (fitsP n)) := by unfold frm Hid; simp at h0 h1; simp [h0, h1]
  go_enter Tryd.func9, Tryd.ntmps9
  go_wp2
  go_loopg [16] css.length (fun g i wr => ∃ k : Nat, k + g = css.length ∧ i = .int .i64 k ∧ (css.take k).all (fitsP n) = true ∧ wr = w.alloc (.cells #[.int .i64 n, .slice a css.length c] 24))
  case atStart => exact ⟨0, by omega, rfl, by simp, rfl⟩
  case round =>
    obtain ⟨k, hk, rfl, hall, rfl⟩ := hrel
    have HA : Hid ((css.take k).all (fitsP n) = true) := hall
    have HK : Hid (k + gk = css.length) := hk
    clear hall
    by_cases hlt : k < css.length
    · obtain ⟨b, off, u, rfl, hck0, hu0⟩ := HC.out k hlt
      have hb := World.block_lt_of_cell? w ⟨b, off + k, none⟩ hck0
      have hck : (w.alloc (.cells #[.int .i64 n, .slice (some ⟨b, off, none⟩) css.length c] 24)).cell? ⟨b, off + k, none⟩ = some u := ((below_box w _).cell (p := ⟨b, off + k, none⟩) hb).trans hck0
      have HU : Hid (Rd (w.alloc (.cells #[.int .i64 n, .slice (some ⟨b, off, none⟩) css.length c] 24)) u (css.getD k [])) := hu0.below (below_box w _)
      have HS : Hid ((css.take (k + 1)).all (fitsP n) = ((css.take k).all (fitsP n) && fitsP n (css.getD k []))) := all_take_getD _ css [] k hlt
      have HF : Hid (fitsP n (css.getD k []) = false → css.all (fitsP n) = false) := fun h => all_false_getD hlt h
      obtain ⟨_, ua, uc, hu, _⟩ := hu0
      clear hk
      generalize css.getD k [] = z at *
      subst hu
      cases hf : fitsP n z
      · go_wp2_with (go_at_call 37; refine (fits_any _ _ _ _ HU.out).mono ?_; rintro e w' ⟨rfl, rfl⟩)
        go_ret
        exact ⟨ret_bool (HN.out.trans (HF.out hf)).symm, below_box _ _⟩
      · go_wp2_with (go_at_call 37; refine (fits_any _ _ _ _ HU.out).mono ?_; rintro e w' ⟨rfl, rfl⟩)
        go_roundg (gk - 1)
        case measure => have := HK.out; omega
        case rel => exact ⟨k + 1, by have := HK.out; omega, by go_num, by rw [HS.out, HA.out, hf]; rfl, rfl⟩
    · obtain rfl : k = css.length := by omega
      have HE : Hid (css.all (fitsP n) = true) := by have := HA.out; rw [List.take_length] at this; exact this
      clear hk
      go_wp2
      go_ret
      exact ⟨ret_bool (HN.out.trans HE.out).symm, below_box _ _⟩

set_option maxHeartbeats 1600000 in
theorem cnfSize_any (n : Int) (s : Value) (css : List (List Int)) (w : World) (hr : Rds w s css) :
    Calls Tryd.prog 14 #[.agg #[.int .i64 n, s]] w fun e w' => e = .returned (.int .i64 (szs css)) ∧ Below w.heap.size w w' := by
  have hl := hr.len
  obtain ⟨a, c, rfl, hc, hm, hcell⟩ := hr.form
  have HC : Hid (∀ k, k < css.length → ∃ b off u, a = some ⟨b, off, none⟩ ∧ w.cell? ⟨b, off + k, none⟩ = some u ∧ Rd w u (css.getD k [])) := hcell
  clear hcell
  go_enter Tryd.func14, Tryd.ntmps14
  go_wp2
  go_loopg [3, 9] css.length (fun g x i wr => ∃ k : Nat, k + g = css.length ∧ i = .int .i64 k ∧ x = .int .i64 (szs (css.take k)) ∧ wr = w.alloc (.cells #[.int .i64 n, .slice a css.length c] 24))
  case atStart => exact ⟨0, by omega, rfl, rfl, rfl⟩
  case round =>
    obtain ⟨k, hk, rfl, rfl, rfl⟩ := hrel
    have HK : Hid (k + gk = css.length) := hk
    by_cases hlt : k < css.length
    · obtain ⟨b, off, u, rfl, hck0, hu0⟩ := HC.out k hlt
      have hb := World.block_lt_of_cell? w ⟨b, off + k, none⟩ hck0
      have hck : (w.alloc (.cells #[.int .i64 n, .slice (some ⟨b, off, none⟩) css.length c] 24)).cell? ⟨b, off + k, none⟩ = some u := ((below_box w _).cell (p := ⟨b, off + k, none⟩) hb).trans hck0
      have HS : Hid (szs (css.take (k + 1)) = wrap64 (szs (css.take k) + (css.getD k []).length)) := szs_step css k hlt
      obtain ⟨_, ua, uc, hu, _⟩ := hu0
      clear hk
      generalize css.getD k [] = z at *
      generalize szs (css.take k) = S at *
      subst hu
      go_wp2
      go_roundg (gk - 1)
      case measure => have := HK.out; omega
      case rel => exact ⟨k + 1, by have := HK.out; omega, by go_num, by rw [HS.out], rfl⟩
    · obtain rfl : k = css.length := by omega
      have HE : Hid (szs (css.take css.length) = szs css) := by unfold Hid; rw [List.take_length]
      clear hk
      generalize szs (css.take css.length) = S at *
      go_wp2
      go_ret
      exact ⟨ret_int HE.out, below_box _ _⟩

theorem fit2 {n l : Int} (h : fmd l = true) : wrap64 (-l) = -l := by
  have := fmd_range h; unfold wrap64; omega

theorem rSound_any (v : Value) (zs : List Int) (w : World) (hr : Rd w v zs) :
    Calls Tryd.prog 50 #[v] w fun e w' => e = .returned (.bool (zs.all fmd)) ∧ w' = w := by
  have hl := hr.len
  obtain ⟨a, c, rfl, hc, hm, hcell⟩ := hr.form
  have HC : Hid (∀ k, k < zs.length → ∃ b off, a = some ⟨b, off, none⟩ ∧ w.cell? ⟨b, off + k, none⟩ = some (.int .i64 (zs.getD k 0))) := hcell
  clear hcell hr
  go_enter Tryd.func50, Tryd.ntmps50
  go_wp2
  go_loopg [3] zs.length (fun g i wr => ∃ k : Nat, k + g = zs.length ∧ i = .int .i64 k ∧ (zs.take k).all fmd = true ∧ wr = w)
  case atStart => exact ⟨0, by omega, rfl, by simp, rfl⟩
  case round =>
    obtain ⟨k, hk, rfl, hall, rfl⟩ := hrel
    have HA : Hid ((zs.take k).all fmd = true) := hall
    have HK : Hid (k + gk = zs.length) := hk
    clear hall
    by_cases hlt : k < zs.length
    · obtain ⟨b, off, rfl, hck⟩ := HC.out k hlt
      have HS : Hid ((zs.take (k + 1)).all fmd = ((zs.take k).all fmd && fmd (zs.getD k 0))) := all_take_getD _ zs 0 k hlt
      have HF : Hid (fmd (zs.getD k 0) = false → zs.all fmd = false) := fun h => all_false_getD hlt h
      clear hk
      generalize zs.getD k 0 = z at *
      cases hf : fmd z
      · go_wp2_with (go_at_call 53; refine (refFormed_any _ _).mono ?_; rintro e w' ⟨rfl, rfl⟩)
        go_ret
        exact ⟨ret_bool (HF.out hf).symm, rfl⟩
      · go_wp2_with (go_at_call 53; refine (refFormed_any _ _).mono ?_; rintro e w' ⟨rfl, rfl⟩)
        go_roundg (gk - 1)
        case measure => have := HK.out; omega
        case rel => exact ⟨k + 1, by have := HK.out; omega, by go_num, by rw [HS.out, HA.out, hf]; rfl, rfl⟩
    · obtain rfl : k = zs.length := by omega
      have HE : Hid (zs.all fmd = true) := by have := HA.out; rw [List.take_length] at this; exact this
      clear hk
      go_wp2
      go_ret
      exact ⟨ret_bool HE.out.symm, rfl⟩

theorem fits_of_sound {n : Int} {zs : List Int} (h : zs.all fmd = true) : fitsP n zs = zs.all (fun l => !decide (n < l) && !decide (n < -l)) := by
  unfold fitsP
  have h' := List.all_eq_true.1 h
  rw [Bool.eq_iff_iff, List.all_eq_true, List.all_eq_true]
  constructor
  · intro k l hl
    have := k l hl
    rw [fit1, h' l hl] at this; exact this
  · intro k l hl
    rw [fit1, h' l hl]; exact k l hl
theorem fits_not_sound {n : Int} {zs : List Int} (h : zs.all fmd = false) : fitsP n zs = false := by
  obtain ⟨l, hl, hf⟩ := List.all_eq_false.1 h
  rw [fitsP, List.all_eq_false]
  exact ⟨l, hl, by simp at hf; simp [hf]⟩

set_option maxHeartbeats 1600000 in
theorem rWithin_any (v : Value) (zs : List Int) (n : Int) (w : World) (hr : Rd w v zs) :
    Calls Tryd.prog 43 #[v, .int .i64 n] w fun e w' => e = .returned (.bool (fitsP n zs)) ∧ w' = w := by
  have hl := hr.len
  obtain ⟨a, c, rfl, hc, hm, hcell⟩ := hr.form
  have HC : Hid (∀ k, k < zs.length → ∃ b off, a = some ⟨b, off, none⟩ ∧ w.cell? ⟨b, off + k, none⟩ = some (.int .i64 (zs.getD k 0))) := hcell
  clear hcell
  cases hsd : zs.all fmd
  case false =>
    have HE : Hid (fitsP n zs = false) := fits_not_sound hsd
    go_enter Tryd.func43, Tryd.ntmps43
    go_wp2_with (go_at_call 50; refine (rSound_any _ _ _ hr).mono ?_; rintro e w' ⟨rfl, hw'⟩; obtain rfl := hw'.symm)
    go_ret
    exact ⟨ret_bool HE.out.symm, rfl⟩
  have HN : Hid (fitsP n zs = zs.all (fun l => !decide (n < l) && !decide (n < -l))) := fits_of_sound hsd
  have HQ : Hid (∀ k, k < zs.length → wrap64 (-zs.getD k 0) = -zs.getD k 0) := fun k hk => fit2 (n := n) (List.all_eq_true.1 hsd _ (getD_mem' hk))
  go_enter Tryd.func43, Tryd.ntmps43
  go_wp2_with (go_at_call 50; refine (rSound_any _ _ _ hr).mono ?_; rintro e w' ⟨rfl, hw'⟩; obtain rfl := hw'.symm)
  go_loopg [5] zs.length (fun g i wr => ∃ k : Nat, k + g = zs.length ∧ i = .int .i64 k ∧ (zs.take k).all (fun l => !decide (n < l) && !decide (n < -l)) = true ∧ wr = w)
  case atStart => exact ⟨0, by omega, rfl, by simp, rfl⟩
  case round =>
    obtain ⟨k, hk, rfl, hall, rfl⟩ := hrel
    have HA : Hid ((zs.take k).all (fun l => !decide (n < l) && !decide (n < -l)) = true) := hall
    have HK : Hid (k + gk = zs.length) := hk
    clear hall
    by_cases hlt : k < zs.length
    · obtain ⟨b, off, rfl, hck⟩ := HC.out k hlt
      have HS : Hid ((zs.take (k + 1)).all (fun l => !decide (n < l) && !decide (n < -l)) = ((zs.take k).all (fun l => !decide (n < l) && !decide (n < -l)) && (!decide (n < zs.getD k 0) && !decide (n < -zs.getD k 0)))) := all_take_getD _ zs 0 k hlt
      have HF : Hid ((!decide (n < zs.getD k 0) && !decide (n < -zs.getD k 0)) = false → zs.all (fun l => !decide (n < l) && !decide (n < -l)) = false) := fun h => all_false_getD (f := fun l => !decide (n < l) && !decide (n < -l)) hlt h
      have hneg := HQ.out k hlt
      clear hk hsd
      generalize zs.getD k 0 = z at *
      cases h1 : decide (n < z)
      · cases h2 : decide (n < -z)
        · go_wp2
          go_roundg (gk - 1)
          case measure => have := HK.out; omega
          case rel => exact ⟨k + 1, by have := HK.out; omega, by go_num, by rw [HS.out, HA.out, h1, h2]; rfl, rfl⟩
        · go_wp2
          go_ret
          exact ⟨ret_bool (HN.out.trans (HF.out (by rw [h1, h2]; rfl))).symm, rfl⟩
      · go_wp2
        go_ret
        exact ⟨ret_bool (HN.out.trans (HF.out (by rw [h1]; rfl))).symm, rfl⟩
    · obtain rfl : k = zs.length := by omega
      have HE : Hid (zs.all (fun l => !decide (n < l) && !decide (n < -l)) = true) := by have := HA.out; rw [List.take_length] at this; exact this
      clear hk hsd
      go_wp2
      go_ret
      exact ⟨ret_bool (HN.out.trans HE.out).symm, rfl⟩

/-- a formula in its box, in a world that has grown -/
structure Bx (w : World) (n : Int) (s : Value) (css : List (List Int)) (wr : World) : Prop where
  bel : Below w.heap.size w wr
  c0 : wr.cell? ⟨w.heap.size, 0, none⟩ = some (.int .i64 n)
  c1 : wr.cell? ⟨w.heap.size, 1, none⟩ = some s
  rd : Rds wr s css
theorem Bx.new {w : World} {n : Int} {s : Value} {css : List (List Int)} (hr : Rds w s css) (t : TypeId) : Bx w n s css (w.alloc (.cells #[.int .i64 n, s] t)) :=
  ⟨below_box _ _, box0 _ _ _ _, box1 _ _ _ _, hr.below (below_box _ _)⟩
theorem Bx.on {w : World} {n : Int} {s : Value} {css : List (List Int)} {wr w' : World} (h : Bx w n s css wr) (hb : Below wr.heap.size wr w') : Bx w n s css w' :=
  ⟨h.bel.trans (hb.mono h.bel.size), (hb.cell (p := ⟨w.heap.size, 0, none⟩) (World.block_lt_of_cell? wr _ h.c0)).trans h.c0, (hb.cell (p := ⟨w.heap.size, 1, none⟩) (World.block_lt_of_cell? wr _ h.c1)).trans h.c1, h.rd.below hb⟩
theorem Bx.at {w : World} {n : Int} {a : Option Addr} {c : Nat} {css : List (List Int)} {wr : World} (h : Bx w n (.slice a css.length c) css wr) {k : Nat} (hk : k < css.length) :
    ∃ b off u, a = some ⟨b, off, none⟩ ∧ wr.cell? ⟨b, off + k, none⟩ = some u ∧ Rd wr u (css.getD k []) := by
  obtain ⟨a', c', e, _, _, hcell⟩ := h.rd.form
  obtain ⟨rfl, _, rfl⟩ : a' = a ∧ css.length = css.length ∧ c' = c := by
    injection e with e1 e2 e3; exact ⟨e1.symm, rfl, e3.symm⟩
  exact hcell k hk

set_option maxHeartbeats 1600000 in
theorem rFormed_any (n : Int) (s : Value) (css : List (List Int)) (w : World) (hr : Rds w s css) :
    Calls Tryd.prog 28 #[.agg #[.int .i64 n, s]] w fun e w' => e = .returned (.bool (frm n css)) ∧ Below w.heap.size w w' := by
  have hl := hr.len
  have HX : Hid (Bx w n s css (w.alloc (.cells #[.int .i64 n, s] 24))) := Bx.new hr _
  obtain ⟨a, c, rfl, hc, hm, _⟩ := hr.form
  clear hr
  cases h0 : decide (n < 0)
  case true =>
    have HE : Hid (frm n css = false) := by unfold frm Hid; simp at h0; simp; omega
    go_enter Tryd.func28, Tryd.ntmps28
    go_wp2
    go_ret
    exact ⟨ret_bool HE.out.symm, below_box _ _⟩
  cases h1 : decide (1048576 < n)
  case true =>
    have HE : Hid (frm n css = false) := by unfold frm Hid; simp at h1; simp; omega
    go_enter Tryd.func28, Tryd.ntmps28
    go_wp2
    go_ret
    exact ⟨ret_bool HE.out.symm, below_box _ _⟩
  have HN : Hid (frm n css = css.all (fitsP n)) := by unfold frm Hid; simp at h0 h1; simp [h0, h1]
  go_enter Tryd.func28, Tryd.ntmps28
  go_wp2
  go_loopg [3] css.length (fun g i wr => ∃ k : Nat, k + g = css.length ∧ i = .int .i64 k ∧ (css.take k).all (fitsP n) = true ∧ Hid (Bx w n (.slice a css.length c) css wr))
  case atStart => exact ⟨0, by omega, rfl, by simp, HX⟩
  case round =>
    obtain ⟨k, hk, rfl, hall, HB⟩ := hrel
    have HA : Hid ((css.take k).all (fitsP n) = true) := hall
    have HK : Hid (k + gk = css.length) := hk
    have c0 := HB.out.c0
    have c1 := HB.out.c1
    clear hall HX
    by_cases hlt : k < css.length
    · obtain ⟨b, off, u, rfl, hck, hu0⟩ := HB.out.at hlt
      have HU : Hid (Rd wr u (css.getD k [])) := hu0
      have HS : Hid ((css.take (k + 1)).all (fitsP n) = ((css.take k).all (fitsP n) && fitsP n (css.getD k []))) := all_take_getD _ css [] k hlt
      have HF : Hid (fitsP n (css.getD k []) = false → css.all (fitsP n) = false) := fun h => all_false_getD hlt h
      obtain ⟨_, ua, uc, hu, _⟩ := hu0
      clear hk
      generalize css.getD k [] = z at *
      subst hu
      have HM : Hid (∀ q, Calls Tryd.prog 43 #[.slice ua z.length uc, .int .i64 n] (wr.drewN q) fun e w' => e = .returned (.bool (fitsP n z)) ∧ w' = wr.drewN q) := fun q => rWithin_any _ z n _ (HU.out.below (below_drewN _ _))
      cases hf : fitsP n z
      · rw [hf] at HM
        go_wp2_with fail
        go_quiet ((go_at_call 43; exact Calls.quiet_of_same (HM.out _)))
        go_wp2
        go_ret
        exact ⟨ret_bool (HN.out.trans (HF.out hf)).symm, (HB.out.on (below_drewN _ _)).bel⟩
      · rw [hf] at HM
        go_wp2_with fail
        go_quiet ((go_at_call 43; exact Calls.quiet_of_same (HM.out _)))
        go_wp2
        go_roundg (gk - 1)
        case measure => have := HK.out; omega
        case rel => exact ⟨k + 1, by have := HK.out; omega, by go_num, by rw [HS.out, HA.out, hf]; rfl, HB.out.on (below_drewN _ _)⟩
    · obtain rfl : k = css.length := by omega
      have HE : Hid (css.all (fitsP n) = true) := by have := HA.out; rw [List.take_length] at this; exact this
      clear hk
      go_wp2
      go_ret
      exact ⟨ret_bool (HN.out.trans HE.out).symm, HB.out.bel⟩

end Go.Proofs.YtfklgfdkpmfdnaaDoor

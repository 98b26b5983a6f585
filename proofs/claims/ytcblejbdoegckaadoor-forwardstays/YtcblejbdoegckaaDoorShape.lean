/-
  Formed and Size, the program's and the document's, and the law's small formula, walked.
-/
import Derived.Test.YtcblejbdoegckaaDoorForms
import Derived.Test.YtcblejbdoegckaaDoorNum
import Derived.BigQuiet
import Derived.Deep.QuietTactic
set_option linter.unusedSimpArgs false
set_option linter.unusedVariables false
namespace Go.Proofs.YtcblejbdoegckaaDoor
open Go.RowKit

theorem fit1 (n : Int) (l : Int) : (fmd l && decide (varOf l ≤ n)) = (fmd l && (!decide (n < l) && !decide (n < -l))) := by
  unfold varOf
  rcases fmd_cases l with ⟨h, h0, h1, h2⟩ | ⟨h, h0⟩
  · rw [h, Bool.eq_iff_iff]
    by_cases hs : l < 0
    · simp only [hs, Bool.true_and, if_true, decide_eq_true_eq, Bool.and_eq_true, Bool.not_eq_true', decide_eq_false_iff_not]; omega
    · simp only [hs, Bool.true_and, if_true, if_false, decide_eq_true_eq, Bool.and_eq_true, Bool.not_eq_true', decide_eq_false_iff_not]; omega
  · rw [h]; rfl

set_option maxHeartbeats 1600000 in
theorem fits_any (v : Value) (zs : List Int) (n : Int) (w : World) (hr : Rd w v zs) :
    Calls Tryd.prog 24 #[v, .int .i64 n] w fun e w' => e = .returned (.bool (fitsP n zs)) ∧ w' = w := by
  have hl := hr.len
  obtain ⟨a, c, rfl, hc, hm, hcell⟩ := hr.form
  have HC : Hid (∀ k, k < zs.length → ∃ b off, a = some ⟨b, off, none⟩ ∧ w.cell? ⟨b, off + k, none⟩ = some (.int .i64 (zs.getD k 0))) := hcell
  clear hcell hr
  go_enter Tryd.func24, Tryd.ntmps24
  go_wp2
  go_loopg [9] zs.length (fun g i wr => ∃ k : Nat, k + g = zs.length ∧ i = .int .i64 k ∧ fitsP n (zs.take k) = true ∧ wr = w)
  case atStart => exact ⟨0, by omega, rfl, by simp [fitsP], rfl⟩
  case round =>
    obtain ⟨k, hk, rfl, hall, rfl⟩ := hrel
    have HA : Hid (fitsP n (zs.take k) = true) := hall
    have HK : Hid (k + gk = zs.length) := hk
    clear hall
    by_cases hlt : k < zs.length
    · obtain ⟨b, off, rfl, hck⟩ := HC.out k hlt
      have HS : Hid (fitsP n (zs.take (k + 1)) = (fitsP n (zs.take k) && (fmd (zs.getD k 0) && decide (varOf (zs.getD k 0) ≤ n)))) := all_take_getD _ zs 0 k hlt
      have HF : Hid ((fmd (zs.getD k 0) && decide (varOf (zs.getD k 0) ≤ n)) = false → fitsP n zs = false) := fun h => all_false_getD (f := fun l => fmd l && decide (varOf l ≤ n)) hlt h
      clear hk
      generalize zs.getD k 0 = z at *
      cases hf : fmd z
      · go_wp2_with (go_at_call 34; refine (formed_any _ _).mono ?_; rintro e w' ⟨rfl, rfl⟩)
        go_ret
        exact ⟨ret_bool (HF.out (by rw [hf]; rfl)).symm, rfl⟩
      · cases hv : decide (varOf z ≤ n)
        · have hgt : decide (n < varOf z) = true := by simp at hv ⊢; omega
          go_wp2_with (first | (go_at_call 34; refine (formed_any _ _).mono ?_; rintro e w' ⟨rfl, rfl⟩) | (go_at_call 35; refine (var_any _ _).mono ?_; rintro e w' ⟨rfl, rfl⟩))
          go_ret
          exact ⟨ret_bool (HF.out (by rw [hf, hv]; rfl)).symm, rfl⟩
        · have hgt : decide (n < varOf z) = false := by simp at hv ⊢; omega
          go_wp2_with (first | (go_at_call 34; refine (formed_any _ _).mono ?_; rintro e w' ⟨rfl, rfl⟩) | (go_at_call 35; refine (var_any _ _).mono ?_; rintro e w' ⟨rfl, rfl⟩))
          go_roundg (gk - 1)
          case measure => have := HK.out; omega
          case rel => exact ⟨k + 1, by have := HK.out; omega, by go_num, by rw [HS.out, HA.out, hf, hv]; rfl, rfl⟩
    · obtain rfl : k = zs.length := by omega
      have HE : Hid (fitsP n zs = true) := by have := HA.out; rw [List.take_length] at this; exact this
      clear hk
      go_wp2
      go_ret
      exact ⟨ret_bool HE.out.symm, rfl⟩

theorem szs_step (css : List (List Int)) (k : Nat) (h : k < css.length) : szs (css.take (k + 1)) = wrap64 (szs (css.take k) + (css.getD k []).length) := by
  rw [take_succ_getD css [] k h]; unfold szs; rw [List.foldl_append]; rfl
theorem box0 (w : World) (x y : Value) (t : TypeId) : (w.alloc (.cells #[x, y] t)).cell? ⟨w.heap.size, 0, none⟩ = some x := by rw [World.cell?_alloc_at _ _ _ _ rfl]; rfl
theorem box1 (w : World) (x y : Value) (t : TypeId) : (w.alloc (.cells #[x, y] t)).cell? ⟨w.heap.size, 1, none⟩ = some y := by rw [World.cell?_alloc_at _ _ _ _ rfl]; rfl
theorem below_box (w : World) (o : Obj) : Below w.heap.size w (w.alloc o) := (Below.refl _ _).alloc (Nat.le_refl _) _

set_option maxHeartbeats 1600000 in
theorem cnfFormed_any (n : Int) (s : Value) (css : List (List Int)) (w : World) (hr : Rds w s css) :
    Calls Tryd.prog 14 #[.agg #[.int .i64 n, s]] w fun e w' => e = .returned (.bool (frm n css)) ∧ Below w.heap.size w w' := by
  have hl := hr.len
  obtain ⟨a, c, rfl, hc, hm, hcell⟩ := hr.form
  have HC : Hid (∀ k, k < css.length → ∃ b off u, a = some ⟨b, off, none⟩ ∧ w.cell? ⟨b, off + k, none⟩ = some u ∧ Rd w u (css.getD k [])) := hcell
  clear hcell
  cases h0 : decide (n < 0)
  case true =>
    have HE : Hid (frm n css = false) := by unfold frm Hid; simp at h0; simp; omega
    go_enter Tryd.func14, Tryd.ntmps14
    go_wp2
    go_ret
    exact ⟨ret_bool HE.out.symm, below_box _ _⟩
  cases h1 : decide (1048576 < n)
  case true =>
    have HE : Hid (frm n css = false) := by unfold frm Hid; simp at h1; simp; omega
    go_enter Tryd.func14, Tryd.ntmps14
    go_wp2
    go_ret
    exact ⟨ret_bool HE.out.symm, below_box _ _⟩
  have HN : Hid (frm n css = css.all (fitsP n)) := by unfold frm Hid; simp at h0 h1; simp [h0, h1]
  go_enter Tryd.func14, Tryd.ntmps14
  go_wp2
  go_loopg [16] css.length (fun g i wr => ∃ k : Nat, k + g = css.length ∧ i = .int .i64 k ∧ (css.take k).all (fitsP n) = true ∧ wr = w.alloc (.cells #[.int .i64 n, .slice a css.length c] 24))
  case atStart => exact ⟨0, by omega, rfl, by simp, rfl⟩
  case round =>
    obtain ⟨k, hk, rfl, hall, rfl⟩ := hrel
    have HA : Hid ((css.take k).all (fitsP n) = true) := hall
    have HK : Hid (k + gk = css.length) := hk
    clear hall
    by_cases hlt : k < css.length
    · obtain ⟨b, off, u, rfl, hck0, hu0⟩ := HC.out k hlt
      have hb := World.block_lt_of_cell? w ⟨b, off + k, none⟩ hck0
      have hck : (w.alloc (.cells #[.int .i64 n, .slice (some ⟨b, off, none⟩) css.length c] 24)).cell? ⟨b, off + k, none⟩ = some u := ((below_box w _).cell (p := ⟨b, off + k, none⟩) hb).trans hck0
      have HU : Hid (Rd (w.alloc (.cells #[.int .i64 n, .slice (some ⟨b, off, none⟩) css.length c] 24)) u (css.getD k [])) := hu0.below (below_box w _)
      have HS : Hid ((css.take (k + 1)).all (fitsP n) = ((css.take k).all (fitsP n) && fitsP n (css.getD k []))) := all_take_getD _ css [] k hlt
      have HF : Hid (fitsP n (css.getD k []) = false → css.all (fitsP n) = false) := fun h => all_false_getD hlt h
      obtain ⟨_, ua, uc, hu, _⟩ := hu0
      clear hk
      generalize css.getD k [] = z at *
      subst hu
      cases hf : fitsP n z
      · go_wp2_with (go_at_call 24; refine (fits_any _ _ _ _ HU.out).mono ?_; rintro e w' ⟨rfl, rfl⟩)
        go_ret
        exact ⟨ret_bool (HN.out.trans (HF.out hf)).symm, below_box _ _⟩
      · go_wp2_with (go_at_call 24; refine (fits_any _ _ _ _ HU.out).mono ?_; rintro e w' ⟨rfl, rfl⟩)
        go_roundg (gk - 1)
        case measure => have := HK.out; omega
        case rel => exact ⟨k + 1, by have := HK.out; omega, by go_num, by rw [HS.out, HA.out, hf]; rfl, rfl⟩
    · obtain rfl : k = css.length := by omega
      have HE : Hid (css.all (fitsP n) = true) := by have := HA.out; rw [List.take_length] at this; exact this
      clear hk
      go_wp2
      go_ret
      exact ⟨ret_bool (HN.out.trans HE.out).symm, below_box _ _⟩

set_option maxHeartbeats 1600000 in
theorem cnfSize_any (n : Int) (s : Value) (css : List (List Int)) (w : World) (hr : Rds w s css) :
    Calls Tryd.prog 90 #[.agg #[.int .i64 n, s]] w fun e w' => e = .returned (.int .i64 (szs css)) ∧ Below w.heap.size w w' := by
  have hl := hr.len
  obtain ⟨a, c, rfl, hc, hm, hcell⟩ := hr.form
  have HC : Hid (∀ k, k < css.length → ∃ b off u, a = some ⟨b, off, none⟩ ∧ w.cell? ⟨b, off + k, none⟩ = some u ∧ Rd w u (css.getD k [])) := hcell
  clear hcell
  go_enter Tryd.func90, Tryd.ntmps90
  go_wp2
  go_loopg [3, 9] css.length (fun g x i wr => ∃ k : Nat, k + g = css.length ∧ i = .int .i64 k ∧ x = .int .i64 (szs (css.take k)) ∧ wr = w.alloc (.cells #[.int .i64 n, .slice a css.length c] 24))
  case atStart => exact ⟨0, by omega, rfl, rfl, rfl⟩
  case round =>
    obtain ⟨k, hk, rfl, rfl, rfl⟩ := hrel
    have HK : Hid (k + gk = css.length) := hk
    by_cases hlt : k < css.length
    · obtain ⟨b, off, u, rfl, hck0, hu0⟩ := HC.out k hlt
      have hb := World.block_lt_of_cell? w ⟨b, off + k, none⟩ hck0
      have hck : (w.alloc (.cells #[.int .i64 n, .slice (some ⟨b, off, none⟩) css.length c] 24)).cell? ⟨b, off + k, none⟩ = some u := ((below_box w _).cell (p := ⟨b, off + k, none⟩) hb).trans hck0
      have HS : Hid (szs (css.take (k + 1)) = wrap64 (szs (css.take k) + (css.getD k []).length)) := szs_step css k hlt
      obtain ⟨_, ua, uc, hu, _⟩ := hu0
      clear hk
      generalize css.getD k [] = z at *
      generalize szs (css.take k) = S at *
      subst hu
      go_wp2
      go_roundg (gk - 1)
      case measure => have := HK.out; omega
      case rel => exact ⟨k + 1, by have := HK.out; omega, by go_num, by rw [HS.out], rfl⟩
    · obtain rfl : k = css.length := by omega
      have HE : Hid (szs (css.take css.length) = szs css) := by unfold Hid; rw [List.take_length]
      clear hk
      generalize szs (css.take css.length) = S at *
      go_wp2
      go_ret
      exact ⟨ret_int HE.out, below_box _ _⟩

theorem fit2 {n l : Int} (h : fmd l = true) : wrap64 (-l) = -l := by
  have := fmd_range h; unfold wrap64; omega

theorem fits_of_sound {n : Int} {zs : List Int} (h : zs.all fmd = true) : fitsP n zs = zs.all (fun l => !decide (n < l) && !decide (n < -l)) := by
  unfold fitsP
  have h' := List.all_eq_true.1 h
  rw [Bool.eq_iff_iff, List.all_eq_true, List.all_eq_true]
  constructor
  · intro k l hl
    have := k l hl
    rw [fit1, h' l hl] at this; exact this
  · intro k l hl
    rw [fit1, h' l hl]; exact k l hl
theorem fits_not_sound {n : Int} {zs : List Int} (h : zs.all fmd = false) : fitsP n zs = false := by
  obtain ⟨l, hl, hf⟩ := List.all_eq_false.1 h
  rw [fitsP, List.all_eq_false]
  exact ⟨l, hl, by simp at hf; simp [hf]⟩

/-- a formula in its box, in a world that has grown -/
structure Bx (w : World) (n : Int) (s : Value) (css : List (List Int)) (wr : World) : Prop where
  bel : Below w.heap.size w wr
  c0 : wr.cell? ⟨w.heap.size, 0, none⟩ = some (.int .i64 n)
  c1 : wr.cell? ⟨w.heap.size, 1, none⟩ = some s
  rd : Rds wr s css
theorem Bx.new {w : World} {n : Int} {s : Value} {css : List (List Int)} (hr : Rds w s css) (t : TypeId) : Bx w n s css (w.alloc (.cells #[.int .i64 n, s] t)) :=
  ⟨below_box _ _, box0 _ _ _ _, box1 _ _ _ _, hr.below (below_box _ _)⟩
theorem Bx.on {w : World} {n : Int} {s : Value} {css : List (List Int)} {wr w' : World} (h : Bx w n s css wr) (hb : Below wr.heap.size wr w') : Bx w n s css w' :=
  ⟨h.bel.trans (hb.mono h.bel.size), (hb.cell (p := ⟨w.heap.size, 0, none⟩) (World.block_lt_of_cell? wr _ h.c0)).trans h.c0, (hb.cell (p := ⟨w.heap.size, 1, none⟩) (World.block_lt_of_cell? wr _ h.c1)).trans h.c1, h.rd.below hb⟩
theorem Bx.at {w : World} {n : Int} {a : Option Addr} {c : Nat} {css : List (List Int)} {wr : World} (h : Bx w n (.slice a css.length c) css wr) {k : Nat} (hk : k < css.length) :
    ∃ b off u, a = some ⟨b, off, none⟩ ∧ wr.cell? ⟨b, off + k, none⟩ = some u ∧ Rd wr u (css.getD k []) := by
  obtain ⟨a', c', e, _, _, hcell⟩ := h.rd.form
  obtain ⟨rfl, _, rfl⟩ : a' = a ∧ css.length = css.length ∧ c' = c := by
    injection e with e1 e2 e3; exact ⟨e1.symm, rfl, e3.symm⟩
  exact hcell k hk

end Go.Proofs.YtcblejbdoegckaaDoor

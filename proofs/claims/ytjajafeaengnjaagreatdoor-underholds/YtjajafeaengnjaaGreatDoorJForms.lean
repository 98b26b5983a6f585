/-
  joined: Forms Shape Ref Sames
-/
import Derived.Test.YtjajafeaengnjaaGreatDoorKLists
import Derived.WalkSpells
import Derived.Deep.LoopGhost
import Derived.Test.YtjajafeaengnjaaGreatDoorKNum
import Derived.BigQuiet
import Derived.Deep.QuietTactic
import Derived.Test.YtjajafeaengnjaaGreatDoorJPlain
set_option linter.unusedSimpArgs false
set_option linter.unusedVariables false
namespace Go.Proofs.YtjajafeaengnjaaGreatDoor
open Go.RowKit

/-- the slice reads the lists css -/
def Rds (w : World) (v : Value) (css : List (List Int)) : Prop :=
  css.length * 24 ≤ 140737488351232 ∧ ∃ a c, v = .slice a css.length c ∧ css.length ≤ c ∧ c ≤ maxLen ∧ (a = none → c = 0) ∧
    (css ≠ [] → ∃ b off, a = some ⟨b, off, none⟩ ∧ b < w.heap.size ∧ ∀ j, j < css.length → ∃ u, w.cell? ⟨b, off + j, none⟩ = some u ∧ Rd w u (css.getD j []))

theorem Rds.len {w : World} {v : Value} {css : List (List Int)} (h : Rds w v css) : css.length * 24 ≤ 140737488351232 := h.1
theorem Rds.below {w w' : World} {v : Value} {css : List (List Int)} (h : Rds w v css) (hb : Below w.heap.size w w') : Rds w' v css := by
  obtain ⟨h1, a, c, rfl, hc, hm, hn, h2⟩ := h
  refine ⟨h1, a, c, rfl, hc, hm, hn, fun hne => ?_⟩
  obtain ⟨b, off, rfl, hlt, hcell⟩ := h2 hne
  refine ⟨b, off, rfl, Nat.lt_of_lt_of_le hlt hb.size, fun j hj => ?_⟩
  obtain ⟨u, hu, hr⟩ := hcell j hj
  exact ⟨u, (hb.cell (p := ⟨b, off + j, none⟩) hlt).trans hu, hr.below hb⟩
theorem Rds.cases {w : World} {v : Value} {css : List (List Int)} (h : Rds w v css) :
    (css = [] ∧ ∃ a c, v = .slice a 0 c ∧ c ≤ maxLen ∧ (a = none → c = 0)) ∨ ∃ b off c, v = .slice (some ⟨b, off, none⟩) css.length c ∧ 0 < css.length ∧ css.length ≤ c ∧ c ≤ maxLen ∧ b < w.heap.size ∧ ∀ j, j < css.length → ∃ u, w.cell? ⟨b, off + j, none⟩ = some u ∧ Rd w u (css.getD j []) := by
  obtain ⟨h1, a, c, rfl, hc, hm, hn, h2⟩ := h
  by_cases hz : css = []
  · subst hz; exact .inl ⟨rfl, a, c, rfl, hm, hn⟩
  · obtain ⟨b, off, rfl, hlt, hcell⟩ := h2 hz
    exact .inr ⟨b, off, c, rfl, List.length_pos_iff.2 hz, hc, hm, hlt, hcell⟩
theorem Rds.nil (w : World) : Rds w (.slice none 0 0) [] := ⟨by simp, none, 0, rfl, Nat.le_refl _, Nat.zero_le _, fun _ => rfl, fun h => absurd rfl h⟩

/-- a slice's form and where its elements lie, in one breath (no parting on the empty one) -/
theorem Rd.form {w : World} {v : Value} {zs : List Int} (h : Rd w v zs) : ∃ a c, v = .slice a zs.length c ∧ zs.length ≤ c ∧ c ≤ maxLen ∧ ∀ k, k < zs.length → ∃ b off, a = some ⟨b, off, none⟩ ∧ w.cell? ⟨b, off + k, none⟩ = some (.int .i64 (zs.getD k 0)) := by
  obtain ⟨h1, a, c, rfl, hc, hm, hn, h2⟩ := h
  refine ⟨a, c, rfl, hc, hm, fun k hk => ?_⟩
  obtain ⟨b, off, e, _, hcell⟩ := h2 (by intro e; subst e; simp at hk)
  exact ⟨b, off, e, hcell k hk⟩
theorem Rds.form {w : World} {v : Value} {css : List (List Int)} (h : Rds w v css) : ∃ a c, v = .slice a css.length c ∧ css.length ≤ c ∧ c ≤ maxLen ∧ ∀ k, k < css.length → ∃ b off u, a = some ⟨b, off, none⟩ ∧ w.cell? ⟨b, off + k, none⟩ = some u ∧ Rd w u (css.getD k []) := by
  obtain ⟨h1, a, c, rfl, hc, hm, hn, h2⟩ := h
  refine ⟨a, c, rfl, hc, hm, fun k hk => ?_⟩
  obtain ⟨b, off, e, _, hcell⟩ := h2 (by intro e; subst e; simp at hk)
  obtain ⟨u, hu, hr⟩ := hcell k hk
  exact ⟨b, off, u, e, hu, hr⟩

/-- the list's literals are literals of the variables 1 to n -/
def fitsP (n : Int) (c : List Int) : Bool := c.all (fun l => fmd l && decide (varOf l ≤ n))
/-- well shaped -/
def frm (n : Int) (css : List (List Int)) : Bool := decide (0 ≤ n ∧ n ≤ 1048576) && css.all (fitsP n)
/-- the lengths together, as the machine adds them -/
def szs : List (List Int) → Int
  | css => css.foldl (fun a c => wrap64 (a + c.length)) 0

theorem take_succ_getD {α : Type} (l : List α) (d : α) (k : Nat) (h : k < l.length) : l.take (k + 1) = l.take k ++ [l.getD k d] := by
  rw [List.take_succ_eq_append_getElem h]; simp [List.getD_eq_getElem?_getD, List.getElem?_eq_getElem h]
theorem all_take_getD {α : Type} (f : α → Bool) (l : List α) (d : α) (k : Nat) (h : k < l.length) : (l.take (k + 1)).all f = ((l.take k).all f && f (l.getD k d)) := by
  rw [take_succ_getD l d k h, List.all_append]; simp
theorem all_false_getD {α : Type} {f : α → Bool} {l : List α} {d : α} {k : Nat} (h : k < l.length) (hf : f (l.getD k d) = false) : l.all f = false := by
  rw [List.all_eq_false]
  refine ⟨l[k], List.getElem_mem h, ?_⟩
  simp [List.getD_eq_getElem?_getD, List.getElem?_eq_getElem h] at hf
  simp [hf]
theorem any_take_getD {α : Type} (f : α → Bool) (l : List α) (d : α) (k : Nat) (h : k < l.length) : (l.take (k + 1)).any f = ((l.take k).any f || f (l.getD k d)) := by
  rw [take_succ_getD l d k h, List.any_append]; simp
theorem any_true_getD {α : Type} {f : α → Bool} {l : List α} {d : α} {k : Nat} (h : k < l.length) (hf : f (l.getD k d) = true) : l.any f = true := by
  rw [List.any_eq_true]
  refine ⟨l[k], List.getElem_mem h, ?_⟩
  simp [List.getD_eq_getElem?_getD, List.getElem?_eq_getElem h] at hf
  simp [hf]
theorem getD_mem' {α : Type} {l : List α} {d : α} {k : Nat} (h : k < l.length) : l.getD k d ∈ l := by
  rw [List.getD_eq_getElem?_getD, List.getElem?_eq_getElem h]; exact List.getElem_mem h

end Go.Proofs.YtjajafeaengnjaaGreatDoor
set_option linter.unusedSimpArgs false
set_option linter.unusedVariables false
namespace Go.Proofs.YtjajafeaengnjaaGreatDoor
open Go.RowKit

theorem fit1 (n : Int) (l : Int) : (fmd l && decide (varOf l ≤ n)) = (fmd l && (!decide (n < l) && !decide (n < -l))) := by
  unfold varOf
  rcases fmd_cases l with ⟨h, h0, h1, h2⟩ | ⟨h, h0⟩
  · rw [h, Bool.eq_iff_iff]
    by_cases hs : l < 0
    · simp only [hs, Bool.true_and, if_true, decide_eq_true_eq, Bool.and_eq_true, Bool.not_eq_true', decide_eq_false_iff_not]; omega
    · simp only [hs, Bool.true_and, if_true, if_false, decide_eq_true_eq, Bool.and_eq_true, Bool.not_eq_true', decide_eq_false_iff_not]; omega
  · rw [h]; rfl

set_option maxHeartbeats 1600000 in
theorem fits_any (v : Value) (zs : List Int) (n : Int) (w : World) (hr : Rd w v zs) :
    Calls Tryz.prog 21 #[v, .int .i64 n] w fun e w' => e = .returned (.bool (fitsP n zs)) ∧ w' = w := by
  have hl := hr.len
  obtain ⟨a, c, rfl, hc, hm, hcell⟩ := hr.form
  have HC : Hid (∀ k, k < zs.length → ∃ b off, a = some ⟨b, off, none⟩ ∧ w.cell? ⟨b, off + k, none⟩ = some (.int .i64 (zs.getD k 0))) := hcell
  clear hcell hr
  go_enter Tryz.func21, Tryz.ntmps21
  go_wp2
  go_loopg [9] zs.length (fun g i wr => ∃ k : Nat, k + g = zs.length ∧ i = .int .i64 k ∧ fitsP n (zs.take k) = true ∧ wr = w)
  case atStart => exact ⟨0, by omega, rfl, by simp [fitsP], rfl⟩
  case round =>
    obtain ⟨k, hk, rfl, hall, rfl⟩ := hrel
    have HA : Hid (fitsP n (zs.take k) = true) := hall
    have HK : Hid (k + gk = zs.length) := hk
    clear hall
    by_cases hlt : k < zs.length
    · obtain ⟨b, off, rfl, hck⟩ := HC.out k hlt
      have HS : Hid (fitsP n (zs.take (k + 1)) = (fitsP n (zs.take k) && (fmd (zs.getD k 0) && decide (varOf (zs.getD k 0) ≤ n)))) := all_take_getD _ zs 0 k hlt
      have HF : Hid ((fmd (zs.getD k 0) && decide (varOf (zs.getD k 0) ≤ n)) = false → fitsP n zs = false) := fun h => all_false_getD (f := fun l => fmd l && decide (varOf l ≤ n)) hlt h
      clear hk
      generalize zs.getD k 0 = z at *
      cases hf : fmd z
      · go_wp2_with (go_at_call 22; refine (formed_any _ _).mono ?_; rintro e w' ⟨rfl, rfl⟩)
        go_ret
        exact ⟨ret_bool (HF.out (by rw [hf]; rfl)).symm, rfl⟩
      · cases hv : decide (varOf z ≤ n)
        · have hgt : decide (n < varOf z) = true := by simp at hv ⊢; omega
          go_wp2_with (first | (go_at_call 22; refine (formed_any _ _).mono ?_; rintro e w' ⟨rfl, rfl⟩) | (go_at_call 33; refine (var_any _ _).mono ?_; rintro e w' ⟨rfl, rfl⟩))
          go_ret
          exact ⟨ret_bool (HF.out (by rw [hf, hv]; rfl)).symm, rfl⟩
        · have hgt : decide (n < varOf z) = false := by simp at hv ⊢; omega
          go_wp2_with (first | (go_at_call 22; refine (formed_any _ _).mono ?_; rintro e w' ⟨rfl, rfl⟩) | (go_at_call 33; refine (var_any _ _).mono ?_; rintro e w' ⟨rfl, rfl⟩))
          go_roundg (gk - 1)
          case measure => have := HK.out; omega
          case rel => exact ⟨k + 1, by have := HK.out; omega, by go_num, by rw [HS.out, HA.out, hf, hv]; rfl, rfl⟩
    · obtain rfl : k = zs.length := by omega
      have HE : Hid (fitsP n zs = true) := by have := HA.out; rw [List.take_length] at this; exact this
      clear hk
      go_wp2
      go_ret
      exact ⟨ret_bool HE.out.symm, rfl⟩

theorem szs_step (css : List (List Int)) (k : Nat) (h : k < css.length) : szs (css.take (k + 1)) = wrap64 (szs (css.take k) + (css.getD k []).length) := by
  rw [take_succ_getD css [] k h]; unfold szs; rw [List.foldl_append]; rfl
theorem box0 (w : World) (x y : Value) (t : TypeId) : (w.alloc (.cells #[x, y] t)).cell? ⟨w.heap.size, 0, none⟩ = some x := by rw [World.cell?_alloc_at _ _ _ _ rfl]; rfl
theorem box1 (w : World) (x y : Value) (t : TypeId) : (w.alloc (.cells #[x, y] t)).cell? ⟨w.heap.size, 1, none⟩ = some y := by rw [World.cell?_alloc_at _ _ _ _ rfl]; rfl
theorem below_box (w : World) (o : Obj) : Below w.heap.size w (w.alloc o) := (Below.refl _ _).alloc (Nat.le_refl _) _

set_option maxHeartbeats 1600000 in
theorem cnfFormed_any (n : Int) (s : Value) (css : List (List Int)) (w : World) (hr : Rds w s css) :
    Calls Tryz.prog 9 #[.agg #[.int .i64 n, s]] w fun e w' => e = .returned (.bool (frm n css)) ∧ Below w.heap.size w w' := by
  have hl := hr.len
  obtain ⟨a, c, rfl, hc, hm, hcell⟩ := hr.form
  have HC : Hid (∀ k, k < css.length → ∃ b off u, a = some ⟨b, off, none⟩ ∧ w.cell? ⟨b, off + k, none⟩ = some u ∧ Rd w u (css.getD k [])) := hcell
  clear hcell
  cases h0 : decide (n < 0)
  case true =>
    have HE : Hid (frm n css = false) := by unfold frm Hid; simp at h0; simp; omega
    go_enter Tryz.func9, Tryz.ntmps9
    go_wp2
    go_ret
    exact ⟨ret_bool HE.out.symm, below_box _ _⟩
  cases h1 : decide (1048576 < n)
  case true =>
    have HE : Hid (frm n css = false) := by unfold frm Hid; simp at h1; simp; omega
    go_enter Tryz.func9, Tryz.ntmps9
    go_wp2
    go_ret
    exact ⟨ret_bool HE.out.symm, below_box _ _⟩
  have HN : Hid (frm n css = css.all (fitsP n)) := by unfold frm Hid; simp at h0 h1; simp [h0, h1]
  go_enter Tryz.func9, Tryz.ntmps9
  go_wp2
  go_loopg [16] css.length (fun g i wr => ∃ k : Nat, k + g = css.length ∧ i = .int .i64 k ∧ (css.take k).all (fitsP n) = true ∧ wr = w.alloc (.cells #[.int .i64 n, .slice a css.length c] 24))
  case atStart => exact ⟨0, by omega, rfl, by simp, rfl⟩
  case round =>
    obtain ⟨k, hk, rfl, hall, rfl⟩ := hrel
    have HA : Hid ((css.take k).all (fitsP n) = true) := hall
    have HK : Hid (k + gk = css.length) := hk
    clear hall
    by_cases hlt : k < css.length
    · obtain ⟨b, off, u, rfl, hck0, hu0⟩ := HC.out k hlt
      have hb := World.block_lt_of_cell? w ⟨b, off + k, none⟩ hck0
      have hck : (w.alloc (.cells #[.int .i64 n, .slice (some ⟨b, off, none⟩) css.length c] 24)).cell? ⟨b, off + k, none⟩ = some u := ((below_box w _).cell (p := ⟨b, off + k, none⟩) hb).trans hck0
      have HU : Hid (Rd (w.alloc (.cells #[.int .i64 n, .slice (some ⟨b, off, none⟩) css.length c] 24)) u (css.getD k [])) := hu0.below (below_box w _)
      have HS : Hid ((css.take (k + 1)).all (fitsP n) = ((css.take k).all (fitsP n) && fitsP n (css.getD k []))) := all_take_getD _ css [] k hlt
      have HF : Hid (fitsP n (css.getD k []) = false → css.all (fitsP n) = false) := fun h => all_false_getD hlt h
      obtain ⟨_, ua, uc, hu, _⟩ := hu0
      clear hk
      generalize css.getD k [] = z at *
      subst hu
      cases hf : fitsP n z
      · go_wp2_with (go_at_call 21; refine (fits_any _ _ _ _ HU.out).mono ?_; rintro e w' ⟨rfl, rfl⟩)
        go_ret
        exact ⟨ret_bool (HN.out.trans (HF.out hf)).symm, below_box _ _⟩
      · go_wp2_with (go_at_call 21; refine (fits_any _ _ _ _ HU.out).mono ?_; rintro e w' ⟨rfl, rfl⟩)
        go_roundg (gk - 1)
        case measure => have := HK.out; omega
        case rel => exact ⟨k + 1, by have := HK.out; omega, by go_num, by rw [HS.out, HA.out, hf]; rfl, rfl⟩
    · obtain rfl : k = css.length := by omega
      have HE : Hid (css.all (fitsP n) = true) := by have := HA.out; rw [List.take_length] at this; exact this
      clear hk
      go_wp2
      go_ret
      exact ⟨ret_bool (HN.out.trans HE.out).symm, below_box _ _⟩

set_option maxHeartbeats 1600000 in
theorem cnfSize_any (n : Int) (s : Value) (css : List (List Int)) (w : World) (hr : Rds w s css) :
    Calls Tryz.prog 125 #[.agg #[.int .i64 n, s]] w fun e w' => e = .returned (.int .i64 (szs css)) ∧ Below w.heap.size w w' := by
  have hl := hr.len
  obtain ⟨a, c, rfl, hc, hm, hcell⟩ := hr.form
  have HC : Hid (∀ k, k < css.length → ∃ b off u, a = some ⟨b, off, none⟩ ∧ w.cell? ⟨b, off + k, none⟩ = some u ∧ Rd w u (css.getD k [])) := hcell
  clear hcell
  go_enter Tryz.func125, Tryz.ntmps125
  go_wp2
  go_loopg [3, 9] css.length (fun g x i wr => ∃ k : Nat, k + g = css.length ∧ i = .int .i64 k ∧ x = .int .i64 (szs (css.take k)) ∧ wr = w.alloc (.cells #[.int .i64 n, .slice a css.length c] 24))
  case atStart => exact ⟨0, by omega, rfl, rfl, rfl⟩
  case round =>
    obtain ⟨k, hk, rfl, rfl, rfl⟩ := hrel
    have HK : Hid (k + gk = css.length) := hk
    by_cases hlt : k < css.length
    · obtain ⟨b, off, u, rfl, hck0, hu0⟩ := HC.out k hlt
      have hb := World.block_lt_of_cell? w ⟨b, off + k, none⟩ hck0
      have hck : (w.alloc (.cells #[.int .i64 n, .slice (some ⟨b, off, none⟩) css.length c] 24)).cell? ⟨b, off + k, none⟩ = some u := ((below_box w _).cell (p := ⟨b, off + k, none⟩) hb).trans hck0
      have HS : Hid (szs (css.take (k + 1)) = wrap64 (szs (css.take k) + (css.getD k []).length)) := szs_step css k hlt
      obtain ⟨_, ua, uc, hu, _⟩ := hu0
      clear hk
      generalize css.getD k [] = z at *
      generalize szs (css.take k) = S at *
      subst hu
      go_wp2
      go_roundg (gk - 1)
      case measure => have := HK.out; omega
      case rel => exact ⟨k + 1, by have := HK.out; omega, by go_num, by rw [HS.out], rfl⟩
    · obtain rfl : k = css.length := by omega
      have HE : Hid (szs (css.take css.length) = szs css) := by unfold Hid; rw [List.take_length]
      clear hk
      generalize szs (css.take css.length) = S at *
      go_wp2
      go_ret
      exact ⟨ret_int HE.out, below_box _ _⟩

theorem fit2 {n l : Int} (h : fmd l = true) : wrap64 (-l) = -l := by
  have := fmd_range h; unfold wrap64; omega

theorem rSound_any (v : Value) (zs : List Int) (w : World) (hr : Rd w v zs) :
    Calls Tryz.prog 16 #[v] w fun e w' => e = .returned (.bool (zs.all fmd)) ∧ w' = w := by
  have hl := hr.len
  obtain ⟨a, c, rfl, hc, hm, hcell⟩ := hr.form
  have HC : Hid (∀ k, k < zs.length → ∃ b off, a = some ⟨b, off, none⟩ ∧ w.cell? ⟨b, off + k, none⟩ = some (.int .i64 (zs.getD k 0))) := hcell
  clear hcell hr
  go_enter Tryz.func16, Tryz.ntmps16
  go_wp2
  go_loopg [3] zs.length (fun g i wr => ∃ k : Nat, k + g = zs.length ∧ i = .int .i64 k ∧ (zs.take k).all fmd = true ∧ wr = w)
  case atStart => exact ⟨0, by omega, rfl, by simp, rfl⟩
  case round =>
    obtain ⟨k, hk, rfl, hall, rfl⟩ := hrel
    have HA : Hid ((zs.take k).all fmd = true) := hall
    have HK : Hid (k + gk = zs.length) := hk
    clear hall
    by_cases hlt : k < zs.length
    · obtain ⟨b, off, rfl, hck⟩ := HC.out k hlt
      have HS : Hid ((zs.take (k + 1)).all fmd = ((zs.take k).all fmd && fmd (zs.getD k 0))) := all_take_getD _ zs 0 k hlt
      have HF : Hid (fmd (zs.getD k 0) = false → zs.all fmd = false) := fun h => all_false_getD hlt h
      clear hk
      generalize zs.getD k 0 = z at *
      cases hf : fmd z
      · go_wp2_with (go_at_call 27; refine (refFormed_any _ _).mono ?_; rintro e w' ⟨rfl, rfl⟩)
        go_ret
        exact ⟨ret_bool (HF.out hf).symm, rfl⟩
      · go_wp2_with (go_at_call 27; refine (refFormed_any _ _).mono ?_; rintro e w' ⟨rfl, rfl⟩)
        go_roundg (gk - 1)
        case measure => have := HK.out; omega
        case rel => exact ⟨k + 1, by have := HK.out; omega, by go_num, by rw [HS.out, HA.out, hf]; rfl, rfl⟩
    · obtain rfl : k = zs.length := by omega
      have HE : Hid (zs.all fmd = true) := by have := HA.out; rw [List.take_length] at this; exact this
      clear hk
      go_wp2
      go_ret
      exact ⟨ret_bool HE.out.symm, rfl⟩

theorem fits_of_sound {n : Int} {zs : List Int} (h : zs.all fmd = true) : fitsP n zs = zs.all (fun l => !decide (n < l) && !decide (n < -l)) := by
  unfold fitsP
  have h' := List.all_eq_true.1 h
  rw [Bool.eq_iff_iff, List.all_eq_true, List.all_eq_true]
  constructor
  · intro k l hl
    have := k l hl
    rw [fit1, h' l hl] at this; exact this
  · intro k l hl
    rw [fit1, h' l hl]; exact k l hl
theorem fits_not_sound {n : Int} {zs : List Int} (h : zs.all fmd = false) : fitsP n zs = false := by
  obtain ⟨l, hl, hf⟩ := List.all_eq_false.1 h
  rw [fitsP, List.all_eq_false]
  exact ⟨l, hl, by simp at hf; simp [hf]⟩

set_option maxHeartbeats 1600000 in
theorem rWithin_any (v : Value) (zs : List Int) (n : Int) (w : World) (hr : Rd w v zs) :
    Calls Tryz.prog 40 #[v, .int .i64 n] w fun e w' => e = .returned (.bool (fitsP n zs)) ∧ w' = w := by
  have hl := hr.len
  obtain ⟨a, c, rfl, hc, hm, hcell⟩ := hr.form
  have HC : Hid (∀ k, k < zs.length → ∃ b off, a = some ⟨b, off, none⟩ ∧ w.cell? ⟨b, off + k, none⟩ = some (.int .i64 (zs.getD k 0))) := hcell
  clear hcell
  cases hsd : zs.all fmd
  case false =>
    have HE : Hid (fitsP n zs = false) := fits_not_sound hsd
    go_enter Tryz.func40, Tryz.ntmps40
    go_wp2_with (go_at_call 16; refine (rSound_any _ _ _ hr).mono ?_; rintro e w' ⟨rfl, hw'⟩; obtain rfl := hw'.symm)
    go_ret
    exact ⟨ret_bool HE.out.symm, rfl⟩
  have HN : Hid (fitsP n zs = zs.all (fun l => !decide (n < l) && !decide (n < -l))) := fits_of_sound hsd
  have HQ : Hid (∀ k, k < zs.length → wrap64 (-zs.getD k 0) = -zs.getD k 0) := fun k hk => fit2 (n := n) (List.all_eq_true.1 hsd _ (getD_mem' hk))
  go_enter Tryz.func40, Tryz.ntmps40
  go_wp2_with (go_at_call 16; refine (rSound_any _ _ _ hr).mono ?_; rintro e w' ⟨rfl, hw'⟩; obtain rfl := hw'.symm)
  go_loopg [5] zs.length (fun g i wr => ∃ k : Nat, k + g = zs.length ∧ i = .int .i64 k ∧ (zs.take k).all (fun l => !decide (n < l) && !decide (n < -l)) = true ∧ wr = w)
  case atStart => exact ⟨0, by omega, rfl, by simp, rfl⟩
  case round =>
    obtain ⟨k, hk, rfl, hall, rfl⟩ := hrel
    have HA : Hid ((zs.take k).all (fun l => !decide (n < l) && !decide (n < -l)) = true) := hall
    have HK : Hid (k + gk = zs.length) := hk
    clear hall
    by_cases hlt : k < zs.length
    · obtain ⟨b, off, rfl, hck⟩ := HC.out k hlt
      have HS : Hid ((zs.take (k + 1)).all (fun l => !decide (n < l) && !decide (n < -l)) = ((zs.take k).all (fun l => !decide (n < l) && !decide (n < -l)) && (!decide (n < zs.getD k 0) && !decide (n < -zs.getD k 0)))) := all_take_getD _ zs 0 k hlt
      have HF : Hid ((!decide (n < zs.getD k 0) && !decide (n < -zs.getD k 0)) = false → zs.all (fun l => !decide (n < l) && !decide (n < -l)) = false) := fun h => all_false_getD (f := fun l => !decide (n < l) && !decide (n < -l)) hlt h
      have hneg := HQ.out k hlt
      clear hk hsd
      generalize zs.getD k 0 = z at *
      cases h1 : decide (n < z)
      · cases h2 : decide (n < -z)
        · go_wp2
          go_roundg (gk - 1)
          case measure => have := HK.out; omega
          case rel => exact ⟨k + 1, by have := HK.out; omega, by go_num, by rw [HS.out, HA.out, h1, h2]; rfl, rfl⟩
        · go_wp2
          go_ret
          exact ⟨ret_bool (HN.out.trans (HF.out (by rw [h1, h2]; rfl))).symm, rfl⟩
      · go_wp2
        go_ret
        exact ⟨ret_bool (HN.out.trans (HF.out (by rw [h1]; rfl))).symm, rfl⟩
    · obtain rfl : k = zs.length := by omega
      have HE : Hid (zs.all (fun l => !decide (n < l) && !decide (n < -l)) = true) := by have := HA.out; rw [List.take_length] at this; exact this
      clear hk hsd
      go_wp2
      go_ret
      exact ⟨ret_bool (HN.out.trans HE.out).symm, rfl⟩

/-- a formula in its box, in a world that has grown -/
structure Bx (w : World) (n : Int) (s : Value) (css : List (List Int)) (wr : World) : Prop where
  bel : Below w.heap.size w wr
  c0 : wr.cell? ⟨w.heap.size, 0, none⟩ = some (.int .i64 n)
  c1 : wr.cell? ⟨w.heap.size, 1, none⟩ = some s
  rd : Rds wr s css
theorem Bx.new {w : World} {n : Int} {s : Value} {css : List (List Int)} (hr : Rds w s css) (t : TypeId) : Bx w n s css (w.alloc (.cells #[.int .i64 n, s] t)) :=
  ⟨below_box _ _, box0 _ _ _ _, box1 _ _ _ _, hr.below (below_box _ _)⟩
theorem Bx.on {w : World} {n : Int} {s : Value} {css : List (List Int)} {wr w' : World} (h : Bx w n s css wr) (hb : Below wr.heap.size wr w') : Bx w n s css w' :=
  ⟨h.bel.trans (hb.mono h.bel.size), (hb.cell (p := ⟨w.heap.size, 0, none⟩) (World.block_lt_of_cell? wr _ h.c0)).trans h.c0, (hb.cell (p := ⟨w.heap.size, 1, none⟩) (World.block_lt_of_cell? wr _ h.c1)).trans h.c1, h.rd.below hb⟩
theorem Bx.at {w : World} {n : Int} {a : Option Addr} {c : Nat} {css : List (List Int)} {wr : World} (h : Bx w n (.slice a css.length c) css wr) {k : Nat} (hk : k < css.length) :
    ∃ b off u, a = some ⟨b, off, none⟩ ∧ wr.cell? ⟨b, off + k, none⟩ = some u ∧ Rd wr u (css.getD k []) := by
  obtain ⟨a', c', e, _, _, hcell⟩ := h.rd.form
  obtain ⟨rfl, _, rfl⟩ : a' = a ∧ css.length = css.length ∧ c' = c := by
    injection e with e1 e2 e3; exact ⟨e1.symm, rfl, e3.symm⟩
  exact hcell k hk

set_option maxHeartbeats 1600000 in
theorem rFormed_any (n : Int) (s : Value) (css : List (List Int)) (w : World) (hr : Rds w s css) :
    Calls Tryz.prog 26 #[.agg #[.int .i64 n, s]] w fun e w' => e = .returned (.bool (frm n css)) ∧ Below w.heap.size w w' := by
  have hl := hr.len
  have HX : Hid (Bx w n s css (w.alloc (.cells #[.int .i64 n, s] 24))) := Bx.new hr _
  obtain ⟨a, c, rfl, hc, hm, _⟩ := hr.form
  clear hr
  cases h0 : decide (n < 0)
  case true =>
    have HE : Hid (frm n css = false) := by unfold frm Hid; simp at h0; simp; omega
    go_enter Tryz.func26, Tryz.ntmps26
    go_wp2
    go_ret
    exact ⟨ret_bool HE.out.symm, below_box _ _⟩
  cases h1 : decide (1048576 < n)
  case true =>
    have HE : Hid (frm n css = false) := by unfold frm Hid; simp at h1; simp; omega
    go_enter Tryz.func26, Tryz.ntmps26
    go_wp2
    go_ret
    exact ⟨ret_bool HE.out.symm, below_box _ _⟩
  have HN : Hid (frm n css = css.all (fitsP n)) := by unfold frm Hid; simp at h0 h1; simp [h0, h1]
  go_enter Tryz.func26, Tryz.ntmps26
  go_wp2
  go_loopg [3] css.length (fun g i wr => ∃ k : Nat, k + g = css.length ∧ i = .int .i64 k ∧ (css.take k).all (fitsP n) = true ∧ Hid (Bx w n (.slice a css.length c) css wr))
  case atStart => exact ⟨0, by omega, rfl, by simp, HX⟩
  case round =>
    obtain ⟨k, hk, rfl, hall, HB⟩ := hrel
    have HA : Hid ((css.take k).all (fitsP n) = true) := hall
    have HK : Hid (k + gk = css.length) := hk
    have c0 := HB.out.c0
    have c1 := HB.out.c1
    clear hall HX
    by_cases hlt : k < css.length
    · obtain ⟨b, off, u, rfl, hck, hu0⟩ := HB.out.at hlt
      have HU : Hid (Rd wr u (css.getD k [])) := hu0
      have HS : Hid ((css.take (k + 1)).all (fitsP n) = ((css.take k).all (fitsP n) && fitsP n (css.getD k []))) := all_take_getD _ css [] k hlt
      have HF : Hid (fitsP n (css.getD k []) = false → css.all (fitsP n) = false) := fun h => all_false_getD hlt h
      obtain ⟨_, ua, uc, hu, _⟩ := hu0
      clear hk
      generalize css.getD k [] = z at *
      subst hu
      have HM : Hid (∀ q, Calls Tryz.prog 40 #[.slice ua z.length uc, .int .i64 n] (wr.drewN q) fun e w' => e = .returned (.bool (fitsP n z)) ∧ w' = wr.drewN q) := fun q => rWithin_any _ z n _ (HU.out.below (below_drewN _ _))
      cases hf : fitsP n z
      · rw [hf] at HM
        go_wp2_with fail
        go_quiet ((go_at_call 40; exact Calls.quiet_of_same (HM.out _)))
        go_wp2
        go_ret
        exact ⟨ret_bool (HN.out.trans (HF.out hf)).symm, (HB.out.on (below_drewN _ _)).bel⟩
      · rw [hf] at HM
        go_wp2_with fail
        go_quiet ((go_at_call 40; exact Calls.quiet_of_same (HM.out _)))
        go_wp2
        go_roundg (gk - 1)
        case measure => have := HK.out; omega
        case rel => exact ⟨k + 1, by have := HK.out; omega, by go_num, by rw [HS.out, HA.out, hf]; rfl, HB.out.on (below_drewN _ _)⟩
    · obtain rfl : k = css.length := by omega
      have HE : Hid (css.all (fitsP n) = true) := by have := HA.out; rw [List.take_length] at this; exact this
      clear hk
      go_wp2
      go_ret
      exact ⟨ret_bool (HN.out.trans HE.out).symm, HB.out.bel⟩

end Go.Proofs.YtjajafeaengnjaaGreatDoor
set_option linter.unusedSimpArgs false
set_option linter.unusedVariables false
namespace Go.Proofs.YtjajafeaengnjaaGreatDoor
open Go.RowKit

/-- a cell of a list that is read, in a world that has grown -/
theorem cell_in {w wr : World} {b off k : Nat} {zs : List Int} (hb : b < w.heap.size) (bel : Below w.heap.size w wr) (hc : ∀ j, j < zs.length → w.cell? ⟨b, off + j, none⟩ = some (.int .i64 (zs.getD j 0))) (hk : k < zs.length) : wr.cell? ⟨b, off + k, none⟩ = some (.int .i64 (zs.getD k 0)) :=
  (bel.cell (p := ⟨b, off + k, none⟩) hb).trans (hc k hk)
theorem own_grow1 {base : Nat} {w : World} {v : Value} {out : List Int} {x : Int} (h : w.ownsRow base 3 1 v (out.length + 1) (out.map (Value.int .i64) ++ [.int .i64 x])) : Own base w v (out ++ [x]) := by
  simpa [Own] using h

/-- the address behind a list that is not empty -/
def AddrOf (w : World) (a : Option Addr) (zs : List Int) : Prop := zs ≠ [] → ∃ b off, a = some ⟨b, off, none⟩ ∧ b < w.heap.size ∧ ∀ j, j < zs.length → w.cell? ⟨b, off + j, none⟩ = some (.int .i64 (zs.getD j 0))

set_option maxHeartbeats 3200000 in
set_option maxRecDepth 100000 in
theorem merged_any (va vb : Value) (a b : List Int) (w : World) (ha : Rd w va a) (hb : Rd w vb b) (ra : a.Pairwise (fun x y => idx x < idx y)) (rb : b.Pairwise (fun x y => idx x < idx y)) (fa : ∀ x ∈ a, fmd x = true) (fb : ∀ x ∈ b, fmd x = true) :
    Calls Tryz.prog 46 #[va, vb] w fun e w' => ∃ v', e = .returned v' ∧ Own w.heap.size w' v' (tid (a ++ b)) ∧ Below w.heap.size w w' := by
  obtain ⟨hla, aa, ca, rfl, hca, hma, hna, h2a⟩ := ha
  obtain ⟨hlb, ab, cb, rfl, hcb, hmb, hnb, h2b⟩ := hb
  obtain ⟨i0, hi, hz0, hz1, hz2⟩ := info_parts Tryz.info3
  have H2a : Hid (AddrOf w aa a) := h2a
  have H2b : Hid (AddrOf w ab b) := h2b
  have RA : Hid (a.Pairwise (fun x y => idx x < idx y)) := ra
  have RB : Hid (b.Pairwise (fun x y => idx x < idx y)) := rb
  have FA : Hid (∀ x ∈ a, fmd x = true) := fa
  have FB : Hid (∀ x ∈ b, fmd x = true) := fb
  clear h2a h2b ra rb fa fb hna hnb
  go_enter Tryz.func46, Tryz.ntmps46
  go_wp2
  go_loopg [5, 6, 7] (a.length + b.length) (fun g v s6 s7 wr => ∃ (i j : Nat) (out : List Int), s6 = .int .i64 i ∧ s7 = .int .i64 j ∧ a.length + b.length ≤ i + j + g ∧ MI a b i j out ∧ Own w.heap.size wr v out ∧ Below w.heap.size w wr)
  case atStart => exact ⟨0, 0, [], rfl, rfl, by omega, MI.start a b, World.ownsRow_nil _ _ _ _, Below.refl _ _⟩
  case round =>
    obtain ⟨i, j, out, rfl, rfl, hg, mi, own, bel⟩ := hrel
    have hil := mi.hi
    have hjl := mi.hj
    have hol := mi.len FA.out FB.out
    have MIH : Hid (MI a b i j out) := mi
    clear mi
    by_cases hlt : i < a.length ∨ j < b.length
    · have hpos : i + j < a.length + b.length := by omega
      clear hlt
      by_cases hj' : j < b.length
      · by_cases hi' : i < a.length
        · rcases Int.lt_trichotomy (idx (a.getD i 0)) (idx (b.getD j 0)) with hc | hc | hc
          · obtain ⟨ba, oa, ea, hba, cela⟩ := H2a.out (by intro h; rw [h] at hi'; simp at hi')
            have hcx : wr.cell? ⟨ba, oa + i, none⟩ = some (.int .i64 (a.getD i 0)) := cell_in hba bel cela hi'
            clear cela
            subst ea
            obtain ⟨bb, ob, eb, hbb, celb⟩ := H2b.out (by intro h; rw [h] at hj'; simp at hj')
            have hcy : wr.cell? ⟨bb, ob + j, none⟩ = some (.int .i64 (b.getD j 0)) := cell_in hbb bel celb hj'
            clear celb
            subst eb
            have ST : Hid (MI a b (i + 1) j (out ++ [a.getD i 0])) := MIH.out.stepA RA.out hi' (fun _ => hc)
            have g1 : ((j : Int) == (b.length : Int)) = false := beq_eq_false_iff_ne.2 (by omega)
            generalize a.getD i 0 = x at *
            generalize b.getD j 0 = y at *
            go_wp2
            go_quiet ((go_at_call 59; exact Calls.quiet_of_same (refIndex_any _ _)))
            go_wp2_with (at_builtin; refine wpList_append_own _ rfl _ _ 25 rfl w.heap.size 3 i0 (.int .i64 0) 1 8 Tryz.underlying25 hi hz0 hz1 hz2 rfl (by decide) _ out.length (out.map (Value.int .i64)) rfl (World.ownsRow.alloc (own.below (below_drewN _ _)) _) _ 1 1 [.int .i64 x] rfl rfl (cell_one_new _ _ _) (by simp [Value.oneCell']) (by unfold maxLen; omega) (by omega) (by have := bel.size; simp; omega) ?_; intro v2 w2 own2 gr2 hn2)
            go_roundg (gk - 1)
            case measure => omega
            case rel => exact ⟨i + 1, j, _, by go_num, by go_num, by omega, ST.out, own_grow1 own2, (bel.trans ((below_drewN wr _).mono bel.size)).alloc (by have := bel.size; simp; omega) _ |>.grown gr2 (by have := bel.size; simp; omega) (fun k hk => (own.lt k hk).1)⟩
          · obtain ⟨ba, oa, ea, hba, cela⟩ := H2a.out (by intro h; rw [h] at hi'; simp at hi')
            have hcx : wr.cell? ⟨ba, oa + i, none⟩ = some (.int .i64 (a.getD i 0)) := cell_in hba bel cela hi'
            clear cela
            subst ea
            obtain ⟨bb, ob, eb, hbb, celb⟩ := H2b.out (by intro h; rw [h] at hj'; simp at hj')
            have hcy : wr.cell? ⟨bb, ob + j, none⟩ = some (.int .i64 (b.getD j 0)) := cell_in hbb bel celb hj'
            clear celb
            subst eb
            have he : a.getD i 0 = b.getD j 0 := idx_inj (FA.out _ (by rw [List.getD_eq_getElem?_getD, List.getElem?_eq_getElem hi']; exact List.getElem_mem hi')) (FB.out _ (by rw [List.getD_eq_getElem?_getD, List.getElem?_eq_getElem hj']; exact List.getElem_mem hj')) hc
            have ST : Hid (MI a b (i + 1) (j + 1) (out ++ [a.getD i 0])) := MIH.out.stepAB RA.out RB.out hi' hj' he
            have g1 : ((j : Int) == (b.length : Int)) = false := beq_eq_false_iff_ne.2 (by omega)
            have g2 : ((i : Int) == (a.length : Int)) = false := beq_eq_false_iff_ne.2 (by omega)
            rw [← he] at hcy
            clear he hc
            generalize a.getD i 0 = x at *
            go_wp2
            go_quiet ((go_at_call 59; exact Calls.quiet_of_same (refIndex_any _ _)))
            have hcx2 : (wr.drewN nq).cell? ⟨ba, oa + i, none⟩ = some (.int .i64 x) := hcx
            have hcy2 : (wr.drewN nq).cell? ⟨bb, ob + j, none⟩ = some (.int .i64 x) := hcy
            have own3 := own.below (below_drewN wr nq)
            have bel3 : Below w.heap.size w (wr.drewN nq) := bel.trans ((below_drewN wr nq).mono bel.size)
            clear hcx hcy own bel
            generalize wr.drewN nq = wq at *
            go_wp2
            go_quiet ((go_at_call 59; exact Calls.quiet_of_same (refIndex_any _ _)))
            go_wp2_with (at_builtin; refine wpList_append_own _ rfl _ _ 25 rfl w.heap.size 3 i0 (.int .i64 0) 1 8 Tryz.underlying25 hi hz0 hz1 hz2 rfl (by decide) _ out.length (out.map (Value.int .i64)) rfl (World.ownsRow.alloc (own3.below (below_drewN _ _)) _) _ 1 1 [.int .i64 x] rfl rfl (cell_one_new _ _ _) (by simp [Value.oneCell']) (by unfold maxLen; omega) (by omega) (by have := bel3.size; simp; omega) ?_; intro v2 w2 own2 gr2 hn2)
            go_roundg (gk - 1)
            case measure => omega
            case rel => exact ⟨i + 1, j + 1, _, by go_num, by go_num, by omega, ST.out, own_grow1 own2, (bel3.trans ((below_drewN wq _).mono bel3.size)).alloc (by have := bel3.size; simp; omega) _ |>.grown gr2 (by have := bel3.size; simp; omega) (fun k hk => (own3.lt k hk).1)⟩
          · obtain ⟨ba, oa, ea, hba, cela⟩ := H2a.out (by intro h; rw [h] at hi'; simp at hi')
            have hcx : wr.cell? ⟨ba, oa + i, none⟩ = some (.int .i64 (a.getD i 0)) := cell_in hba bel cela hi'
            clear cela
            subst ea
            obtain ⟨bb, ob, eb, hbb, celb⟩ := H2b.out (by intro h; rw [h] at hj'; simp at hj')
            have hcy : wr.cell? ⟨bb, ob + j, none⟩ = some (.int .i64 (b.getD j 0)) := cell_in hbb bel celb hj'
            clear celb
            subst eb
            have ST : Hid (MI a b i (j + 1) (out ++ [b.getD j 0])) := MIH.out.stepB RB.out hj' (fun _ => hc)
            have g1 : ((j : Int) == (b.length : Int)) = false := beq_eq_false_iff_ne.2 (by omega)
            have g2 : ((i : Int) == (a.length : Int)) = false := beq_eq_false_iff_ne.2 (by omega)
            generalize a.getD i 0 = x at *
            generalize b.getD j 0 = y at *
            have g3 : decide (idx x < idx y) = false := decide_eq_false (by omega)
            go_wp2
            go_quiet ((go_at_call 59; exact Calls.quiet_of_same (refIndex_any _ _)))
            have hcx2 : (wr.drewN nq).cell? ⟨ba, oa + i, none⟩ = some (.int .i64 x) := hcx
            have hcy2 : (wr.drewN nq).cell? ⟨bb, ob + j, none⟩ = some (.int .i64 y) := hcy
            have own3 := own.below (below_drewN wr nq)
            have bel3 : Below w.heap.size w (wr.drewN nq) := bel.trans ((below_drewN wr nq).mono bel.size)
            clear hcx hcy own bel
            generalize wr.drewN nq = wq at *
            go_wp2
            go_quiet ((go_at_call 59; exact Calls.quiet_of_same (refIndex_any _ _)))
            go_wp2_with (at_builtin; refine wpList_append_own _ rfl _ _ 25 rfl w.heap.size 3 i0 (.int .i64 0) 1 8 Tryz.underlying25 hi hz0 hz1 hz2 rfl (by decide) _ out.length (out.map (Value.int .i64)) rfl (World.ownsRow.alloc (own3.below (below_drewN _ _)) _) _ 1 1 [.int .i64 y] rfl rfl (cell_one_new _ _ _) (by simp [Value.oneCell']) (by unfold maxLen; omega) (by omega) (by have := bel3.size; simp; omega) ?_; intro v2 w2 own2 gr2 hn2)
            go_roundg (gk - 1)
            case measure => omega
            case rel => exact ⟨i, j + 1, _, by go_num, by go_num, by omega, ST.out, own_grow1 own2, (bel3.trans ((below_drewN wq _).mono bel3.size)).alloc (by have := bel3.size; simp; omega) _ |>.grown gr2 (by have := bel3.size; simp; omega) (fun k hk => (own3.lt k hk).1)⟩
        · obtain ⟨bb, ob, eb, hbb, celb⟩ := H2b.out (by intro h; rw [h] at hj'; simp at hj')
          have hcy : wr.cell? ⟨bb, ob + j, none⟩ = some (.int .i64 (b.getD j 0)) := cell_in hbb bel celb hj'
          clear celb
          subst eb
          have ST : Hid (MI a b i (j + 1) (out ++ [b.getD j 0])) := MIH.out.stepB RB.out hj' (fun h => absurd h hi')
          obtain rfl : i = a.length := by omega
          have g1 : ((j : Int) == (b.length : Int)) = false := beq_eq_false_iff_ne.2 (by omega)
          have g2 : decide ((a.length : Int) < (a.length : Int)) = false := by simp
          generalize b.getD j 0 = y at *
          go_wp2
          go_quiet (fail)
          go_wp2
          go_quiet (fail)
          go_wp2_with (at_builtin; refine wpList_append_own _ rfl _ _ 25 rfl w.heap.size 3 i0 (.int .i64 0) 1 8 Tryz.underlying25 hi hz0 hz1 hz2 rfl (by decide) _ out.length (out.map (Value.int .i64)) rfl (World.ownsRow.alloc (own.below (below_drewN _ _)) _) _ 1 1 [.int .i64 y] rfl rfl (cell_one_new _ _ _) (by simp [Value.oneCell']) (by unfold maxLen; omega) (by omega) (by have := bel.size; simp; omega) ?_; intro v2 w2 own2 gr2 hn2)
          go_roundg (gk - 1)
          case measure => omega
          case rel => exact ⟨a.length, j + 1, _, by go_num, by go_num, by omega, ST.out, own_grow1 own2, (bel.trans ((below_drewN wr _).mono bel.size)).alloc (by have := bel.size; simp; omega) _ |>.grown gr2 (by have := bel.size; simp; omega) (fun k hk => (own.lt k hk).1)⟩
      · have hi' : i < a.length := by omega
        obtain ⟨ba, oa, ea, hba, cela⟩ := H2a.out (by intro h; rw [h] at hi'; simp at hi')
        have hcx : wr.cell? ⟨ba, oa + i, none⟩ = some (.int .i64 (a.getD i 0)) := cell_in hba bel cela hi'
        clear cela
        subst ea
        have ST : Hid (MI a b (i + 1) j (out ++ [a.getD i 0])) := MIH.out.stepA RA.out hi' (fun h => absurd h hj')
        obtain rfl : j = b.length := by omega
        generalize a.getD i 0 = x at *
        go_wp2
        go_quiet (fail)
        go_wp2_with (at_builtin; refine wpList_append_own _ rfl _ _ 25 rfl w.heap.size 3 i0 (.int .i64 0) 1 8 Tryz.underlying25 hi hz0 hz1 hz2 rfl (by decide) _ out.length (out.map (Value.int .i64)) rfl (World.ownsRow.alloc (own.below (below_drewN _ _)) _) _ 1 1 [.int .i64 x] rfl rfl (cell_one_new _ _ _) (by simp [Value.oneCell']) (by unfold maxLen; omega) (by omega) (by have := bel.size; simp; omega) ?_; intro v2 w2 own2 gr2 hn2)
        go_roundg (gk - 1)
        case measure => omega
        case rel => exact ⟨i + 1, b.length, _, by go_num, by go_num, by omega, ST.out, own_grow1 own2, (bel.trans ((below_drewN wr _).mono bel.size)).alloc (by have := bel.size; simp; omega) _ |>.grown gr2 (by have := bel.size; simp; omega) (fun k hk => (own.lt k hk).1)⟩
    · obtain rfl : i = a.length := by omega
      obtain rfl : j = b.length := by omega
      have HE : Hid (out = tid (a ++ b)) := MIH.out.fin FA.out FB.out
      go_wp2
      go_ret
      exact ⟨_, rfl, by rw [← HE.out]; exact own, bel⟩

end Go.Proofs.YtjajafeaengnjaaGreatDoor
set_option linter.unusedSimpArgs false
set_option linter.unusedVariables false
namespace Go.Proofs.YtjajafeaengnjaaGreatDoor
open Go.RowKit

theorem take_eq_more {α : Type} {d : α} {a b : List α} {k : Nat} (ha : k < a.length) (hb : k < b.length) (h : a.take k = b.take k) (he : a.getD k d = b.getD k d) : a.take (k + 1) = b.take (k + 1) := by
  rw [take_succ_getD a d k ha, take_succ_getD b d k hb, h, he]
theorem beq_no_at {α : Type} [BEq α] [LawfulBEq α] {d : α} {a b : List α} {k : Nat} (h : a.getD k d ≠ b.getD k d) : (a == b) = false := by
  rw [beq_eq_false_iff_ne]; intro e; subst e; exact h rfl
theorem beq_no_len {α : Type} [BEq α] [LawfulBEq α] {a b : List α} (h : a.length ≠ b.length) : (a == b) = false := by
  rw [beq_eq_false_iff_ne]; intro e; subst e; exact h rfl

end Go.Proofs.YtjajafeaengnjaaGreatDoor

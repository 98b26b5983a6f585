/-
  learn, the document's side: Place, reasoned, leveled, Formed, False, asked, Level.
  KEEP: len below nil form rd mono one more grown lt size cell some none of ofNat add out step row get at mk new made look put del kept drew alloc has same other map rde take
-/
import Derived.Test.YtgngdohhlhlcpaaLnM
import Derived.Test.YtgngdohhlhlcpaaSames
import Derived.Handy
import Derived.Deep.RegionWith
import Derived.Deep.QuietTactic
import Derived.BigQuiet
import Derived.Deep.RegionHeld
import Derived.Deep.CutRange
import Derived.Sort.AtCall
set_option linter.unusedSimpArgs false
set_option linter.unusedVariables false
namespace Go.Proofs.Ytgngdohhlhlcpaa
open Go Go.RowKit
theorem rSound15_any (v : Value) (zs : List Int) (w : World) (hr : Rd w v zs) :
    Calls Try.prog 42 #[v] w fun e w' => e = .returned (.bool (zs.all fmd)) ∧ w' = w := by
  have hl := hr.len
  rcases hr.cases with ⟨rfl, a, c, rfl, _, _⟩ | ⟨b, off, c, rfl, hpos, hc, hm, hb, hcell⟩
  · go_enter Try.func42, Try.ntmps42
    go_wp2
    refine wp_loop_rounds 1 ?_
    rw [rounds_succ]
    go_wp2
    go_ret
    exact ⟨rfl, rfl⟩
  · have HC : Hid (∀ j, j < zs.length → w.cell? ⟨b, off + j, none⟩ = some (.int .i64 (zs.getD j 0))) := hcell
    clear hcell hr
    go_enter Try.func42, Try.ntmps42
    go_wp2
    go_loopg [3] zs.length (fun g i wr => ∃ k : Nat, k + g = zs.length ∧ i = .int .i64 k ∧ (zs.take k).all fmd = true ∧ wr = w)
    case atStart => exact ⟨0, by omega, rfl, by simp, rfl⟩
    case round =>
      obtain ⟨k, hk, rfl, hall, rfl⟩ := hrel
      have HA : Hid ((zs.take k).all fmd = true) := hall
      have HK : Hid (k + gk = zs.length) := hk
      clear hall
      by_cases hlt : k < zs.length
      · have hck := HC.out k hlt
        have HS : Hid ((zs.take (k + 1)).all fmd = ((zs.take k).all fmd && fmd (zs.getD k 0))) := all_take_succ zs k hlt
        cases hf : fmd (zs.getD k 0)
        · have HF : Hid (zs.all fmd = false) := all_false_of hlt hf
          clear hk
          generalize zs.getD k 0 = z at *
          go_wp2_with (go_at_call 43; refine (refFormed_any _ _).mono ?_; rintro e w' ⟨rfl, rfl⟩)
          go_ret
          exact ⟨ret_bool HF.out.symm, rfl⟩
        · clear hk
          generalize zs.getD k 0 = z at *
          go_wp2_with (go_at_call 43; refine (refFormed_any _ _).mono ?_; rintro e w' ⟨rfl, rfl⟩)
          go_roundg (gk - 1)
          case measure => have := HK.out; omega
          case rel => exact ⟨k + 1, by have := HK.out; omega, by go_num, by rw [HS.out, HA.out, hf]; rfl, rfl⟩
      · obtain rfl : k = zs.length := by omega
        have HE : Hid (zs.all fmd = true) := by have := HA.out; rw [List.take_length] at this; exact this
        clear hk
        go_wp2
        go_ret
        exact ⟨ret_bool HE.out.symm, rfl⟩

theorem contains_more15 (zs : List Int) (k : Nat) (h : k < zs.length) (l : Int) : (zs.take (k + 1)).contains l = ((zs.take k).contains l || (l == zs.getD k 0)) := by
  rw [take_succ_getD zs 0 k h, List.contains_eq_any_beq, List.contains_eq_any_beq, List.any_append]; simp
set_option maxHeartbeats 1600000 in
theorem hasInt15_any (v : Value) (zs : List Int) (l : Int) (w : World) (hr : Rd w v zs) :
    Calls Try.prog 41 #[v, .int .i64 l] w fun e w' => e = .returned (.bool (zs.contains l)) ∧ w' = w := by
  have hl := hr.len
  obtain ⟨a, c, rfl, hc, hm, hcell⟩ := hr.form
  have HC : Hid (∀ k, k < zs.length → ∃ b off, a = some ⟨b, off, none⟩ ∧ w.cell? ⟨b, off + k, none⟩ = some (.int .i64 (zs.getD k 0))) := hcell
  clear hcell hr
  go_enter Try.func41, Try.ntmps41
  go_wp2
  go_loopg [5] zs.length (fun g i wr => ∃ k : Nat, k + g = zs.length ∧ i = .int .i64 k ∧ (zs.take k).contains l = false ∧ wr = w)
  case atStart => exact ⟨0, by omega, rfl, by simp, rfl⟩
  case round =>
    obtain ⟨k, hk, rfl, hall, rfl⟩ := hrel
    have HA : Hid ((zs.take k).contains l = false) := hall
    have HK : Hid (k + gk = zs.length) := hk
    clear hall
    by_cases hlt : k < zs.length
    · obtain ⟨b, off, rfl, hck⟩ := HC.out k hlt
      have HS : Hid ((zs.take (k + 1)).contains l = ((zs.take k).contains l || (l == zs.getD k 0))) := contains_more15 zs k hlt l
      have HE : Hid (l = zs.getD k 0 → zs.contains l = true) := fun e => by rw [List.contains_iff_mem, e]; exact getD_mem' hlt
      clear hk
      generalize zs.getD k 0 = z at *
      cases hf : (z == l)
      · go_wp2
        go_roundg (gk - 1)
        case measure => have := HK.out; omega
        case rel => exact ⟨k + 1, by have := HK.out; omega, by go_num, by rw [HS.out, HA.out, Bool.false_or]; rw [beq_eq_false_iff_ne] at hf ⊢; exact fun e => hf e.symm, rfl⟩
      · go_wp2
        go_ret
        exact ⟨ret_bool (HE.out (beq_iff_eq.1 hf).symm).symm, rfl⟩
    · obtain rfl : k = zs.length := by omega
      have HE : Hid (zs.contains l = false) := by have := HA.out; rw [List.take_length] at this; exact this
      clear hk
      go_wp2
      go_ret
      exact ⟨ret_bool HE.out.symm, rfl⟩

/-- what Place answers -/
def plI (t : List Ent) (x : Int) : Int := match plc t x with | some i => (i : Int) | none => -1
theorem plI_some {t : List Ent} {x : Int} {i : Nat} (h : plc t x = some i) : plI t x = (i : Int) := by unfold plI; rw [h]
theorem plI_none {t : List Ent} {x : Int} (h : plc t x = none) : plI t x = -1 := by unfold plI; rw [h]
theorem plI_lt (t : List Ent) (x : Int) : decide (plI t x < 0) = (plc t x).isNone := by
  cases h : plc t x with
  | none => rw [plI_none h]; rfl
  | some i => rw [plI_some h]; simp
theorem plI_ge (t : List Ent) (x : Int) : decide (0 ≤ plI t x) = (plc t x).isSome := by
  cases h : plc t x with
  | none => rw [plI_none h]; rfl
  | some i => rw [plI_some h]; simp
theorem plI_range (t : List Ent) (x : Int) : -1 ≤ plI t x ∧ plI t x < (t.length : Int) := by
  cases h : plc t x with
  | none => rw [plI_none h]; omega
  | some i => rw [plI_some h]; have := (plc_some h).1; omega
theorem plc_more {t : List Ent} {k : Nat} {x : Int} (hk : k < t.length) (h : plc (t.take k) x = none) : plc (t.take (k + 1)) x = if (t.getD k e0).1 = -x then some k else none := by
  unfold plc at h ⊢
  rw [takeE_snoc hk, List.findIdx?_append, h]
  simp [Nat.min_eq_left (Nat.le_of_lt hk)]
theorem plc_stays {t : List Ent} {k i : Nat} {x : Int} (h : plc (t.take k) x = some i) : plc t x = some i := by
  have h' := h
  unfold plc at h ⊢
  conv => lhs; rw [← List.take_append_drop k t]
  rw [List.findIdx?_append, h]; rfl

set_option maxHeartbeats 1600000 in
theorem rPlace_any (v : Value) (t : List Ent) (x : Int) (w : World) (hr : RdE w v t) (hx : fmd x = true) :
    Calls Try.prog 37 #[v, .int .i64 x] w fun e w' => e = .returned (.int .i64 (plI t x)) ∧ w' = w := by
  have hl := hr.len
  have hxr := fmd_range hx
  have hwr : IntKind.i64.wrap (-x) = -x := by rw [IntKind.wrap_i64]; omega
  obtain ⟨a, c, rfl, hc, hm, hcell⟩ := hr.form
  have HC : Hid (∀ k, k < t.length → ∃ b off u, a = some ⟨b, off, none⟩ ∧ b < w.heap.size ∧ w.cell? ⟨b, off + k * 3, none⟩ = some (.int .i64 (t.getD k e0).1) ∧ w.cell? ⟨b, off + k * 3 + 1, none⟩ = some (.int .i64 (t.getD k e0).2.1) ∧ w.cell? ⟨b, off + k * 3 + 2, none⟩ = some u ∧ Rd w u (t.getD k e0).2.2) := hcell
  clear hcell hr
  go_enter Try.func37, Try.ntmps37
  go_wp2
  go_loopg [5] t.length (fun g i wr => ∃ k : Nat, k + g = t.length ∧ i = .int .i64 k ∧ plc (t.take k) x = none ∧ wr = w)
  case atStart => exact ⟨0, by omega, rfl, rfl, rfl⟩
  case round =>
    obtain ⟨k, hk, rfl, hall, rfl⟩ := hrel
    have HA : Hid (plc (t.take k) x = none) := hall
    have HK : Hid (k + gk = t.length) := hk
    clear hall
    by_cases hlt : k < t.length
    · obtain ⟨b, off, u, rfl, hbl, c0, c1, c2, _⟩ := HC.out k hlt
      have HM : Hid (plc (t.take (k + 1)) x = if (t.getD k e0).1 = -x then some k else none) := plc_more hlt HA.out
      clear hk c1 c2
      generalize (t.getD k e0).1 = z at *
      cases hf : (z == -x)
      · have HN : Hid (plc (t.take (k + 1)) x = none) := by show _ = _; rw [HM.out, if_neg (by simpa using hf)]
        go_wp2
        go_roundg (gk - 1)
        case measure => have := HK.out; omega
        case rel => exact ⟨k + 1, by have := HK.out; omega, by go_num, HN.out, rfl⟩
      · have HN : Hid (plI t x = (k : Int)) := plI_some (plc_stays (k := k + 1) (by rw [HM.out, if_pos (by simpa using hf)]))
        go_wp2
        go_ret
        exact ⟨ret_int HN.out.symm, rfl⟩
    · obtain rfl : k = t.length := by omega
      have HE : Hid (plI t x = -1) := by have := HA.out; rw [List.take_length] at this; exact plI_none this
      clear hk
      go_wp2
      go_ret
      exact ⟨ret_int HE.out.symm, rfl⟩
/-- a reading world -/
theorem RdE.drewN {w : World} {v : Value} {t : List Ent} (h : RdE w v t) (k : Nat) : RdE (w.drewN k) v t := h.below (below_drewN w k)
theorem RdE.at {w : World} {a : Option Addr} {c n : Nat} {t : List Ent} (h : RdE w (.slice a n c) t) {i : Nat} (hi : i < t.length) : ∃ b off u, a = some ⟨b, off, none⟩ ∧ b < w.heap.size ∧ w.cell? ⟨b, off + i * 3, none⟩ = some (.int .i64 (t.getD i e0).1) ∧ w.cell? ⟨b, off + i * 3 + 1, none⟩ = some (.int .i64 (t.getD i e0).2.1) ∧ w.cell? ⟨b, off + i * 3 + 2, none⟩ = some u ∧ Rd w u (t.getD i e0).2.2 := by
  obtain ⟨a', c', e', _, _, hc⟩ := h.form
  injection e' with q1 q2 q3
  subst q1 q3
  exact hc i hi

set_option maxHeartbeats 1600000 in
theorem rLeveled_any (v : Value) (t : List Ent) (i : Nat) (w : World) (hr : RdE w v t) (hi : i < t.length) (hlv : -1000000000000000 ≤ lstL (t.take i) ∧ lstL (t.take i) ≤ 1000000000000000) :
    Calls Try.prog 44 #[v, .int .i64 (i : Int)] w fun e w' => e = .returned (.bool (lvB (t.take i) (t.getD i e0))) ∧ w' = w := by
  have hl := hr.len
  obtain ⟨a, c, rfl, hc, hm, _⟩ := hr.form
  obtain ⟨b, off, u, rfl, hbl, c0, c1, c2, hr2⟩ := hr.at hi
  obtain ⟨_, ua, uc, rfl, _⟩ := hr2
  have HL : Hid (lvB (t.take i) (t.getD i e0) = (((t.getD i e0).2.1 == lstL (t.take i) || (t.getD i e0).2.1 == lstL (t.take i) + 1) && ((t.getD i e0).2.1 == 0 || ((t.getD i e0).2.1 != lstL (t.take i)) == ((t.getD i e0).2.2.length == 0)))) := rfl
  obtain ⟨LB, hLB⟩ : ∃ LB, lvB (t.take i) (t.getD i e0) = LB := ⟨_, rfl⟩
  rw [hLB] at HL ⊢
  have hln : (((t.getD i e0).2.2.length : Int) == 0) = ((t.getD i e0).2.2.length == 0) := by
    rw [Bool.eq_iff_iff]; simp
  have hls : ∃ q, lstL (t.take i) = q := ⟨_, rfl⟩
  obtain ⟨q, hq⟩ := hls
  rw [hq] at HL hlv
  have hwr : IntKind.i64.wrap (q + 1) = q + 1 := by rw [IntKind.wrap_i64]; omega
  by_cases h0 : i = 0
  · subst h0
    have hq0 : q = 0 := by rw [← hq]; rfl
    subst hq0
    clear hr hq
    generalize (t.getD 0 e0).2.1 = lv at *
    generalize (t.getD 0 e0).2.2.length = n at *
    clear c0 hlv hwr hLB
    simp only [Nat.zero_mul, Nat.add_zero] at c1 c2
    rw [show ((0 : Nat) : Int) = 0 from rfl]
    go_enter Try.func44, Try.ntmps44
    go_wp2
    all_goals
      go_ret
      exact ⟨ret_bool (by rw [HL.out]; clear HL; simp_all), rfl⟩
  · obtain ⟨j, rfl⟩ : ∃ j, i = j + 1 := ⟨i - 1, by omega⟩
    obtain ⟨b', off', u', e', _, _, d1, _, _⟩ := hr.at (i := j) (by omega)
    injection e' with e'
    injection e' with q1 q2
    subst q1 q2
    have hq1 : (t.getD j e0).2.1 = q := by rw [← hq, lstL_take (by omega)]
    rw [hq1] at d1
    have hwj : IntKind.i64.wrap (((j + 1 : Nat) : Int) - 1) = (j : Int) := by rw [IntKind.wrap_i64]; omega
    clear hr hq hq1 hLB c0
    generalize (t.getD (j + 1) e0).2.1 = lv at *
    generalize (t.getD (j + 1) e0).2.2.length = n at *
    go_enter Try.func44, Try.ntmps44
    go_wp2
    all_goals
      go_ret
      exact ⟨ret_bool (by rw [HL.out]; clear HL; simp_all), rfl⟩
end Go.Proofs.Ytgngdohhlhlcpaa

/-
  What a model makes true: the program's and the document's, walked.
-/
import Derived.Test.YtfklgfdkpmfdnaaDoorShape
import Derived.Maps.AppendAt
import Derived.OwnWalk
set_option linter.unusedSimpArgs false
set_option linter.unusedVariables false
namespace Go.Proofs.YtfklgfdkpmfdnaaDoor
open Go.RowKit

/-- the slice reads these truths -/
def RdB (w : World) (v : Value) (ms : List Bool) : Prop :=
  ms.length ≤ 140737488351232 ∧ ∃ a c, v = .slice a ms.length c ∧ (ms ≠ [] → ∃ b off, a = some ⟨b, off, none⟩ ∧ b < w.heap.size ∧ ∀ j, j < ms.length → w.cell? ⟨b, off + j, none⟩ = some (.bool (ms.getD j false)))
theorem RdB.below {w w' : World} {v : Value} {ms : List Bool} (h : RdB w v ms) (hb : Below w.heap.size w w') : RdB w' v ms := by
  obtain ⟨h1, a, c, rfl, h2⟩ := h
  refine ⟨h1, a, c, rfl, fun hne => ?_⟩
  obtain ⟨b, off, rfl, hlt, hcell⟩ := h2 hne
  exact ⟨b, off, rfl, Nat.lt_of_lt_of_le hlt hb.size, fun j hj => (hb.cell (p := ⟨b, off + j, none⟩) hlt).trans (hcell j hj)⟩
theorem RdB.nil (w : World) : RdB w (.slice none 0 0) [] := ⟨by simp, none, 0, rfl, fun h => absurd rfl h⟩
theorem RdB.len {w : World} {v : Value} {ms : List Bool} (h : RdB w v ms) : ms.length ≤ 140737488351232 := h.1
theorem RdB.form {w : World} {v : Value} {ms : List Bool} (h : RdB w v ms) : ∃ a c, v = .slice a ms.length c ∧ ∀ k, k < ms.length → ∃ b off, a = some ⟨b, off, none⟩ ∧ w.cell? ⟨b, off + k, none⟩ = some (.bool (ms.getD k false)) := by
  obtain ⟨h1, a, c, rfl, h2⟩ := h
  refine ⟨a, c, rfl, fun k hk => ?_⟩
  obtain ⟨b, off, e, _, hcell⟩ := h2 (by intro e; subst e; simp at hk)
  exact ⟨b, off, e, hcell k hk⟩

/-- does the model make the literal true -/
def trv (ms : List Bool) (l : Int) : Bool := ms.getD (varOf l - 1).toNat false == decide (0 < l)
/-- .. a literal of the clause -/
def mkT (ms : List Bool) (c : List Int) : Bool := c.any (trv ms)
/-- .. each clause -/
def satT (ms : List Bool) (css : List (List Int)) : Bool := css.all (mkT ms)
/-- a literal of the model's variables: its place -/
theorem trv_pos {ms : List Bool} {l : Int} (hf : fmd l = true) (hv : varOf l ≤ ms.length) (hs : 0 < l) : ∃ j : Nat, j < ms.length ∧ l = (j : Int) + 1 ∧ varOf l = (j : Int) + 1 ∧ trv ms l = ms.getD j false := by
  obtain ⟨_, e⟩ := there_pos hf hs
  refine ⟨(l - 1).toNat, by omega, by omega, by omega, ?_⟩
  unfold trv; rw [e]; simp [hs]
theorem trv_neg {ms : List Bool} {l : Int} (hf : fmd l = true) (hv : varOf l ≤ ms.length) (hs : l < 0) : ∃ j : Nat, j < ms.length ∧ l = -((j : Int) + 1) ∧ varOf l = (j : Int) + 1 ∧ trv ms l = !ms.getD j false := by
  obtain ⟨_, e⟩ := there_neg hf hs
  refine ⟨(-l - 1).toNat, by omega, by omega, by omega, ?_⟩
  unfold trv; rw [e, show decide (0 < l) = false from decide_eq_false (by omega)]
  cases ms.getD (-l - 1).toNat false <;> rfl
theorem fits_at {n : Int} {zs : List Int} {k : Nat} (h : fitsP n zs = true) (hk : k < zs.length) : fmd (zs.getD k 0) = true ∧ varOf (zs.getD k 0) ≤ n := by
  have := List.all_eq_true.1 h _ (getD_mem' (d := 0) hk)
  simpa using this

set_option maxHeartbeats 3200000 in
theorem makesTrue_any (vm v : Value) (ms : List Bool) (zs : List Int) (w : World) (hm : RdB w vm ms) (hr : Rd w v zs) (hfit : fitsP ms.length zs = true) :
    Calls Tryd.prog 40 #[vm, v] w fun e w' => e = .returned (.bool (mkT ms zs)) ∧ w' = w := by
  have hl := hr.len
  have hlm := hm.len
  obtain ⟨a, c, rfl, hc, hmx, hcell⟩ := hr.form
  obtain ⟨am, cm, rfl, hcm⟩ := hm.form
  have HC : Hid (∀ k, k < zs.length → ∃ b off, a = some ⟨b, off, none⟩ ∧ w.cell? ⟨b, off + k, none⟩ = some (.int .i64 (zs.getD k 0))) := hcell
  have HM : Hid (∀ k, k < ms.length → ∃ b off, am = some ⟨b, off, none⟩ ∧ w.cell? ⟨b, off + k, none⟩ = some (.bool (ms.getD k false))) := hcm
  have HF : Hid (fitsP ms.length zs = true) := hfit
  clear hcell hr hcm hm hfit
  go_enter Tryd.func40, Tryd.ntmps40
  go_wp2
  go_loopg [9] zs.length (fun g i wr => ∃ k : Nat, k + g = zs.length ∧ i = .int .i64 k ∧ mkT ms (zs.take k) = false ∧ wr = w)
  case atStart => exact ⟨0, by omega, rfl, by simp [mkT], rfl⟩
  case round =>
    obtain ⟨k, hk, rfl, hall, rfl⟩ := hrel
    have HA : Hid (mkT ms (zs.take k) = false) := hall
    have HK : Hid (k + gk = zs.length) := hk
    clear hall
    by_cases hlt : k < zs.length
    · obtain ⟨b, off, rfl, hck⟩ := HC.out k hlt
      obtain ⟨hfm, hvn⟩ := fits_at HF.out hlt
      have HS : Hid (mkT ms (zs.take (k + 1)) = (mkT ms (zs.take k) || trv ms (zs.getD k 0))) := any_take_getD _ zs 0 k hlt
      have HE : Hid (trv ms (zs.getD k 0) = true → mkT ms zs = true) := fun h => any_true_getD hlt h
      clear hk HF
      generalize zs.getD k 0 = z at *
      obtain ⟨hz0, hz1, hz2⟩ := fmd_range hfm
      rcases Int.lt_or_gt_of_ne hz0 with hs | hs
      · obtain ⟨j, hj, ez, ev, et⟩ := trv_neg hfm hvn hs
        obtain ⟨bm, om, rfl, hcj⟩ := HM.out j hj
        have HT : Hid (trv ms z = !ms.getD j false) := et
        have HV : Hid (varOf z = (j : Int) + 1) := ev
        clear ez ev et hvn
        generalize ms.getD j false = q at *
        have hd : decide (0 < z) = false := decide_eq_false (by omega)
        cases q
        · go_wp2_with (go_at_call 49; refine (var_any _ _).mono ?_; rw [HV.out]; rintro e w' ⟨rfl, rfl⟩)
          go_ret
          exact ⟨ret_bool (HE.out (by rw [HT.out]; rfl)).symm, rfl⟩
        · go_wp2_with (go_at_call 49; refine (var_any _ _).mono ?_; rw [HV.out]; rintro e w' ⟨rfl, rfl⟩)
          go_roundg (gk - 1)
          case measure => have := HK.out; omega
          case rel => exact ⟨k + 1, by have := HK.out; omega, by go_num, by rw [HS.out, HA.out, HT.out]; rfl, rfl⟩
      · obtain ⟨j, hj, ez, ev, et⟩ := trv_pos hfm hvn hs
        obtain ⟨bm, om, rfl, hcj⟩ := HM.out j hj
        have HT : Hid (trv ms z = ms.getD j false) := et
        have HV : Hid (varOf z = (j : Int) + 1) := ev
        clear ez ev et hvn
        generalize ms.getD j false = q at *
        have hd : decide (0 < z) = true := decide_eq_true (by omega)
        cases q
        · go_wp2_with (go_at_call 49; refine (var_any _ _).mono ?_; rw [HV.out]; rintro e w' ⟨rfl, rfl⟩)
          go_roundg (gk - 1)
          case measure => have := HK.out; omega
          case rel => exact ⟨k + 1, by have := HK.out; omega, by go_num, by rw [HS.out, HA.out, HT.out]; rfl, rfl⟩
        · go_wp2_with (go_at_call 49; refine (var_any _ _).mono ?_; rw [HV.out]; rintro e w' ⟨rfl, rfl⟩)
          go_ret
          exact ⟨ret_bool (HE.out (by rw [HT.out])).symm, rfl⟩
    · obtain rfl : k = zs.length := by omega
      have HE : Hid (mkT ms zs = false) := by have := HA.out; rw [List.take_length] at this; exact this
      clear hk
      go_wp2
      go_ret
      exact ⟨ret_bool HE.out.symm, rfl⟩

set_option maxHeartbeats 6400000 in
theorem rTrue_any (vm v : Value) (ms : List Bool) (zs : List Int) (w : World) (hm : RdB w vm ms) (hr : Rd w v zs) (hfit : fitsP ms.length zs = true) :
    Calls Tryd.prog 42 #[v, vm] w fun e w' => e = .returned (.bool (mkT ms zs)) ∧ w' = w := by
  have hl := hr.len
  have hlm := hm.len
  obtain ⟨a, c, rfl, hc, hmx, hcell⟩ := hr.form
  obtain ⟨am, cm, rfl, hcm⟩ := hm.form
  have HC : Hid (∀ k, k < zs.length → ∃ b off, a = some ⟨b, off, none⟩ ∧ w.cell? ⟨b, off + k, none⟩ = some (.int .i64 (zs.getD k 0))) := hcell
  have HM : Hid (∀ k, k < ms.length → ∃ b off, am = some ⟨b, off, none⟩ ∧ w.cell? ⟨b, off + k, none⟩ = some (.bool (ms.getD k false))) := hcm
  have HF : Hid (fitsP ms.length zs = true) := hfit
  clear hcell hr hcm hm hfit
  go_enter Tryd.func42, Tryd.ntmps42
  go_wp2
  go_loopg [5] zs.length (fun g i wr => ∃ k : Nat, k + g = zs.length ∧ i = .int .i64 k ∧ mkT ms (zs.take k) = false ∧ wr = w)
  case atStart => exact ⟨0, by omega, rfl, by simp [mkT], rfl⟩
  case round =>
    obtain ⟨k, hk, rfl, hall, rfl⟩ := hrel
    have HA : Hid (mkT ms (zs.take k) = false) := hall
    have HK : Hid (k + gk = zs.length) := hk
    clear hall
    by_cases hlt : k < zs.length
    · obtain ⟨b, off, rfl, hck⟩ := HC.out k hlt
      obtain ⟨hfm, hvn⟩ := fits_at HF.out hlt
      have HS : Hid (mkT ms (zs.take (k + 1)) = (mkT ms (zs.take k) || trv ms (zs.getD k 0))) := any_take_getD _ zs 0 k hlt
      have HE : Hid (trv ms (zs.getD k 0) = true → mkT ms zs = true) := fun h => any_true_getD hlt h
      clear hk HF
      generalize zs.getD k 0 = z at *
      obtain ⟨hz0, hz1, hz2⟩ := fmd_range hfm
      rcases Int.lt_or_gt_of_ne hz0 with hs | hs
      · obtain ⟨j, hj, ez, ev, et⟩ := trv_neg hfm hvn hs
        obtain ⟨bm, om, rfl, hcj⟩ := HM.out j hj
        have HT : Hid (trv ms z = !ms.getD j false) := et
        clear ev et hvn
        generalize ms.getD j false = q at *
        have hd : decide (0 < z) = false := decide_eq_false (by omega)
        have hd2 : decide (z < 0) = true := decide_eq_true (by omega)
        have hneg : wrap64 (-z) = (j : Int) + 1 := by unfold wrap64; omega
        have hneg2 : -z = (j : Int) + 1 := by omega
        have HZ : Hid (z = -((j : Int) + 1)) := ez
        clear ez
        cases q
        · go_wp2
          go_ret
          exact ⟨ret_bool (HE.out (by rw [HT.out]; rfl)).symm, rfl⟩
        · go_wp2
          go_roundg (gk - 1)
          case measure => have := HK.out; omega
          case rel => exact ⟨k + 1, by have := HK.out; omega, by go_num, by rw [HS.out, HA.out, HT.out]; rfl, rfl⟩
      · obtain ⟨j, hj, ez, ev, et⟩ := trv_pos hfm hvn hs
        obtain ⟨bm, om, rfl, hcj⟩ := HM.out j hj
        have HT : Hid (trv ms z = ms.getD j false) := et
        clear ev et hvn
        generalize ms.getD j false = q at *
        have hd : decide (0 < (j : Int) + 1) = true := decide_eq_true (by omega)
        have hd2 : decide ((j : Int) + 1 < 0) = false := decide_eq_false (by omega)
        subst ez
        cases q
        · go_wp2
          go_roundg (gk - 1)
          case measure => have := HK.out; omega
          case rel => exact ⟨k + 1, by have := HK.out; omega, by go_num, by rw [HS.out, HA.out, HT.out]; rfl, rfl⟩
        · go_wp2
          go_ret
          exact ⟨ret_bool (HE.out (by rw [HT.out])).symm, rfl⟩
    · obtain rfl : k = zs.length := by omega
      have HE : Hid (mkT ms zs = false) := by have := HA.out; rw [List.take_length] at this; exact this
      clear hk
      go_wp2
      go_ret
      exact ⟨ret_bool HE.out.symm, rfl⟩

end Go.Proofs.YtfklgfdkpmfdnaaDoor

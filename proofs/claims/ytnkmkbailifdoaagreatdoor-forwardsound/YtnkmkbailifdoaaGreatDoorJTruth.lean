/-
  joined: Truth Bits Tell
-/
import Derived.Test.YtnkmkbailifdoaaGreatDoorJForms
import Derived.Maps.AppendAt
import Derived.OwnWalk
set_option linter.unusedSimpArgs false
set_option linter.unusedVariables false
namespace Go.Proofs.YtnkmkbailifdoaaGreatDoor
open Go.RowKit

/-- the slice reads these truths -/
def RdB (w : World) (v : Value) (ms : List Bool) : Prop :=
  ms.length ≤ 140737488351232 ∧ ∃ a c, v = .slice a ms.length c ∧ (ms ≠ [] → ∃ b off, a = some ⟨b, off, none⟩ ∧ b < w.heap.size ∧ ∀ j, j < ms.length → w.cell? ⟨b, off + j, none⟩ = some (.bool (ms.getD j false)))
theorem RdB.below {w w' : World} {v : Value} {ms : List Bool} (h : RdB w v ms) (hb : Below w.heap.size w w') : RdB w' v ms := by
  obtain ⟨h1, a, c, rfl, h2⟩ := h
  refine ⟨h1, a, c, rfl, fun hne => ?_⟩
  obtain ⟨b, off, rfl, hlt, hcell⟩ := h2 hne
  exact ⟨b, off, rfl, Nat.lt_of_lt_of_le hlt hb.size, fun j hj => (hb.cell (p := ⟨b, off + j, none⟩) hlt).trans (hcell j hj)⟩
theorem RdB.nil (w : World) : RdB w (.slice none 0 0) [] := ⟨by simp, none, 0, rfl, fun h => absurd rfl h⟩
theorem RdB.len {w : World} {v : Value} {ms : List Bool} (h : RdB w v ms) : ms.length ≤ 140737488351232 := h.1
theorem RdB.form {w : World} {v : Value} {ms : List Bool} (h : RdB w v ms) : ∃ a c, v = .slice a ms.length c ∧ ∀ k, k < ms.length → ∃ b off, a = some ⟨b, off, none⟩ ∧ w.cell? ⟨b, off + k, none⟩ = some (.bool (ms.getD k false)) := by
  obtain ⟨h1, a, c, rfl, h2⟩ := h
  refine ⟨a, c, rfl, fun k hk => ?_⟩
  obtain ⟨b, off, e, _, hcell⟩ := h2 (by intro e; subst e; simp at hk)
  exact ⟨b, off, e, hcell k hk⟩

/-- does the model make the literal true -/
def trv (ms : List Bool) (l : Int) : Bool := ms.getD (varOf l - 1).toNat false == decide (0 < l)
/-- .. a literal of the clause -/
def mkT (ms : List Bool) (c : List Int) : Bool := c.any (trv ms)
/-- .. each clause -/
def satT (ms : List Bool) (css : List (List Int)) : Bool := css.all (mkT ms)
/-- a literal of the model's variables: its place -/
theorem trv_pos {ms : List Bool} {l : Int} (hf : fmd l = true) (hv : varOf l ≤ ms.length) (hs : 0 < l) : ∃ j : Nat, j < ms.length ∧ l = (j : Int) + 1 ∧ varOf l = (j : Int) + 1 ∧ trv ms l = ms.getD j false := by
  obtain ⟨_, e⟩ := there_pos hf hs
  refine ⟨(l - 1).toNat, by omega, by omega, by omega, ?_⟩
  unfold trv; rw [e]; simp [hs]
theorem trv_neg {ms : List Bool} {l : Int} (hf : fmd l = true) (hv : varOf l ≤ ms.length) (hs : l < 0) : ∃ j : Nat, j < ms.length ∧ l = -((j : Int) + 1) ∧ varOf l = (j : Int) + 1 ∧ trv ms l = !ms.getD j false := by
  obtain ⟨_, e⟩ := there_neg hf hs
  refine ⟨(-l - 1).toNat, by omega, by omega, by omega, ?_⟩
  unfold trv; rw [e, show decide (0 < l) = false from decide_eq_false (by omega)]
  cases ms.getD (-l - 1).toNat false <;> rfl
theorem fits_at {n : Int} {zs : List Int} {k : Nat} (h : fitsP n zs = true) (hk : k < zs.length) : fmd (zs.getD k 0) = true ∧ varOf (zs.getD k 0) ≤ n := by
  have := List.all_eq_true.1 h _ (getD_mem' (d := 0) hk)
  simpa using this

set_option maxHeartbeats 3200000 in
theorem makesTrue_any (vm v : Value) (ms : List Bool) (zs : List Int) (w : World) (hm : RdB w vm ms) (hr : Rd w v zs) (hfit : fitsP ms.length zs = true) :
    Calls Tryz.prog 37 #[vm, v] w fun e w' => e = .returned (.bool (mkT ms zs)) ∧ w' = w := by
  have hl := hr.len
  have hlm := hm.len
  obtain ⟨a, c, rfl, hc, hmx, hcell⟩ := hr.form
  obtain ⟨am, cm, rfl, hcm⟩ := hm.form
  have HC : Hid (∀ k, k < zs.length → ∃ b off, a = some ⟨b, off, none⟩ ∧ w.cell? ⟨b, off + k, none⟩ = some (.int .i64 (zs.getD k 0))) := hcell
  have HM : Hid (∀ k, k < ms.length → ∃ b off, am = some ⟨b, off, none⟩ ∧ w.cell? ⟨b, off + k, none⟩ = some (.bool (ms.getD k false))) := hcm
  have HF : Hid (fitsP ms.length zs = true) := hfit
  clear hcell hr hcm hm hfit
  go_enter Tryz.func37, Tryz.ntmps37
  go_wp2
  go_loopg [9] zs.length (fun g i wr => ∃ k : Nat, k + g = zs.length ∧ i = .int .i64 k ∧ mkT ms (zs.take k) = false ∧ wr = w)
  case atStart => exact ⟨0, by omega, rfl, by simp [mkT], rfl⟩
  case round =>
    obtain ⟨k, hk, rfl, hall, rfl⟩ := hrel
    have HA : Hid (mkT ms (zs.take k) = false) := hall
    have HK : Hid (k + gk = zs.length) := hk
    clear hall
    by_cases hlt : k < zs.length
    · obtain ⟨b, off, rfl, hck⟩ := HC.out k hlt
      obtain ⟨hfm, hvn⟩ := fits_at HF.out hlt
      have HS : Hid (mkT ms (zs.take (k + 1)) = (mkT ms (zs.take k) || trv ms (zs.getD k 0))) := any_take_getD _ zs 0 k hlt
      have HE : Hid (trv ms (zs.getD k 0) = true → mkT ms zs = true) := fun h => any_true_getD hlt h
      clear hk HF
      generalize zs.getD k 0 = z at *
      obtain ⟨hz0, hz1, hz2⟩ := fmd_range hfm
      rcases Int.lt_or_gt_of_ne hz0 with hs | hs
      · obtain ⟨j, hj, ez, ev, et⟩ := trv_neg hfm hvn hs
        obtain ⟨bm, om, rfl, hcj⟩ := HM.out j hj
        have HT : Hid (trv ms z = !ms.getD j false) := et
        have HV : Hid (varOf z = (j : Int) + 1) := ev
        clear ez ev et hvn
        generalize ms.getD j false = q at *
        have hd : decide (0 < z) = false := decide_eq_false (by omega)
        cases q
        · go_wp2_with (go_at_call 14; refine (var_any _ _).mono ?_; rw [HV.out]; rintro e w' ⟨rfl, rfl⟩)
          go_ret
          exact ⟨ret_bool (HE.out (by rw [HT.out]; rfl)).symm, rfl⟩
        · go_wp2_with (go_at_call 14; refine (var_any _ _).mono ?_; rw [HV.out]; rintro e w' ⟨rfl, rfl⟩)
          go_roundg (gk - 1)
          case measure => have := HK.out; omega
          case rel => exact ⟨k + 1, by have := HK.out; omega, by go_num, by rw [HS.out, HA.out, HT.out]; rfl, rfl⟩
      · obtain ⟨j, hj, ez, ev, et⟩ := trv_pos hfm hvn hs
        obtain ⟨bm, om, rfl, hcj⟩ := HM.out j hj
        have HT : Hid (trv ms z = ms.getD j false) := et
        have HV : Hid (varOf z = (j : Int) + 1) := ev
        clear ez ev et hvn
        generalize ms.getD j false = q at *
        have hd : decide (0 < z) = true := decide_eq_true (by omega)
        cases q
        · go_wp2_with (go_at_call 14; refine (var_any _ _).mono ?_; rw [HV.out]; rintro e w' ⟨rfl, rfl⟩)
          go_roundg (gk - 1)
          case measure => have := HK.out; omega
          case rel => exact ⟨k + 1, by have := HK.out; omega, by go_num, by rw [HS.out, HA.out, HT.out]; rfl, rfl⟩
        · go_wp2_with (go_at_call 14; refine (var_any _ _).mono ?_; rw [HV.out]; rintro e w' ⟨rfl, rfl⟩)
          go_ret
          exact ⟨ret_bool (HE.out (by rw [HT.out])).symm, rfl⟩
    · obtain rfl : k = zs.length := by omega
      have HE : Hid (mkT ms zs = false) := by have := HA.out; rw [List.take_length] at this; exact this
      clear hk
      go_wp2
      go_ret
      exact ⟨ret_bool HE.out.symm, rfl⟩

end Go.Proofs.YtnkmkbailifdoaaGreatDoor
set_option linter.unusedSimpArgs false
set_option linter.unusedVariables false
namespace Go.Proofs.YtnkmkbailifdoaaGreatDoor
open Go.RowKit

/-- the model behind this one, and whether there is one -/
def inc : List Bool → List Bool × Bool
  | [] => ([], false)
  | false :: r => (true :: r, true)
  | true :: r => (false :: (inc r).1, (inc r).2)
/-- the j-th model of n variables -/
def bt : Nat → Nat → List Bool
  | 0, _ => []
  | n + 1, j => (j % 2 == 1) :: bt n (j / 2)
theorem bt_len : ∀ n j, (bt n j).length = n
  | 0, _ => rfl
  | n + 1, j => by simp [bt, bt_len n]
theorem bt_zero : ∀ n, bt n 0 = List.replicate n false
  | 0 => rfl
  | n + 1 => by simp [bt, bt_zero n, List.replicate_succ]
theorem inc_len : ∀ l : List Bool, (inc l).1.length = l.length
  | [] => rfl
  | false :: r => rfl
  | true :: r => by simp [inc, inc_len r]
theorem inc_bt : ∀ n j, j < 2 ^ n → inc (bt n j) = (if j + 1 < 2 ^ n then bt n (j + 1) else bt n 0, decide (j + 1 < 2 ^ n))
  | 0, j, h => by
    have : j = 0 := by simpa using h
    subst this; rfl
  | n + 1, j, h => by
    have hp : 2 ^ (n + 1) = 2 * 2 ^ n := by rw [Nat.pow_succ]; omega
    rw [hp] at h ⊢
    rcases (show j % 2 = 0 ∨ j % 2 = 1 by omega) with e | e
    · have e1 : (j + 1) % 2 = 1 := by omega
      have e2 : (j + 1) / 2 = j / 2 := by omega
      have hlt : j + 1 < 2 * 2 ^ n := by omega
      simp only [bt, e, e1, e2, hlt, if_true, decide_true]
      rfl
    · have e1 : (j + 1) % 2 = 0 := by omega
      have e2 : (j + 1) / 2 = j / 2 + 1 := by omega
      have ih := inc_bt n (j / 2) (by omega)
      have hd : bt (n + 1) j = true :: bt n (j / 2) := by simp [bt, e]
      rw [hd]
      show (false :: (inc (bt n (j / 2))).1, (inc (bt n (j / 2))).2) = _
      rw [ih]
      by_cases hlt : j / 2 + 1 < 2 ^ n
      · have h2 : j + 1 < 2 * 2 ^ n := by omega
        simp [hlt, h2, bt, e1, e2]
      · have h2 : ¬ j + 1 < 2 * 2 ^ n := by omega
        simp [hlt, h2, bt]
/-- a carry through k places -/
theorem inc_carry : ∀ (k : Nat) (r : List Bool), inc (List.replicate k true ++ false :: r) = (List.replicate k false ++ true :: r, true)
  | 0, r => rfl
  | k + 1, r => by simp [List.replicate_succ, inc, inc_carry k r]
theorem inc_full : ∀ k : Nat, inc (List.replicate k true) = (List.replicate k false, false)
  | 0 => rfl
  | k + 1 => by simp [List.replicate_succ, inc, inc_full k]
/-- each list of n truths is one of them -/
def num : List Bool → Nat
  | [] => 0
  | b :: r => (if b then 1 else 0) + 2 * num r
theorem num_lt : ∀ l : List Bool, num l < 2 ^ l.length
  | [] => by simp [num]
  | b :: r => by
    have := num_lt r
    rw [List.length_cons, Nat.pow_succ]
    cases b <;> simp [num] <;> omega
theorem bt_num : ∀ l : List Bool, bt l.length (num l) = l
  | [] => rfl
  | b :: r => by
    have ih := bt_num r
    cases b
    · have e1 : (0 + 2 * num r) % 2 = 0 := by omega
      have e2 : (0 + 2 * num r) / 2 = num r := by omega
      simp only [List.length_cons, num, bt, Bool.false_eq_true, if_false, e1, e2, ih]; rfl
    · have e1 : (1 + 2 * num r) % 2 = 1 := by omega
      have e2 : (1 + 2 * num r) / 2 = num r := by omega
      simp only [List.length_cons, num, bt, if_true, e1, e2, ih]; rfl
theorem num_bt : ∀ n j, j < 2 ^ n → num (bt n j) = j
  | 0, j, h => by
    have : j = 0 := by simpa using h
    subst this; rfl
  | n + 1, j, h => by
    have hp : 2 ^ (n + 1) = 2 * 2 ^ n := by rw [Nat.pow_succ]; omega
    have ih := num_bt n (j / 2) (by omega)
    simp only [bt, num, ih]
    by_cases e : j % 2 = 1
    · simp [e]; omega
    · simp [e]; omega
/-- the models that satisfy, in the order of counting -/
def modsTo (n : Nat) (css : List (List Int)) (k : Nat) : List (List Bool) := ((List.range k).map (bt n)).filter (fun m => satT m css)
def mods (n : Nat) (css : List (List Int)) : List (List Bool) := modsTo n css (2 ^ n)
theorem modsTo_succ (n : Nat) (css : List (List Int)) (k : Nat) : modsTo n css (k + 1) = modsTo n css k ++ (if satT (bt n k) css then [bt n k] else []) := by
  unfold modsTo
  rw [List.range_succ, List.map_append, List.filter_append]
  simp only [List.map_cons, List.map_nil, List.filter_cons, List.filter_nil]
theorem mem_mods {n : Nat} {css : List (List Int)} {m : List Bool} : m ∈ mods n css ↔ m.length = n ∧ satT m css = true := by
  unfold mods modsTo
  rw [List.mem_filter, List.mem_map]
  constructor
  · rintro ⟨⟨j, _, rfl⟩, h⟩; exact ⟨bt_len n j, h⟩
  · rintro ⟨rfl, h⟩; exact ⟨⟨num m, List.mem_range.2 (num_lt m), bt_num m⟩, h⟩

end Go.Proofs.YtnkmkbailifdoaaGreatDoor
set_option linter.unusedSimpArgs false
set_option linter.unusedVariables false
namespace Go.Proofs.YtnkmkbailifdoaaGreatDoor
open Go.RowKit

/-- so many truths as the formula has variables -/
def mdl (n : Int) (css : List (List Int)) (ms : List Bool) : Bool := frm n css && ((ms.length : Int) == n)
theorem mdl_fits {n : Int} {css : List (List Int)} {ms : List Bool} (h : mdl n css ms = true) {k : Nat} (hk : k < css.length) : fitsP ms.length (css.getD k []) = true := by
  unfold mdl frm at h
  simp only [Bool.and_eq_true, beq_iff_eq] at h
  have := List.all_eq_true.1 h.1.2 _ (getD_mem' (d := []) hk)
  rw [h.2]; exact this

set_option maxHeartbeats 3200000 in
theorem satisfies_any (n : Int) (s vm : Value) (css : List (List Int)) (ms : List Bool) (w : World) (hr : Rds w s css) (hm : RdB w vm ms) (hd : mdl n css ms = true) :
    Calls Tryz.prog 26 #[.agg #[.int .i64 n, s], vm] w fun e w' => e = .returned (.bool (satT ms css)) ∧ Below w.heap.size w w' := by
  have hl := hr.len
  have HX : Hid (Bx w n s css (w.alloc (.cells #[.int .i64 n, s] 24))) := Bx.new hr _
  have HM : Hid (RdB (w.alloc (.cells #[.int .i64 n, s] 24)) vm ms) := hm.below (below_box _ _)
  have HD : Hid (mdl n css ms = true) := hd
  obtain ⟨a, c, rfl, hc, hmx, _⟩ := hr.form
  clear hr hm hd
  go_enter Tryz.func26, Tryz.ntmps26
  go_wp2
  generalize w.alloc (.cells #[.int .i64 n, .slice a css.length c] 24) = W0 at *
  go_loopg [10] css.length (fun g i wr => ∃ k : Nat, k + g = css.length ∧ i = .int .i64 k ∧ satT ms (css.take k) = true ∧ wr = W0)
  case atStart => exact ⟨0, by omega, rfl, by simp [satT], rfl⟩
  case round =>
    obtain ⟨k, hk, rfl, hall, rfl⟩ := hrel
    have HA : Hid (satT ms (css.take k) = true) := hall
    have HK : Hid (k + gk = css.length) := hk
    clear hall
    by_cases hlt : k < css.length
    · obtain ⟨b, off, u, rfl, hck, hu0⟩ := HX.out.at hlt
      have HU : Hid (Rd wr u (css.getD k [])) := hu0
      have HG : Hid (fitsP ms.length (css.getD k []) = true) := mdl_fits HD.out hlt
      have HS : Hid (satT ms (css.take (k + 1)) = (satT ms (css.take k) && mkT ms (css.getD k []))) := all_take_getD _ css [] k hlt
      have HF : Hid (mkT ms (css.getD k []) = false → satT ms css = false) := fun h => all_false_getD hlt h
      obtain ⟨_, ua, uc, hu, _⟩ := hu0
      clear hk
      generalize css.getD k [] = z at *
      subst hu
      cases hf : mkT ms z
      · go_wp2_with (go_at_call 37; refine (makesTrue_any _ _ ms z _ HM.out HU.out HG.out).mono ?_; rw [hf]; rintro e w' ⟨rfl, rfl⟩)
        go_ret
        exact ⟨ret_bool (HF.out hf).symm, HX.out.bel⟩
      · go_wp2_with (go_at_call 37; refine (makesTrue_any _ _ ms z _ HM.out HU.out HG.out).mono ?_; rw [hf]; rintro e w' ⟨rfl, rfl⟩)
        go_roundg (gk - 1)
        case measure => have := HK.out; omega
        case rel => exact ⟨k + 1, by have := HK.out; omega, by go_num, by rw [HS.out, HA.out, hf]; rfl, rfl⟩
    · obtain rfl : k = css.length := by omega
      have HE : Hid (satT ms css = true) := by have := HA.out; rw [List.take_length] at this; exact this
      clear hk
      go_wp2
      go_ret
      exact ⟨ret_bool HE.out.symm, HX.out.bel⟩

end Go.Proofs.YtnkmkbailifdoaaGreatDoor

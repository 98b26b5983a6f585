/-
  The statements' own helpers, walked: within, same, sound, truth, holds.
-/
import Derived.Test.YthplkllphpnaoabRefB
import Derived.ProofKit
import Derived.SizedLaws
set_option linter.unusedSimpArgs false
set_option linter.unusedVariables false
namespace Go.Proofs.Ythplkllphpnaoab
open Go.RowKit Go.ChangeShapes

theorem within_any (v : Value) (zs : List Int) (l : Int) (w : World) (hr : Rd w v zs) :
    Calls Try.prog 17 #[v, .int .i64 l] w fun e w' => e = .returned (.bool (zs.contains l)) ∧ w' = w := by
  have hl := hr.len
  rcases hr.cases with ⟨rfl, a, c, rfl, _, _⟩ | ⟨b, off, c, rfl, hpos, hc, hm, hb, hcell⟩
  · go_enter Try.func17, Try.ntmps17
    go_wp2
    refine wp_loop_rounds 1 ?_
    rw [rounds_succ]
    go_wp2
    go_ret
    exact ⟨rfl, rfl⟩
  · have HC : Hid (∀ j, j < zs.length → w.cell? ⟨b, off + j, none⟩ = some (.int .i64 (zs.getD j 0))) := hcell
    clear hcell hr
    go_enter Try.func17, Try.ntmps17
    go_wp2
    go_loopg [5] zs.length (fun g i wr => ∃ k : Nat, k + g = zs.length ∧ i = .int .i64 k ∧ (zs.take k).contains l = false ∧ wr = w)
    case atStart => exact ⟨0, by omega, rfl, by simp, rfl⟩
    case round =>
      obtain ⟨k, hk, rfl, hall, rfl⟩ := hrel
      have HA : Hid ((zs.take k).contains l = false) := hall
      have HK : Hid (k + gk = zs.length) := hk
      clear hall
      by_cases hlt : k < zs.length
      · have hck := HC.out k hlt
        have HS : Hid ((zs.take (k + 1)).contains l = ((zs.take k).contains l || (zs.getD k 0 == l))) := contains_take_succ zs l k hlt
        cases hf : (zs.getD k 0 == l)
        · clear hk
          generalize zs.getD k 0 = z at *
          go_wp2
          go_roundg (gk - 1)
          case measure => have := HK.out; omega
          case rel => exact ⟨k + 1, by have := HK.out; omega, by go_num, by rw [HS.out, HA.out, hf]; rfl, rfl⟩
        · have HF : Hid (zs.contains l = true) := contains_true_of hlt hf
          clear hk
          generalize zs.getD k 0 = z at *
          go_wp2
          go_ret
          exact ⟨ret_bool HF.out.symm, rfl⟩
      · obtain rfl : k = zs.length := by omega
        have HE : Hid (zs.contains l = false) := by have := HA.out; rw [List.take_length] at this; exact this
        clear hk
        go_wp2
        go_ret
        exact ⟨ret_bool HE.out.symm, rfl⟩

theorem same01_any (va vb : Value) (a b : List Int) (w : World) (ha : Rd w va a) (hb : Rd w vb b) :
    Calls Try.prog 18 #[va, vb] w fun e w' => e = .returned (.bool (a == b)) ∧ Below w.heap.size w w' := by
  have hla := ha.len
  have hlb := hb.len
  by_cases hne : a.length = b.length
  · rcases ha.cases with ⟨rfl, aa, ca, rfl, _, _⟩ | ⟨ba, oa, ca, rfl, pa, hca, hma, hba, cela⟩
    · obtain rfl : b = [] := List.length_eq_zero_iff.1 hne.symm
      obtain ⟨_, ab, cb, rfl, _⟩ := hb
      go_enter Try.func18, Try.ntmps18
      go_wp2
      refine wp_loop_rounds 1 ?_
      rw [rounds_succ]
      go_wp2
      go_ret
      exact ⟨rfl, Below.refl _ _⟩
    · rcases hb.cases with ⟨rfl, ab, cb, rfl, _, _⟩ | ⟨bb, ob, cb, rfl, pb, hcb, hmb, hbb, celb⟩
      · exfalso; rw [List.length_nil] at hne; omega
      · have HCA : Hid (∀ j, j < a.length → w.cell? ⟨ba, oa + j, none⟩ = some (.int .i64 (a.getD j 0))) := cela
        have HCB : Hid (∀ j, j < b.length → w.cell? ⟨bb, ob + j, none⟩ = some (.int .i64 (b.getD j 0))) := celb
        have HN : Hid (a.length = b.length) := hne
        clear cela celb ha hb
        have hnb : ((a.length : Int) == (b.length : Int)) = true := beq_iff_eq.2 (by omega)
        have hnb' : ((a.length : Int) != (b.length : Int)) = false := by simp [hne]
        clear hne
        go_enter Try.func18, Try.ntmps18
        go_wp2
        go_loopg [5] a.length (fun g i wr => ∃ k : Nat, k + g = a.length ∧ i = .int .i64 k ∧ a.take k = b.take k ∧ Below w.heap.size w wr)
        case atStart => exact ⟨0, by omega, rfl, by simp, Below.refl _ _⟩
        case round =>
          obtain ⟨k, hk, rfl, hall, bel⟩ := hrel
          have HA : Hid (a.take k = b.take k) := hall
          have HK : Hid (k + gk = a.length) := hk
          clear hall
          by_cases hlt : k < a.length
          · have hlt2 : k < b.length := by have := HN.out; omega
            have hca' : wr.cell? ⟨ba, oa + k, none⟩ = some (.int .i64 (a.getD k 0)) := cell_in hba bel HCA.out hlt
            have hcb' : wr.cell? ⟨bb, ob + k, none⟩ = some (.int .i64 (b.getD k 0)) := cell_in hbb bel HCB.out hlt2
            clear hk
            by_cases he : a.getD k 0 = b.getD k 0
            · have HT : Hid (a.take (k + 1) = b.take (k + 1)) := take_eq_succ hlt hlt2 HA.out he
              rw [← he] at hcb'
              clear he
              generalize a.getD k 0 = x at *
              go_wp2
              go_quiet (fail)
              go_wp2
              go_roundg (gk - 1)
              case measure => have := HK.out; omega
              case rel => exact ⟨k + 1, by have := HK.out; omega, by go_num, HT.out, bel.trans ((below_drewN _ _).mono bel.size)⟩
            · have HT : Hid ((a == b) = false) := beq_false_at he
              have hx : (a.getD k 0 == b.getD k 0) = false := beq_eq_false_iff_ne.2 he
              have hx' : (a.getD k 0 != b.getD k 0) = true := by rw [bne_iff_ne]; exact he
              clear he
              generalize a.getD k 0 = x at *
              generalize b.getD k 0 = y at *
              go_wp2
              go_quiet (fail)
              go_wp2
              go_ret
              exact ⟨ret_bool HT.out.symm, bel.trans ((below_drewN _ _).mono bel.size)⟩
          · obtain rfl : k = a.length := by omega
            have HE : Hid ((a == b) = true) := by have := HA.out; rw [List.take_length, HN.out, List.take_length] at this; exact beq_iff_eq.2 this
            clear hk
            go_wp2
            go_ret
            exact ⟨ret_bool HE.out.symm, bel⟩
  · have HF : Hid ((a == b) = false) := beq_false_len hne
    obtain ⟨_, aa, ca, rfl, _⟩ := ha
    obtain ⟨_, ab, cb, rfl, _⟩ := hb
    have hnb : ((a.length : Int) == (b.length : Int)) = false := beq_eq_false_iff_ne.2 (by omega)
    have hnb' : ((a.length : Int) != (b.length : Int)) = true := by rw [bne_iff_ne]; omega
    clear hne
    go_enter Try.func18, Try.ntmps18
    go_wp2
    go_ret
    exact ⟨ret_bool HF.out.symm, Below.refl _ _⟩

theorem sound01_any (v : Value) (zs : List Int) (w : World) (hr : Rd w v zs) :
    Calls Try.prog 19 #[v] w fun e w' => e = .returned (.bool (zs.all fmd)) ∧ w' = w := by
  have hl := hr.len
  rcases hr.cases with ⟨rfl, a, c, rfl, _, _⟩ | ⟨b, off, c, rfl, hpos, hc, hm, hb, hcell⟩
  · go_enter Try.func19, Try.ntmps19
    go_wp2
    refine wp_loop_rounds 1 ?_
    rw [rounds_succ]
    go_wp2
    go_ret
    exact ⟨rfl, rfl⟩
  · have HC : Hid (∀ j, j < zs.length → w.cell? ⟨b, off + j, none⟩ = some (.int .i64 (zs.getD j 0))) := hcell
    clear hcell hr
    go_enter Try.func19, Try.ntmps19
    go_wp2
    go_loopg [3] zs.length (fun g i wr => ∃ k : Nat, k + g = zs.length ∧ i = .int .i64 k ∧ (zs.take k).all fmd = true ∧ wr = w)
    case atStart => exact ⟨0, by omega, rfl, by simp, rfl⟩
    case round =>
      obtain ⟨k, hk, rfl, hall, rfl⟩ := hrel
      have HA : Hid ((zs.take k).all fmd = true) := hall
      have HK : Hid (k + gk = zs.length) := hk
      clear hall
      by_cases hlt : k < zs.length
      · have hck := HC.out k hlt
        have HS : Hid ((zs.take (k + 1)).all fmd = ((zs.take k).all fmd && fmd (zs.getD k 0))) := all_take_succ zs k hlt
        cases hf : fmd (zs.getD k 0)
        · have HF : Hid (zs.all fmd = false) := all_false_of hlt hf
          clear hk
          generalize zs.getD k 0 = z at *
          have hz : z = 0 ∨ z < -1048576 ∨ 1048576 < z := by rcases fmd_cases z with ⟨h, _⟩ | ⟨_, h⟩; rw [hf] at h; cases h; exact h
          rcases hz with hz | hz | hz
          · have b1 : (z == 0) = true := beq_iff_eq.2 hz
            clear hz
            go_wp2
            go_ret
            exact ⟨ret_bool HF.out.symm, rfl⟩
          · have b1 : (z == 0) = false := beq_eq_false_iff_ne.2 (by omega)
            go_wp2
            go_ret
            exact ⟨ret_bool HF.out.symm, rfl⟩
          · have b1 : (z == 0) = false := beq_eq_false_iff_ne.2 (by omega)
            have b2 : decide (z < -1048576) = false := decide_eq_false (by omega)
            go_wp2
            go_ret
            exact ⟨ret_bool HF.out.symm, rfl⟩
        · clear hk
          generalize zs.getD k 0 = z at *
          obtain ⟨z0, z1, z2⟩ := fmd_range hf
          have b1 : (z == 0) = false := beq_eq_false_iff_ne.2 z0
          have b2 : decide (z < -1048576) = false := decide_eq_false (by omega)
          have b3 : decide (1048576 < z) = false := decide_eq_false (by omega)
          go_wp2
          go_roundg (gk - 1)
          case measure => have := HK.out; omega
          case rel => exact ⟨k + 1, by have := HK.out; omega, by go_num, by rw [HS.out, HA.out, hf]; rfl, rfl⟩
      · obtain rfl : k = zs.length := by omega
        have HE : Hid (zs.all fmd = true) := by have := HA.out; rw [List.take_length] at this; exact this
        clear hk
        go_wp2
        go_ret
        exact ⟨ret_bool HE.out.symm, rfl⟩

/-- the slice reads these truths -/
def RdB (w : World) (v : Value) (ms : List Bool) : Prop :=
  ms.length ≤ 140737488351232 ∧ ∃ a c, v = .slice a ms.length c ∧ (ms ≠ [] → ∃ b off, a = some ⟨b, off, none⟩ ∧ b < w.heap.size ∧ ∀ j, j < ms.length → w.cell? ⟨b, off + j, none⟩ = some (.bool (ms.getD j false)))
theorem RdB.below {w w' : World} {v : Value} {ms : List Bool} (h : RdB w v ms) (hb : Below w.heap.size w w') : RdB w' v ms := by
  obtain ⟨h1, a, c, rfl, h2⟩ := h
  refine ⟨h1, a, c, rfl, fun hne => ?_⟩
  obtain ⟨b, off, rfl, hlt, hcell⟩ := h2 hne
  exact ⟨b, off, rfl, Nat.lt_of_lt_of_le hlt hb.size, fun j hj => (hb.cell (p := ⟨b, off + j, none⟩) hlt).trans (hcell j hj)⟩
theorem RdB.nil (w : World) : RdB w (.slice none 0 0) [] := ⟨by simp, none, 0, rfl, fun h => absurd rfl h⟩

/-- does the literal hold -/
def tru (ms : List Bool) (l : Int) : Bool := if ms.length = 0 then decide (l < 0) else (ms.getD ((varOf l - 1).toNat % ms.length) false == decide (0 < l))

theorem truth_any (v : Value) (ms : List Bool) (l : Int) (w : World) (hr : RdB w v ms) (hf : fmd l = true) :
    Calls Try.prog 45 #[v, .int .i64 l] w fun e w' => e = .returned (.bool (tru ms l)) ∧ w' = w := by
  obtain ⟨hl, a, c, rfl, h2⟩ := hr
  obtain ⟨l0, l1, l2⟩ := fmd_range hf
  by_cases hm : ms = []
  · subst hm
    have HT : Hid (tru [] l = decide (l < 0)) := by simp [tru, Hid]
    by_cases hs : l < 0
    · go_enter Try.func45, Try.ntmps45
      go_wp2
      go_ret
      exact ⟨ret_bool (by rw [HT.out]; simp [hs]), rfl⟩
    · have hp : 0 < l := by omega
      go_enter Try.func45, Try.ntmps45
      go_wp2
      go_ret
      exact ⟨ret_bool (by rw [HT.out]; simp [hs]), rfl⟩
  · obtain ⟨b, off, rfl, hb, hcell⟩ := h2 hm
    have hpos : 0 < ms.length := List.length_pos_iff.2 hm
    have hmod : (varOf l - 1).toNat % ms.length < ms.length := Nat.mod_lt _ hpos
    have hck := hcell _ hmod
    have hn0 : ((ms.length : Int) == 0) = false := beq_eq_false_iff_ne.2 (by omega)
    have HT : Hid (tru ms l = (ms.getD ((varOf l - 1).toNat % ms.length) false == decide (0 < l))) := by
      show tru ms l = _
      unfold tru
      rw [if_neg (by omega)]
    clear hcell h2
    by_cases hs : l < 0
    · have hv : varOf l = -l := (there_neg hf hs).2
      rw [hv] at hck HT
      have e0 : 0 ≤ -l - 1 := by omega
      have e4 : 0 ≤ (-l - 1) % (ms.length : Int) := Int.emod_nonneg _ (by omega)
      have e3 : (-l - 1) % (ms.length : Int) < (ms.length : Int) := Int.emod_lt_of_pos _ (by omega)
      have e2 : ((-l - 1) % (ms.length : Int)).toNat = (-l - 1).toNat % ms.length := Int.toNat_emod e0 (by omega)
      rw [← e2] at hck HT
      have hd : decide (0 < l) = false := decide_eq_false (by omega)
      rw [hd] at HT
      generalize ms.getD ((-l - 1) % (ms.length : Int)).toNat false = q at *
      clear e2 hv hm hmod
      go_enter Try.func45, Try.ntmps45
      go_wp2
      go_ret
      exact ⟨ret_bool (by rw [HT.out]; cases q <;> simp), rfl⟩
    · have hp : 0 < l := by omega
      have hv : varOf l = l := (there_pos hf hp).2
      rw [hv] at hck HT
      have e0 : 0 ≤ l - 1 := by omega
      have e4 : 0 ≤ (l - 1) % (ms.length : Int) := Int.emod_nonneg _ (by omega)
      have e3 : (l - 1) % (ms.length : Int) < (ms.length : Int) := Int.emod_lt_of_pos _ (by omega)
      have e2 : ((l - 1) % (ms.length : Int)).toNat = (l - 1).toNat % ms.length := Int.toNat_emod e0 (by omega)
      rw [← e2] at hck HT
      have hd : decide (0 < l) = true := decide_eq_true hp
      rw [hd] at HT
      generalize ms.getD ((l - 1) % (ms.length : Int)).toNat false = q at *
      clear e2 hv hm hmod
      go_enter Try.func45, Try.ntmps45
      go_wp2
      go_ret
      exact ⟨ret_bool (by rw [HT.out]; cases q <;> simp), rfl⟩

/-- does one of the clause's literals hold -/
def hol (ms : List Bool) (zs : List Int) : Bool := zs.any (tru ms)
theorem hol_take_succ (ms : List Bool) (zs : List Int) (k : Nat) (h : k < zs.length) : hol ms (zs.take (k + 1)) = (hol ms (zs.take k) || tru ms (zs.getD k 0)) := by
  unfold hol
  rw [List.take_succ_eq_append_getElem h, List.any_append]
  simp [List.getD_eq_getElem?_getD, List.getElem?_eq_getElem h]
theorem hol_true_of {ms : List Bool} {zs : List Int} {k : Nat} (h : k < zs.length) (hf : tru ms (zs.getD k 0) = true) : hol ms zs = true := by
  unfold hol
  rw [List.any_eq_true]
  refine ⟨zs[k], List.getElem_mem h, ?_⟩
  simpa [List.getD_eq_getElem?_getD, List.getElem?_eq_getElem h] using hf

theorem holds01_any (vm v : Value) (ms : List Bool) (zs : List Int) (w : World) (hm : RdB w vm ms) (hr : Rd w v zs) (hf : ∀ x ∈ zs, fmd x = true) :
    Calls Try.prog 21 #[vm, v] w fun e w' => e = .returned (.bool (hol ms zs)) ∧ w' = w := by
  have hl := hr.len
  have HM : Hid (RdB w vm ms) := hm
  have HF : Hid (∀ x ∈ zs, fmd x = true) := hf
  clear hm hf
  rcases hr.cases with ⟨rfl, a, c, rfl, _, _⟩ | ⟨b, off, c, rfl, hpos, hc, hm, hb, hcell⟩
  · go_enter Try.func21, Try.ntmps21
    go_wp2
    refine wp_loop_rounds 1 ?_
    rw [rounds_succ]
    go_wp2
    go_ret
    exact ⟨rfl, rfl⟩
  · have HC : Hid (∀ j, j < zs.length → w.cell? ⟨b, off + j, none⟩ = some (.int .i64 (zs.getD j 0))) := hcell
    clear hcell hr
    go_enter Try.func21, Try.ntmps21
    go_wp2
    go_loopg [5] zs.length (fun g i wr => ∃ k : Nat, k + g = zs.length ∧ i = .int .i64 k ∧ hol ms (zs.take k) = false ∧ wr = w)
    case atStart => exact ⟨0, by omega, rfl, by simp [hol], rfl⟩
    case round =>
      obtain ⟨k, hk, rfl, hall, rfl⟩ := hrel
      have HA : Hid (hol ms (zs.take k) = false) := hall
      have HK : Hid (k + gk = zs.length) := hk
      clear hall
      by_cases hlt : k < zs.length
      · have hck := HC.out k hlt
        have HS : Hid (hol ms (zs.take (k + 1)) = (hol ms (zs.take k) || tru ms (zs.getD k 0))) := hol_take_succ ms zs k hlt
        have hfk : fmd (zs.getD k 0) = true := HF.out _ (by rw [List.getD_eq_getElem?_getD, List.getElem?_eq_getElem hlt]; exact List.getElem_mem hlt)
        have HT : Hid (Calls Try.prog 45 #[vm, .int .i64 (zs.getD k 0)] wr fun e w' => e = .returned (.bool (tru ms (zs.getD k 0))) ∧ w' = wr) := truth_any vm ms _ wr HM.out hfk
        have HTT : Hid (tru ms (zs.getD k 0) = true → hol ms zs = true) := fun h => hol_true_of hlt h
        clear hfk hk
        generalize tru ms (zs.getD k 0) = q at *
        generalize zs.getD k 0 = z at *
        cases q
        · go_wp2_with fail
          refine HT.out.mono ?_
          rintro e wx ⟨rfl, hwx⟩
          rw [hwx]
          clear hwx wx
          go_wp2
          go_roundg (gk - 1)
          case measure => have := HK.out; omega
          case rel => exact ⟨k + 1, by have := HK.out; omega, by go_num, by rw [HS.out, HA.out]; rfl, rfl⟩
        · go_wp2_with fail
          refine HT.out.mono ?_
          rintro e wx ⟨rfl, hwx⟩
          rw [hwx]
          clear hwx wx
          go_wp2
          go_ret
          exact ⟨ret_bool (HTT.out (by simp)).symm, rfl⟩
      · obtain rfl : k = zs.length := by omega
        have HE : Hid (hol ms zs = false) := by have := HA.out; rw [List.take_length] at this; exact this
        clear hk
        go_wp2
        go_ret
        exact ⟨ret_bool HE.out.symm, rfl⟩

end Go.Proofs.Ythplkllphpnaoab

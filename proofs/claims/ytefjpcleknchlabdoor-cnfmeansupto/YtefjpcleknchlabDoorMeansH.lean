/-
  CnfMeans: what it asks of the model and of the small formula, walked.
-/
import Derived.Test.YtefjpcleknchlabDoorMeansP
import Derived.Test.YtefjpcleknchlabDoorSmall
import Derived.Deep.RegionWith
set_option linter.unusedSimpArgs false
set_option linter.unusedVariables false
namespace Go.Proofs.YtefjpcleknchlabDoor
open Go.RowKit

theorem rdb_two (w : World) (x y : Bool) (t : TypeId) : RdB (w.alloc (.cells #[.bool x, .bool y] t)) (.slice (some ⟨w.heap.size, 0, none⟩) 2 2) [x, y] := by
  refine ⟨by simp, some ⟨w.heap.size, 0, none⟩, 2, rfl, fun _ => ⟨w.heap.size, 0, rfl, by simp, fun j hj => ?_⟩⟩
  match j, hj with
  | 0, _ => exact box0 _ _ _ _
  | 1, _ => exact box1 _ _ _ _
theorem small_ft : (mdl 2 smallF [false, true] && satT [false, true] smallF) = true := by decide
theorem small_tt : (mdl 2 smallF [true, true] && satT [true, true] smallF) = false := by decide
theorem small_ff : (mdl 2 smallF [false, false] && satT [false, false] smallF) = false := by decide
theorem small_frm : frm 2 smallF = true := by decide

/-- of a literal: is it one of the model's variables, and made true -/
def hl1 (ms : List Bool) (l : Int) : Bool := decide (l ≠ 0 ∧ l ≤ ms.length ∧ -l ≤ ms.length) && trv ms l
theorem hl1_out {ms : List Bool} {l : Int} (h : l = 0 ∨ (ms.length : Int) < l ∨ l < -(ms.length : Int)) : hl1 ms l = false := by
  unfold hl1
  rw [decide_eq_false (by omega)]; rfl
theorem hl1_pos {ms : List Bool} {l : Int} (hn : ms.length ≤ 1048576) (h0 : 0 < l) (h1 : l ≤ ms.length) : ∃ j : Nat, j < ms.length ∧ l = (j : Int) + 1 ∧ hl1 ms l = ms.getD j false := by
  have hf : fmd l = true := fmd_true (by omega) (by omega) (by omega)
  obtain ⟨j, hj, e1, _, e2⟩ := trv_pos hf (by rw [(there_pos hf h0).2]; exact h1) h0
  refine ⟨j, hj, e1, ?_⟩
  unfold hl1
  rw [decide_eq_true (by omega), e2]; rfl
theorem hl1_neg {ms : List Bool} {l : Int} (hn : ms.length ≤ 1048576) (h0 : l < 0) (h1 : -l ≤ ms.length) : ∃ j : Nat, j < ms.length ∧ l = -((j : Int) + 1) ∧ hl1 ms l = !ms.getD j false := by
  have hf : fmd l = true := fmd_true (by omega) (by omega) (by omega)
  obtain ⟨j, hj, e1, _, e2⟩ := trv_neg hf (by rw [(there_neg hf h0).2]; exact h1) h0
  refine ⟨j, hj, e1, ?_⟩
  unfold hl1
  rw [decide_eq_true (by omega), e2]; rfl

set_option maxHeartbeats 6400000 in
theorem holds_any (v vm : Value) (zs : List Int) (ms : List Bool) (w : World) (hr : Rd w v zs) (hm : RdB w vm ms) (hn : ms.length ≤ 1048576) :
    Calls Tryd.prog 20 #[v, vm] w fun e w' => e = .returned (.bool (hld ms zs)) ∧ w' = w := by
  have hl := hr.len
  obtain ⟨a, c, rfl, hc, hmx, hcell⟩ := hr.form
  obtain ⟨am, cm, rfl, hcm⟩ := hm.form
  have HC : Hid (∀ k, k < zs.length → ∃ b off, a = some ⟨b, off, none⟩ ∧ w.cell? ⟨b, off + k, none⟩ = some (.int .i64 (zs.getD k 0))) := hcell
  have HM : Hid (∀ k, k < ms.length → ∃ b off, am = some ⟨b, off, none⟩ ∧ w.cell? ⟨b, off + k, none⟩ = some (.bool (ms.getD k false))) := hcm
  clear hcell hr hcm hm
  go_enter Tryd.func20, Tryd.ntmps20
  go_wp2
  go_loopg [5] zs.length (fun g i wr => ∃ k : Nat, k + g = zs.length ∧ i = .int .i64 k ∧ hld ms (zs.take k) = true ∧ wr = w)
  case atStart => exact ⟨0, by omega, rfl, by simp [hld], rfl⟩
  case round =>
    obtain ⟨k, hk, rfl, hall, rfl⟩ := hrel
    have HA : Hid (hld ms (zs.take k) = true) := hall
    have HK : Hid (k + gk = zs.length) := hk
    clear hall
    by_cases hlt : k < zs.length
    · obtain ⟨b, off, rfl, hck⟩ := HC.out k hlt
      have HS : Hid (hld ms (zs.take (k + 1)) = (hld ms (zs.take k) && hl1 ms (zs.getD k 0))) := all_take_getD _ zs 0 k hlt
      have HE : Hid (hl1 ms (zs.getD k 0) = false → hld ms zs = false) := fun h => all_false_getD (f := hl1 ms) hlt h
      clear hk
      generalize zs.getD k 0 = z at *
      generalize hN : (ms.length : Int) = N at *
      have hN0 : 0 ≤ N := by omega
      have hN1 : N ≤ 1048576 := by omega
      rcases (show z = 0 ∨ N < z ∨ z < -N ∨ (0 < z ∧ z ≤ N) ∨ (z < 0 ∧ -z ≤ N) by omega) with h | h | h | h | h
      · have HF := HE.out (hl1_out (.inl h))
        subst h
        go_wp2
        go_ret
        exact ⟨ret_bool HF.symm, rfl⟩
      · have HF : Hid (hld ms zs = false) := HE.out (hl1_out (.inr (.inl (by omega))))
        have d1 : decide (z = 0) = false := decide_eq_false (by omega)
        go_wp2
        go_ret
        exact ⟨ret_bool HF.out.symm, rfl⟩
      · have HF : Hid (hld ms zs = false) := HE.out (hl1_out (.inr (.inr (by omega))))
        have d1 : decide (z = 0) = false := decide_eq_false (by omega)
        have d2 : decide (N < z) = false := decide_eq_false (by omega)
        go_wp2
        go_ret
        exact ⟨ret_bool HF.out.symm, rfl⟩
      · obtain ⟨j, hj, ez, et⟩ := hl1_pos hn h.1 (by omega)
        obtain ⟨bm, om, rfl, hcj⟩ := HM.out j hj
        have HT : Hid (hl1 ms z = ms.getD j false) := et
        have HZ : Hid (z = (j : Int) + 1) := ez
        have hjN : (j : Int) < N := by omega
        clear et
        generalize ms.getD j false = q at *
        subst ez
        have d1 : decide ((j : Int) + 1 = 0) = false := decide_eq_false (by omega)
        have d2 : decide (N < (j : Int) + 1) = false := decide_eq_false (by omega)
        have d3 : decide ((j : Int) + 1 < -N) = false := decide_eq_false (by omega)
        have d4 : decide ((j : Int) + 1 < 0) = false := decide_eq_false (by omega)
        cases q
        · go_wp2
          go_ret
          exact ⟨ret_bool (HE.out (by rw [HT.out])).symm, rfl⟩
        · go_wp2
          go_roundg (gk - 1)
          case measure => have := HK.out; omega
          case rel => exact ⟨k + 1, by have := HK.out; omega, by go_num, by rw [HS.out, HA.out, HT.out]; rfl, rfl⟩
      · obtain ⟨j, hj, ez, et⟩ := hl1_neg hn h.1 (by omega)
        obtain ⟨bm, om, rfl, hcj⟩ := HM.out j hj
        have HT : Hid (hl1 ms z = !ms.getD j false) := et
        have HZ : Hid (z = -((j : Int) + 1)) := ez
        have hjN : (j : Int) < N := by omega
        clear et ez
        generalize ms.getD j false = q at *
        have d1 : decide (z = 0) = false := decide_eq_false (by omega)
        have d2 : decide (N < z) = false := decide_eq_false (by omega)
        have d3 : decide (z < -N) = false := decide_eq_false (by omega)
        have d4 : decide (0 < z) = false := decide_eq_false (by omega)
        have e1 : -z - 1 = (j : Int) := by have := HZ.out; omega
        cases q
        · go_wp2
          go_roundg (gk - 1)
          case measure => have := HK.out; omega
          case rel => exact ⟨k + 1, by have := HK.out; omega, by go_num, by rw [HS.out, HA.out, HT.out]; rfl, rfl⟩
        · go_wp2
          go_ret
          exact ⟨ret_bool (HE.out (by rw [HT.out]; rfl)).symm, rfl⟩
    · obtain rfl : k = zs.length := by omega
      have HE : Hid (hld ms zs = true) := by have := HA.out; rw [List.take_length] at this; exact this
      clear hk
      go_wp2
      go_ret
      exact ⟨ret_bool HE.out.symm, rfl⟩

set_option maxHeartbeats 3200000 in
theorem awake_any (w : World) :
    Calls Tryd.prog 15 #[] w fun e w' => e = .returned (.bool true) ∧ Below w.heap.size w w' := by
  go_enter Tryd.func15, Tryd.ntmps15
  go_wp2_with fail
  refine (small_any w).mono ?_
  rintro e w1 ⟨s1, rfl, rs1, bel1⟩
  obtain ⟨a1, k1, hs1, _⟩ := rs1.form
  subst hs1
  have HX1 : Hid (Bx w1 2 (.slice a1 smallF.length k1) smallF (w1.alloc (.cells #[.int .i64 2, .slice a1 smallF.length k1] 27))) := Bx.new rs1 _
  have HB1 : Hid (Below w.heap.size w w1) := bel1
  have c0 := HX1.out.c0
  have c1 := HX1.out.c1
  clear rs1 bel1
  go_wp2_with fail
  generalize w1.alloc (.cells #[.int .i64 2, .slice a1 smallF.length k1] 27) = W1 at *
  refine (cnfFormed_any 2 _ smallF W1 HX1.out.rd).mono ?_
  rw [small_frm]
  rintro e w2 ⟨rfl, bel2⟩
  have HX2 : Hid (Bx w1 2 (.slice a1 smallF.length k1) smallF w2) := HX1.out.on bel2
  have c0 := HX2.out.c0
  have c1 := HX2.out.c1
  clear HX1 bel2
  go_wp2_with fail
  refine (cnfSatisfies_any 2 _ _ smallF [false, true] _ (HX2.out.on (below_box _ _)).rd (rdb_two w2 false true _)).mono ?_
  rw [small_ft]
  rintro e w3 ⟨rfl, bel3⟩
  have HX3 : Hid (Bx w1 2 (.slice a1 smallF.length k1) smallF w3) := (HX2.out.on (below_box _ _)).on bel3
  have c0 := HX3.out.c0
  have c1 := HX3.out.c1
  clear HX2 bel3
  go_wp2_with fail
  refine (cnfSatisfies_any 2 _ _ smallF [true, true] _ (HX3.out.on (below_box _ _)).rd (rdb_two w3 true true _)).mono ?_
  rw [small_tt]
  rintro e w4 ⟨rfl, bel4⟩
  have HX4 : Hid (Bx w1 2 (.slice a1 smallF.length k1) smallF w4) := (HX3.out.on (below_box _ _)).on bel4
  have c0 := HX4.out.c0
  have c1 := HX4.out.c1
  clear HX3 bel4
  go_wp2_with fail
  refine (cnfSatisfies_any 2 _ _ smallF [false, false] _ (HX4.out.on (below_box _ _)).rd (rdb_two w4 false false _)).mono ?_
  rw [small_ff]
  rintro e w5 ⟨rfl, bel5⟩
  have HX5 : Hid (Bx w1 2 (.slice a1 smallF.length k1) smallF w5) := (HX4.out.on (below_box _ _)).on bel5
  have c0 := HX5.out.c0
  have c1 := HX5.out.c1
  clear HX4 bel5
  go_wp2
  go_ret
  exact ⟨rfl, HB1.out.trans (HX5.out.bel.mono HB1.out.size)⟩

end Go.Proofs.YtefjpcleknchlabDoor

/-
  rup: greatest, anyTrue.
  KEEP: set on app at below new trans refl start ap kept rd rds mono lt add none own nil put len pos setF setV putL putR other neV same_any
-/
import Derived.Test.YtjajafeaengnjaaGreatDoorJUnR
import Derived.Test.YtjajafeaengnjaaGreatDoorKUnG
set_option linter.unusedSimpArgs false
set_option linter.unusedVariables false
namespace Go.Proofs.YtjajafeaengnjaaGreatDoor
open Go Go.RowKit

set_option maxHeartbeats 1000000 in
theorem oGreatest_any (v : Int) (s : Value) (css : List (List Int)) (w : World) (hr : Rds w s css) (hN : css.length ≤ 1073741824) (hL : ∀ c ∈ css, c.length ≤ 1073741824) :
    Calls Tryz.prog 116 #[.agg #[.int .i64 v, s]] w fun e w' => e = .returned (.int .i64 (grt css)) ∧ Below w.heap.size w w' := by
  have HR : Hid (Rds w s css) := hr
  obtain ⟨a, c, rfl, h1, h2, hAT⟩ := hr.form
  have HAT : Hid (∀ W k, Below w.heap.size w W → k < css.length → ∃ b off u, a = some ⟨b, off, none⟩ ∧ W.cell? ⟨b, off + k, none⟩ = some u ∧ Rd W u (css.getD k [])) := fun W k hW hk => by
    obtain ⟨b, off, u, e, hc, hrd⟩ := hAT k hk
    exact ⟨b, off, u, e, (hW.cell (p := ⟨b, off + k, none⟩) (World.block_lt_of_cell? w _ hc)).trans hc, hrd.below hW⟩
  have HLn : Hid (∀ c ∈ css, c.length ≤ 1073741824) := hL
  have HG : Hid (∀ k, 0 ≤ grt (css.take k) ∧ grt (css.take k) ≤ 1048576) := fun k => ⟨(grt_range _).1, (grt_range _).2.1⟩
  clear hr hAT hL
  go_enter Tryz.func116, Tryz.ntmps116
  go_wp2
  have HB : Hid (Below w.heap.size w (w.alloc (.cells #[.int .i64 v, .slice a css.length c] 24))) := below_box _ _
  go_loopg [3, 11] css.length (fun g m' j' wr => ∃ j : Nat, j + g = css.length ∧ m' = .int .i64 (grt (css.take j)) ∧ j' = .int .i64 j ∧ Below w.heap.size w wr)
  case atStart => exact ⟨0, by omega, by simp [grt], rfl, HB.out⟩
  case round =>
    obtain ⟨j, hj, rfl, rfl, hbel⟩ := hrel
    have HJ : Hid (j + gk = css.length) := hj
    have HBel : Hid (Below w.heap.size w wr) := hbel
    clear hj hbel
    by_cases hlt : j < css.length
    · obtain ⟨b, off, u, rfl, kc, hrd⟩ := HAT.out wr j HBel.out hlt
      have hcl := HLn.out _ (getD_in hlt)
      have hgt := grt_take css hlt
      have hg0 := HG.out j
      obtain ⟨ax, cx, rfl, x1, x2, hcx⟩ := hrd.form
      have HCX : Hid (∀ i, i < (css.getD j []).length → ∃ b off, ax = some ⟨b, off, none⟩ ∧ wr.cell? ⟨b, off + i, none⟩ = some (.int .i64 ((css.getD j []).getD i 0))) := hcx
      clear hrd hcx
      generalize css.getD j [] = cc at *
      have HGT : Hid (grt (css.take (j + 1)) = mx (grt (css.take j)) cc) := hgt
      clear hgt
      generalize grt (css.take j) = g0 at *
      go_wp2
      go_loopg [3, 17] cc.length (fun g m' i' wx => ∃ i : Nat, i + g = cc.length ∧ m' = .int .i64 (mx g0 (cc.take i)) ∧ i' = .int .i64 i ∧ wx = wr)
      case atStart => exact ⟨0, by omega, by simp [mx], rfl, rfl⟩
      case round =>
        obtain ⟨i, hi, rfl, rfl, hwx⟩ := hrel
        subst hwx
        have HI : Hid (i + gk = cc.length) := hi
        clear hi
        by_cases hlt2 : i < cc.length
        · obtain ⟨b2, off2, rfl, kc2⟩ := HCX.out i hlt2
          have hmt := mx_take g0 cc hlt2
          have hm0 := mx_range (cc.take i) g0 hg0.1 hg0.2
          have hv0 := varOf_range (cc.getD i 0)
          generalize cc.getD i 0 = l at *
          have HMT : Hid (mx g0 (cc.take (i + 1)) = max (mx g0 (cc.take i)) (varOf l)) := hmt
          clear hmt
          obtain ⟨m1, m2, -, -⟩ := hm0
          generalize mx g0 (cc.take i) = m0 at *
          go_wp2_with fail
          refine (var_any _ _).mono ?_
          rintro e w9 ⟨rfl, hw9⟩
          obtain rfl : w9 = _ := hw9
          generalize varOf l = vl at *
          go_wp2
          go_roundg (gk - 1)
          case measure => have := HI.out; omega
          case rel => exact ⟨i + 1, by have := HI.out; omega, by rw [HMT.out], by go_num, rfl⟩
        · have hie : i = cc.length := by have := HI.out; omega
          rw [hie, List.take_length]
          clear hie
          generalize mx g0 cc = m1 at *
          go_wp2
          go_roundg (css.length - (j + 1))
          case measure => have := HJ.out; omega
          case rel => exact ⟨j + 1, by have := HJ.out; omega, by rw [HGT.out], by go_num, HBel.out⟩
    · have hje : j = css.length := by have := HJ.out; omega
      rw [hje, List.take_length]
      go_wp2
      go_ret
      exact ⟨rfl, HBel.out⟩

/-- does a literal of c stand in K? -/
def anyK (K c : List Int) : Bool := c.any (fun l => decide (l ∈ K))
theorem anyK_take {K c : List Int} (h : ∀ m ∈ c, m ∉ K) : anyK K c = false := by
  unfold anyK
  rw [List.any_eq_false]
  intro x hx
  simpa using h x hx
theorem anyK_yes {K c : List Int} {m : Int} (h : m ∈ c) (hK : m ∈ K) : anyK K c = true := List.any_eq_true.2 ⟨m, h, decide_eq_true hK⟩
set_option maxHeartbeats 1600000 in
theorem oAny_z (B : Nat) (b : Nat) (s : Sy) (n N : Nat) (K E : List Int) (F : List Nat) (P : List (Nat × Nat)) (M : List Int) (R : List Nat) (v : Value) (c : List Int) (w : World) (hz : Oz B w b s n N (inLs n K) E F P M R) (hn : n ≤ 2097152) (hr : Rd w v c) (hc : ∀ l ∈ c, fmd l = true ∧ idx l < n) (hcl : c.length ≤ 1073741824) :
    Calls Tryz.prog 117 #[.pointer (some ⟨b, 0, none⟩), v] w fun e w' => e = .returned (.bool (anyK K c)) ∧ Below w.heap.size w w' := by
  have HZ : Hid (Oz B w b s n N (inLs n K) E F P M R) := hz
  have HL : Hid (∀ l ∈ c, fmd l = true ∧ idx l < n) := hc
  obtain ⟨a, cv, rfl, l1, l2, hcell⟩ := hr.form
  have HC : Hid (∀ (W : World) (j : Nat), Below w.heap.size w W → j < c.length → ∃ bb off, a = some ⟨bb, off, none⟩ ∧ W.cell? ⟨bb, off + j, none⟩ = some (.int .i64 (c.getD j 0))) := fun W j hW hj => by
    obtain ⟨bb, off, e, hc⟩ := hcell j hj
    exact ⟨bb, off, e, (hW.cell (p := ⟨bb, off + j, none⟩) (World.block_lt_of_cell? w _ hc)).trans hc⟩
  clear hz hr hc hcell
  go_enter Tryz.func117, Tryz.ntmps117
  go_wp2
  go_loopg [9] c.length (fun g j' wr => ∃ j : Nat, j + g = c.length ∧ j' = .int .i64 j ∧ Below w.heap.size w wr ∧ ∀ m ∈ c.take j, m ∉ K)
  case atStart => exact ⟨0, by omega, rfl, Below.refl _ _, by simp⟩
  case round =>
    obtain ⟨j, hj, rfl, hb, hall⟩ := hrel
    have HJ : Hid (j + gk = c.length) := hj
    have HB : Hid (Below w.heap.size w wr ∧ ∀ m ∈ c.take j, m ∉ K) := ⟨hb, hall⟩
    clear hj hb hall
    by_cases hlt : j < c.length
    · obtain ⟨bb, off, rfl, c1⟩ := HC.out wr j HB.out.1 hlt
      have hlm : c.getD j 0 ∈ c := getD_mem' (d := 0) hlt
      have hlf := HL.out _ hlm
      have HTk : Hid (∀ x, x ∈ c.take (j + 1) ↔ x ∈ c.take j ∨ x = c.getD j 0) := fun x => mem_take_more hlt
      have HLT : Hid (j < c.length) := hlt
      have HLm : Hid (c.getD j 0 ∈ c) := hlm
      clear hlm
      generalize c.getD j 0 = l at *
      go_wp2_with fail
      refine (oTrue_z B b s n N K E F P M R l wr (HZ.out.below HB.out.1) hn hlf.1 hlf.2).mono ?_
      rintro e w1 ⟨rfl, bel1⟩
      have HB1 : Hid (Below w.heap.size w w1) := Below.step HB.out.1 bel1
      clear bel1
      by_cases hin : l ∈ K
      · have HIn : Hid (anyK K c = true) := anyK_yes HLm.out hin
        rw [decide_eq_true hin]
        clear hin
        go_wp2
        go_ret
        exact ⟨(congrArg (fun x => Ending.returned (.bool x)) HIn.out).symm, HB1.out⟩
      · have HIn : Hid (l ∉ K) := hin
        rw [decide_eq_false hin]
        clear hin
        go_wp2
        go_roundg (gk - 1)
        case measure => have := HJ.out; have := HLT.out; omega
        case rel => exact ⟨j + 1, by have := HJ.out; have := HLT.out; omega, by go_num, HB1.out, fun m hm => ((HTk.out m).1 hm).elim (HB.out.2 m) (fun e => e ▸ HIn.out)⟩
    · have hje : j = c.length := by have := HJ.out; omega
      have HA : Hid (anyK K c = false) := anyK_take (by
        have := HB.out.2
        rw [hje, List.take_length] at this
        exact this)
      go_wp2
      go_ret
      exact ⟨(congrArg (fun x => Ending.returned (.bool x)) HA.out).symm, HB.out.1⟩
end Go.Proofs.YtjajafeaengnjaaGreatDoor

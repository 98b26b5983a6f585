/-
  The document's answer, walked: Taut, Subsumes, Without.
-/
import Derived.Test.YtbnnoajpmmbpbaaDoorRefB
set_option linter.unusedSimpArgs false
set_option linter.unusedVariables false
namespace Go.Proofs.YtbnnoajpmmbpbaaDoor
open Go.RowKit

theorem refTaut_any (v : Value) (zs : List Int) (w : World) (hr : Rd w v zs) :
    Calls Tryd.prog 21 #[v] w fun e w' => e = .returned (.bool (adj (tid zs))) ∧ Below w.heap.size w w' := by
  have HT : Hid (Calls Tryd.prog 23 #[v] w fun e w' => ∃ v', e = .returned v' ∧ Own w.heap.size w' v' (tid zs) ∧ Below w.heap.size w w') := refTidy v zs w hr
  have hl := tid_len zs
  have HF : Hid (∀ k, k < (tid zs).length → fmd ((tid zs).getD k 0) = true) := fun k h => getD_fmd h
  clear hr
  generalize tid zs = t at *
  go_enter Tryd.func21, Tryd.ntmps21
  go_wp2_with fail
  refine HT.out.mono ?_
  rintro e w1 ⟨v1, rfl, own, bel⟩
  have hrd := own.rd (by omega)
  clear own HT
  rcases hrd.cases with ⟨rfl, a, c, rfl, _, _⟩ | ⟨b, off, c, rfl, hpos, hc, hm, hb, hcell⟩
  · go_wp2
    refine wp_loop_rounds 1 ?_
    rw [rounds_succ]
    go_wp2
    go_ret
    exact ⟨rfl, bel⟩
  · have HC : Hid (∀ j, j < t.length → w1.cell? ⟨b, off + j, none⟩ = some (.int .i64 (t.getD j 0))) := hcell
    clear hcell hrd
    go_wp2
    go_loopg [4] t.length (fun g i wr => ∃ k : Nat, k + g = t.length ∧ i = .int .i64 ((k : Int) + 1) ∧ (∀ j, j + 1 < k + 1 → t.getD (j + 1) 0 ≠ -t.getD j 0) ∧ Below w1.heap.size w1 wr)
    case atStart => exact ⟨0, by omega, rfl, fun j h => absurd h (by omega), Below.refl _ _⟩
    case round =>
      obtain ⟨k, hk, rfl, hno, bel2⟩ := hrel
      have HN : Hid (∀ j, j + 1 < k + 1 → t.getD (j + 1) 0 ≠ -t.getD j 0) := hno
      have HK : Hid (k + gk = t.length) := hk
      clear hno
      by_cases hlt : k + 1 < t.length
      · have hck : wr.cell? ⟨b, off + (k + 1), none⟩ = some (.int .i64 (t.getD (k + 1) 0)) := cell_in hb bel2 HC.out hlt
        have hck0 : wr.cell? ⟨b, off + k, none⟩ = some (.int .i64 (t.getD k 0)) := cell_in hb bel2 HC.out (by omega)
        have hz := fmd_range (HF.out (k + 1) hlt)
        have hz1 := hz.2.1
        have hz2 := hz.2.2
        have hy := fmd_range (HF.out k (by omega))
        have hy1 := hy.2.1
        have hy2 := hy.2.2
        have tn1 : ((k : Int) + 1).toNat = k + 1 := by omega
        have tn2 : ((k : Int) + 1 - 1).toNat = k := by omega
        by_cases he : t.getD (k + 1) 0 = -t.getD k 0
        · have HA : Hid (adj t = true) := adj_true hlt he
          have hb1 : (t.getD (k + 1) 0 == -t.getD k 0) = true := beq_iff_eq.2 he
          clear he hz hy hk
          generalize t.getD (k + 1) 0 = z at *
          generalize t.getD k 0 = y at *
          go_wp2
          go_quiet (fail)
          go_wp2
          go_ret
          exact ⟨ret_bool HA.out.symm, Below.step bel (bel2.trans ((below_drewN _ _).mono bel2.size))⟩
        · have hb1 : (t.getD (k + 1) 0 == -t.getD k 0) = false := beq_eq_false_iff_ne.2 he
          have HE : Hid (∀ j, j + 1 < k + 1 + 1 → t.getD (j + 1) 0 ≠ -t.getD j 0) := fun j hj => by
            by_cases h3 : j + 1 < k + 1
            · exact HN.out j h3
            · obtain rfl : j = k := by omega
              exact he
          clear he hz hy hk
          generalize t.getD (k + 1) 0 = z at *
          generalize t.getD k 0 = y at *
          go_wp2
          go_quiet (fail)
          go_wp2
          go_roundg (gk - 1)
          case measure => have := HK.out; omega
          case rel => exact ⟨k + 1, by have := HK.out; omega, by go_num, HE.out, bel2.trans ((below_drewN _ _).mono bel2.size)⟩
      · have HA : Hid (adj t = false) := adj_false fun j hj => HN.out j (by omega)
        clear hk
        go_wp2
        go_ret
        exact ⟨ret_bool HA.out.symm, Below.step bel bel2⟩

end Go.Proofs.YtbnnoajpmmbpbaaDoor

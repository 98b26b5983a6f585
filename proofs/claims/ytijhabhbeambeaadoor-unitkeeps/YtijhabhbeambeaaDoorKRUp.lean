/-
  unit: the document's Probe (walks/genrp.py writes it).
  KEEP: set on app at below new trans refl start ap kept rd rds mono lt add none own nil put len pos setF setV putL putR other neV same_any
-/
import Derived.Test.YtijhabhbeambeaaDoorKUnPb
import Derived.Test.YtijhabhbeambeaaDoorJUnS
import Derived.Test.YtijhabhbeambeaaDoorNumB
set_option linter.unusedSimpArgs false
set_option linter.unusedVariables false
namespace Go.Proofs.YtijhabhbeambeaaDoor
open Go Go.RowKit
set_option maxRecDepth 100000 in
set_option maxHeartbeats 3200000 in
theorem rProbe_any (v : Int) (s : Value) (css : List (List Int)) (w : World) (hr : Rds w s css) (hN : css.length ≤ 1073741824) :
    Calls Tryd.prog 7 #[.agg #[.int .i64 v, s]] w fun e w' => ∃ u D, e = .returned (.tuple #[u, .int .i64 (prE v css)]) ∧ Pb w w' v css u D := by
  have HR : Hid (Rds w s css ∧ css.length ≤ 1073741824) := ⟨hr, hN⟩
  have HB1 : Hid (Below w.heap.size w (w.alloc (.cells #[.int .i64 v, s] 24))) := below_box _ _
  have k0 := box0 w (.int .i64 v) s 24
  have k1 := box1 w (.int .i64 v) s 24
  have hbs : w.heap.size < (w.alloc (.cells #[.int .i64 v, s] 24)).heap.size := by rw [World.size_alloc]; exact Nat.lt_succ_self _
  have HX0 : Hid (∀ W, Below (w.alloc (.cells #[.int .i64 v, s] 24)).heap.size (w.alloc (.cells #[.int .i64 v, s] 24)) W → W.cell? ⟨w.heap.size, 0, none⟩ = some (.int .i64 v) ∧ W.cell? ⟨w.heap.size, 1, none⟩ = some s) := fun W hW => ⟨(hW.cell (p := ⟨w.heap.size, 0, none⟩) hbs).trans k0, (hW.cell (p := ⟨w.heap.size, 1, none⟩) hbs).trans k1⟩
  have HNo : Hid (∀ w', Below w.heap.size w w' → ∀ x : Int, prE v css = x → x ≠ 0 → ∃ u D, Ending.returned (.tuple #[.slice none 0 0, .int .i64 x]) = .returned (.tuple #[u, .int .i64 (prE v css)]) ∧ Pb w w' v css u D) := fun w' hb x hx hx0 => ⟨_, [], by rw [hx], ⟨World.ownsRow_nil _ _ _ _, fun h => absurd (hx.symm.trans h) hx0, fun _ => rfl, hb⟩⟩
  clear hr hN hbs k0 k1
  go_enter Tryd.func7, Tryd.ntmps7
  go_wp2_with fail
  refine (rFormed_any v s css _ (HR.out.1.below (below_box _ _))).mono ?_
  rintro e w1 ⟨rfl, bel1⟩
  generalize w.alloc (.cells #[.int .i64 v, s] 24) = W0 at *
  have HW1 : Hid (Below W0.heap.size W0 w1 ∧ Below w.heap.size w w1) := ⟨bel1, Below.step HB1.out bel1⟩
  obtain ⟨k0, k1⟩ := HX0.out w1 bel1
  clear bel1
  cases hfm : frm v css
  · have HE : Hid (prE v css = 1) := by show _ = _; unfold prE; rw [hfm]; rfl
    go_wp2
    go_ret2
    exact HNo.out _ HW1.out.2 1 HE.out (by decide)
  · have hv0 : 0 ≤ v := by
      unfold frm at hfm
      rw [Bool.and_eq_true] at hfm
      exact (of_decide_eq_true hfm.1).1
    have HFm : Hid (frm v css = true) := hfm
    obtain ⟨vn, rfl⟩ : ∃ vn : Nat, v = vn := ⟨v.toNat, by omega⟩
    by_cases hbig : 2000 < vn
    · have HE : Hid (prE (vn : Int) css = 4) := by show _ = _; unfold prE; rw [hfm, if_pos rfl, if_pos (by omega)]
      go_wp2
      go_ret2
      exact HNo.out _ HW1.out.2 4 HE.out (by decide)
    · have HE : Hid (prE (vn : Int) css = 0) := by show _ = _; unfold prE; rw [hfm, if_pos rfl, if_neg (by omega)]
      obtain ⟨M, hM⟩ : ∃ M : Nat, M = 2 * vn := ⟨_, rfl⟩
      have hw2 : IntKind.i64.wrap (2 * (vn : Int)) = (M : Int) := by rw [IntKind.wrap_i64]; omega
      have hM4 : M ≤ 4000 := by omega
      have HM : Hid (M = 2 * vn) := hM
      clear hM
      have H4 : Hid (Own w1.heap.size w1 (.slice none 0 0) (prD css 0)) := World.ownsRow_nil _ _ _ _
      clear hfm hv0
      go_wp2
      go_loopg [4, 5, 6, 7, 8] (M) (fun q o' i' x6 x7 x8 wr => ∃ (j : Nat) (ao : Option Addr) (co : Nat), j + q = M ∧ o' = .slice ao (prD css j).length co ∧ i' = .int .i64 j ∧ Own w1.heap.size wr (.slice ao (prD css j).length co) (prD css j) ∧ Below w1.heap.size w1 wr)
      case atStart => exact ⟨0, none, 0, by omega, rfl, rfl, H4.out, Below.refl _ _⟩
      case round =>
      obtain ⟨j, ao, co, hj, rfl, rfl, ho, hb⟩ := hrel
      have HJ : Hid (j + gk = M) := hj
      have HO : Hid (Own w1.heap.size wr (.slice ao (prD css j).length co) (prD css j) ∧ Below w1.heap.size w1 wr) := ⟨ho, hb⟩
      obtain ⟨b0, b1⟩ := HX0.out wr (Below.step HW1.out.1 hb)
      clear hj ho hb
      by_cases hlt : j < M
      · have HLT : Hid (j < M) := hlt
        obtain ⟨hfl, hil⟩ := idx_litAt6 (i := (j : Int)) (by omega) (by omega)
        have HCall : Hid (Calls Tryd.prog 33 #[.agg #[.int .i64 (vn : Int), s], .slice (some ⟨wr.heap.size, 0, none⟩) 1 1] (wr.alloc (.cells #[.int .i64 (litAt (j : Int))] 3)) fun e w' => Cg (wr.alloc (.cells #[.int .i64 (litAt (j : Int))] 3)) css [litAt (j : Int)] e w') := rClosing_any (vn : Int) s _ css [litAt (j : Int)] _ (HR.out.1.below (Below.step HW1.out.2 (Below.step HO.out.2 (below_box _ _)))) ((ownOne wr (litAt (j : Int))).rd (by simp)) HFm.out (by simp [hfl]) HR.out.2
        have HFl : Hid (fmd (litAt (j : Int)) = true) := hfl
        clear hil hfl
        go_wp2_with fail
        refine (refAt_any (j : Int) wr).mono ?_
        rintro e w5 ⟨rfl, hw5⟩
        obtain rfl : wr = w5 := hw5.symm
        clear hw5
        go_wp2_with fail
        refine Calls.mono HCall.out ?_
        rintro e w6 ⟨g6, cl, rfl, bel6, hy, hn⟩
        have H6 : Hid (Own w1.heap.size w6 (.slice ao (prD css j).length co) (prD css j) ∧ Below w1.heap.size w1 w6) := ⟨HO.out.1.below (Below.step (below_box _ _) bel6), Below.step HO.out.2 (Below.step (below_box _ _) bel6)⟩
        have HNn : Hid (cl = false → ¬ Cla css [litAt (j : Int)]) := fun h => by obtain ⟨L, _, _, _, h4, _⟩ := hn h; exact h4
        have HYy : Hid (cl = true → Cla css [litAt (j : Int)]) := hy
        clear bel6 hy hn HCall b0 b1
        generalize (topL css [litAt (j : Int)]).toNat = T6 at *
        cases cl
        · have HY : Hid (prD css (j + 1) = prD css j) := prD_no (HNn.out rfl)
          go_wp2
          go_roundg (gk - 1)
          case measure => have := HJ.out; have := HLT.out; omega
          case rel => exact ⟨j + 1, ao, co, by have := HJ.out; have := HLT.out; omega, by rw [HY.out], by go_num, by rw [HY.out]; exact H6.out.1, H6.out.2⟩
        · have HCl : Hid (Cla css [litAt (j : Int)]) := HYy.out rfl
          have HY : Hid (prD css (j + 1) = prD css j ++ [litAt (j : Int)]) := prD_yes HCl.out
          have HO6 : Hid (Own w1.heap.size (w6.alloc (.cells #[.int .i64 (litAt (j : Int))] 3)) (.slice ao (prD css j).length co) (prD css j)) := H6.out.1.below (below_box _ _)
          have HR6 : Hid (Rd (w6.alloc (.cells #[.int .i64 (litAt (j : Int))] 3)) (.slice (some ⟨w6.heap.size, 0, none⟩) 1 1) [litAt (j : Int)]) := (ownOne w6 (litAt (j : Int))).rd (by simp)
          have hl6 : ((prD css j).length + 1) * 8 ≤ 140737488355328 := by have := prD_len css j; have := HLT.out; omega
          have HA6 : Hid (∀ v7 w7, Own w1.heap.size w7 v7 (prD css j ++ [litAt (j : Int)]) → Ap (w6.alloc (.cells #[.int .i64 (litAt (j : Int))] 3)) (.slice ao (prD css j).length co) w7 v7 → Below w1.heap.size w1 w7) := fun v7 w7 own7 ap7 => (Below.step H6.out.2 (below_box _ _)).grown ap7.grown (Nat.le_trans H6.out.2.size (below_box _ _).size) (fun q e => (HO6.out.lt q e).1)
          have HS6 : Hid (w1.heap.size ≤ (w6.alloc (.cells #[.int .i64 (litAt (j : Int))] 3)).heap.size) := Nat.le_trans H6.out.2.size (below_box _ _).size
          generalize litAt (j : Int) = ll at *
          generalize prD css j = PD at *
          go_wp2_with (at_builtin; refine wpList_app_rd rfl _ _ rfl w1.heap.size (.slice ao PD.length co) (.slice (some ⟨w6.heap.size, 0, none⟩) 1 1) PD [ll] rfl rfl HO6.out HR6.out hl6 HS6.out ?_; intro v7 w7 own7 ap7; have F7 : Hid (Own w1.heap.size w7 v7 (PD ++ [ll]) ∧ Below w1.heap.size w1 w7) := ⟨own7, HA6.out v7 w7 own7 ap7⟩; obtain ⟨a7, c7, hv7⟩ := own_form own7; subst hv7; clear own7 ap7)
          go_roundg (gk - 1)
          case measure => have := HJ.out; have := HLT.out; omega
          case rel => exact ⟨j + 1, a7, c7, by have := HJ.out; have := HLT.out; omega, by rw [HY.out]; simp, by go_num, by rw [HY.out]; exact F7.out.1, F7.out.2⟩
      · obtain rfl : M = j := by have := HJ.out; omega
        have HF : Hid (∃ u D, Ending.returned (.tuple #[.slice ao (prD css (M)).length co, .int .i64 0]) = .returned (.tuple #[u, .int .i64 (prE (vn : Int) css)]) ∧ Pb w wr (vn : Int) css u D) := ⟨_, _, by rw [HE.out], ⟨HO.out.1.mono HW1.out.2.size, fun _ => by rw [HM.out]; simp, fun h => absurd HE.out h, Below.step HW1.out.2 HO.out.2⟩⟩
        go_wp2
        go_ret2
        exact HF.out
end Go.Proofs.YtijhabhbeambeaaDoor

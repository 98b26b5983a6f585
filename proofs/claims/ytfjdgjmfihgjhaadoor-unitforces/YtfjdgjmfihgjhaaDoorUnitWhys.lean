/-
  UnitWhys: the walk.
  KEEP: set on app at below new trans refl start ap kept rd rds mono lt add none own nil put len pos setF setV putL putR other neV same_any
-/
import Derived.Test.YtfjdgjmfihgjhaaDoorRUy
set_option linter.unusedSimpArgs false
set_option linter.unusedVariables false
namespace Go.Proofs.YtfjdgjmfihgjhaaDoor
open Go Go.RowKit
set_option maxRecDepth 100000 in
theorem sameC_any (va vb : Value) (cs : List (Int × Nat)) (w : World) (ha : w.ownsRow 0 76 2 va cs.length (twc cs)) (hb : w.ownsRow 0 76 2 vb cs.length (twc cs)) (hn : cs.length ≤ 2097152) :
    Calls Tryd.prog 17 #[va, vb] w fun e w' => e = .returned (.bool true) ∧ Below w.heap.size w w' := by
  have HC : Hid (∀ {v : Value}, w.ownsRow 0 76 2 v cs.length (twc cs) → ∃ a c, v = .slice a cs.length c ∧ ∀ (W : World) (j : Nat) (hj : j < cs.length), Below w.heap.size w W → ∃ g, a = some ⟨g, 0, none⟩ ∧ cs.length ≤ c ∧ c ≤ maxLen ∧ W.cell? ⟨g, j * 2, none⟩ = some (.int .i64 (cs[j]).1) ∧ W.cell? ⟨g, j * 2 + 1, none⟩ = some (.int .i64 ((cs[j]).2 : Int))) := fun {v} h1 => by
    obtain ⟨a, c, e⟩ := row_form' h1
    refine ⟨a, c, e, fun W j hj hW => ?_⟩
    obtain ⟨g, c', e', h2, h3, h4⟩ := row_some h1 (by omega)
    rw [e] at e'
    injection e' with e1 _ e3
    subst e1; subst e3
    rw [e] at h1
    obtain ⟨k1, k2⟩ := twc_at (show cs[j]? = some ((cs[j]).1, (cs[j]).2) from List.getElem?_eq_getElem hj)
    exact ⟨g, rfl, h2, h3, (hW.cell (p := ⟨g, j * 2, none⟩) h4).trans (row_cell h1 k1), (hW.cell (p := ⟨g, j * 2 + 1, none⟩) h4).trans (row_cell h1 k2)⟩
  obtain ⟨a1, c1, rfl, H1⟩ := HC.out ha
  obtain ⟨a2, c2, rfl, H2⟩ := HC.out hb
  have H1 : Hid (∀ (W : World) (j : Nat) (hj : j < cs.length), Below w.heap.size w W → ∃ g, a1 = some ⟨g, 0, none⟩ ∧ cs.length ≤ c1 ∧ c1 ≤ maxLen ∧ W.cell? ⟨g, j * 2, none⟩ = some (.int .i64 (cs[j]).1) ∧ W.cell? ⟨g, j * 2 + 1, none⟩ = some (.int .i64 ((cs[j]).2 : Int))) := H1
  have H2 : Hid (∀ (W : World) (j : Nat) (hj : j < cs.length), Below w.heap.size w W → ∃ g, a2 = some ⟨g, 0, none⟩ ∧ cs.length ≤ c2 ∧ c2 ≤ maxLen ∧ W.cell? ⟨g, j * 2, none⟩ = some (.int .i64 (cs[j]).1) ∧ W.cell? ⟨g, j * 2 + 1, none⟩ = some (.int .i64 ((cs[j]).2 : Int))) := H2
  clear ha hb HC
  go_enter Tryd.func17, Tryd.ntmps17
  go_wp2
  go_loopg [5] cs.length (fun g i' wr => ∃ k : Nat, k + g = cs.length ∧ i' = .int .i64 k ∧ Below w.heap.size w wr)
  case atStart => exact ⟨0, by omega, rfl, Below.refl _ _⟩
  case round =>
    obtain ⟨k, hk, rfl, hb⟩ := hrel
    have HK : Hid (k + gk = cs.length) := hk
    have HB : Hid (Below w.heap.size w wr) := hb
    clear hk hb
    by_cases hlt : k < cs.length
    · obtain ⟨g1, rfl, l1, m1, x1, x2⟩ := H1.out wr k hlt HB.out
      obtain ⟨g2, rfl, l2, m2, y1, y2⟩ := H2.out wr k hlt HB.out
      have HLT : Hid (k < cs.length) := hlt
      generalize (cs[k]).1 = l at *
      generalize ((cs[k]).2 : Int) = q at *
      go_upto_region 6 with fail
      go_region_law (fail)
      all_goals
        have HB2 : Hid (Below w.heap.size w wr.drew) := Below.step HB.out (Below.refl _ _).drew
        go_wp2
        go_roundg (gk - 1)
        case measure => have := HK.out; have := HLT.out; omega
        case rel => exact ⟨k + 1, by have := HK.out; have := HLT.out; omega, by go_num, HB2.out⟩
    · go_wp2
      go_ret
      exact ⟨rfl, HB.out⟩
theorem wy_len {w w' : World} {v : Int} {css : List (List Int)} {facts : List Int} {u : Value} {cs : List (Int × Nat)} {e0 : Int} (h : Wy w w' v css facts u cs e0) : cs.length ≤ 2097152 := by
  by_cases h0 : whyE v css facts = 0
  · refine (h.yes h0).few (frm_fmd (v := v) ?_)
    unfold whyE at h0
    cases hh : frm v css
    · rw [hh] at h0; simp at h0
    · rfl
  · rw [(h.no h0).2.1]; simp
theorem wy_eq {w w' w2 w2' : World} {v : Int} {css : List (List Int)} {facts : List Int} {u u' : Value} {cs cs' : List (Int × Nat)} {e0 e0' : Int} (h : Wy w w' v css facts u cs e0) (h' : Wy w2 w2' v css facts u' cs' e0') : cs = cs' ∧ e0 = e0' := by
  by_cases h0 : whyE v css facts = 0
  · exact (h.yes h0).unique (h'.yes h0)
  · obtain ⟨_, a, b⟩ := h.no h0
    obtain ⟨_, a', b'⟩ := h'.no h0
    exact ⟨by rw [a, a'], by rw [b, b']⟩
namespace unitWhys
set_option maxRecDepth 100000 in
set_option maxHeartbeats 2000000 in
theorem walk (n : Int) (s : Value) (css : List (List Int)) (vf : Value) (facts : List Int) (w : World) (_ : (Lit.int .i64 n).wf = true) (hr : Rds w s css) (hf : Rd w vf facts) (hb : css.length + (css.map List.length).sum ≤ 1048576) (hb2 : facts.length ≤ 1048576) (hD : Deb w) :
    Calls Tryd.prog 5 #[.agg #[.int .i64 n, s], vf] w fun e w' => e = .returned (.bool true) ∧ Below w.heap.size w w' := by
  have HR : Hid (Rds w s css ∧ Rd w vf facts ∧ Deb w ∧ Few css) := ⟨hr, hf, hD, Few.of (by omega) (by unfold lsum; omega)⟩
  have H8 : Hid (css.length * 24 ≤ 140737488351232 ∧ ∀ z ∈ css, z.length * 8 ≤ 140737488351232) := ⟨hr.len, rds_each hr⟩
  have HL8 : Hid (facts.length * 8 ≤ 140737488351232) := hf.len
  have HB1 : Hid (Below w.heap.size w (w.alloc (.cells #[.int .i64 n, s] 25))) := below_box _ _
  have k0 := box0 w (.int .i64 n) s 25
  have k1 := box1 w (.int .i64 n) s 25
  have hbs : w.heap.size < (w.alloc (.cells #[.int .i64 n, s] 25)).heap.size := by rw [World.size_alloc]; exact Nat.lt_succ_self _
  have HX0 : Hid (∀ W, Below (w.alloc (.cells #[.int .i64 n, s] 25)).heap.size (w.alloc (.cells #[.int .i64 n, s] 25)) W → W.cell? ⟨w.heap.size, 0, none⟩ = some (.int .i64 n) ∧ W.cell? ⟨w.heap.size, 1, none⟩ = some s) := fun W hW => ⟨(hW.cell (p := ⟨w.heap.size, 0, none⟩) hbs).trans k0, (hW.cell (p := ⟨w.heap.size, 1, none⟩) hbs).trans k1⟩
  clear hr hf hb hb2 hD k0 k1 hbs
  go_enter Tryd.func5, Tryd.ntmps5
  go_wp2_with fail
  refine (copyFormula_any n s css _ (HR.out.1.below (below_box _ _))).mono ?_
  rintro e w1 ⟨u1, rfl, own1, bel1⟩
  generalize w.alloc (.cells #[.int .i64 n, s] 25) = W0 at *
  have HO1 : Hid (OwnF W0.heap.size w1 u1 css ∧ Below W0.heap.size W0 w1) := ⟨own1, bel1⟩
  obtain ⟨a1, c1, e1⟩ := ownf_form own1
  subst e1
  clear own1 bel1
  go_wp2_with fail
  refine (copyInts_any vf facts w1 (HR.out.2.1.below (Below.step HB1.out HO1.out.2))).mono ?_
  rintro e w2 ⟨u2, rfl, own2, bel2⟩
  have HO2 : Hid (Rds w2 (.slice a1 css.length c1) css ∧ Rd w2 u2 facts ∧ Below W0.heap.size W0 w2) := ⟨(HO1.out.1.rds H8.out.1 H8.out.2).below bel2, own2.rd HL8.out, Below.step HO1.out.2 bel2⟩
  obtain ⟨a2, c2, e2⟩ := own_form own2
  subst e2
  clear own2 bel2
  go_wp2_with fail
  refine (uWhy_any n _ _ css facts w2 HO2.out.1 HO2.out.2.1 HR.out.2.2.2 (HR.out.2.2.1.below (Below.step HB1.out HO2.out.2.2))).mono ?_
  rintro e w3 ⟨u3, cs3, e3, rfl, wy3⟩
  have HW3 : Hid (Wy w2 w3 n css facts u3 cs3 e3 ∧ Below W0.heap.size W0 w3) := ⟨wy3, Below.step HO2.out.2.2 wy3.bel⟩
  obtain ⟨a3, c3, eq3⟩ := row_form' wy3.row
  subst eq3
  clear wy3
  obtain ⟨k0, k1⟩ := HX0.out w3 HW3.out.2
  go_wp2_with fail
  refine (rWhy_any n s vf css facts w3 (HR.out.1.below (Below.step HB1.out HW3.out.2)) (HR.out.2.1.below (Below.step HB1.out HW3.out.2))).mono ?_
  rintro e w4 ⟨u4, cs4, e4, rfl, wy4⟩
  obtain ⟨rfl, rfl⟩ := wy_eq HW3.out.1 wy4
  have HW4 : Hid (Wy w3 w4 n css facts u4 cs3 e3 ∧ Below W0.heap.size W0 w4) := ⟨wy4, Below.step HW3.out.2 wy4.bel⟩
  obtain ⟨a4, c4, eq4⟩ := row_form' wy4.row
  subst eq4
  clear wy4 k0 k1
  have HSame : Hid (Calls Tryd.prog 17 #[.slice a3 cs3.length c3, .slice a4 cs3.length c4] w4 fun e w' => e = .returned (.bool true) ∧ Below w4.heap.size w4 w') := sameC_any _ _ cs3 w4 (row_kept (row_mono HW3.out.1.row (Nat.zero_le _)) fun k hk => HW4.out.1.bel.block k (HW3.out.1.row.lt k hk.symm).2) (row_mono HW4.out.1.row (Nat.zero_le _)) (wy_len HW4.out.1)
  generalize whyE n css facts = E at *
  go_wp2_with fail
  refine HSame.out.mono ?_
  rintro e w5 ⟨rfl, bel5⟩
  have HF : Hid (Below w.heap.size w w5) := Below.step (Below.step HB1.out HW4.out.2) bel5
  clear bel5
  go_wp2
  go_ret
  exact ⟨rfl, HF.out⟩
end unitWhys
end Go.Proofs.YtfjdgjmfihgjhaaDoor

/-
  UnitStory: the walk.
  KEEP: set on app at below new trans refl start ap kept rd rds mono lt add none own nil put len pos setF setV putL putR other neV same_any
-/
import Derived.Test.YtmhelbgemehdmaaDoorUnSt
set_option linter.unusedSimpArgs false
set_option linter.unusedVariables false
namespace Go.Proofs.YtmhelbgemehdmaaDoor
open Go Go.RowKit
theorem why_clo6 {v : Int} {css : List (List Int)} {facts : List Int} (h : whyE v css facts = 0) : cloE v css facts = 0 ∧ frm v css = true ∧ facts.all fmd = true ∧ Con facts := by
  unfold whyE at h
  cases hf : frm v css
  · rw [hf] at h; simp at h
  · cases hs : facts.all fmd
    · rw [hf, hs] at h; simp at h
    · rw [hf, hs] at h
      cases ha : adj (tid facts)
      · exact ⟨by unfold cloE; rw [hf, hs]; rfl, rfl, rfl, (adj_con hs).1 ha⟩
      · rw [ha] at h; simp at h
/-- what the closing comes to, and what Close says -/
theorem story_end {css : List (List Int)} {facts : List Int} {cs : List (Int × Nat)} {e0 : Int} {b : Bool} {D : List Int} (nz : Nz css) (hc : Con facts) (h : Clo css facts cs e0) (h' : Says6 css facts b D) :
    (b = decide (0 ≤ e0)) ∧ (∀ x ∈ D, x ∈ facts ++ cs.map Prod.fst) ∧ (b = false → D = [] → facts ++ cs.map Prod.fst = []) := by
  rcases h.2 with ⟨rfl, hcalm⟩ | ⟨k, rfl, hat⟩
  · obtain ⟨h1, h2⟩ := h.calm hc
    rcases h' with ⟨_, c, _⟩ | ⟨rfl, _, _, f⟩
    · exact absurd c h1
    · refine ⟨by decide, fun x hx => (h2 x).1 ((f x).1 hx), fun _ hD => ?_⟩
      refine List.eq_nil_iff_forall_not_mem.2 fun x hx => ?_
      have := (f x).2 ((h2 x).2 hx)
      rw [hD] at this; simp at this
  · have h1 : Cla css facts := h.clash nz
    rcases h' with ⟨rfl, _, rfl⟩ | ⟨_, c, _⟩
    · exact ⟨by simp, by simp, fun h => by cases h⟩
    · exact absurd h1 c
theorem clz_len6b {w w' : World} {v : Int} {css : List (List Int)} {facts : List Int} {u : Value} {b : Bool} {D : List Int} (h : Clz w w' v css facts u b D) : D.length ≤ 2097152 := by
  have hn : D.Nodup := by
    by_cases h0 : cloE v css facts = 0
    · rcases h.yes h0 with ⟨_, _, e⟩ | ⟨_, _, hr, _⟩
      · rw [e]; exact List.nodup_nil
      · exact hr.imp (fun h => by intro e; subst e; omega)
    · rw [(h.no h0).2]; exact List.nodup_nil
  exact lits_few hn h.fmd
theorem nz_of_frm {v : Int} {css : List (List Int)} (h : frm v css = true) : Nz css := fun c hc l hl => (fmd_range (frm_fmd h c hc l hl)).1
namespace unitStory
set_option maxRecDepth 100000 in
set_option maxHeartbeats 8000000 in
theorem walk (n : Int) (s : Value) (css : List (List Int)) (vf : Value) (facts : List Int) (w : World) (_ : (Lit.int .i64 n).wf = true) (hr : Rds w s css) (hf : Rd w vf facts) (hb : css.length + (css.map List.length).sum ≤ 1048576) (hb2 : facts.length ≤ 1048576) (hD : Deb w) :
    Calls Tryd.prog 5 #[.agg #[.int .i64 n, s], vf] w fun e w' => e = .returned (.bool true) ∧ Below w.heap.size w w' := by
  have HR : Hid (Rds w s css ∧ Rd w vf facts ∧ Deb w ∧ Few css) := ⟨hr, hf, hD, Few.of (by omega) (by unfold lsum; omega)⟩
  have H8 : Hid (css.length * 24 ≤ 140737488351232 ∧ (∀ z ∈ css, z.length * 8 ≤ 140737488351232) ∧ facts.length ≤ 1048576 ∧ css.length ≤ 1048576) := ⟨hr.len, rds_each hr, hb2, by omega⟩
  have HB1 : Hid (Below w.heap.size w (w.alloc (.cells #[.int .i64 n, s] 24))) := below_box _ _
  have k0 := box0 w (.int .i64 n) s 24
  have k1 := box1 w (.int .i64 n) s 24
  have hbs : w.heap.size < (w.alloc (.cells #[.int .i64 n, s] 24)).heap.size := by rw [World.size_alloc]; exact Nat.lt_succ_self _
  have HX0 : Hid (∀ W, Below (w.alloc (.cells #[.int .i64 n, s] 24)).heap.size (w.alloc (.cells #[.int .i64 n, s] 24)) W → W.cell? ⟨w.heap.size, 0, none⟩ = some (.int .i64 n) ∧ W.cell? ⟨w.heap.size, 1, none⟩ = some s) := fun W hW => ⟨(hW.cell (p := ⟨w.heap.size, 0, none⟩) hbs).trans k0, (hW.cell (p := ⟨w.heap.size, 1, none⟩) hbs).trans k1⟩
  have HAw : Hid (∀ W, Below w.heap.size w W → Calls Tryd.prog 26 #[] W fun e w' => e = .returned (.bool true) ∧ Below w.heap.size w w') := fun W hW => (awake6_any W (hD.below hW)).mono fun e w' h => ⟨h.1, Below.step hW h.2⟩
  have hcl : css.length ≤ 1048576 := by omega
  obtain ⟨sa, sc, rfl, hsa, hsb, hsAT⟩ := hr.form
  have HAT : Hid (∀ (W : World) (k : Nat), Below w.heap.size w W → k < css.length → ∃ bb off u, sa = some ⟨bb, off, none⟩ ∧ W.cell? ⟨bb, off + k, none⟩ = some u ∧ Rd W u (css.getD k [])) := fun W k hW hk => by
    obtain ⟨bb, off, u, e, kc, hrd⟩ := hsAT k hk
    exact ⟨bb, off, u, e, (hW.cell (p := ⟨bb, off + k, none⟩) (World.block_lt_of_cell? w _ kc)).trans kc, hrd.below hW⟩
  clear hr hf hD hb hb2 hbs k0 k1 hsAT
  go_enter Tryd.func5, Tryd.ntmps5
  go_wp2_with fail
  refine (copyFormula_any n _ css _ (HR.out.1.below (below_box _ _))).mono ?_
  rintro e w1 ⟨u1, rfl, own1, bel1⟩
  generalize w.alloc (.cells #[.int .i64 n, .slice sa css.length sc] 24) = W0 at *
  have H1 : Hid (Rds w1 u1 css ∧ Below W0.heap.size W0 w1) := ⟨own1.rds H8.out.1 H8.out.2.1, bel1⟩
  obtain ⟨a1, c1, e1⟩ := ownf_form own1
  subst e1
  clear own1 bel1
  go_wp2_with fail
  refine (copyInts_any vf facts w1 (HR.out.2.1.below (Below.step HB1.out H1.out.2))).mono ?_
  rintro e w2 ⟨u2, rfl, own2, bel2⟩
  have H2 : Hid (Rds w2 (.slice a1 css.length c1) css ∧ Rd w2 u2 facts ∧ Below W0.heap.size W0 w2) := ⟨H1.out.1.below bel2, own2.rd (by have := H8.out.2.2.1; omega), Below.step H1.out.2 bel2⟩
  obtain ⟨a2, c2, e2⟩ := own_form own2
  subst e2
  clear own2 bel2 H1
  go_wp2_with fail
  refine (uWhy_any n _ _ css facts w2 H2.out.1 H2.out.2.1 HR.out.2.2.2 (HR.out.2.2.1.below (Below.step HB1.out H2.out.2.2))).mono ?_
  rintro e w3 ⟨u3, cs, e0, rfl, wy⟩
  have HWy : Hid (Wy w2 w3 n css facts u3 cs e0 ∧ Below W0.heap.size W0 w3) := ⟨wy, Below.step H2.out.2.2 wy.bel⟩
  obtain ⟨au, cu, eu⟩ := row_form' wy.row
  have hno := wy.no
  clear wy H2
  by_cases hE : whyE n css facts = 0
  · obtain ⟨hC0, hfm, hfa, hcon⟩ := why_clo6 hE
    have hclo := HWy.out.1.yes hE
    have hcsl : cs.length ≤ 2097152 := by
      obtain ⟨g1, _, g3⟩ := hclo.1.new
      have := lits_few g1 (fun x hx => by obtain ⟨c, h1, h2⟩ := g3 x hx; exact frm_fmd hfm c h1 x h2)
      simpa using this
    have HClo : Hid (Clo css facts cs e0 ∧ Con facts ∧ frm n css = true ∧ cloE n css facts = 0) := ⟨hclo, hcon, hfm, hC0⟩
    have HCe : Hid (cs.length ≤ 2097152) := hcsl
    have HU : Hid (∀ (W : World) (j : Nat) (hj : j < cs.length), Below w3.heap.size w3 W → ∃ g, au = some ⟨g, 0, none⟩ ∧ cs.length ≤ cu ∧ W.cell? ⟨g, j * 2, none⟩ = some (.int .i64 (cs[j]).1) ∧ W.cell? ⟨g, j * 2 + 1, none⟩ = some (.int .i64 ((cs[j]).2 : Int))) := fun W j hj hW => by
      have h1 := HWy.out.1.row
      obtain ⟨g, c, e, h2, h3, h4⟩ := row_some h1 (by omega)
      rw [eu] at e
      injection e with e1 _ e3
      subst e1; subst e3
      rw [eu] at h1
      have hg : cs[j]? = some ((cs[j]).1, (cs[j]).2) := List.getElem?_eq_getElem hj
      obtain ⟨k1, k2⟩ := twc_at hg
      have c1 := row_cell h1 k1
      have c2 := row_cell h1 k2
      exact ⟨g, rfl, h2, (hW.cell (p := ⟨g, j * 2, none⟩) h4).trans c1, (hW.cell (p := ⟨g, j * 2 + 1, none⟩) h4).trans c2⟩
    rw [hE]
    subst eu
    clear hE hC0 hfm hfa hcon hclo hno
    go_wp2_with fail
    refine (copyInts_any vf facts w3 (HR.out.2.1.below (Below.step HB1.out HWy.out.2))).mono ?_
    rintro e w4 ⟨u4, rfl, own4, bel4⟩
    have H4 : Hid (Own w3.heap.size w4 u4 (facts ++ (cs.take 0).map Prod.fst) ∧ Below w3.heap.size w3 w4) := ⟨by simpa using own4, bel4⟩
    obtain ⟨a4, c4, e4⟩ := own_form own4
    subst e4
    clear own4 bel4
    go_wp2
    go_loopg [8, 9] (cs.length + 1) (fun g kn' i' wr => ∃ (i : Nat) (a5 : Option Addr) (c5 : Nat), i + g = cs.length + 1 ∧ kn' = .slice a5 (facts ++ (cs.take i).map Prod.fst).length c5 ∧ i' = .int .i64 i ∧ Own w3.heap.size wr (.slice a5 (facts ++ (cs.take i).map Prod.fst).length c5) (facts ++ (cs.take i).map Prod.fst) ∧ Below w3.heap.size w3 wr)
    case atStart => exact ⟨0, a4, c4, by omega, by simp, rfl, by simpa using H4.out.1, H4.out.2⟩
    case round =>
      obtain ⟨i, a5, c5, hi, rfl, rfl, hown, hbel⟩ := hrel
      have HI : Hid (i + gk = cs.length + 1) := hi
      have HW : Hid (Below w3.heap.size w3 wr ∧ Below W0.heap.size W0 wr ∧ Own w3.heap.size wr (.slice a5 (facts ++ (cs.take i).map Prod.fst).length c5) (facts ++ (cs.take i).map Prod.fst)) := ⟨hbel, Below.step HWy.out.2 hbel, hown⟩
      have hlk : (facts ++ (cs.take i).map Prod.fst).length ≤ 3145728 := by have := H8.out.2.2.1; have := HCe.out; simp; omega
      have HRk : Hid (Rd wr (.slice a5 (facts ++ (cs.take i).map Prod.fst).length c5) (facts ++ (cs.take i).map Prod.fst)) := hown.rd (by omega)
      have HSt : Hid (∀ (k : Nat) (hk : k < css.length), ∃ bb off au cc, sa = some ⟨bb, off, none⟩ ∧ wr.cell? ⟨bb, off + k, none⟩ = some (.slice au (css.getD k []).length cc) ∧ Calls Tryd.prog 27 #[.slice au (css.getD k []).length cc, .slice a5 (facts ++ (cs.take i).map Prod.fst).length c5] wr fun e w' => ∃ h x, e = .returned (.tuple #[.int .i64 h, .int .i64 x]) ∧ Sd (facts ++ (cs.take i).map Prod.fst) (css.getD k []) h x ∧ w' = wr) := fun k hk => by
        obtain ⟨bb, off, u, e, kc, hrd⟩ := HAT.out wr k (Below.step HB1.out HW.out.2.1) hk
        obtain ⟨au, cc, rfl, -, -, -⟩ := hrd.form
        exact ⟨bb, off, au, cc, e, kc, stands6_any _ _ _ _ wr hrd HRk.out (fun m hm => frm_fmd HClo.out.2.2.1 _ (getD_in hk) m hm)⟩
      obtain ⟨b0, b1⟩ := HX0.out wr HW.out.2.1
      clear hown hbel hi
      by_cases hlt : i < cs.length
      · obtain ⟨g, rfl, hcu, x1, x2⟩ := HU.out wr i hlt HW.out.1
        have hP := HClo.out.1.1.get hlt
        have HP : Hid (At css (facts ++ (cs.take i).map Prod.fst) (cs[i]).2 (cs[i]).1 ∧ (cs[i]).1 ≠ 0 ∧ facts ++ (cs.take (i + 1)).map Prod.fst = (facts ++ (cs.take i).map Prod.fst) ++ [(cs[i]).1]) := ⟨hP.1, hP.2, by rw [List.take_succ_eq_append_getElem hlt, List.map_append, List.append_assoc]; rfl⟩
        have hkl := hP.1.lt
        have HLT : Hid (i < cs.length) := hlt
        have hcl2 := HCe.out
        clear hP
        generalize hkk : (cs[i]).2 = kk at *
        generalize hll : (cs[i]).1 = ll at *
        clear hkk hll
        generalize hKN : facts ++ (cs.take i).map Prod.fst = KN at *
        clear hKN
        generalize hCL : css.length = CL at *
        have HCL : Hid (css.length = CL) := hCL
        clear hCL
        have hd1 : decide (CL ≤ kk) = false := decide_eq_false (by omega)
        have hd2 : decide ((kk : Int) < -1) = false := decide_eq_false (by omega)
        have hd3 : decide (i ≤ cs.length) = true := decide_eq_true (by omega)
        go_wp2
        clear hd1 hd2 hd3
        generalize wr = w5 at *
        generalize gk = G at *
        go_loopg [11] CL (fun q k' wx => ∃ k : Nat, k + q = CL ∧ k ≤ kk ∧ k' = .int .i64 k ∧ wx = w5)
        case atStart => exact ⟨0, by omega, by omega, rfl, rfl⟩
        case round =>
          obtain ⟨k, hk, hkk, rfl, hwx⟩ := hrel
          obtain rfl : w5 = wr := hwx.symm
          clear hwx
          have HK : Hid (k + gk = CL) := hk
          have hkc : k < CL := by omega
          have HKL : Hid (k < css.length) := by rw [HCL.out]; exact hkc
          obtain ⟨bb, off, ay, cy, rfl, kc, hcall⟩ := HSt.out k hkc
          have HCall := (show Hid _ from hcall)
          clear hcall hk
          generalize (css.getD k []).length = lc at *
          go_wp2_with fail
          refine Calls.mono HCall.out ?_
          rintro e w6 ⟨h, x, rfl, hsd, hw6⟩
          obtain rfl : w5 = w6 := hw6.symm
          clear hw6 HCall
          by_cases hkE : k = kk
          · subst hkE
            have hAt := HP.out.1.at'
            obtain ⟨rfl, rfl⟩ : h = 2 ∧ x = ll := by
              rcases hsd with ⟨e, _⟩ | ⟨e, _⟩ | ⟨e, _, e2⟩
              · rw [hAt] at e; cases e
              · rw [hAt] at e; injection e with e; exact absurd e HP.out.2.1
              · rw [hAt] at e; injection e with e; exact ⟨e2, e.symm⟩
            clear hsd hAt
            have HO6 : Hid (Own w3.heap.size (w5.alloc (.cells #[.int .i64 x] 3)) (.slice a5 KN.length c5) KN) := HW.out.2.2.below (below_box _ _)
            have HR6 : Hid (Rd (w5.alloc (.cells #[.int .i64 x] 3)) (.slice (some ⟨w5.heap.size, 0, none⟩) 1 1) [x]) := (ownOne w5 x).rd (by simp)
            have hl6 : (KN.length + 1) * 8 ≤ 140737488355328 := by omega
            have HA6 : Hid (∀ v7 w7, Own w3.heap.size w7 v7 (KN ++ [x]) → Ap (w5.alloc (.cells #[.int .i64 x] 3)) (.slice a5 KN.length c5) w7 v7 → Below w3.heap.size w3 w7) := fun v7 w7 own7 ap7 => (Below.step HW.out.1 (below_box _ _)).grown ap7.grown (Nat.le_trans HW.out.1.size (below_box _ _).size) (fun q e => (HO6.out.lt q e).1)
            have HS6 : Hid (w3.heap.size ≤ (w5.alloc (.cells #[.int .i64 x] 3)).heap.size) := Nat.le_trans HW.out.1.size (below_box _ _).size
            go_wp2_with (at_builtin; refine wpList_app_rd rfl _ _ rfl w3.heap.size (.slice a5 KN.length c5) (.slice (some ⟨w5.heap.size, 0, none⟩) 1 1) KN [x] rfl rfl HO6.out HR6.out hl6 HS6.out ?_; intro v7 w7 own7 ap7; have F7 : Hid (Own w3.heap.size w7 v7 (KN ++ [x]) ∧ Below w3.heap.size w3 w7) := ⟨own7, HA6.out v7 w7 own7 ap7⟩; obtain ⟨a7, c7, hv7⟩ := own_form own7; subst hv7; clear own7 ap7)
            go_roundg (G - 1)
            case measure => have := HI.out; have := HLT.out; omega
            case rel => exact ⟨i + 1, a7, c7, by have := HI.out; have := HLT.out; omega, by rw [HP.out.2.2]; simp, by go_num, by rw [HP.out.2.2]; exact F7.out.1, F7.out.2⟩
          · have hne : ((k : Int) == (kk : Int)) = false := by simp; omega
            have hno := HP.out.1.first k (by omega)
            have hh : h = 0 ∨ h = 1 := by
              rcases hsd with ⟨_, e⟩ | ⟨e, _⟩ | ⟨e, _, e2⟩
              · exact e
              · rw [hno] at e; cases e
              · rw [hno] at e; cases e
            clear hsd hno
            rcases hh with rfl | rfl
            all_goals
              go_wp2
              go_roundg (gk - 1)
              case measure => have := HK.out; omega
              case rel => exact ⟨k + 1, by have := HK.out; omega, by omega, by go_num, rfl⟩
      · by_cases hle : i = cs.length
        · subst hle
          have HEnd : Hid (End css (facts ++ (cs.take cs.length).map Prod.fst) e0) := by rw [List.take_length]; exact HClo.out.1.2
          have HTk : Hid (facts ++ (cs.take (cs.length + 1)).map Prod.fst = facts ++ (cs.take cs.length).map Prod.fst) := by show _ = _; rw [List.take_length, List.take_of_length_le (Nat.le_succ _)]
          have hcl2 := HCe.out
          generalize hKN : facts ++ (cs.take cs.length).map Prod.fst = KN at *
          clear hKN
          generalize hCL : css.length = CL at *
          have HCL : Hid (css.length = CL) := hCL
          clear hCL
          rcases HEnd.out with ⟨rfl, hcalm⟩ | ⟨kk, rfl, hat⟩
          · have HCalm : Hid (Calm css KN) := hcalm
            clear hcalm HEnd
            go_wp2
            generalize wr = w5 at *
            generalize gk = G at *
            go_loopg [11] CL (fun q k' wx => ∃ k : Nat, k + q = CL ∧ k' = .int .i64 k ∧ wx = w5)
            case atStart => exact ⟨0, by omega, rfl, rfl⟩
            case round =>
              obtain ⟨k, hk, rfl, hwx⟩ := hrel
              obtain rfl : w5 = wr := hwx.symm
              clear hwx
              have HK : Hid (k + gk = CL) := hk
              clear hk
              by_cases hkc : k < CL
              · obtain ⟨bb, off, ay, cy, rfl, kc, hcall⟩ := HSt.out k hkc
                have HCall := (show Hid _ from hcall)
                have HKL : Hid (k < css.length) := by rw [HCL.out]; exact hkc
                clear hcall
                generalize (css.getD k []).length = lc at *
                have hne : ((k : Int) == -1) = false := by simp
                go_wp2_with fail
                refine Calls.mono HCall.out ?_
                rintro e w6 ⟨h, x, rfl, hsd, hw6⟩
                obtain rfl : w5 = w6 := hw6.symm
                clear hw6 HCall
                have hno := HCalm.out k HKL.out
                have hh : h = 0 ∨ h = 1 := by
                  rcases hsd with ⟨_, e⟩ | ⟨e, _⟩ | ⟨e, _, e2⟩
                  · exact e
                  · rw [hno] at e; cases e
                  · rw [hno] at e; cases e
                clear hsd hno
                rcases hh with rfl | rfl
                all_goals
                  go_wp2
                  go_roundg (gk - 1)
                  case measure => have := HK.out; omega
                  case rel => exact ⟨k + 1, by have := HK.out; omega, by go_num, rfl⟩
              · obtain rfl : k = CL := by have := HK.out; omega
                go_wp2
                go_roundg (G - 1)
                case measure => have := HI.out; omega
                case rel => exact ⟨cs.length + 1, a5, c5, by have := HI.out; omega, by rw [HTk.out], by go_num, by rw [HTk.out]; exact HW.out.2.2, HW.out.1⟩
          · have HAt : Hid (At css KN kk 0) := hat
            have hkl : kk < CL := by have := hat.lt; have := HCL.out; omega
            clear hat HEnd
            have hd1 : decide (CL ≤ kk) = false := decide_eq_false (by omega)
            have hd2 : decide ((kk : Int) < -1) = false := decide_eq_false (by omega)
            go_wp2
            clear hd1 hd2
            generalize wr = w5 at *
            generalize gk = G at *
            go_loopg [11] CL (fun q k' wx => ∃ k : Nat, k + q = CL ∧ k ≤ kk ∧ k' = .int .i64 k ∧ wx = w5)
            case atStart => exact ⟨0, by omega, by omega, rfl, rfl⟩
            case round =>
              obtain ⟨k, hk, hkk, rfl, hwx⟩ := hrel
              obtain rfl : w5 = wr := hwx.symm
              clear hwx
              have HK : Hid (k + gk = CL) := hk
              have hkc : k < CL := by omega
              obtain ⟨bb, off, ay, cy, rfl, kc, hcall⟩ := HSt.out k hkc
              have HCall := (show Hid _ from hcall)
              clear hcall hk
              generalize (css.getD k []).length = lc at *
              go_wp2_with fail
              refine Calls.mono HCall.out ?_
              rintro e w6 ⟨h, x, rfl, hsd, hw6⟩
              obtain rfl : w5 = w6 := hw6.symm
              clear hw6 HCall
              by_cases hkE : k = kk
              · subst hkE
                have hAt := HAt.out.at'
                obtain rfl : h = -1 := by
                  rcases hsd with ⟨e, _⟩ | ⟨_, e⟩ | ⟨e, e1, e2⟩
                  · rw [hAt] at e; cases e
                  · exact e
                  · rw [hAt] at e; injection e with e; exact absurd e.symm e1
                clear hsd hAt
                go_wp2
                go_roundg (G - 1)
                case measure => have := HI.out; omega
                case rel => exact ⟨cs.length + 1, a5, c5, by have := HI.out; omega, by rw [HTk.out], by go_num, by rw [HTk.out]; exact HW.out.2.2, HW.out.1⟩
              · have hne : ((k : Int) == (kk : Int)) = false := by simp; omega
                have hno := HAt.out.first k (by omega)
                have hh : h = 0 ∨ h = 1 := by
                  rcases hsd with ⟨_, e⟩ | ⟨e, _⟩ | ⟨e, _, e2⟩
                  · exact e
                  · rw [hno] at e; cases e
                  · rw [hno] at e; cases e
                clear hsd hno
                rcases hh with rfl | rfl
                all_goals
                  go_wp2
                  go_roundg (gk - 1)
                  case measure => have := HK.out; omega
                  case rel => exact ⟨k + 1, by have := HK.out; omega, by omega, by go_num, rfl⟩
        · obtain rfl : i = cs.length + 1 := by have := HI.out; omega
          have HTk : Hid (facts ++ (cs.take (cs.length + 1)).map Prod.fst = facts ++ cs.map Prod.fst) := by show _ = _; rw [List.take_of_length_le (Nat.le_succ _)]
          rw [HTk.out] at HRk
          rw [HTk.out]
          have hcl2 := HCe.out
          clear HSt hlk hle
          generalize hKN : facts ++ cs.map Prod.fst = KN at *
          have HKN : Hid (facts ++ cs.map Prod.fst = KN) := hKN
          clear hKN HTk
          go_wp2_with fail
          refine (copyFormula_any n _ css wr (HR.out.1.below (Below.step HB1.out HW.out.2.1))).mono ?_
          rintro e w6 ⟨u6, rfl, own6, bel6⟩
          have H6 : Hid (Rds w6 u6 css ∧ Below wr.heap.size wr w6) := ⟨own6.rds H8.out.1 H8.out.2.1, bel6⟩
          obtain ⟨a6, c6, e6⟩ := ownf_form own6
          subst e6
          clear own6 bel6 b0 b1
          go_wp2_with fail
          refine (copyInts_any vf facts w6 (HR.out.2.1.below (Below.step HB1.out (Below.step HW.out.2.1 H6.out.2)))).mono ?_
          rintro e w7 ⟨u7, rfl, own7, bel7⟩
          have H7 : Hid (Rds w7 (.slice a6 css.length c6) css ∧ Rd w7 u7 facts ∧ Below wr.heap.size wr w7) := ⟨H6.out.1.below bel7, own7.rd (by have := H8.out.2.2.1; omega), Below.step H6.out.2 bel7⟩
          obtain ⟨a7, c7, e7⟩ := own_form own7
          subst e7
          clear own7 bel7 H6
          go_wp2_with fail
          refine (uClose_any n _ _ css facts w7 H7.out.1 H7.out.2.1 HR.out.2.2.2 (HR.out.2.2.1.below (Below.step HB1.out (Below.step HW.out.2.1 H7.out.2.2)))).mono ?_
          rintro e w8 ⟨u8, cl8, D, rfl, cz8⟩
          obtain ⟨hs1, hs2, hs3⟩ := story_end (nz_of_frm HClo.out.2.2.1) HClo.out.2.1 HClo.out.1 (cz8.yes HClo.out.2.2.2)
          rw [HKN.out] at hs2 hs3
          have HS : Hid ((∀ x ∈ D, KN.contains x = true) ∧ (cl8 = false → D = [] → KN = [])) := ⟨fun x hx => List.contains_iff_mem.2 (hs2 x hx), hs3⟩
          have hDl := clz_len6b cz8
          have HRD : Hid (Rd w8 u8 D ∧ Below wr.heap.size wr w8) := ⟨cz8.own.rd (by omega), Below.step H7.out.2.2 cz8.bel⟩
          have HRk8 : Hid (Rd w8 (.slice a5 KN.length c5) KN) := HRk.out.below HRD.out.2
          obtain ⟨a8, c8, e8⟩ := own_form cz8.own
          subst e8
          obtain ⟨ax, cx, ex, hx1, hx2, hcx⟩ := HRD.out.1.form
          injection ex with ex1 _ ex3
          subst ex1; subst ex3
          have HCx : Hid (∀ j, j < D.length → ∃ bb off, a8 = some ⟨bb, off, none⟩ ∧ w8.cell? ⟨bb, off + j, none⟩ = some (.int .i64 (D.getD j 0))) := hcx
          have HFin : Hid (Below w.heap.size w w8) := Below.step (Below.step HB1.out HW.out.2.1) HRD.out.2
          rw [HClo.out.2.2.2]
          clear cz8 hs2 hs3 hcx H7 HRk
          generalize wr = w5 at *
          generalize gk = G at *
          by_cases h0 : 0 ≤ e0
          · obtain rfl : cl8 = true := by rw [hs1]; exact decide_eq_true h0
            clear hs1
            go_wp2
            go_loopg [17] D.length (fun q i' wx => ∃ k : Nat, k + q = D.length ∧ i' = .int .i64 k ∧ wx = w8)
            case atStart => exact ⟨0, by omega, rfl, rfl⟩
            case round =>
              obtain ⟨k, hk, rfl, hwx⟩ := hrel
              obtain rfl : w8 = wr := hwx.symm
              have HK : Hid (k + gk = D.length) := hk
              clear hwx hk
              by_cases hlt : k < D.length
              · obtain ⟨bb, off, rfl, kc⟩ := HCx.out k hlt
                have HLT : Hid (k < D.length) := hlt
                have HIn : Hid (KN.contains (D.getD k 0) = true) := HS.out.1 _ (getD_mem' hlt)
                generalize D.getD k 0 = y at *
                go_wp2_with fail
                refine (hasInt6_any _ KN y w8 HRk8.out).mono ?_
                rintro e w16 ⟨rfl, hw16⟩
                obtain rfl : w8 = w16 := hw16.symm
                rw [HIn.out]
                clear hw16
                go_wp2
                go_roundg (gk - 1)
                case measure => have := HK.out; have := HLT.out; omega
                case rel => exact ⟨k + 1, by have := HK.out; have := HLT.out; omega, by go_num, rfl⟩
              · go_wp2
                go_ret
                exact ⟨rfl, HFin.out⟩
          · obtain rfl : cl8 = false := by rw [hs1]; exact decide_eq_false h0
            clear hs1
            go_wp2
            go_loopg [17] D.length (fun q i' wx => ∃ k : Nat, k + q = D.length ∧ i' = .int .i64 k ∧ wx = w8)
            case atStart => exact ⟨0, by omega, rfl, rfl⟩
            case round =>
              obtain ⟨k, hk, rfl, hwx⟩ := hrel
              obtain rfl : w8 = wr := hwx.symm
              have HK : Hid (k + gk = D.length) := hk
              clear hwx hk
              by_cases hlt : k < D.length
              · obtain ⟨bb, off, rfl, kc⟩ := HCx.out k hlt
                have HLT : Hid (k < D.length) := hlt
                have HIn : Hid (KN.contains (D.getD k 0) = true) := HS.out.1 _ (getD_mem' hlt)
                generalize D.getD k 0 = y at *
                go_wp2_with fail
                refine (hasInt6_any _ KN y w8 HRk8.out).mono ?_
                rintro e w16 ⟨rfl, hw16⟩
                obtain rfl : w8 = w16 := hw16.symm
                rw [HIn.out]
                clear hw16
                go_wp2
                go_roundg (gk - 1)
                case measure => have := HK.out; have := HLT.out; omega
                case rel => exact ⟨k + 1, by have := HK.out; have := HLT.out; omega, by go_num, rfl⟩
              · by_cases hD0 : 0 < D.length
                · go_wp2
                  go_ret
                  exact ⟨rfl, HFin.out⟩
                · have hKN : KN = [] := HS.out.2 (by first | rfl | trivial) (List.length_eq_zero_iff.1 (by omega))
                  subst hKN
                  go_wp2
                  go_ret
                  exact ⟨rfl, HFin.out⟩
  · have HNo := hno hE
    obtain ⟨hu, hc, he⟩ := HNo
    subst hu; subst hc; subst he
    have hE2 : (whyE n css facts == 0) = false := by simpa using hE
    clear hno hE eu
    generalize whyE n css facts = E at *
    go_wp2_with fail
    refine (HAw.out w3 (Below.step HB1.out HWy.out.2)).mono ?_
    rintro e w9 ⟨rfl, bel9⟩
    have HF : Hid (Below w.heap.size w w9) := bel9
    clear bel9
    go_wp2
    go_ret
    exact ⟨rfl, HF.out⟩
end unitStory
end Go.Proofs.YtmhelbgemehdmaaDoor

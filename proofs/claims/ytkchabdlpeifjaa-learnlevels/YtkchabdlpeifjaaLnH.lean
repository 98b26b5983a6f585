/-
  learn: Levels, the document's side; LearnLevels.
  KEEP: len below nil form rd mono one more grown lt size cell some none of ofNat add out step row get at mk new made look put del kept drew alloc has same other map rde take lit lev lstB pre ws cells bnd on start app set box bel rz tidy ms
-/
import Derived.Test.YtkchabdlpeifjaaLnG
set_option linter.unusedSimpArgs false
set_option linter.unusedVariables false
namespace Go.Proofs.Ytkchabdlpeifjaa
open Go Go.RowKit
theorem Ws.vpl_or {t : List Ent} (h : Ws t) {x : Int} (hx : fmd x = true) : vpl t (varOf x) = (plc t x).or (plc t (-x)) := by
  cases e : plc t x with
  | some i => rw [h.plc_vpl hx e]; rfl
  | none =>
    cases e2 : plc t (-x) with
    | some i =>
      have := h.plc_vpl (fmd_neg hx) e2
      rw [varOf_opp hx] at this
      rw [this]; rfl
    | none =>
      have := vpl_both h hx
      rw [e, e2] at this
      simpa using this
set_option maxHeartbeats 3200000 in
set_option maxRecDepth 100000 in
theorem rLevels_any (v vc : Value) (t : List Ent) (zs : List Int) (w : World) (hr : RdE w v t) (hz : Rd w vc zs) :
    Calls Try.prog 20 #[v, vc] w fun e w' => e = .returned (.tuple #[.int .i64 (lvsI t zs).1, .int .i64 (lvsI t zs).2]) ∧ Below w.heap.size w w' := by
  have hl := hz.len
  have hl2 := hr.len
  have HFo : Hid (Calls Try.prog 12 #[v] w fun e w' => e = .returned (.bool (frmE t)) ∧ ∃ m, w' = w.drewN m) := r15Formed_any v t w hr
  have HSo : Hid (∀ m, Calls Try.prog 47 #[vc] (w.drewN m) fun e w' => e = .returned (.bool (zs.all fmd)) ∧ w' = w.drewN m) := fun m => rSound15_any _ zs _ (hz.below (below_drewN w m))
  obtain ⟨LI, hLI⟩ : ∃ LI, lvsI t zs = LI := ⟨_, rfl⟩
  have HLI : Hid ((if frmE t && zs.all fmd then (if hasB t zs then (((dis (zs.map (lvl t))).length : Int), 0) else ((0 : Int), (2 : Int))) else ((0 : Int), (1 : Int))) = LI) := by rw [← hLI]; rfl
  rw [hLI]
  have HR : Hid (RdE w v t) := hr
  have HZ : Hid (Rd w vc zs) := hz
  clear hLI hr hz
  cases h1 : frmE t
  · have HE : Hid (LI = (0, 1)) := by show LI = _; rw [← HLI.out, h1]; rfl
    rw [h1] at HFo
    clear h1 HLI
    go_enter Try.func20, Try.ntmps20
    go_wp2_with (first | (go_at_call 12; refine HFo.out.mono ?_; rintro e w' ⟨rfl, n1, hw⟩; obtain rfl := hw))
    go_ret2
    exact ⟨by rw [HE.out]; rfl, below_drewN _ _⟩
  cases h2 : zs.all fmd
  · have HE : Hid (LI = (0, 1)) := by show LI = _; rw [← HLI.out, h1, h2]; rfl
    rw [h1] at HFo
    rw [h2] at HSo
    clear h1 h2 HLI
    go_enter Try.func20, Try.ntmps20
    go_wp2_with (first | (go_at_call 12; refine HFo.out.mono ?_; rintro e w' ⟨rfl, n1, hw⟩; obtain rfl := hw) | (go_at_call 47; refine (HSo.out _).mono ?_; rintro e w' ⟨rfl, hw⟩; obtain rfl := hw.symm))
    go_ret2
    exact ⟨by rw [HE.out]; rfl, below_drewN _ _⟩
  have HWs : Hid (Ws t) := (frmE_iff t).1 h1
  have HLI2 : Hid ((if hasB t zs then (((dis (zs.map (lvl t))).length : Int), 0) else ((0 : Int), (2 : Int))) = LI) := by have := HLI.out; rw [h1, h2] at this; exact this
  have HFm : Hid (zs.all fmd = true) := h2
  rw [h1] at HFo
  rw [h2] at HSo
  clear h1 h2 HLI
  obtain ⟨a, c, rfl, hc, hm, _⟩ := HR.out.form
  obtain ⟨ua, uc, rfl, huc, hum, hcell⟩ := HZ.out.form
  obtain ⟨i0, hi, hz0, hz1, hz2⟩ := info_parts Try.info3
  clear hcell
  go_enter Try.func20, Try.ntmps20
  go_wp2_with (first | (go_at_call 12; refine HFo.out.mono ?_; rintro e w' ⟨rfl, n1, hw⟩; obtain rfl := hw) | (go_at_call 47; refine (HSo.out _).mono ?_; rintro e w' ⟨rfl, hw⟩; obtain rfl := hw.symm))
  go_loopg [6, 7] zs.length (fun g u i wr => ∃ k : Nat, k + g = zs.length ∧ i = .int .i64 k ∧ hasB t (zs.take k) = true ∧ Hid (Own w.heap.size wr u (dis ((zs.take k).map (lvl t)))) ∧ Below w.heap.size w wr)
  case atStart => exact ⟨0, by omega, rfl, rfl, World.ownsRow_nil _ _ _ _, below_drewN _ _⟩
  case round =>
    obtain ⟨k, hk, rfl, hall, HO, bel⟩ := hrel
    have HA : Hid (hasB t (zs.take k) = true) := hall
    have HK : Hid (k + gk = zs.length) := hk
    have HB : Hid (Below w.heap.size w wr) := bel
    have hsz := bel.size
    have hdl := dis_le ((zs.take k).map (lvl t))
    rw [List.length_map, List.length_take] at hdl
    obtain ⟨oa, oc, hu⟩ := own_form HO.out
    subst hu
    clear hall
    by_cases hlt : k < zs.length
    · have hdl2 : (dis ((zs.take k).map (lvl t))).length ≤ k := by omega
      have HRw : Hid (RdE wr (.slice a t.length c) t) := HR.out.below bel
      obtain ⟨ua', uc', e', _, _, hcell⟩ := (HZ.out.below bel).form
      injection e' with q1 q2 q3
      subst q1 q3
      obtain ⟨b2, off2, rfl, hck⟩ := hcell k hlt
      have hfy : fmd (zs.getD k 0) = true := (List.all_eq_true.1 HFm.out) _ (getD_mem' hlt)
      have hxr := fmd_range hfy
      have hwr : IntKind.i64.wrap (-(zs.getD k 0)) = -(zs.getD k 0) := by rw [IntKind.wrap_i64]; omega
      have HM := all_more (fun x => (vpl t (varOf x)).isSome) zs k hlt
      have HN : Hid ((vpl t (varOf (zs.getD k 0))).isSome = false → LI = (0, 2)) := fun h => by rw [← HLI2.out, show hasB t zs = false from all_no hlt h]; rfl
      have HM2 : Hid ((vpl t (varOf (zs.getD k 0))).isSome = true → hasB t (zs.take (k + 1)) = true) := fun h => by
        show (zs.take (k + 1)).all _ = true
        rw [HM]; exact Bool.and_eq_true_iff.2 ⟨HA.out, h⟩
      have HOr : Hid (vpl t (varOf (zs.getD k 0)) = (plc t (zs.getD k 0)).or (plc t (-(zs.getD k 0)))) := HWs.out.vpl_or hfy
      have HLv : Hid (∀ i, vpl t (varOf (zs.getD k 0)) = some i → lvl t (zs.getD k 0) = (t.getD i e0).2.1) := fun i h => by unfold lvl; rw [h]
      have HDs : Hid (dis ((zs.take (k + 1)).map (lvl t)) = addL (dis ((zs.take k).map (lvl t))) (lvl t (zs.getD k 0))) := by
        show _ = _
        rw [map_more (lvl t) zs k hlt, dis_snoc]
      have HPP : Hid (∀ x, x = zs.getD k 0 ∨ x = -(zs.getD k 0) → Calls Try.prog 27 #[.slice a t.length c, .int .i64 x] wr fun e w' => e = .returned (.int .i64 (plI t x)) ∧ w' = wr) := fun x hx => by
        rcases hx with hx | hx
        · rw [hx]; exact rPlace_any _ t _ _ HRw.out hfy
        · rw [hx]; exact rPlace_any _ t _ _ HRw.out (fmd_neg hfy)
      have HHI : Hid (∀ l, Calls Try.prog 44 #[.slice oa (dis ((zs.take k).map (lvl t))).length oc, .int .i64 l] wr fun e w' => e = .returned (.bool ((dis ((zs.take k).map (lvl t))).contains l)) ∧ w' = wr) := fun l => hasInt15_any _ _ l wr (HO.out.rd (by omega))
      generalize hD : dis ((zs.take k).map (lvl t)) = D at *
      clear hk HM hcell hfy hD hdl HLI2
      generalize zs.getD k 0 = y at *
      cases hp1 : plc t y with
      | some i =>
        have hi1 := (plc_some hp1).1
        have hvp : vpl t (varOf y) = some i := by rw [HOr.out, hp1]; rfl
        have HT : Hid (hasB t (zs.take (k + 1)) = true) := HM2.out (by rw [hvp]; rfl)
        have hLv := HLv.out i hvp
        have hpI : plI t y = (i : Int) := plI_some hp1
        obtain ⟨b, off, u, rfl, hbl, c0, c1, c2, _⟩ := HRw.out.at hi1
        rw [hLv] at HDs
        generalize (t.getD i e0).2.1 = lv at *
        cases hh : D.contains lv
        · have HD2 : Hid (dis ((zs.take (k + 1)).map (lvl t)) = D ++ [lv]) := by show _ = _; rw [HDs.out]; unfold addL; rw [hh]; rfl
          have HHI2 : Hid (Calls Try.prog 44 #[.slice oa D.length oc, .int .i64 lv] wr fun e w' => e = .returned (.bool false) ∧ w' = wr) := by have := HHI.out lv; rw [hh] at this; exact this
          clear HDs HM2 HN HOr HLv hvp hLv hp1 c0 c2 HHI hh
          go_wp2_with (first
            | (go_at_call 27; refine (HPP.out _ (by first | exact .inl rfl | exact .inr rfl)).mono ?_; rintro e w' ⟨rfl, hw⟩; obtain rfl := hw.symm; rw [hpI])
            | (go_at_call 44; refine HHI2.out.mono ?_; rintro e w' ⟨rfl, hw⟩; obtain rfl := hw.symm)
            | (at_builtin; refine wpList_append_own _ rfl _ _ 26 rfl w.heap.size 3 i0 (.int .i64 0) 1 8 Try.underlying26 hi hz0 hz1 hz2 rfl (by decide) _ D.length (D.map (Value.int .i64)) rfl (World.ownsRow.alloc HO.out _) _ 1 1 [.int .i64 lv] rfl rfl (cell_one_new _ _ _) (by simp [Value.oneCell']) (by unfold maxLen; omega) (by omega) (by simp; omega) ?_; intro v3 w3 own3 gr3 hn3))
          go_roundg (gk - 1)
          case measure => have := HK.out; omega
          case rel => exact ⟨k + 1, by have := HK.out; omega, by go_num, HT.out, by rw [HD2.out]; show World.ownsRow _ _ _ _ _ _ _; simpa using own3, (HB.out.alloc hsz _).grown gr3 (by simp; omega) (fun j hj => (World.ownsRow.lt HO.out j hj).1)⟩
        · have HD2 : Hid (dis ((zs.take (k + 1)).map (lvl t)) = D) := by show _ = _; rw [HDs.out]; unfold addL; rw [hh]; rfl
          have HHI2 : Hid (Calls Try.prog 44 #[.slice oa D.length oc, .int .i64 lv] wr fun e w' => e = .returned (.bool true) ∧ w' = wr) := by have := HHI.out lv; rw [hh] at this; exact this
          clear HDs HM2 HN HOr HLv hvp hLv hp1 c0 c2 HHI hh
          go_wp2_with (first
            | (go_at_call 27; refine (HPP.out _ (by first | exact .inl rfl | exact .inr rfl)).mono ?_; rintro e w' ⟨rfl, hw⟩; obtain rfl := hw.symm; rw [hpI])
            | (go_at_call 44; refine HHI2.out.mono ?_; rintro e w' ⟨rfl, hw⟩; obtain rfl := hw.symm))
          go_roundg (gk - 1)
          case measure => have := HK.out; omega
          case rel => exact ⟨k + 1, by have := HK.out; omega, by go_num, HT.out, by rw [HD2.out]; exact HO.out, HB.out⟩
      | none =>
        have hpN : plI t y = -1 := plI_none hp1
        cases hp2 : plc t (-y) with
        | some i =>
          have hi1 := (plc_some hp2).1
          have hvp : vpl t (varOf y) = some i := by rw [HOr.out, hp1, hp2]; rfl
          have HT : Hid (hasB t (zs.take (k + 1)) = true) := HM2.out (by rw [hvp]; rfl)
          have hLv := HLv.out i hvp
          have hpI : plI t (-y) = (i : Int) := plI_some hp2
          obtain ⟨b, off, u, rfl, hbl, c0, c1, c2, _⟩ := HRw.out.at hi1
          rw [hLv] at HDs
          generalize (t.getD i e0).2.1 = lv at *
          cases hh : D.contains lv
          · have HD2 : Hid (dis ((zs.take (k + 1)).map (lvl t)) = D ++ [lv]) := by show _ = _; rw [HDs.out]; unfold addL; rw [hh]; rfl
            have HHI2 : Hid (Calls Try.prog 44 #[.slice oa D.length oc, .int .i64 lv] wr fun e w' => e = .returned (.bool false) ∧ w' = wr) := by have := HHI.out lv; rw [hh] at this; exact this
            clear HDs HM2 HN HOr HLv hvp hLv hp1 hp2 c0 c2 HHI hh
            go_wp2_with (first
              | (go_at_call 27; refine (HPP.out _ (by first | exact .inl rfl | exact .inr rfl)).mono ?_; rintro e w' ⟨rfl, hw⟩; obtain rfl := hw.symm; first | rw [hpN] | rw [hpI])
              | (go_at_call 44; refine HHI2.out.mono ?_; rintro e w' ⟨rfl, hw⟩; obtain rfl := hw.symm)
              | (at_builtin; refine wpList_append_own _ rfl _ _ 26 rfl w.heap.size 3 i0 (.int .i64 0) 1 8 Try.underlying26 hi hz0 hz1 hz2 rfl (by decide) _ D.length (D.map (Value.int .i64)) rfl (World.ownsRow.alloc HO.out _) _ 1 1 [.int .i64 lv] rfl rfl (cell_one_new _ _ _) (by simp [Value.oneCell']) (by unfold maxLen; omega) (by omega) (by simp; omega) ?_; intro v3 w3 own3 gr3 hn3))
            go_roundg (gk - 1)
            case measure => have := HK.out; omega
            case rel => exact ⟨k + 1, by have := HK.out; omega, by go_num, HT.out, by rw [HD2.out]; show World.ownsRow _ _ _ _ _ _ _; simpa using own3, (HB.out.alloc hsz _).grown gr3 (by simp; omega) (fun j hj => (World.ownsRow.lt HO.out j hj).1)⟩
          · have HD2 : Hid (dis ((zs.take (k + 1)).map (lvl t)) = D) := by show _ = _; rw [HDs.out]; unfold addL; rw [hh]; rfl
            have HHI2 : Hid (Calls Try.prog 44 #[.slice oa D.length oc, .int .i64 lv] wr fun e w' => e = .returned (.bool true) ∧ w' = wr) := by have := HHI.out lv; rw [hh] at this; exact this
            clear HDs HM2 HN HOr HLv hvp hLv hp1 hp2 c0 c2 HHI hh
            go_wp2_with (first
              | (go_at_call 27; refine (HPP.out _ (by first | exact .inl rfl | exact .inr rfl)).mono ?_; rintro e w' ⟨rfl, hw⟩; obtain rfl := hw.symm; first | rw [hpN] | rw [hpI])
              | (go_at_call 44; refine HHI2.out.mono ?_; rintro e w' ⟨rfl, hw⟩; obtain rfl := hw.symm))
            go_roundg (gk - 1)
            case measure => have := HK.out; omega
            case rel => exact ⟨k + 1, by have := HK.out; omega, by go_num, HT.out, by rw [HD2.out]; exact HO.out, HB.out⟩
        | none =>
          have hvp : vpl t (varOf y) = none := by rw [HOr.out, hp1, hp2]; rfl
          have HT : Hid (LI = (0, 2)) := HN.out (by rw [hvp]; rfl)
          have hpI : plI t (-y) = -1 := plI_none hp2
          clear HDs HM2 HN HOr HLv hvp hp1 hp2 HHI
          go_wp2_with (first
            | (go_at_call 27; refine (HPP.out _ (by first | exact .inl rfl | exact .inr rfl)).mono ?_; rintro e w' ⟨rfl, hw⟩; obtain rfl := hw.symm; first | rw [hpN] | rw [hpI]))
          go_ret2
          exact ⟨by rw [HT.out]; rfl, HB.out⟩
    · obtain rfl : k = zs.length := by omega
      have HE : Hid (LI = (((dis (zs.map (lvl t))).length : Int), 0)) := by
        have h1 := HA.out
        rw [List.take_length] at h1
        show LI = _
        rw [← HLI2.out, h1]; rfl
      rw [List.take_length] at HO ⊢
      clear hk hdl
      go_wp2
      go_ret2
      exact ⟨by rw [HE.out]; rfl, HB.out⟩
end Go.Proofs.Ytkchabdlpeifjaa

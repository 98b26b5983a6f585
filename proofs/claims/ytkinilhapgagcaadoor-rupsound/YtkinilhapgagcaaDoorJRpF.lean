/-
  joined: RpF RpL RpK RpT RpW RpU
-/
import Derived.Test.YtkinilhapgagcaaDoorJOnR
import Derived.Test.YtkinilhapgagcaaDoorKRpO
import Derived.Sort.AtCall
import Derived.Deep.RegionHeld
import Derived.Test.YtkinilhapgagcaaDoorKRuS
import Derived.Test.YtkinilhapgagcaaDoorKCopy
import Derived.Test.YtkinilhapgagcaaDoorKConcat
import Derived.Deep.CutRange
set_option linter.unusedSimpArgs false
set_option linter.unusedVariables false
namespace Go.Proofs.YtkinilhapgagcaaDoor
open Go Go.RowKit

/-- is what comes in well shaped? -/
def shp (v : Int) (css : List (List Int)) (c : List Int) : Bool := frm v css && c.all fmd
def shE (b : Bool) : Int := if b then 0 else 1
theorem clo_sh {v : Int} {css : List (List Int)} {c : List Int} (hi : ∀ x ∈ c, i64 x) : cloE v css (c.map ngw) = shE (shp v css c) := by
  unfold cloE shE shp
  rw [opw_all hi]
/-- what Close says of the opposites -/
structure Cf (w W : World) (v : Int) (css : List (List Int)) (c : List Int) (u : Value) (clash : Bool) (D : List Int) : Prop where
  own : Own w.heap.size W u D
  no : shp v css c = false → clash = false
  cl : shp v css c = true → clash = folB css c
  der : shp v css c = true → clash = false → ∀ x, x ∈ D ↔ Der css (opp c) x
  fmd : ∀ x ∈ D, Go.Proofs.YtkinilhapgagcaaDoor.fmd x = true
  bel : Below w.heap.size w W
  len : D.length ≤ 2097152
theorem Cf.of {w w0 W : World} {v : Int} {css : List (List Int)} {c : List Int} {u : Value} {clash : Bool} {D : List Int} (hi : ∀ x ∈ c, i64 x) (h : Clz w0 W v css (c.map ngw) u clash D) (hb : Below w.heap.size w w0) : Cf w W v css c u clash D := by
  have hs := clo_sh (v := v) (css := css) hi
  have hyes : shp v css c = true → Says6 css (opp c) clash D := fun h2 => by
    have h3 : c.all Go.Proofs.YtkinilhapgagcaaDoor.fmd = true := by unfold shp at h2; rw [Bool.and_eq_true] at h2; exact h2.2
    have := h.yes (by rw [hs, h2]; rfl)
    rw [opw_opp h3] at this
    exact this
  refine ⟨h.own.mono hb.size, fun h2 => (h.no (by rw [hs, h2]; decide)).1, fun h2 => ?_, fun h2 h3 => ?_, h.fmd, Below.step hb h.bel, ?_⟩
  · rcases hyes h2 with ⟨e, cl, _⟩ | ⟨e, cl, _⟩
    · rw [e]; exact (claB_of cl).symm
    · rw [e]; exact (claB_not cl).symm
  · rcases hyes h2 with ⟨e, _⟩ | ⟨_, _, _, hd⟩
    · rw [h3] at e; cases e
    · exact hd
  · have hn : D.Nodup := by
      by_cases h0 : cloE v css (c.map ngw) = 0
      · rcases h.yes h0 with ⟨_, _, e⟩ | ⟨_, _, hr, _⟩
        · rw [e]; exact List.nodup_nil
        · exact hr.imp (fun h => by intro e; subst e; omega)
      · rw [(h.no h0).2]; exact List.nodup_nil
    exact lits_few hn h.fmd
theorem Deb.at {w W : World} (h : Deb w) (hb : Below w.heap.size w W) : Deb W := h.below hb
theorem Cf.par {w W : World} {v : Int} {css : List (List Int)} {p : Int} {r : List Int} {u : Value} {D : List Int} (h : Cf w W v css (p :: r) u false D) (hs : shp v css (p :: r) = true) : Con D ∧ Calm css D ∧ parB css D p css = safB css (p :: r) ∧ frm v css = true ∧ Go.Proofs.YtkinilhapgagcaaDoor.fmd p = true ∧ folB css (p :: r) = false := by
  have h2 := hs
  unfold shp at h2
  rw [Bool.and_eq_true, List.all_cons, Bool.and_eq_true] at h2
  have hd := h.der hs rfl
  have hf : folB css (p :: r) = false := (h.cl hs).symm
  have hn : ¬ Cla css (opp (p :: r)) := fun h3 => by
    have := claB_of h3
    unfold folB at hf
    rw [this] at hf; cases hf
  obtain ⟨h4, h5⟩ := calm_clos (frm_nz h2.1) hn hd
  exact ⟨h4, h5, parB_clos hd, h2.1, h2.2.1, hf⟩
theorem Cf.yes {w W : World} {v : Int} {css : List (List Int)} {p : Int} {r : List Int} {u : Value} {D : List Int} (h : Cf w W v css (p :: r) u true D) (hs : shp v css (p :: r) = true) : folB css (p :: r) = true ∧ safB css (p :: r) = true := by
  have hf : folB css (p :: r) = true := (h.cl hs).symm
  exact ⟨hf, parB_clash (claB_true.1 hf)⟩
theorem two_same {a b : Value} {a' b' : Value} (h1 : a = a') (h2 : b = b') : Ending.returned (.tuple #[a, b]) = .returned (.tuple #[a', b']) := by rw [h1, h2]
set_option maxRecDepth 100000 in
set_option maxHeartbeats 3200000 in
theorem follows_any (v : Int) (s vc : Value) (css : List (List Int)) (c : List Int) (w : World) (hr : Rds w s css) (hc : Rd w vc c) (hi : ∀ x ∈ c, i64 x) (hw : Few css) (hD : Deb w) :
    Calls Tryd.prog 7 #[.agg #[.int .i64 v, s], vc] w fun e w' => e = .returned (.tuple #[.bool (shp v css c && folB css c), .int .i64 (shE (shp v css c))]) ∧ Below w.heap.size w w' := by
  have HX : Hid (Bx w v s css (w.alloc (.cells #[.int .i64 v, s] 24))) := Bx.new hr _
  have HR : Hid (Rd w vc c ∧ (∀ x ∈ c, i64 x) ∧ Few css ∧ Deb w) := ⟨hc, hi, hw, hD⟩
  obtain ⟨she, hshe⟩ : ∃ x, shE (shp v css c) = x := ⟨_, rfl⟩
  have HSE : Hid (shE (shp v css c) = she) := hshe
  have HSh : Hid (cloE v css (c.map ngw) = she) := (clo_sh hi).trans hshe
  obtain ⟨av, cv, rfl, -, -, hcell⟩ := hc.form
  obtain ⟨ac, cc, rfl, -, -, -⟩ := hr.form
  have hlc := hc.len
  have HC0 : Hid (∀ W, Below w.heap.size w W → 0 < c.length → ∃ bb off, av = some ⟨bb, off, none⟩ ∧ W.cell? ⟨bb, off, none⟩ = some (.int .i64 (c.getD 0 0))) := fun W hW h0 => by
    obtain ⟨bb, off, e, hc⟩ := hcell 0 h0
    exact ⟨bb, off, e, (hW.cell (p := ⟨bb, off + 0, none⟩) (World.block_lt_of_cell? w _ hc)).trans hc⟩
  clear hr hc hi hw hD hcell hshe
  go_enter Tryd.func7, Tryd.ntmps7
  go_wp2_with fail
  generalize hwa : w.alloc (.cells #[.int .i64 v, .slice ac css.length cc] 24) = wa at *
  have HOp : Hid (∀ W, Below wa.heap.size wa W → Calls Tryd.prog 22 #[.slice av c.length cv] W fun e w' => ∃ a2 c2, e = .returned (.slice a2 c.length c2) ∧ Rd w' (.slice a2 c.length c2) (c.map ngw) ∧ Below wa.heap.size wa w') := fun W hW => (oppos_any _ c W (HR.out.1.below (Below.step HX.out.bel hW))).mono fun e w' ⟨v', he, ho, hb⟩ => by
    have h5 := ho.rd (by rw [List.length_map]; exact hlc)
    obtain ⟨a2, c2, e2, -⟩ := h5.form
    rw [List.length_map] at e2
    subst e2
    exact ⟨a2, c2, he, h5, Below.step hW hb⟩
  have HCl : Hid (∀ W a2 c2, Below wa.heap.size wa W → Rd W (.slice a2 c.length c2) (c.map ngw) → Calls Tryd.prog 21 #[.agg #[.int .i64 v, .slice ac css.length cc], .slice a2 c.length c2] W fun e w' => ∃ u3 c3 clash D, e = .returned (.tuple #[.slice u3 D.length c3, .bool clash, .int .i64 she]) ∧ Cf w w' v css c (.slice u3 D.length c3) clash D ∧ Below wa.heap.size wa w') := fun W a2 c2 hW hrd => (uClose_any v _ _ css (c.map ngw) W (HX.out.rd.below hW) hrd HR.out.2.2.1 (HR.out.2.2.2.at (Below.step HX.out.bel hW))).mono fun e w' ⟨u, clash, D, he, hz⟩ => by
    obtain ⟨u3, c3, e3⟩ := own_form hz.own
    subst e3
    exact ⟨u3, c3, clash, D, by rw [← HSh.out]; exact he, Cf.of HR.out.2.1 hz (Below.step HX.out.bel hW), Below.step hW hz.bel⟩
  have HSt : Hid (∀ W, Below wa.heap.size wa W → Below wa.heap.size wa W ∧ W.cell? ⟨w.heap.size, 0, none⟩ = some (.int .i64 v) ∧ W.cell? ⟨w.heap.size, 1, none⟩ = some (.slice ac css.length cc)) := fun W hW => ⟨hW, (HX.out.on hW).c0, (HX.out.on hW).c1⟩
  have HXr : Hid (∀ W, Below wa.heap.size wa W → Rds W (.slice ac css.length cc) css) := fun W hW => HX.out.rd.below hW
  have HBw : Hid (∀ W, Below wa.heap.size wa W → Below w.heap.size w W) := fun W hW => Below.step HX.out.bel hW
  have c0 := HX.out.c0
  have c1 := HX.out.c1
  clear hwa HX
  go_region_held (fun W => Below wa.heap.size wa W ∧ W.cell? ⟨w.heap.size, 0, none⟩ = some (.int .i64 v) ∧ W.cell? ⟨w.heap.size, 1, none⟩ = some (.slice ac css.length cc)) (first | exact HSt.out _ (Below.refl _ _).drew | exact HSt.out _ B2.out | exact HSt.out _ B1.out) (first
    | (have qq := B1.out; go_at_call 21; refine (HCl.out _ _ _ B1.out R1.out).mono ?_; rintro e w2 ⟨u2, x2, clash2, D2, rfl, hcf, hb2⟩; have H2 : Hid (Cf w w2 v css c (.slice u2 D2.length x2) clash2 D2) := hcf; have B2 : Hid (Below wa.heap.size wa w2) := hb2; clear hcf hb2 qq)
    | (go_at_call 22; refine (HOp.out _ (Below.refl _ _).drew).mono ?_; rintro e w1 ⟨a1, c1', rfl, hr1, hb1⟩; have R1 : Hid (Rd w1 (.slice a1 c.length c1') (c.map ngw)) := hr1; have B1 : Hid (Below wa.heap.size wa w1) := hb1; clear hr1 hb1))
  clear c0 c1
  rename_i hHeld
  clear hHeld
  have HV : Hid (clash2 = (shp v css c && folB css c)) := by
    show _ = _
    cases hs : shp v css c
    · exact H2.out.no hs
    · exact H2.out.cl hs
  go_wp2
  go_ret2
  exact ⟨two_same (congrArg Value.bool HV.out) (congrArg (Value.int .i64) HSE.out.symm), HBw.out _ B2.out⟩
end Go.Proofs.YtkinilhapgagcaaDoor
set_option linter.unusedSimpArgs false
set_option linter.unusedVariables false
namespace Go.Proofs.YtkinilhapgagcaaDoor
open Go Go.RowKit

/-- what Kind answers -/
noncomputable def kn8 (v : Int) (css : List (List Int)) (c : List Int) : Int := if shp v css c then kndI css c else 0
theorem kn8_no {v : Int} {css : List (List Int)} {c : List Int} (h : shp v css c = false) : kn8 v css c = 0 := by unfold kn8; rw [h]; rfl
theorem kn8_yes {v : Int} {css : List (List Int)} {c : List Int} (h : shp v css c = true) : kn8 v css c = kndI css c := by unfold kn8; rw [if_pos h]
set_option maxRecDepth 100000 in
set_option maxHeartbeats 3200000 in
theorem kind_any (v : Int) (s vc : Value) (css : List (List Int)) (c : List Int) (w : World) (hr : Rds w s css) (hc : Rd w vc c) (hi : ∀ x ∈ c, i64 x) (hw : Few css) (hD : Deb w) :
    Calls Tryd.prog 12 #[.agg #[.int .i64 v, s], vc] w fun e w' => e = .returned (.tuple #[.int .i64 (kn8 v css c), .int .i64 (shE (shp v css c))]) ∧ Below w.heap.size w w' := by
  have HX : Hid (Bx w v s css (w.alloc (.cells #[.int .i64 v, s] 24))) := Bx.new hr _
  have HR : Hid (Rd w vc c ∧ (∀ x ∈ c, i64 x) ∧ Few css ∧ Deb w) := ⟨hc, hi, hw, hD⟩
  obtain ⟨she, hshe⟩ : ∃ x, shE (shp v css c) = x := ⟨_, rfl⟩
  have HSE : Hid (shE (shp v css c) = she) := hshe
  have HSh : Hid (cloE v css (c.map ngw) = she) := (clo_sh hi).trans hshe
  obtain ⟨av, cv, rfl, -, -, hcell⟩ := hc.form
  obtain ⟨ac, cc, rfl, -, -, -⟩ := hr.form
  have hlc := hc.len
  have HC0 : Hid (∀ W, Below w.heap.size w W → 0 < c.length → ∃ bb off, av = some ⟨bb, off, none⟩ ∧ W.cell? ⟨bb, off, none⟩ = some (.int .i64 (c.getD 0 0))) := fun W hW h0 => by
    obtain ⟨bb, off, e, hc⟩ := hcell 0 h0
    exact ⟨bb, off, e, (hW.cell (p := ⟨bb, off + 0, none⟩) (World.block_lt_of_cell? w _ hc)).trans hc⟩
  clear hr hc hi hw hD hcell hshe
  go_enter Tryd.func12, Tryd.ntmps12
  go_wp2_with fail
  generalize hwa : w.alloc (.cells #[.int .i64 v, .slice ac css.length cc] 24) = wa at *
  have HOp : Hid (∀ W, Below wa.heap.size wa W → Calls Tryd.prog 22 #[.slice av c.length cv] W fun e w' => ∃ a2 c2, e = .returned (.slice a2 c.length c2) ∧ Rd w' (.slice a2 c.length c2) (c.map ngw) ∧ Below wa.heap.size wa w') := fun W hW => (oppos_any _ c W (HR.out.1.below (Below.step HX.out.bel hW))).mono fun e w' ⟨v', he, ho, hb⟩ => by
    have h5 := ho.rd (by rw [List.length_map]; exact hlc)
    obtain ⟨a2, c2, e2, -⟩ := h5.form
    rw [List.length_map] at e2
    subst e2
    exact ⟨a2, c2, he, h5, Below.step hW hb⟩
  have HCl : Hid (∀ W a2 c2, Below wa.heap.size wa W → Rd W (.slice a2 c.length c2) (c.map ngw) → Calls Tryd.prog 21 #[.agg #[.int .i64 v, .slice ac css.length cc], .slice a2 c.length c2] W fun e w' => ∃ u3 c3 clash D, e = .returned (.tuple #[.slice u3 D.length c3, .bool clash, .int .i64 she]) ∧ Cf w w' v css c (.slice u3 D.length c3) clash D ∧ Below wa.heap.size wa w') := fun W a2 c2 hW hrd => (uClose_any v _ _ css (c.map ngw) W (HX.out.rd.below hW) hrd HR.out.2.2.1 (HR.out.2.2.2.at (Below.step HX.out.bel hW))).mono fun e w' ⟨u, clash, D, he, hz⟩ => by
    obtain ⟨u3, c3, e3⟩ := own_form hz.own
    subst e3
    exact ⟨u3, c3, clash, D, by rw [← HSh.out]; exact he, Cf.of HR.out.2.1 hz (Below.step HX.out.bel hW), Below.step hW hz.bel⟩
  have HSt : Hid (∀ W, Below wa.heap.size wa W → Below wa.heap.size wa W ∧ W.cell? ⟨w.heap.size, 0, none⟩ = some (.int .i64 v) ∧ W.cell? ⟨w.heap.size, 1, none⟩ = some (.slice ac css.length cc)) := fun W hW => ⟨hW, (HX.out.on hW).c0, (HX.out.on hW).c1⟩
  have HXr : Hid (∀ W, Below wa.heap.size wa W → Rds W (.slice ac css.length cc) css) := fun W hW => HX.out.rd.below hW
  have HBw : Hid (∀ W, Below wa.heap.size wa W → Below w.heap.size w W) := fun W hW => Below.step HX.out.bel hW
  have c0 := HX.out.c0
  have c1 := HX.out.c1
  clear hwa HX
  go_region_held (fun W => Below wa.heap.size wa W ∧ W.cell? ⟨w.heap.size, 0, none⟩ = some (.int .i64 v) ∧ W.cell? ⟨w.heap.size, 1, none⟩ = some (.slice ac css.length cc)) (first | exact HSt.out _ (Below.refl _ _).drew | exact HSt.out _ B2.out | exact HSt.out _ B1.out) (first
    | (have qq := B1.out; go_at_call 21; refine (HCl.out _ _ _ B1.out R1.out).mono ?_; rintro e w2 ⟨u2, x2, clash2, D2, rfl, hcf, hb2⟩; have H2 : Hid (Cf w w2 v css c (.slice u2 D2.length x2) clash2 D2) := hcf; have B2 : Hid (Below wa.heap.size wa w2) := hb2; clear hcf hb2 qq)
    | (go_at_call 22; refine (HOp.out _ (Below.refl _ _).drew).mono ?_; rintro e w1 ⟨a1, c1', rfl, hr1, hb1⟩; have R1 : Hid (Rd w1 (.slice a1 c.length c1') (c.map ngw)) := hr1; have B1 : Hid (Below wa.heap.size wa w1) := hb1; clear hr1 hb1))
  clear c0 c1
  rename_i hHeld
  clear hHeld
  cases hs : shp v css c
  · have HS : Hid (shp v css c = false) := hs
    have hcl := H2.out.no hs
    have hse : she = 1 := by rw [← HSE.out, hs]; rfl
    subst hcl; subst hse
    have HT : Hid (shE false = 1) := rfl
    clear hs
    go_wp2
    go_ret2
    exact ⟨two_same (congrArg (Value.int .i64) (kn8_no HS.out).symm) (congrArg (Value.int .i64) (by first | rfl | (rw [HS.out]; rfl) | simp [HS.out])), HBw.out _ B2.out⟩
  · have HS : Hid (shp v css c = true) := hs
    have hse : she = 0 := by rw [← HSE.out, hs]; rfl
    subst hse
    clear hs
    cases c with
    | nil =>
      have HFo := H2.out.cl HS.out
      cases clash2 with
      | true =>
        have HK : Hid (kndI css [] = 1) := by show _ = _; unfold kndI; rw [← HFo]; rfl
        clear HFo
        go_wp2
        go_ret2
        exact ⟨two_same (congrArg (Value.int .i64) ((kn8_yes HS.out).trans HK.out).symm) (congrArg (Value.int .i64) (by first | rfl | (rw [HS.out]; rfl) | simp [HS.out])), HBw.out _ B2.out⟩
      | false =>
        have HK : Hid (kndI css [] = 0) := by show _ = _; unfold kndI; rw [← HFo]; rfl
        clear HFo
        go_wp2_with fail
        first | (go_region_law (fail)) | fail
        all_goals
          go_wp2
          go_ret2
          exact ⟨two_same (congrArg (Value.int .i64) ((kn8_yes HS.out).trans HK.out).symm) (congrArg (Value.int .i64) (by first | rfl | (rw [HS.out]; rfl) | simp [HS.out])), (HBw.out _ B2.out).drew⟩
    | cons p r =>
      have hpos : 0 < (p :: r).length := by simp
      obtain ⟨bb, off, rfl, k0⟩ := HC0.out w2 (HBw.out _ B2.out) hpos
      have hp0 : ¬ (((p :: r).length : Int) = 0) := by have := hpos; omega
      have hp1 : (0 : Int) < ((p :: r).length : Int) := by have := hpos; omega
      cases clash2 with
      | true =>
        obtain ⟨hf1, hf2⟩ := H2.out.yes HS.out
        have HF : Hid (folB css (p :: r) = true ∧ safB css (p :: r) = true) := ⟨hf1, hf2⟩
        clear hf1 hf2
        generalize (p :: r).length = cl at *
        have HK : Hid (kndI css (p :: r) = 1) := by show _ = _; unfold kndI; rw [HF.out.1]; rfl
        go_wp2
        go_ret2
        exact ⟨two_same (congrArg (Value.int .i64) ((kn8_yes HS.out).trans HK.out).symm) (congrArg (Value.int .i64) (by first | rfl | (rw [HS.out]; rfl) | simp [HS.out])), HBw.out _ B2.out⟩
      | false =>
        obtain ⟨g1, g2, g3, g4, g5, g6⟩ := H2.out.par HS.out
        have HF : Hid (folB css (p :: r) = false) := g6
        have HAl : Hid (∀ W, Below w2.heap.size w2 W → Calls Tryd.prog 26 #[.agg #[.int .i64 v, .slice ac css.length cc], .int .i64 p, .slice u2 D2.length x2] W fun e w' => e = .returned (.bool (safB css (p :: r))) ∧ Below w2.heap.size w2 w') := fun W hW => (allFollow_any v p _ _ css D2 W (HXr.out W (Below.step B2.out hW)) ((H2.out.own.rd (by have := H2.out.len; omega)).below hW) HR.out.2.2.1 g4 H2.out.fmd g1 g2 g5).mono fun e w' h => ⟨by rw [← g3]; exact h.1, Below.step hW h.2⟩
        have HS2 : Hid (∀ W, Below w2.heap.size w2 W → Below w2.heap.size w2 W ∧ W.cell? ⟨w.heap.size, 0, none⟩ = some (.int .i64 v) ∧ W.cell? ⟨w.heap.size, 1, none⟩ = some (.slice ac css.length cc) ∧ W.cell? ⟨bb, off, none⟩ = some (.int .i64 p)) := fun W hW => ⟨hW, (HSt.out W (Below.step B2.out hW)).2.1, (HSt.out W (Below.step B2.out hW)).2.2, (hW.cell (p := ⟨bb, off, none⟩) (World.block_lt_of_cell? w2 _ k0)).trans k0⟩
        have HBf : Hid (∀ W, Below w2.heap.size w2 W → Below w.heap.size w W) := fun W hW => HBw.out _ (Below.step B2.out hW)
        clear g1 g2 g3 g4 g5 g6
        generalize hsf : safB css (p :: r) = sf at *
        have HSf : Hid (safB css (p :: r) = sf) := hsf
        clear hsf
        generalize (p :: r).length = cl at *
        generalize D2.length = dl at *
        have HK : Hid (kndI css (p :: r) = if sf then 2 else 0) := by show _ = _; unfold kndI; rw [HF.out, HSf.out]; rfl
        go_wp2_with fail
        go_region_held (fun W => Below w2.heap.size w2 W ∧ W.cell? ⟨w.heap.size, 0, none⟩ = some (.int .i64 v) ∧ W.cell? ⟨w.heap.size, 1, none⟩ = some (.slice ac css.length cc) ∧ W.cell? ⟨bb, off, none⟩ = some (.int .i64 p)) (first | exact HS2.out _ (Below.refl _ _).drew | exact HS2.out _ B5.out) (first | (go_at_call 26; refine (HAl.out _ (Below.refl _ _).drew).mono ?_; rintro e w5 ⟨rfl, hb5⟩; have B5 : Hid (Below w2.heap.size w2 w5) := hb5; clear hb5))
        all_goals
          cases sf with
          | true =>
            go_wp2
            go_ret2
            exact ⟨two_same (congrArg (Value.int .i64) ((kn8_yes HS.out).trans HK.out).symm) (congrArg (Value.int .i64) (by first | rfl | (rw [HS.out]; rfl) | simp [HS.out])), HBf.out _ B5.out⟩
          | false =>
            go_wp2
            go_ret2
            exact ⟨two_same (congrArg (Value.int .i64) ((kn8_yes HS.out).trans HK.out).symm) (congrArg (Value.int .i64) (by first | rfl | (rw [HS.out]; rfl) | simp [HS.out])), HBf.out _ B5.out⟩
end Go.Proofs.YtkinilhapgagcaaDoor
set_option linter.unusedSimpArgs false
set_option linter.unusedVariables false
namespace Go.Proofs.YtkinilhapgagcaaDoor
open Go Go.RowKit

set_option maxRecDepth 100000 in
set_option maxHeartbeats 3200000 in
theorem safe_any (v : Int) (s vc : Value) (css : List (List Int)) (c : List Int) (w : World) (hr : Rds w s css) (hc : Rd w vc c) (hi : ∀ x ∈ c, i64 x) (hw : Few css) (hD : Deb w) :
    Calls Tryd.prog 10 #[.agg #[.int .i64 v, s], vc] w fun e w' => e = .returned (.tuple #[.bool (shp v css c && safB css c), .int .i64 (shE (shp v css c))]) ∧ Below w.heap.size w w' := by
  have HX : Hid (Bx w v s css (w.alloc (.cells #[.int .i64 v, s] 24))) := Bx.new hr _
  have HR : Hid (Rd w vc c ∧ (∀ x ∈ c, i64 x) ∧ Few css ∧ Deb w) := ⟨hc, hi, hw, hD⟩
  obtain ⟨she, hshe⟩ : ∃ x, shE (shp v css c) = x := ⟨_, rfl⟩
  have HSE : Hid (shE (shp v css c) = she) := hshe
  have HSh : Hid (cloE v css (c.map ngw) = she) := (clo_sh hi).trans hshe
  obtain ⟨av, cv, rfl, -, -, hcell⟩ := hc.form
  obtain ⟨ac, cc, rfl, -, -, -⟩ := hr.form
  have hlc := hc.len
  have HC0 : Hid (∀ W, Below w.heap.size w W → 0 < c.length → ∃ bb off, av = some ⟨bb, off, none⟩ ∧ W.cell? ⟨bb, off, none⟩ = some (.int .i64 (c.getD 0 0))) := fun W hW h0 => by
    obtain ⟨bb, off, e, hc⟩ := hcell 0 h0
    exact ⟨bb, off, e, (hW.cell (p := ⟨bb, off + 0, none⟩) (World.block_lt_of_cell? w _ hc)).trans hc⟩
  clear hr hc hi hw hD hcell hshe
  go_enter Tryd.func10, Tryd.ntmps10
  go_wp2_with fail
  generalize hwa : w.alloc (.cells #[.int .i64 v, .slice ac css.length cc] 24) = wa at *
  have HOp : Hid (∀ W, Below wa.heap.size wa W → Calls Tryd.prog 22 #[.slice av c.length cv] W fun e w' => ∃ a2 c2, e = .returned (.slice a2 c.length c2) ∧ Rd w' (.slice a2 c.length c2) (c.map ngw) ∧ Below wa.heap.size wa w') := fun W hW => (oppos_any _ c W (HR.out.1.below (Below.step HX.out.bel hW))).mono fun e w' ⟨v', he, ho, hb⟩ => by
    have h5 := ho.rd (by rw [List.length_map]; exact hlc)
    obtain ⟨a2, c2, e2, -⟩ := h5.form
    rw [List.length_map] at e2
    subst e2
    exact ⟨a2, c2, he, h5, Below.step hW hb⟩
  have HCl : Hid (∀ W a2 c2, Below wa.heap.size wa W → Rd W (.slice a2 c.length c2) (c.map ngw) → Calls Tryd.prog 21 #[.agg #[.int .i64 v, .slice ac css.length cc], .slice a2 c.length c2] W fun e w' => ∃ u3 c3 clash D, e = .returned (.tuple #[.slice u3 D.length c3, .bool clash, .int .i64 she]) ∧ Cf w w' v css c (.slice u3 D.length c3) clash D ∧ Below wa.heap.size wa w') := fun W a2 c2 hW hrd => (uClose_any v _ _ css (c.map ngw) W (HX.out.rd.below hW) hrd HR.out.2.2.1 (HR.out.2.2.2.at (Below.step HX.out.bel hW))).mono fun e w' ⟨u, clash, D, he, hz⟩ => by
    obtain ⟨u3, c3, e3⟩ := own_form hz.own
    subst e3
    exact ⟨u3, c3, clash, D, by rw [← HSh.out]; exact he, Cf.of HR.out.2.1 hz (Below.step HX.out.bel hW), Below.step hW hz.bel⟩
  have HSt : Hid (∀ W, Below wa.heap.size wa W → Below wa.heap.size wa W ∧ W.cell? ⟨w.heap.size, 0, none⟩ = some (.int .i64 v) ∧ W.cell? ⟨w.heap.size, 1, none⟩ = some (.slice ac css.length cc)) := fun W hW => ⟨hW, (HX.out.on hW).c0, (HX.out.on hW).c1⟩
  have HXr : Hid (∀ W, Below wa.heap.size wa W → Rds W (.slice ac css.length cc) css) := fun W hW => HX.out.rd.below hW
  have HBw : Hid (∀ W, Below wa.heap.size wa W → Below w.heap.size w W) := fun W hW => Below.step HX.out.bel hW
  have c0 := HX.out.c0
  have c1 := HX.out.c1
  clear hwa HX
  go_region_held (fun W => Below wa.heap.size wa W ∧ W.cell? ⟨w.heap.size, 0, none⟩ = some (.int .i64 v) ∧ W.cell? ⟨w.heap.size, 1, none⟩ = some (.slice ac css.length cc)) (first | exact HSt.out _ (Below.refl _ _).drew | exact HSt.out _ B2.out | exact HSt.out _ B1.out) (first
    | (have qq := B1.out; go_at_call 21; refine (HCl.out _ _ _ B1.out R1.out).mono ?_; rintro e w2 ⟨u2, x2, clash2, D2, rfl, hcf, hb2⟩; have H2 : Hid (Cf w w2 v css c (.slice u2 D2.length x2) clash2 D2) := hcf; have B2 : Hid (Below wa.heap.size wa w2) := hb2; clear hcf hb2 qq)
    | (go_at_call 22; refine (HOp.out _ (Below.refl _ _).drew).mono ?_; rintro e w1 ⟨a1, c1', rfl, hr1, hb1⟩; have R1 : Hid (Rd w1 (.slice a1 c.length c1') (c.map ngw)) := hr1; have B1 : Hid (Below wa.heap.size wa w1) := hb1; clear hr1 hb1))
  clear c0 c1
  rename_i hHeld
  clear hHeld
  cases hs : shp v css c
  · have HS : Hid (shp v css c = false) := hs
    have hcl := H2.out.no hs
    have hse : she = 1 := by rw [← HSE.out, hs]; rfl
    subst hcl; subst hse
    have HT : Hid (shE false = 1) := rfl
    clear hs
    go_wp2
    go_ret2
    exact ⟨two_same (congrArg Value.bool (by first | rfl | (rw [HS.out]; rfl) | simp [HS.out])) (congrArg (Value.int .i64) (by first | rfl | (rw [HS.out]; rfl) | simp [HS.out])), HBw.out _ B2.out⟩
  · have HS : Hid (shp v css c = true) := hs
    have hse : she = 0 := by rw [← HSE.out, hs]; rfl
    subst hse
    clear hs
    cases c with
    | nil =>
      go_wp2
      go_ret2
      exact ⟨two_same (congrArg Value.bool (by first | rfl | (rw [HS.out]; rfl) | simp [HS.out])) (congrArg (Value.int .i64) (by first | rfl | (rw [HS.out]; rfl) | simp [HS.out])), HBw.out _ B2.out⟩
    | cons p r =>
      have hpos : 0 < (p :: r).length := by simp
      obtain ⟨bb, off, rfl, k0⟩ := HC0.out w2 (HBw.out _ B2.out) hpos
      have hp0 : ¬ (((p :: r).length : Int) = 0) := by have := hpos; omega
      have hp1 : (0 : Int) < ((p :: r).length : Int) := by have := hpos; omega
      cases clash2 with
      | true =>
        obtain ⟨hf1, hf2⟩ := H2.out.yes HS.out
        have HF : Hid (folB css (p :: r) = true ∧ safB css (p :: r) = true) := ⟨hf1, hf2⟩
        clear hf1 hf2
        generalize (p :: r).length = cl at *
        go_wp2_with fail
        first | (go_region_law (fail)) | fail
        all_goals
          go_wp2
          go_ret2
          exact ⟨two_same (congrArg Value.bool (by first | rfl | (rw [HS.out, HF.out.2]; rfl) | simp [HS.out, HF.out.2])) (congrArg (Value.int .i64) (by first | rfl | (rw [HS.out]; rfl) | simp [HS.out])), (HBw.out _ B2.out).drew⟩
      | false =>
        obtain ⟨g1, g2, g3, g4, g5, g6⟩ := H2.out.par HS.out
        have HF : Hid (folB css (p :: r) = false) := g6
        have HAl : Hid (∀ W, Below w2.heap.size w2 W → Calls Tryd.prog 26 #[.agg #[.int .i64 v, .slice ac css.length cc], .int .i64 p, .slice u2 D2.length x2] W fun e w' => e = .returned (.bool (safB css (p :: r))) ∧ Below w2.heap.size w2 w') := fun W hW => (allFollow_any v p _ _ css D2 W (HXr.out W (Below.step B2.out hW)) ((H2.out.own.rd (by have := H2.out.len; omega)).below hW) HR.out.2.2.1 g4 H2.out.fmd g1 g2 g5).mono fun e w' h => ⟨by rw [← g3]; exact h.1, Below.step hW h.2⟩
        have HS2 : Hid (∀ W, Below w2.heap.size w2 W → Below w2.heap.size w2 W ∧ W.cell? ⟨w.heap.size, 0, none⟩ = some (.int .i64 v) ∧ W.cell? ⟨w.heap.size, 1, none⟩ = some (.slice ac css.length cc) ∧ W.cell? ⟨bb, off, none⟩ = some (.int .i64 p)) := fun W hW => ⟨hW, (HSt.out W (Below.step B2.out hW)).2.1, (HSt.out W (Below.step B2.out hW)).2.2, (hW.cell (p := ⟨bb, off, none⟩) (World.block_lt_of_cell? w2 _ k0)).trans k0⟩
        have HBf : Hid (∀ W, Below w2.heap.size w2 W → Below w.heap.size w W) := fun W hW => HBw.out _ (Below.step B2.out hW)
        clear g1 g2 g3 g4 g5 g6
        generalize hsf : safB css (p :: r) = sf at *
        have HSf : Hid (safB css (p :: r) = sf) := hsf
        clear hsf
        generalize (p :: r).length = cl at *
        generalize D2.length = dl at *
        go_wp2_with fail
        go_region_held (fun W => Below w2.heap.size w2 W ∧ W.cell? ⟨w.heap.size, 0, none⟩ = some (.int .i64 v) ∧ W.cell? ⟨w.heap.size, 1, none⟩ = some (.slice ac css.length cc) ∧ W.cell? ⟨bb, off, none⟩ = some (.int .i64 p)) (first | exact HS2.out _ (Below.refl _ _).drew | exact HS2.out _ B5.out) (first | (go_at_call 26; refine (HAl.out _ (Below.refl _ _).drew).mono ?_; rintro e w5 ⟨rfl, hb5⟩; have B5 : Hid (Below w2.heap.size w2 w5) := hb5; clear hb5))
        all_goals
          go_wp2
          go_ret2
          exact ⟨two_same (congrArg Value.bool (by first | rfl | (rw [HS.out, HSf.out]; rfl) | simp [HS.out, HSf.out])) (congrArg (Value.int .i64) (by first | rfl | (rw [HS.out]; rfl) | simp [HS.out])), HBf.out _ B5.out⟩
end Go.Proofs.YtkinilhapgagcaaDoor
set_option linter.unusedSimpArgs false
set_option linter.unusedVariables false
namespace Go.Proofs.YtkinilhapgagcaaDoor
open Go Go.RowKit

theorem sml8_few : Few sml8 := Few.of (by decide) (by decide)
theorem sml_calm {L : List Int} (h : (-1 : Int) ∈ L ∨ (2 : Int) ∈ L) (hc : Con L) : ¬ Cla sml8 L := by
  refine (calm_der hc fun k hk => ?_).2
  have hk0 : k = 0 := by have : sml8.length = 1 := rfl; omega
  subst hk0
  rcases h with a | a
  · exact kd_true (c := [-1, 2]) (by simp) a
  · exact kd_true (c := [-1, 2]) (by simp) a
theorem fol_21 : folB sml8 [2, -1] = true := claB_of (.inr ⟨[-1, 2], by simp [sml8], fun m hm => .fact (by
  have : m = -1 ∨ m = 2 := by simpa using hm
  rcases this with e | e <;> subst e <;> simp [opp])⟩)
theorem fol_12 : folB sml8 [1, -2] = false := claB_not (sml_calm (.inl (by simp [opp])) (by
  intro l hl
  have : l = -1 ∨ l = 2 := by simpa [opp] using hl
  rcases this with e | e <;> subst e <;> simp [opp]))
theorem saf_12 : safB sml8 [1, -2] = true := by
  unfold safB parB
  have h1 : claB sml8 (opp [1, -2] ++ opp (rst [-1, 2] 1)) = true := claB_of (.inl ⟨2, .fact (by simp [opp]), .fact (by simp [opp, rst])⟩)
  simp only [sml8, List.all_cons, List.all_nil, Bool.and_true]
  unfold sml8 at h1
  rw [h1]; simp
theorem fol_2 : folB sml8 [-2] = false := claB_not (sml_calm (.inr (by simp [opp])) (by
  intro l hl
  have : l = 2 := by simpa [opp] using hl
  subst this; simp [opp]))
theorem saf_2 : safB sml8 [-2] = false := by
  unfold safB parB
  have h1 : claB sml8 (opp [-2] ++ opp (rst [-1, 2] (-2))) = false := claB_not (sml_calm (.inr (by simp [opp])) (by
    intro l hl
    have : l = 2 ∨ l = 1 := by simpa [opp, rst] using hl
    rcases this with e | e <;> subst e <;> simp [opp, rst]))
  simp only [sml8, List.all_cons, List.all_nil, Bool.and_true]
  unfold sml8 at h1
  rw [h1]; simp
theorem shp_21 : shp 2 sml8 [2, -1] = true := by decide
theorem shp_12 : shp 2 sml8 [1, -2] = true := by decide
theorem shp_2 : shp 2 sml8 [-2] = true := by decide
theorem sml_fol : (shp 2 sml8 [2, -1] && folB sml8 [2, -1]) = true := by rw [shp_21, fol_21]; rfl
theorem sml_saf : (shp 2 sml8 [1, -2] && safB sml8 [1, -2]) = true := by rw [shp_12, saf_12]; rfl
theorem sml_knd : kn8 2 sml8 [1, -2] = 2 := by rw [kn8_yes shp_12]; unfold kndI; rw [fol_12, saf_12]; rfl
theorem sml_non : kn8 2 sml8 [-2] = 0 := by rw [kn8_yes shp_2]; unfold kndI; rw [fol_2, saf_2]; rfl
theorem sml_fn : (shp 2 sml8 [1, -2] && folB sml8 [1, -2]) = false := by rw [shp_12, fol_12]; rfl
theorem sml_sh1 : shE (shp 2 sml8 [2, -1]) = 0 := by rw [shp_21]; rfl
theorem sml_sh2 : shE (shp 2 sml8 [1, -2]) = 0 := by rw [shp_12]; rfl
theorem sml_sh3 : shE (shp 2 sml8 [-2]) = 0 := by rw [shp_2]; rfl
end Go.Proofs.YtkinilhapgagcaaDoor
set_option linter.unusedSimpArgs false
set_option linter.unusedVariables false
namespace Go.Proofs.YtkinilhapgagcaaDoor
open Go Go.RowKit

theorem infoLs8 : (Tryd.prog.info? 25).map (fun i => (i.zero, i.size, i.bytes)) = some (some (.slice none 0 0), 1, 24) := by kernel_rfl
theorem one_newR8 (w : World) (x : Value) (t : TypeId) : ∀ j y, [x][j]? = some y → (w.alloc (.cells #[x] t)).cell? ((⟨w.heap.size, 0, none⟩ : Addr).add j) = some y := fun j y hy => by
  rw [Addr.add_lit]
  have hh := World.alloc_heap_new w (.cells #[x] t)
  show (match (w.alloc (.cells #[x] t)).heap[w.heap.size]? with | some (Obj.cells c elem frozen) => c[0 + j]? | x => none) = _
  rw [hh]
  simpa using hy
theorem mx_len (a : Int) (c : List Int) (h0 : -9223372036854775808 ≤ a) (h1 : a ≤ 9223372036854775807) : -9223372036854775808 ≤ mx a c ∧ mx a c ≤ 9223372036854775807 := by
  unfold mx
  induction c generalizing a with
  | nil => exact ⟨h0, h1⟩
  | cons l r ih =>
    have hv := varOf_range l
    exact ih (max a (varOf l)) (by omega) (by omega)
set_option maxRecDepth 100000 in
set_option maxHeartbeats 3200000 in
theorem with8_any (n : Int) (s vc : Value) (css : List (List Int)) (cl : List Int) (w : World) (hr : Rds w s css) (hc : Rd w vc cl) (hN : css.length ≤ 1048576) (hC : cl.length ≤ 1048576) :
    Calls Tryd.prog 17 #[.agg #[.int .i64 n, s], vc] w fun e w' => ∃ u, e = .returned (.agg #[.int .i64 (mx n cl), u]) ∧ Rds w' u (css ++ [cl]) ∧ Below w.heap.size w w' := by
  have h8 : ∀ z ∈ css, z.length * 8 ≤ 140737488351232 := rds_each hr
  have HR : Hid (Rd w vc cl ∧ ∀ z ∈ css, z.length * 8 ≤ 140737488351232) := ⟨hc, h8⟩
  have HX : Hid (Bx w n s css (w.alloc (.cells #[.int .i64 n, s] 24))) := Bx.new hr _
  obtain ⟨av, cv, rfl, -, -, hcell⟩ := hc.form
  have HC : Hid (∀ (W : World) (j : Nat), Below w.heap.size w W → j < cl.length → ∃ bb off, av = some ⟨bb, off, none⟩ ∧ W.cell? ⟨bb, off + j, none⟩ = some (.int .i64 (cl.getD j 0))) := fun W j hW hj => by
    obtain ⟨bb, off, e, hc⟩ := hcell j hj
    exact ⟨bb, off, e, (hW.cell (p := ⟨bb, off + j, none⟩) (World.block_lt_of_cell? w _ hc)).trans hc⟩
  clear hr hc hcell h8
  go_enter Tryd.func17, Tryd.ntmps17
  go_wp2_with fail
  generalize hwb : (w.alloc (.cells #[.int .i64 n, s] 24)).alloc (.cells #[.int .i64 0, .slice none 0 0] 24) = wb at *
  have HBb : Hid (Below w.heap.size w wb) := by show Below _ _ _; rw [← hwb]; exact Below.step HX.out.bel (below_box _ _)
  have HRb : Hid (Rds wb s css) := by show Rds _ _ _; rw [← hwb]; exact HX.out.rd.below (below_box _ _)
  have HBr : Hid (Bx2 wb (w.heap.size + 1) 24 (.int .i64 0) (.slice none 0 0)) := by
    have h9 := Bx2.new (w.alloc (.cells #[.int .i64 n, s] 24)) 24 (.int .i64 0) (.slice none 0 0)
    rw [World.size_alloc] at h9
    show Bx2 _ _ _ _ _
    rw [← hwb]; exact h9
  clear hwb HX
  refine (copyFormula_any n s css wb HRb.out).mono ?_
  rintro e w8 ⟨u8, rfl, ⟨L, hRw, hLw⟩, bel8⟩
  have HL : Hid (L.map Prod.snd = css) := hLw
  have HLl : Hid (L.length = css.length) := by show _ = _; rw [← hLw]; simp
  have H8b : Hid (OwnR wb.heap.size (w8.alloc (.cells #[.int .i64 n, u8] 24)) u8 L ∧ Bx2 (w8.alloc (.cells #[.int .i64 n, u8] 24)) w8.heap.size 24 (.int .i64 n) u8 ∧ Below wb.heap.size wb (w8.alloc (.cells #[.int .i64 n, u8] 24)) ∧ wb.heap.size ≤ w8.heap.size) := ⟨hRw.below (below_box _ _), Bx2.new _ _ _ _, Below.step bel8 (below_box _ _), bel8.size⟩
  obtain ⟨a8, c8, e8⟩ := row_form hRw.row
  subst e8
  clear hRw hLw bel8
  have hD8 : w8.heap.size < (w8.alloc (.cells #[.int .i64 n, .slice a8 L.length c8] 24)).heap.size := by rw [World.size_alloc]; exact Nat.lt_succ_self _
  go_upto_region 2 with fail
  generalize w8.alloc (.cells #[.int .i64 n, .slice a8 L.length c8] 24) = W8 at *
  generalize w8.heap.size = D at *
  obtain ⟨il, hil, hzl0, hzl1, hzl2⟩ := info_parts infoLs8
  have HIl : Hid (Tryd.prog.info? 25 = some il ∧ il.zero = some (.slice none 0 0) ∧ il.size = 1 ∧ il.bytes = 24) := ⟨hil, hzl0, hzl1, hzl2⟩
  have b1 := H8b.out.2.1.c1
  have HCI : Hid (∀ W, Below W8.heap.size W8 W → Calls Tryd.prog 30 #[.slice av cl.length cv] W fun e w' => ∃ u, e = .returned u ∧ Own W8.heap.size w' u cl ∧ Below W8.heap.size W8 w') := fun W hW => (copyInts_any _ cl W (HR.out.1.below (Below.step HBb.out (Below.step H8b.out.2.2.1 hW)))).mono fun e w' hh => by
    obtain ⟨u, he, ho, hb⟩ := hh
    exact ⟨u, he, ho.mono hW.size, Below.step hW hb⟩
  have hlL : L.length ≤ 1048576 := by have h1 := HLl.out; omega
  have HApp : Hid (∀ w9 a9 c9 v10 w10, Own W8.heap.size w9 (.slice a9 cl.length c9) cl → Below W8.heap.size W8 w9 → w10.ownsRow wb.heap.size 25 1 v10 (L.length + 1) (L.map Prod.fst ++ [.slice a9 cl.length c9]) → (w9.alloc (.cells #[.slice a9 cl.length c9] 25)).grownBy w10 (Value.slice a8 L.length c8).ownBlock →
      (∃ a10 c10, v10 = .slice a10 (L.length + 1) c10) ∧ w10.cell? ⟨D, 1, none⟩ = some (.slice a8 L.length c8) ∧ w10.frozen? ⟨D, 1, none⟩ = false ∧ w10.cell? ⟨D, 0, none⟩ = some (.int .i64 n) ∧
      Bx2 (w10.setCell ⟨D, 1, none⟩ v10) D 24 (.int .i64 n) v10 ∧ OwnF wb.heap.size (w10.setCell ⟨D, 1, none⟩ v10) v10 (css ++ [cl]) ∧ Below wb.heap.size wb (w10.setCell ⟨D, 1, none⟩ v10)) := fun w9 a9 c9 v10 w10 own9 bel9 own10 gr10 => by
    have r9 := H8b.out.1.below bel9
    have bx9 := H8b.out.2.1.below bel9
    have ga := World.grownBy_alloc w9 (.cells #[.slice a9 cl.length c9] 25) none
    have bxa := bx9.kept ga (by simp)
    have rowa := World.ownsRow.kept r9.row ga (one_or _)
    have bx10 := bxa.kept gr10 (bxa.not_row (by decide) rowa)
    have hu' : Own wb.heap.size w9 (.slice a9 cl.length c9) cl := own9.mono H8b.out.2.2.1.size
    have R10 := r9.app ga own10 gr10 hu' (ApartC.snoc H8b.out.1.ap H8b.out.1.own own9 (Nat.le_refl _))
    have hb9 : Below wb.heap.size wb (w9.alloc (.cells #[.slice a9 cl.length c9] 25)) := Below.step (Below.step H8b.out.2.2.1 bel9) (below_box _ _)
    refine ⟨row_form own10, bx10.c1, bx10.f1, bx10.c0, bx10.set1 v10, ⟨_, R10.set bx10 (by decide) (by decide) 1 v10, by rw [List.map_append, HL.out]; rfl⟩, ?_⟩
    exact (hb9.grown gr10 hb9.size (fun b e => (World.ownsRow.lt rowa b e).1)).setCell (p := ⟨D, 1, none⟩) (by show wb.heap.size ≤ D; exact H8b.out.2.2.2) _
  have hl63 : L.length + 1 ≤ maxLen := by unfold maxLen; omega
  have hl48 : (L.length + 1) * 24 ≤ 140737488355328 := by omega
  go_cut [] from 9 to 15 (fun wx => ∃ v10, Bx2 wx D 24 (.int .i64 n) v10 ∧ OwnF wb.heap.size wx v10 (css ++ [cl]) ∧ Below wb.heap.size wb wx)
  case first =>
    go_region_law (first
      | (go_simp; go_at_call 30; refine (HCI.out _ (by first | exact Below.refl _ _ | exact (Below.refl _ _).drew)).mono ?_; intro e w9 hh; obtain ⟨u9, he9, own9, bel9⟩ := hh; rw [he9]; clear he9; obtain ⟨a9, c9, hu9⟩ := own_form own9; subst hu9; have O9 : Hid (Own W8.heap.size w9 (.slice a9 cl.length c9) cl ∧ Below W8.heap.size W8 w9) := ⟨own9, bel9⟩; have d1 := (H8b.out.2.1.below bel9).c1; have d2 : (w9.alloc (.cells #[.slice a9 cl.length c9] 25)).cell? ⟨D, 1, none⟩ = some (.slice a8 L.length c8) := ((H8b.out.2.1.below bel9).below (below_box _ _)).c1; have R9 : Hid ((w9.alloc (.cells #[.slice a9 cl.length c9] 25)).ownsRow wb.heap.size 25 1 (.slice a8 L.length c8) L.length (L.map Prod.fst) ∧ wb.heap.size ≤ (w9.alloc (.cells #[.slice a9 cl.length c9] 25)).heap.size) := ⟨((H8b.out.1.below bel9).below (below_box _ _)).row, Nat.le_trans H8b.out.2.2.1.size (Nat.le_trans bel9.size (below_box _ _).size)⟩; have N9 : Hid (∀ j x, [Value.slice a9 cl.length c9][j]? = some x → (w9.alloc (.cells #[.slice a9 cl.length c9] 25)).cell? ((⟨w9.heap.size, 0, none⟩ : Addr).add j) = some x) := one_newR8 w9 _ _; clear own9 bel9; dsimp only)
      | (refine step_append_own rfl (.tmp 10) (.tmp 13) 22 rfl wb.heap.size 25 il (.slice none 0 0) 1 24 Tryd.underlying22 HIl.out.1 HIl.out.2.1 HIl.out.2.2.1 HIl.out.2.2.2 rfl (by decide) (.slice a8 L.length c8) L.length (L.map Prod.fst) (by simp [Act.eval, Act.put]) R9.out.1 ⟨w9.heap.size, 0, none⟩ 1 1 [.slice a9 cl.length c9] (by simp [Act.eval, Act.put]) rfl N9.out (by simp [Value.oneCell']) hl63 hl48 R9.out.2 ?_; intro v10 w10 own10 gr10; have F10 : Hid (Bx2 (w10.setCell ⟨D, 1, none⟩ v10) D 24 (.int .i64 n) v10 ∧ OwnF wb.heap.size (w10.setCell ⟨D, 1, none⟩ v10) v10 (css ++ [cl]) ∧ Below wb.heap.size wb (w10.setCell ⟨D, 1, none⟩ v10)) := (HApp.out w9 a9 c9 v10 w10 O9.out.1 O9.out.2 own10 gr10).2.2.2.2; obtain ⟨⟨a10, c10, hv10⟩, q1, q2, q3, -⟩ := HApp.out w9 a9 c9 v10 w10 O9.out.1 O9.out.2 own10 gr10; subst hv10; clear own10 gr10))
    all_goals
      go_wp2_with fail
      go_meet
      exact ⟨_, F10.out.1, F10.out.2.1, F10.out.2.2⟩
  case rest =>
  obtain ⟨v10, bx10, own10, bel10⟩ := hcut
  have H10 : Hid (Bx2 wc D 24 (.int .i64 (mx n (cl.take 0))) v10 ∧ OwnF wb.heap.size wc v10 (css ++ [cl]) ∧ Below wb.heap.size wb wc) := ⟨by simpa [mx] using bx10, own10, bel10⟩
  obtain ⟨a10, c10, e10⟩ := ownf_form own10
  subst e10
  have HD : Hid (wb.heap.size ≤ D) := H8b.out.2.2.2
  clear bx10 own10 bel10 HApp HCI HIl H8b HLl HL b1 hil hzl0 hzl1 hzl2 hl63 hl48 hlL hD8
  generalize wc = w10 at *
  go_wp2
  go_loopg [6] cl.length (fun g i wr => ∃ k : Nat, k + g = cl.length ∧ i = .int .i64 k ∧ Bx2 wr D 24 (.int .i64 (mx n (cl.take k))) (.slice a10 (css ++ [cl]).length c10) ∧ OwnF wb.heap.size wr (.slice a10 (css ++ [cl]).length c10) (css ++ [cl]) ∧ Below wb.heap.size wb wr)
  case atStart => exact ⟨0, by omega, rfl, H10.out.1, H10.out.2.1, H10.out.2.2⟩
  case round =>
    obtain ⟨k, hk, rfl, bx, own, bel⟩ := hrel
    have HK : Hid (k + gk = cl.length) := hk
    have HB : Hid (Bx2 wr D 24 (.int .i64 (mx n (cl.take k))) (.slice a10 (css ++ [cl]).length c10) ∧ OwnF wb.heap.size wr (.slice a10 (css ++ [cl]).length c10) (css ++ [cl]) ∧ Below wb.heap.size wb wr) := ⟨bx, own, bel⟩
    have b0 := bx.c0
    have b1 := bx.c1
    have z0 := bx.f0
    clear hk bx own bel
    by_cases hlt : k < cl.length
    · obtain ⟨bb, off, rfl, c1⟩ := HC.out wr k (Below.step HBb.out HB.out.2.2) hlt
      have HMt : Hid (mx n (cl.take (k + 1)) = max (mx n (cl.take k)) (varOf (cl.getD k 0))) := mx_take n cl hlt
      have HLT : Hid (k < cl.length) := hlt
      generalize cl.getD k 0 = l at *
      generalize mx n (cl.take k) = m0 at *
      have hv := varOf_range l
      have HV : Hid (∀ W, Calls Tryd.prog 31 #[.int .i64 l] W fun e w' => e = .returned (.int .i64 (varOf l)) ∧ w' = W) := fun W => var_any l W
      generalize varOf l = vl at *
      go_upto_region 6 with fail
      by_cases hgt : m0 < vl
      · have hg1 : decide (m0 < vl) = true := decide_eq_true hgt
        have HF : Hid (Bx2 (wr.drew.setCell ⟨D, 0, none⟩ (.int .i64 vl)) D 24 (.int .i64 (mx n (cl.take (k + 1)))) (.slice a10 (css ++ [cl]).length c10) ∧ OwnF wb.heap.size (wr.drew.setCell ⟨D, 0, none⟩ (.int .i64 vl)) (.slice a10 (css ++ [cl]).length c10) (css ++ [cl]) ∧ Below wb.heap.size wb (wr.drew.setCell ⟨D, 0, none⟩ (.int .i64 vl))) := by
          have bxd := HB.out.1.below (Below.refl wr.heap.size wr).drew
          have ownd := HB.out.2.1.below (Below.refl wr.heap.size wr).drew
          have e9 : mx n (cl.take (k + 1)) = vl := by rw [HMt.out]; omega
          rw [e9]
          exact ⟨bxd.set0 _, ownd.set bxd (by decide) (by decide) 0 _, (HB.out.2.2.drew).setCell (p := ⟨D, 0, none⟩) HD.out _⟩
        go_region_law (go_simp; go_at_call 31; refine (HV.out _).mono ?_; intro e w9 hh; rw [hh.1, hh.2]; clear hh e w9; dsimp only)
        all_goals
          go_wp2_with (go_at_call 31; refine (HV.out _).mono ?_; rintro e w9 ⟨rfl, hw9⟩; obtain rfl := hw9.symm; clear hw9)
          go_roundg (gk - 1)
          case measure => have := HK.out; have := HLT.out; omega
          case rel => exact ⟨k + 1, by have := HK.out; have := HLT.out; omega, by go_num, HF.out.1, HF.out.2.1, HF.out.2.2⟩
      · have hg1 : decide (m0 < vl) = false := decide_eq_false hgt
        have HF : Hid (Bx2 wr.drew D 24 (.int .i64 (mx n (cl.take (k + 1)))) (.slice a10 (css ++ [cl]).length c10) ∧ OwnF wb.heap.size wr.drew (.slice a10 (css ++ [cl]).length c10) (css ++ [cl]) ∧ Below wb.heap.size wb wr.drew) := by
          have e9 : mx n (cl.take (k + 1)) = m0 := by rw [HMt.out]; omega
          rw [e9]
          exact ⟨HB.out.1.below (Below.refl wr.heap.size wr).drew, HB.out.2.1.below (Below.refl wr.heap.size wr).drew, HB.out.2.2.drew⟩
        go_region_law (go_simp; go_at_call 31; refine (HV.out _).mono ?_; intro e w9 hh; rw [hh.1, hh.2]; clear hh e w9; dsimp only)
        all_goals
          go_wp2
          go_roundg (gk - 1)
          case measure => have := HK.out; have := HLT.out; omega
          case rel => exact ⟨k + 1, by have := HK.out; have := HLT.out; omega, by go_num, HF.out.1, HF.out.2.1, HF.out.2.2⟩
    · have hke : k = cl.length := by have := HK.out; omega
      have bxr := HBr.out.below' HB.out.2.2 HBr.out.lt
      have hne : w.heap.size + 1 < wb.heap.size := HBr.out.lt
      have q0 := bxr.c0
      have q1 := bxr.c1
      have y0 := bxr.f0
      have y1 := bxr.f1
      have HFin : Hid (Rds ((wr.setCell ⟨w.heap.size + 1, 0, none⟩ (.int .i64 (mx n cl))).setCell ⟨w.heap.size + 1, 1, none⟩ (.slice a10 (css ++ [cl]).length c10)) (.slice a10 (css ++ [cl]).length c10) (css ++ [cl]) ∧ Below w.heap.size w ((wr.setCell ⟨w.heap.size + 1, 0, none⟩ (.int .i64 (mx n cl))).setCell ⟨w.heap.size + 1, 1, none⟩ (.slice a10 (css ++ [cl]).length c10)) ∧ Bx2 ((wr.setCell ⟨w.heap.size + 1, 0, none⟩ (.int .i64 (mx n cl))).setCell ⟨w.heap.size + 1, 1, none⟩ (.slice a10 (css ++ [cl]).length c10)) (w.heap.size + 1) 24 (.int .i64 (mx n cl)) (.slice a10 (css ++ [cl]).length c10)) := by
        have bx1 := bxr.set0 (.int .i64 (mx n cl))
        have own1 := HB.out.2.1.set bxr (by decide) (by decide) 0 (.int .i64 (mx n cl))
        have own2 := own1.set bx1 (by decide) (by decide) 1 (.slice a10 (css ++ [cl]).length c10)
        refine ⟨own2.rds (by simp; omega) (fun z hz => ?_), ((Below.step HBb.out HB.out.2.2).setCell (p := ⟨w.heap.size + 1, 0, none⟩) (Nat.le_succ _) _).setCell (p := ⟨w.heap.size + 1, 1, none⟩) (Nat.le_succ _) _, bx1.set1 _⟩
        rcases List.mem_append.1 hz with q | q
        · exact HR.out.2 z q
        · rw [show z = cl by simpa using q]; omega
      have x0 := HFin.out.2.2.c0
      have x1 := HFin.out.2.2.c1
      rw [hke, List.take_length] at b0
      clear bxr hke
      generalize hln : (css ++ [cl]).length = ln at *
      generalize hmm : mx n cl = mm at *
      have HMM : Hid (mx n cl = mm) := hmm
      clear hmm hln
      go_wp2
      have hbx := HFin.out.2.2
      refine bodyPost_ret (results_cell_row rfl _ _ (w.heap.size + 1) 24 #[.int .i64 mm, .slice a10 ln c10] (0, 0) _ rfl hbx Tryd.underlying24 (by kernel_rfl) (by rfl)) rfl ?_
      exact ⟨_, by rw [HMM.out], HFin.out.1, HFin.out.2.1⟩
end Go.Proofs.YtkinilhapgagcaaDoor
set_option linter.unusedSimpArgs false
set_option linter.unusedVariables false
namespace Go.Proofs.YtkinilhapgagcaaDoor
open Go Go.RowKit

set_option maxRecDepth 100000 in
set_option maxHeartbeats 1600000 in
theorem awake8_any (w : World) (hD : Deb w) :
    Calls Tryd.prog 14 #[] w fun e w' => e = .returned (.bool true) ∧ Below w.heap.size w w' := by
  have HB0 : Hid (Below w.heap.size w w ∧ Deb w) := ⟨Below.refl _ _, hD⟩
  clear hD
  go_enter Tryd.func14, Tryd.ntmps14
  go_wp2_with fail
  refine (small8_any _).mono ?_
  rintro e w0a ⟨s0, rfl, hr0, bel0⟩
  have HA0 : Hid (Rds w0a s0 sml8 ∧ Below w.heap.size w w0a) := ⟨hr0, Below.step HB0.out.1 bel0⟩
  obtain ⟨a0, c0, rfl, -, -, -⟩ := hr0.form
  clear hr0 bel0
  have HC0 : Hid (Calls Tryd.prog 7 #[.agg #[.int .i64 2, .slice a0 sml8.length c0], .slice (some ⟨w0a.heap.size, 0, none⟩) 2 2] (w0a.alloc (.cells #[.int .i64 (2), .int .i64 (-1)] 3)) fun e w' => e = .returned (.tuple #[.bool true, .int .i64 0]) ∧ Below (w0a.alloc (.cells #[.int .i64 (2), .int .i64 (-1)] 3)).heap.size (w0a.alloc (.cells #[.int .i64 (2), .int .i64 (-1)] 3)) w') := (follows_any 2 _ _ sml8 [2, -1] _ (HA0.out.1.below (below_box _ _)) ((ownTwo w0a (2) (-1)).rd (by simp)) (by simp [i64]) sml8_few (HB0.out.2.at (Below.step HA0.out.2 (below_box _ _)))).mono fun e w' h => ⟨by rw [h.1]; exact two_same (congrArg Value.bool sml_fol) (congrArg (Value.int .i64) sml_sh1), h.2⟩
  go_wp2_with fail
  refine HC0.out.mono ?_
  rintro e w0b ⟨rfl, bel0⟩
  have HB1 : Hid (Below w.heap.size w w0b ∧ True) := ⟨Below.step (Below.step HA0.out.2 (below_box _ _)) bel0, trivial⟩
  clear bel0 HC0 HA0
  go_wp2_with fail
  refine (small8_any _).mono ?_
  rintro e w1a ⟨s1, rfl, hr1, bel1⟩
  have HA1 : Hid (Rds w1a s1 sml8 ∧ Below w.heap.size w w1a) := ⟨hr1, Below.step HB1.out.1 bel1⟩
  obtain ⟨a1, c1, rfl, -, -, -⟩ := hr1.form
  clear hr1 bel1
  have HC1 : Hid (Calls Tryd.prog 7 #[.agg #[.int .i64 2, .slice a1 sml8.length c1], .slice (some ⟨w1a.heap.size, 0, none⟩) 2 2] (w1a.alloc (.cells #[.int .i64 (1), .int .i64 (-2)] 3)) fun e w' => e = .returned (.tuple #[.bool false, .int .i64 0]) ∧ Below (w1a.alloc (.cells #[.int .i64 (1), .int .i64 (-2)] 3)).heap.size (w1a.alloc (.cells #[.int .i64 (1), .int .i64 (-2)] 3)) w') := (follows_any 2 _ _ sml8 [1, -2] _ (HA1.out.1.below (below_box _ _)) ((ownTwo w1a (1) (-2)).rd (by simp)) (by simp [i64]) sml8_few (HB0.out.2.at (Below.step HA1.out.2 (below_box _ _)))).mono fun e w' h => ⟨by rw [h.1]; exact two_same (congrArg Value.bool sml_fn) (congrArg (Value.int .i64) sml_sh2), h.2⟩
  go_wp2_with fail
  refine HC1.out.mono ?_
  rintro e w1b ⟨rfl, bel1⟩
  have HB2 : Hid (Below w.heap.size w w1b ∧ True) := ⟨Below.step (Below.step HA1.out.2 (below_box _ _)) bel1, trivial⟩
  clear bel1 HC1 HA1
  go_wp2_with fail
  refine (small8_any _).mono ?_
  rintro e w2a ⟨s2, rfl, hr2, bel2⟩
  have HA2 : Hid (Rds w2a s2 sml8 ∧ Below w.heap.size w w2a) := ⟨hr2, Below.step HB2.out.1 bel2⟩
  obtain ⟨a2, c2, rfl, -, -, -⟩ := hr2.form
  clear hr2 bel2
  have HC2 : Hid (Calls Tryd.prog 12 #[.agg #[.int .i64 2, .slice a2 sml8.length c2], .slice (some ⟨w2a.heap.size, 0, none⟩) 2 2] (w2a.alloc (.cells #[.int .i64 (1), .int .i64 (-2)] 3)) fun e w' => e = .returned (.tuple #[.int .i64 2, .int .i64 0]) ∧ Below (w2a.alloc (.cells #[.int .i64 (1), .int .i64 (-2)] 3)).heap.size (w2a.alloc (.cells #[.int .i64 (1), .int .i64 (-2)] 3)) w') := (kind_any 2 _ _ sml8 [1, -2] _ (HA2.out.1.below (below_box _ _)) ((ownTwo w2a (1) (-2)).rd (by simp)) (by simp [i64]) sml8_few (HB0.out.2.at (Below.step HA2.out.2 (below_box _ _)))).mono fun e w' h => ⟨by rw [h.1]; exact two_same (congrArg (Value.int .i64) sml_knd) (congrArg (Value.int .i64) sml_sh2), h.2⟩
  go_wp2_with fail
  refine HC2.out.mono ?_
  rintro e w2b ⟨rfl, bel2⟩
  have HB3 : Hid (Below w.heap.size w w2b ∧ True) := ⟨Below.step (Below.step HA2.out.2 (below_box _ _)) bel2, trivial⟩
  clear bel2 HC2 HA2
  go_wp2_with fail
  refine (small8_any _).mono ?_
  rintro e w3a ⟨s3, rfl, hr3, bel3⟩
  have HA3 : Hid (Rds w3a s3 sml8 ∧ Below w.heap.size w w3a) := ⟨hr3, Below.step HB3.out.1 bel3⟩
  obtain ⟨a3, c3, rfl, -, -, -⟩ := hr3.form
  clear hr3 bel3
  have HC3 : Hid (Calls Tryd.prog 12 #[.agg #[.int .i64 2, .slice a3 sml8.length c3], .slice (some ⟨w3a.heap.size, 0, none⟩) 1 1] (w3a.alloc (.cells #[.int .i64 (-2)] 3)) fun e w' => e = .returned (.tuple #[.int .i64 0, .int .i64 0]) ∧ Below (w3a.alloc (.cells #[.int .i64 (-2)] 3)).heap.size (w3a.alloc (.cells #[.int .i64 (-2)] 3)) w') := (kind_any 2 _ _ sml8 [-2] _ (HA3.out.1.below (below_box _ _)) ((ownOne w3a (-2)).rd (by simp)) (by simp [i64]) sml8_few (HB0.out.2.at (Below.step HA3.out.2 (below_box _ _)))).mono fun e w' h => ⟨by rw [h.1]; exact two_same (congrArg (Value.int .i64) sml_non) (congrArg (Value.int .i64) sml_sh3), h.2⟩
  go_wp2_with fail
  refine HC3.out.mono ?_
  rintro e w3b ⟨rfl, bel3⟩
  have HB4 : Hid (Below w.heap.size w w3b ∧ True) := ⟨Below.step (Below.step HA3.out.2 (below_box _ _)) bel3, trivial⟩
  clear bel3 HC3 HA3
  go_wp2
  go_ret
  exact ⟨rfl, HB4.out.1⟩
end Go.Proofs.YtkinilhapgagcaaDoor

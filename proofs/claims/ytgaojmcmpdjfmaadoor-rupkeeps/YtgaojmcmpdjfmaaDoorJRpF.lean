/-
  joined: RpF RpL RpK RpT RpU
-/
import Derived.Test.YtgaojmcmpdjfmaaDoorKRpA
import Derived.Test.YtgaojmcmpdjfmaaDoorKRpO
import Derived.Sort.AtCall
import Derived.Deep.RegionHeld
import Derived.Test.YtgaojmcmpdjfmaaDoorKRuS
set_option linter.unusedSimpArgs false
set_option linter.unusedVariables false
namespace Go.Proofs.YtgaojmcmpdjfmaaDoor
open Go Go.RowKit

/-- is what comes in well shaped? -/
def shp (v : Int) (css : List (List Int)) (c : List Int) : Bool := frm v css && c.all fmd
def shE (b : Bool) : Int := if b then 0 else 1
theorem clo_sh {v : Int} {css : List (List Int)} {c : List Int} (hi : ∀ x ∈ c, i64 x) : cloE v css (c.map ngw) = shE (shp v css c) := by
  unfold cloE shE shp
  rw [opw_all hi]
/-- what Close says of the opposites -/
structure Cf (w W : World) (v : Int) (css : List (List Int)) (c : List Int) (u : Value) (clash : Bool) (D : List Int) : Prop where
  own : Own w.heap.size W u D
  no : shp v css c = false → clash = false
  cl : shp v css c = true → clash = folB css c
  der : shp v css c = true → clash = false → ∀ x, x ∈ D ↔ Der css (opp c) x
  fmd : ∀ x ∈ D, Go.Proofs.YtgaojmcmpdjfmaaDoor.fmd x = true
  bel : Below w.heap.size w W
  len : D.length ≤ 2097152
theorem Cf.of {w w0 W : World} {v : Int} {css : List (List Int)} {c : List Int} {u : Value} {clash : Bool} {D : List Int} (hi : ∀ x ∈ c, i64 x) (h : Clz w0 W v css (c.map ngw) u clash D) (hb : Below w.heap.size w w0) : Cf w W v css c u clash D := by
  have hs := clo_sh (v := v) (css := css) hi
  have hyes : shp v css c = true → Says6 css (opp c) clash D := fun h2 => by
    have h3 : c.all Go.Proofs.YtgaojmcmpdjfmaaDoor.fmd = true := by unfold shp at h2; rw [Bool.and_eq_true] at h2; exact h2.2
    have := h.yes (by rw [hs, h2]; rfl)
    rw [opw_opp h3] at this
    exact this
  refine ⟨h.own.mono hb.size, fun h2 => (h.no (by rw [hs, h2]; decide)).1, fun h2 => ?_, fun h2 h3 => ?_, h.fmd, Below.step hb h.bel, ?_⟩
  · rcases hyes h2 with ⟨e, cl, _⟩ | ⟨e, cl, _⟩
    · rw [e]; exact (claB_of cl).symm
    · rw [e]; exact (claB_not cl).symm
  · rcases hyes h2 with ⟨e, _⟩ | ⟨_, _, _, hd⟩
    · rw [h3] at e; cases e
    · exact hd
  · have hn : D.Nodup := by
      by_cases h0 : cloE v css (c.map ngw) = 0
      · rcases h.yes h0 with ⟨_, _, e⟩ | ⟨_, _, hr, _⟩
        · rw [e]; exact List.nodup_nil
        · exact hr.imp (fun h => by intro e; subst e; omega)
      · rw [(h.no h0).2]; exact List.nodup_nil
    exact lits_few hn h.fmd
theorem Deb.at {w W : World} (h : Deb w) (hb : Below w.heap.size w W) : Deb W := h.below hb
theorem Cf.par {w W : World} {v : Int} {css : List (List Int)} {p : Int} {r : List Int} {u : Value} {D : List Int} (h : Cf w W v css (p :: r) u false D) (hs : shp v css (p :: r) = true) : Con D ∧ Calm css D ∧ parB css D p css = safB css (p :: r) ∧ frm v css = true ∧ Go.Proofs.YtgaojmcmpdjfmaaDoor.fmd p = true ∧ folB css (p :: r) = false := by
  have h2 := hs
  unfold shp at h2
  rw [Bool.and_eq_true, List.all_cons, Bool.and_eq_true] at h2
  have hd := h.der hs rfl
  have hf : folB css (p :: r) = false := (h.cl hs).symm
  have hn : ¬ Cla css (opp (p :: r)) := fun h3 => by
    have := claB_of h3
    unfold folB at hf
    rw [this] at hf; cases hf
  obtain ⟨h4, h5⟩ := calm_clos (frm_nz h2.1) hn hd
  exact ⟨h4, h5, parB_clos hd, h2.1, h2.2.1, hf⟩
theorem Cf.yes {w W : World} {v : Int} {css : List (List Int)} {p : Int} {r : List Int} {u : Value} {D : List Int} (h : Cf w W v css (p :: r) u true D) (hs : shp v css (p :: r) = true) : folB css (p :: r) = true ∧ safB css (p :: r) = true := by
  have hf : folB css (p :: r) = true := (h.cl hs).symm
  exact ⟨hf, parB_clash (claB_true.1 hf)⟩
theorem two_same {a b : Value} {a' b' : Value} (h1 : a = a') (h2 : b = b') : Ending.returned (.tuple #[a, b]) = .returned (.tuple #[a', b']) := by rw [h1, h2]
set_option maxRecDepth 100000 in
set_option maxHeartbeats 3200000 in
theorem follows_any (v : Int) (s vc : Value) (css : List (List Int)) (c : List Int) (w : World) (hr : Rds w s css) (hc : Rd w vc c) (hi : ∀ x ∈ c, i64 x) (hw : Few css) (hD : Deb w) :
    Calls Tryd.prog 17 #[.agg #[.int .i64 v, s], vc] w fun e w' => e = .returned (.tuple #[.bool (shp v css c && folB css c), .int .i64 (shE (shp v css c))]) ∧ Below w.heap.size w w' := by
  have HX : Hid (Bx w v s css (w.alloc (.cells #[.int .i64 v, s] 24))) := Bx.new hr _
  have HR : Hid (Rd w vc c ∧ (∀ x ∈ c, i64 x) ∧ Few css ∧ Deb w) := ⟨hc, hi, hw, hD⟩
  obtain ⟨she, hshe⟩ : ∃ x, shE (shp v css c) = x := ⟨_, rfl⟩
  have HSE : Hid (shE (shp v css c) = she) := hshe
  have HSh : Hid (cloE v css (c.map ngw) = she) := (clo_sh hi).trans hshe
  obtain ⟨av, cv, rfl, -, -, hcell⟩ := hc.form
  obtain ⟨ac, cc, rfl, -, -, -⟩ := hr.form
  have hlc := hc.len
  have HC0 : Hid (∀ W, Below w.heap.size w W → 0 < c.length → ∃ bb off, av = some ⟨bb, off, none⟩ ∧ W.cell? ⟨bb, off, none⟩ = some (.int .i64 (c.getD 0 0))) := fun W hW h0 => by
    obtain ⟨bb, off, e, hc⟩ := hcell 0 h0
    exact ⟨bb, off, e, (hW.cell (p := ⟨bb, off + 0, none⟩) (World.block_lt_of_cell? w _ hc)).trans hc⟩
  clear hr hc hi hw hD hcell hshe
  go_enter Tryd.func17, Tryd.ntmps17
  go_wp2_with fail
  generalize hwa : w.alloc (.cells #[.int .i64 v, .slice ac css.length cc] 24) = wa at *
  have HOp : Hid (∀ W, Below wa.heap.size wa W → Calls Tryd.prog 26 #[.slice av c.length cv] W fun e w' => ∃ a2 c2, e = .returned (.slice a2 c.length c2) ∧ Rd w' (.slice a2 c.length c2) (c.map ngw) ∧ Below wa.heap.size wa w') := fun W hW => (oppos_any _ c W (HR.out.1.below (Below.step HX.out.bel hW))).mono fun e w' ⟨v', he, ho, hb⟩ => by
    have h5 := ho.rd (by rw [List.length_map]; exact hlc)
    obtain ⟨a2, c2, e2, -⟩ := h5.form
    rw [List.length_map] at e2
    subst e2
    exact ⟨a2, c2, he, h5, Below.step hW hb⟩
  have HCl : Hid (∀ W a2 c2, Below wa.heap.size wa W → Rd W (.slice a2 c.length c2) (c.map ngw) → Calls Tryd.prog 25 #[.agg #[.int .i64 v, .slice ac css.length cc], .slice a2 c.length c2] W fun e w' => ∃ u3 c3 clash D, e = .returned (.tuple #[.slice u3 D.length c3, .bool clash, .int .i64 she]) ∧ Cf w w' v css c (.slice u3 D.length c3) clash D ∧ Below wa.heap.size wa w') := fun W a2 c2 hW hrd => (uClose_any v _ _ css (c.map ngw) W (HX.out.rd.below hW) hrd HR.out.2.2.1 (HR.out.2.2.2.at (Below.step HX.out.bel hW))).mono fun e w' ⟨u, clash, D, he, hz⟩ => by
    obtain ⟨u3, c3, e3⟩ := own_form hz.own
    subst e3
    exact ⟨u3, c3, clash, D, by rw [← HSh.out]; exact he, Cf.of HR.out.2.1 hz (Below.step HX.out.bel hW), Below.step hW hz.bel⟩
  have HSt : Hid (∀ W, Below wa.heap.size wa W → Below wa.heap.size wa W ∧ W.cell? ⟨w.heap.size, 0, none⟩ = some (.int .i64 v) ∧ W.cell? ⟨w.heap.size, 1, none⟩ = some (.slice ac css.length cc)) := fun W hW => ⟨hW, (HX.out.on hW).c0, (HX.out.on hW).c1⟩
  have HXr : Hid (∀ W, Below wa.heap.size wa W → Rds W (.slice ac css.length cc) css) := fun W hW => HX.out.rd.below hW
  have HBw : Hid (∀ W, Below wa.heap.size wa W → Below w.heap.size w W) := fun W hW => Below.step HX.out.bel hW
  have c0 := HX.out.c0
  have c1 := HX.out.c1
  clear hwa HX
  go_region_held (fun W => Below wa.heap.size wa W ∧ W.cell? ⟨w.heap.size, 0, none⟩ = some (.int .i64 v) ∧ W.cell? ⟨w.heap.size, 1, none⟩ = some (.slice ac css.length cc)) (first | exact HSt.out _ (Below.refl _ _).drew | exact HSt.out _ B2.out | exact HSt.out _ B1.out) (first
    | (have qq := B1.out; go_at_call 25; refine (HCl.out _ _ _ B1.out R1.out).mono ?_; rintro e w2 ⟨u2, x2, clash2, D2, rfl, hcf, hb2⟩; have H2 : Hid (Cf w w2 v css c (.slice u2 D2.length x2) clash2 D2) := hcf; have B2 : Hid (Below wa.heap.size wa w2) := hb2; clear hcf hb2 qq)
    | (go_at_call 26; refine (HOp.out _ (Below.refl _ _).drew).mono ?_; rintro e w1 ⟨a1, c1', rfl, hr1, hb1⟩; have R1 : Hid (Rd w1 (.slice a1 c.length c1') (c.map ngw)) := hr1; have B1 : Hid (Below wa.heap.size wa w1) := hb1; clear hr1 hb1))
  clear c0 c1
  rename_i hHeld
  clear hHeld
  have HV : Hid (clash2 = (shp v css c && folB css c)) := by
    show _ = _
    cases hs : shp v css c
    · exact H2.out.no hs
    · exact H2.out.cl hs
  go_wp2
  go_ret2
  exact ⟨two_same (congrArg Value.bool HV.out) (congrArg (Value.int .i64) HSE.out.symm), HBw.out _ B2.out⟩
end Go.Proofs.YtgaojmcmpdjfmaaDoor
set_option linter.unusedSimpArgs false
set_option linter.unusedVariables false
namespace Go.Proofs.YtgaojmcmpdjfmaaDoor
open Go Go.RowKit

/-- what Kind answers -/
noncomputable def kn8 (v : Int) (css : List (List Int)) (c : List Int) : Int := if shp v css c then kndI css c else 0
theorem kn8_no {v : Int} {css : List (List Int)} {c : List Int} (h : shp v css c = false) : kn8 v css c = 0 := by unfold kn8; rw [h]; rfl
theorem kn8_yes {v : Int} {css : List (List Int)} {c : List Int} (h : shp v css c = true) : kn8 v css c = kndI css c := by unfold kn8; rw [if_pos h]
set_option maxRecDepth 100000 in
set_option maxHeartbeats 3200000 in
theorem kind_any (v : Int) (s vc : Value) (css : List (List Int)) (c : List Int) (w : World) (hr : Rds w s css) (hc : Rd w vc c) (hi : ∀ x ∈ c, i64 x) (hw : Few css) (hD : Deb w) :
    Calls Tryd.prog 19 #[.agg #[.int .i64 v, s], vc] w fun e w' => e = .returned (.tuple #[.int .i64 (kn8 v css c), .int .i64 (shE (shp v css c))]) ∧ Below w.heap.size w w' := by
  have HX : Hid (Bx w v s css (w.alloc (.cells #[.int .i64 v, s] 24))) := Bx.new hr _
  have HR : Hid (Rd w vc c ∧ (∀ x ∈ c, i64 x) ∧ Few css ∧ Deb w) := ⟨hc, hi, hw, hD⟩
  obtain ⟨she, hshe⟩ : ∃ x, shE (shp v css c) = x := ⟨_, rfl⟩
  have HSE : Hid (shE (shp v css c) = she) := hshe
  have HSh : Hid (cloE v css (c.map ngw) = she) := (clo_sh hi).trans hshe
  obtain ⟨av, cv, rfl, -, -, hcell⟩ := hc.form
  obtain ⟨ac, cc, rfl, -, -, -⟩ := hr.form
  have hlc := hc.len
  have HC0 : Hid (∀ W, Below w.heap.size w W → 0 < c.length → ∃ bb off, av = some ⟨bb, off, none⟩ ∧ W.cell? ⟨bb, off, none⟩ = some (.int .i64 (c.getD 0 0))) := fun W hW h0 => by
    obtain ⟨bb, off, e, hc⟩ := hcell 0 h0
    exact ⟨bb, off, e, (hW.cell (p := ⟨bb, off + 0, none⟩) (World.block_lt_of_cell? w _ hc)).trans hc⟩
  clear hr hc hi hw hD hcell hshe
  go_enter Tryd.func19, Tryd.ntmps19
  go_wp2_with fail
  generalize hwa : w.alloc (.cells #[.int .i64 v, .slice ac css.length cc] 24) = wa at *
  have HOp : Hid (∀ W, Below wa.heap.size wa W → Calls Tryd.prog 26 #[.slice av c.length cv] W fun e w' => ∃ a2 c2, e = .returned (.slice a2 c.length c2) ∧ Rd w' (.slice a2 c.length c2) (c.map ngw) ∧ Below wa.heap.size wa w') := fun W hW => (oppos_any _ c W (HR.out.1.below (Below.step HX.out.bel hW))).mono fun e w' ⟨v', he, ho, hb⟩ => by
    have h5 := ho.rd (by rw [List.length_map]; exact hlc)
    obtain ⟨a2, c2, e2, -⟩ := h5.form
    rw [List.length_map] at e2
    subst e2
    exact ⟨a2, c2, he, h5, Below.step hW hb⟩
  have HCl : Hid (∀ W a2 c2, Below wa.heap.size wa W → Rd W (.slice a2 c.length c2) (c.map ngw) → Calls Tryd.prog 25 #[.agg #[.int .i64 v, .slice ac css.length cc], .slice a2 c.length c2] W fun e w' => ∃ u3 c3 clash D, e = .returned (.tuple #[.slice u3 D.length c3, .bool clash, .int .i64 she]) ∧ Cf w w' v css c (.slice u3 D.length c3) clash D ∧ Below wa.heap.size wa w') := fun W a2 c2 hW hrd => (uClose_any v _ _ css (c.map ngw) W (HX.out.rd.below hW) hrd HR.out.2.2.1 (HR.out.2.2.2.at (Below.step HX.out.bel hW))).mono fun e w' ⟨u, clash, D, he, hz⟩ => by
    obtain ⟨u3, c3, e3⟩ := own_form hz.own
    subst e3
    exact ⟨u3, c3, clash, D, by rw [← HSh.out]; exact he, Cf.of HR.out.2.1 hz (Below.step HX.out.bel hW), Below.step hW hz.bel⟩
  have HSt : Hid (∀ W, Below wa.heap.size wa W → Below wa.heap.size wa W ∧ W.cell? ⟨w.heap.size, 0, none⟩ = some (.int .i64 v) ∧ W.cell? ⟨w.heap.size, 1, none⟩ = some (.slice ac css.length cc)) := fun W hW => ⟨hW, (HX.out.on hW).c0, (HX.out.on hW).c1⟩
  have HXr : Hid (∀ W, Below wa.heap.size wa W → Rds W (.slice ac css.length cc) css) := fun W hW => HX.out.rd.below hW
  have HBw : Hid (∀ W, Below wa.heap.size wa W → Below w.heap.size w W) := fun W hW => Below.step HX.out.bel hW
  have c0 := HX.out.c0
  have c1 := HX.out.c1
  clear hwa HX
  go_region_held (fun W => Below wa.heap.size wa W ∧ W.cell? ⟨w.heap.size, 0, none⟩ = some (.int .i64 v) ∧ W.cell? ⟨w.heap.size, 1, none⟩ = some (.slice ac css.length cc)) (first | exact HSt.out _ (Below.refl _ _).drew | exact HSt.out _ B2.out | exact HSt.out _ B1.out) (first
    | (have qq := B1.out; go_at_call 25; refine (HCl.out _ _ _ B1.out R1.out).mono ?_; rintro e w2 ⟨u2, x2, clash2, D2, rfl, hcf, hb2⟩; have H2 : Hid (Cf w w2 v css c (.slice u2 D2.length x2) clash2 D2) := hcf; have B2 : Hid (Below wa.heap.size wa w2) := hb2; clear hcf hb2 qq)
    | (go_at_call 26; refine (HOp.out _ (Below.refl _ _).drew).mono ?_; rintro e w1 ⟨a1, c1', rfl, hr1, hb1⟩; have R1 : Hid (Rd w1 (.slice a1 c.length c1') (c.map ngw)) := hr1; have B1 : Hid (Below wa.heap.size wa w1) := hb1; clear hr1 hb1))
  clear c0 c1
  rename_i hHeld
  clear hHeld
  cases hs : shp v css c
  · have HS : Hid (shp v css c = false) := hs
    have hcl := H2.out.no hs
    have hse : she = 1 := by rw [← HSE.out, hs]; rfl
    subst hcl; subst hse
    have HT : Hid (shE false = 1) := rfl
    clear hs
    go_wp2
    go_ret2
    exact ⟨two_same (congrArg (Value.int .i64) (kn8_no HS.out).symm) (congrArg (Value.int .i64) (by first | rfl | (rw [HS.out]; rfl) | simp [HS.out])), HBw.out _ B2.out⟩
  · have HS : Hid (shp v css c = true) := hs
    have hse : she = 0 := by rw [← HSE.out, hs]; rfl
    subst hse
    clear hs
    cases c with
    | nil =>
      have HFo := H2.out.cl HS.out
      cases clash2 with
      | true =>
        have HK : Hid (kndI css [] = 1) := by show _ = _; unfold kndI; rw [← HFo]; rfl
        clear HFo
        go_wp2
        go_ret2
        exact ⟨two_same (congrArg (Value.int .i64) ((kn8_yes HS.out).trans HK.out).symm) (congrArg (Value.int .i64) (by first | rfl | (rw [HS.out]; rfl) | simp [HS.out])), HBw.out _ B2.out⟩
      | false =>
        have HK : Hid (kndI css [] = 0) := by show _ = _; unfold kndI; rw [← HFo]; rfl
        clear HFo
        go_wp2_with fail
        first | (go_region_law (fail)) | fail
        all_goals
          go_wp2
          go_ret2
          exact ⟨two_same (congrArg (Value.int .i64) ((kn8_yes HS.out).trans HK.out).symm) (congrArg (Value.int .i64) (by first | rfl | (rw [HS.out]; rfl) | simp [HS.out])), (HBw.out _ B2.out).drew⟩
    | cons p r =>
      have hpos : 0 < (p :: r).length := by simp
      obtain ⟨bb, off, rfl, k0⟩ := HC0.out w2 (HBw.out _ B2.out) hpos
      have hp0 : ¬ (((p :: r).length : Int) = 0) := by have := hpos; omega
      have hp1 : (0 : Int) < ((p :: r).length : Int) := by have := hpos; omega
      cases clash2 with
      | true =>
        obtain ⟨hf1, hf2⟩ := H2.out.yes HS.out
        have HF : Hid (folB css (p :: r) = true ∧ safB css (p :: r) = true) := ⟨hf1, hf2⟩
        clear hf1 hf2
        generalize (p :: r).length = cl at *
        have HK : Hid (kndI css (p :: r) = 1) := by show _ = _; unfold kndI; rw [HF.out.1]; rfl
        go_wp2
        go_ret2
        exact ⟨two_same (congrArg (Value.int .i64) ((kn8_yes HS.out).trans HK.out).symm) (congrArg (Value.int .i64) (by first | rfl | (rw [HS.out]; rfl) | simp [HS.out])), HBw.out _ B2.out⟩
      | false =>
        obtain ⟨g1, g2, g3, g4, g5, g6⟩ := H2.out.par HS.out
        have HF : Hid (folB css (p :: r) = false) := g6
        have HAl : Hid (∀ W, Below w2.heap.size w2 W → Calls Tryd.prog 27 #[.agg #[.int .i64 v, .slice ac css.length cc], .int .i64 p, .slice u2 D2.length x2] W fun e w' => e = .returned (.bool (safB css (p :: r))) ∧ Below w2.heap.size w2 w') := fun W hW => (allFollow_any v p _ _ css D2 W (HXr.out W (Below.step B2.out hW)) ((H2.out.own.rd (by have := H2.out.len; omega)).below hW) HR.out.2.2.1 g4 H2.out.fmd g1 g2 g5).mono fun e w' h => ⟨by rw [← g3]; exact h.1, Below.step hW h.2⟩
        have HS2 : Hid (∀ W, Below w2.heap.size w2 W → Below w2.heap.size w2 W ∧ W.cell? ⟨w.heap.size, 0, none⟩ = some (.int .i64 v) ∧ W.cell? ⟨w.heap.size, 1, none⟩ = some (.slice ac css.length cc) ∧ W.cell? ⟨bb, off, none⟩ = some (.int .i64 p)) := fun W hW => ⟨hW, (HSt.out W (Below.step B2.out hW)).2.1, (HSt.out W (Below.step B2.out hW)).2.2, (hW.cell (p := ⟨bb, off, none⟩) (World.block_lt_of_cell? w2 _ k0)).trans k0⟩
        have HBf : Hid (∀ W, Below w2.heap.size w2 W → Below w.heap.size w W) := fun W hW => HBw.out _ (Below.step B2.out hW)
        clear g1 g2 g3 g4 g5 g6
        generalize hsf : safB css (p :: r) = sf at *
        have HSf : Hid (safB css (p :: r) = sf) := hsf
        clear hsf
        generalize (p :: r).length = cl at *
        generalize D2.length = dl at *
        have HK : Hid (kndI css (p :: r) = if sf then 2 else 0) := by show _ = _; unfold kndI; rw [HF.out, HSf.out]; rfl
        go_wp2_with fail
        go_region_held (fun W => Below w2.heap.size w2 W ∧ W.cell? ⟨w.heap.size, 0, none⟩ = some (.int .i64 v) ∧ W.cell? ⟨w.heap.size, 1, none⟩ = some (.slice ac css.length cc) ∧ W.cell? ⟨bb, off, none⟩ = some (.int .i64 p)) (first | exact HS2.out _ (Below.refl _ _).drew | exact HS2.out _ B5.out) (first | (go_at_call 27; refine (HAl.out _ (Below.refl _ _).drew).mono ?_; rintro e w5 ⟨rfl, hb5⟩; have B5 : Hid (Below w2.heap.size w2 w5) := hb5; clear hb5))
        all_goals
          cases sf with
          | true =>
            go_wp2
            go_ret2
            exact ⟨two_same (congrArg (Value.int .i64) ((kn8_yes HS.out).trans HK.out).symm) (congrArg (Value.int .i64) (by first | rfl | (rw [HS.out]; rfl) | simp [HS.out])), HBf.out _ B5.out⟩
          | false =>
            go_wp2
            go_ret2
            exact ⟨two_same (congrArg (Value.int .i64) ((kn8_yes HS.out).trans HK.out).symm) (congrArg (Value.int .i64) (by first | rfl | (rw [HS.out]; rfl) | simp [HS.out])), HBf.out _ B5.out⟩
end Go.Proofs.YtgaojmcmpdjfmaaDoor
set_option linter.unusedSimpArgs false
set_option linter.unusedVariables false
namespace Go.Proofs.YtgaojmcmpdjfmaaDoor
open Go Go.RowKit

set_option maxRecDepth 100000 in
set_option maxHeartbeats 3200000 in
theorem safe_any (v : Int) (s vc : Value) (css : List (List Int)) (c : List Int) (w : World) (hr : Rds w s css) (hc : Rd w vc c) (hi : ∀ x ∈ c, i64 x) (hw : Few css) (hD : Deb w) :
    Calls Tryd.prog 21 #[.agg #[.int .i64 v, s], vc] w fun e w' => e = .returned (.tuple #[.bool (shp v css c && safB css c), .int .i64 (shE (shp v css c))]) ∧ Below w.heap.size w w' := by
  have HX : Hid (Bx w v s css (w.alloc (.cells #[.int .i64 v, s] 24))) := Bx.new hr _
  have HR : Hid (Rd w vc c ∧ (∀ x ∈ c, i64 x) ∧ Few css ∧ Deb w) := ⟨hc, hi, hw, hD⟩
  obtain ⟨she, hshe⟩ : ∃ x, shE (shp v css c) = x := ⟨_, rfl⟩
  have HSE : Hid (shE (shp v css c) = she) := hshe
  have HSh : Hid (cloE v css (c.map ngw) = she) := (clo_sh hi).trans hshe
  obtain ⟨av, cv, rfl, -, -, hcell⟩ := hc.form
  obtain ⟨ac, cc, rfl, -, -, -⟩ := hr.form
  have hlc := hc.len
  have HC0 : Hid (∀ W, Below w.heap.size w W → 0 < c.length → ∃ bb off, av = some ⟨bb, off, none⟩ ∧ W.cell? ⟨bb, off, none⟩ = some (.int .i64 (c.getD 0 0))) := fun W hW h0 => by
    obtain ⟨bb, off, e, hc⟩ := hcell 0 h0
    exact ⟨bb, off, e, (hW.cell (p := ⟨bb, off + 0, none⟩) (World.block_lt_of_cell? w _ hc)).trans hc⟩
  clear hr hc hi hw hD hcell hshe
  go_enter Tryd.func21, Tryd.ntmps21
  go_wp2_with fail
  generalize hwa : w.alloc (.cells #[.int .i64 v, .slice ac css.length cc] 24) = wa at *
  have HOp : Hid (∀ W, Below wa.heap.size wa W → Calls Tryd.prog 26 #[.slice av c.length cv] W fun e w' => ∃ a2 c2, e = .returned (.slice a2 c.length c2) ∧ Rd w' (.slice a2 c.length c2) (c.map ngw) ∧ Below wa.heap.size wa w') := fun W hW => (oppos_any _ c W (HR.out.1.below (Below.step HX.out.bel hW))).mono fun e w' ⟨v', he, ho, hb⟩ => by
    have h5 := ho.rd (by rw [List.length_map]; exact hlc)
    obtain ⟨a2, c2, e2, -⟩ := h5.form
    rw [List.length_map] at e2
    subst e2
    exact ⟨a2, c2, he, h5, Below.step hW hb⟩
  have HCl : Hid (∀ W a2 c2, Below wa.heap.size wa W → Rd W (.slice a2 c.length c2) (c.map ngw) → Calls Tryd.prog 25 #[.agg #[.int .i64 v, .slice ac css.length cc], .slice a2 c.length c2] W fun e w' => ∃ u3 c3 clash D, e = .returned (.tuple #[.slice u3 D.length c3, .bool clash, .int .i64 she]) ∧ Cf w w' v css c (.slice u3 D.length c3) clash D ∧ Below wa.heap.size wa w') := fun W a2 c2 hW hrd => (uClose_any v _ _ css (c.map ngw) W (HX.out.rd.below hW) hrd HR.out.2.2.1 (HR.out.2.2.2.at (Below.step HX.out.bel hW))).mono fun e w' ⟨u, clash, D, he, hz⟩ => by
    obtain ⟨u3, c3, e3⟩ := own_form hz.own
    subst e3
    exact ⟨u3, c3, clash, D, by rw [← HSh.out]; exact he, Cf.of HR.out.2.1 hz (Below.step HX.out.bel hW), Below.step hW hz.bel⟩
  have HSt : Hid (∀ W, Below wa.heap.size wa W → Below wa.heap.size wa W ∧ W.cell? ⟨w.heap.size, 0, none⟩ = some (.int .i64 v) ∧ W.cell? ⟨w.heap.size, 1, none⟩ = some (.slice ac css.length cc)) := fun W hW => ⟨hW, (HX.out.on hW).c0, (HX.out.on hW).c1⟩
  have HXr : Hid (∀ W, Below wa.heap.size wa W → Rds W (.slice ac css.length cc) css) := fun W hW => HX.out.rd.below hW
  have HBw : Hid (∀ W, Below wa.heap.size wa W → Below w.heap.size w W) := fun W hW => Below.step HX.out.bel hW
  have c0 := HX.out.c0
  have c1 := HX.out.c1
  clear hwa HX
  go_region_held (fun W => Below wa.heap.size wa W ∧ W.cell? ⟨w.heap.size, 0, none⟩ = some (.int .i64 v) ∧ W.cell? ⟨w.heap.size, 1, none⟩ = some (.slice ac css.length cc)) (first | exact HSt.out _ (Below.refl _ _).drew | exact HSt.out _ B2.out | exact HSt.out _ B1.out) (first
    | (have qq := B1.out; go_at_call 25; refine (HCl.out _ _ _ B1.out R1.out).mono ?_; rintro e w2 ⟨u2, x2, clash2, D2, rfl, hcf, hb2⟩; have H2 : Hid (Cf w w2 v css c (.slice u2 D2.length x2) clash2 D2) := hcf; have B2 : Hid (Below wa.heap.size wa w2) := hb2; clear hcf hb2 qq)
    | (go_at_call 26; refine (HOp.out _ (Below.refl _ _).drew).mono ?_; rintro e w1 ⟨a1, c1', rfl, hr1, hb1⟩; have R1 : Hid (Rd w1 (.slice a1 c.length c1') (c.map ngw)) := hr1; have B1 : Hid (Below wa.heap.size wa w1) := hb1; clear hr1 hb1))
  clear c0 c1
  rename_i hHeld
  clear hHeld
  cases hs : shp v css c
  · have HS : Hid (shp v css c = false) := hs
    have hcl := H2.out.no hs
    have hse : she = 1 := by rw [← HSE.out, hs]; rfl
    subst hcl; subst hse
    have HT : Hid (shE false = 1) := rfl
    clear hs
    go_wp2
    go_ret2
    exact ⟨two_same (congrArg Value.bool (by first | rfl | (rw [HS.out]; rfl) | simp [HS.out])) (congrArg (Value.int .i64) (by first | rfl | (rw [HS.out]; rfl) | simp [HS.out])), HBw.out _ B2.out⟩
  · have HS : Hid (shp v css c = true) := hs
    have hse : she = 0 := by rw [← HSE.out, hs]; rfl
    subst hse
    clear hs
    cases c with
    | nil =>
      go_wp2
      go_ret2
      exact ⟨two_same (congrArg Value.bool (by first | rfl | (rw [HS.out]; rfl) | simp [HS.out])) (congrArg (Value.int .i64) (by first | rfl | (rw [HS.out]; rfl) | simp [HS.out])), HBw.out _ B2.out⟩
    | cons p r =>
      have hpos : 0 < (p :: r).length := by simp
      obtain ⟨bb, off, rfl, k0⟩ := HC0.out w2 (HBw.out _ B2.out) hpos
      have hp0 : ¬ (((p :: r).length : Int) = 0) := by have := hpos; omega
      have hp1 : (0 : Int) < ((p :: r).length : Int) := by have := hpos; omega
      cases clash2 with
      | true =>
        obtain ⟨hf1, hf2⟩ := H2.out.yes HS.out
        have HF : Hid (folB css (p :: r) = true ∧ safB css (p :: r) = true) := ⟨hf1, hf2⟩
        clear hf1 hf2
        generalize (p :: r).length = cl at *
        go_wp2_with fail
        first | (go_region_law (fail)) | fail
        all_goals
          go_wp2
          go_ret2
          exact ⟨two_same (congrArg Value.bool (by first | rfl | (rw [HS.out, HF.out.2]; rfl) | simp [HS.out, HF.out.2])) (congrArg (Value.int .i64) (by first | rfl | (rw [HS.out]; rfl) | simp [HS.out])), (HBw.out _ B2.out).drew⟩
      | false =>
        obtain ⟨g1, g2, g3, g4, g5, g6⟩ := H2.out.par HS.out
        have HF : Hid (folB css (p :: r) = false) := g6
        have HAl : Hid (∀ W, Below w2.heap.size w2 W → Calls Tryd.prog 27 #[.agg #[.int .i64 v, .slice ac css.length cc], .int .i64 p, .slice u2 D2.length x2] W fun e w' => e = .returned (.bool (safB css (p :: r))) ∧ Below w2.heap.size w2 w') := fun W hW => (allFollow_any v p _ _ css D2 W (HXr.out W (Below.step B2.out hW)) ((H2.out.own.rd (by have := H2.out.len; omega)).below hW) HR.out.2.2.1 g4 H2.out.fmd g1 g2 g5).mono fun e w' h => ⟨by rw [← g3]; exact h.1, Below.step hW h.2⟩
        have HS2 : Hid (∀ W, Below w2.heap.size w2 W → Below w2.heap.size w2 W ∧ W.cell? ⟨w.heap.size, 0, none⟩ = some (.int .i64 v) ∧ W.cell? ⟨w.heap.size, 1, none⟩ = some (.slice ac css.length cc) ∧ W.cell? ⟨bb, off, none⟩ = some (.int .i64 p)) := fun W hW => ⟨hW, (HSt.out W (Below.step B2.out hW)).2.1, (HSt.out W (Below.step B2.out hW)).2.2, (hW.cell (p := ⟨bb, off, none⟩) (World.block_lt_of_cell? w2 _ k0)).trans k0⟩
        have HBf : Hid (∀ W, Below w2.heap.size w2 W → Below w.heap.size w W) := fun W hW => HBw.out _ (Below.step B2.out hW)
        clear g1 g2 g3 g4 g5 g6
        generalize hsf : safB css (p :: r) = sf at *
        have HSf : Hid (safB css (p :: r) = sf) := hsf
        clear hsf
        generalize (p :: r).length = cl at *
        generalize D2.length = dl at *
        go_wp2_with fail
        go_region_held (fun W => Below w2.heap.size w2 W ∧ W.cell? ⟨w.heap.size, 0, none⟩ = some (.int .i64 v) ∧ W.cell? ⟨w.heap.size, 1, none⟩ = some (.slice ac css.length cc) ∧ W.cell? ⟨bb, off, none⟩ = some (.int .i64 p)) (first | exact HS2.out _ (Below.refl _ _).drew | exact HS2.out _ B5.out) (first | (go_at_call 27; refine (HAl.out _ (Below.refl _ _).drew).mono ?_; rintro e w5 ⟨rfl, hb5⟩; have B5 : Hid (Below w2.heap.size w2 w5) := hb5; clear hb5))
        all_goals
          go_wp2
          go_ret2
          exact ⟨two_same (congrArg Value.bool (by first | rfl | (rw [HS.out, HSf.out]; rfl) | simp [HS.out, HSf.out])) (congrArg (Value.int .i64) (by first | rfl | (rw [HS.out]; rfl) | simp [HS.out])), HBf.out _ B5.out⟩
end Go.Proofs.YtgaojmcmpdjfmaaDoor
set_option linter.unusedSimpArgs false
set_option linter.unusedVariables false
namespace Go.Proofs.YtgaojmcmpdjfmaaDoor
open Go Go.RowKit

theorem sml8_few : Few sml8 := Few.of (by decide) (by decide)
theorem sml_calm {L : List Int} (h : (-1 : Int) ∈ L ∨ (2 : Int) ∈ L) (hc : Con L) : ¬ Cla sml8 L := by
  refine (calm_der hc fun k hk => ?_).2
  have hk0 : k = 0 := by have : sml8.length = 1 := rfl; omega
  subst hk0
  rcases h with a | a
  · exact kd_true (c := [-1, 2]) (by simp) a
  · exact kd_true (c := [-1, 2]) (by simp) a
theorem fol_21 : folB sml8 [2, -1] = true := claB_of (.inr ⟨[-1, 2], by simp [sml8], fun m hm => .fact (by
  have : m = -1 ∨ m = 2 := by simpa using hm
  rcases this with e | e <;> subst e <;> simp [opp])⟩)
theorem fol_12 : folB sml8 [1, -2] = false := claB_not (sml_calm (.inl (by simp [opp])) (by
  intro l hl
  have : l = -1 ∨ l = 2 := by simpa [opp] using hl
  rcases this with e | e <;> subst e <;> simp [opp]))
theorem saf_12 : safB sml8 [1, -2] = true := by
  unfold safB parB
  have h1 : claB sml8 (opp [1, -2] ++ opp (rst [-1, 2] 1)) = true := claB_of (.inl ⟨2, .fact (by simp [opp]), .fact (by simp [opp, rst])⟩)
  simp only [sml8, List.all_cons, List.all_nil, Bool.and_true]
  unfold sml8 at h1
  rw [h1]; simp
theorem fol_2 : folB sml8 [-2] = false := claB_not (sml_calm (.inr (by simp [opp])) (by
  intro l hl
  have : l = 2 := by simpa [opp] using hl
  subst this; simp [opp]))
theorem saf_2 : safB sml8 [-2] = false := by
  unfold safB parB
  have h1 : claB sml8 (opp [-2] ++ opp (rst [-1, 2] (-2))) = false := claB_not (sml_calm (.inr (by simp [opp])) (by
    intro l hl
    have : l = 2 ∨ l = 1 := by simpa [opp, rst] using hl
    rcases this with e | e <;> subst e <;> simp [opp, rst]))
  simp only [sml8, List.all_cons, List.all_nil, Bool.and_true]
  unfold sml8 at h1
  rw [h1]; simp
theorem shp_21 : shp 2 sml8 [2, -1] = true := by decide
theorem shp_12 : shp 2 sml8 [1, -2] = true := by decide
theorem shp_2 : shp 2 sml8 [-2] = true := by decide
theorem sml_fol : (shp 2 sml8 [2, -1] && folB sml8 [2, -1]) = true := by rw [shp_21, fol_21]; rfl
theorem sml_saf : (shp 2 sml8 [1, -2] && safB sml8 [1, -2]) = true := by rw [shp_12, saf_12]; rfl
theorem sml_knd : kn8 2 sml8 [1, -2] = 2 := by rw [kn8_yes shp_12]; unfold kndI; rw [fol_12, saf_12]; rfl
theorem sml_non : kn8 2 sml8 [-2] = 0 := by rw [kn8_yes shp_2]; unfold kndI; rw [fol_2, saf_2]; rfl
theorem sml_fn : (shp 2 sml8 [1, -2] && folB sml8 [1, -2]) = false := by rw [shp_12, fol_12]; rfl
theorem sml_sh1 : shE (shp 2 sml8 [2, -1]) = 0 := by rw [shp_21]; rfl
theorem sml_sh2 : shE (shp 2 sml8 [1, -2]) = 0 := by rw [shp_12]; rfl
theorem sml_sh3 : shE (shp 2 sml8 [-2]) = 0 := by rw [shp_2]; rfl
end Go.Proofs.YtgaojmcmpdjfmaaDoor
set_option linter.unusedSimpArgs false
set_option linter.unusedVariables false
namespace Go.Proofs.YtgaojmcmpdjfmaaDoor
open Go Go.RowKit

set_option maxRecDepth 100000 in
set_option maxHeartbeats 1600000 in
theorem awake8_any (w : World) (hD : Deb w) :
    Calls Tryd.prog 4 #[] w fun e w' => e = .returned (.bool true) ∧ Below w.heap.size w w' := by
  have HB0 : Hid (Below w.heap.size w w ∧ Deb w) := ⟨Below.refl _ _, hD⟩
  clear hD
  go_enter Tryd.func4, Tryd.ntmps4
  go_wp2_with fail
  refine (small8_any _).mono ?_
  rintro e w0a ⟨s0, rfl, hr0, bel0⟩
  have HA0 : Hid (Rds w0a s0 sml8 ∧ Below w.heap.size w w0a) := ⟨hr0, Below.step HB0.out.1 bel0⟩
  obtain ⟨a0, c0, rfl, -, -, -⟩ := hr0.form
  clear hr0 bel0
  have HC0 : Hid (Calls Tryd.prog 17 #[.agg #[.int .i64 2, .slice a0 sml8.length c0], .slice (some ⟨w0a.heap.size, 0, none⟩) 2 2] (w0a.alloc (.cells #[.int .i64 (2), .int .i64 (-1)] 3)) fun e w' => e = .returned (.tuple #[.bool true, .int .i64 0]) ∧ Below (w0a.alloc (.cells #[.int .i64 (2), .int .i64 (-1)] 3)).heap.size (w0a.alloc (.cells #[.int .i64 (2), .int .i64 (-1)] 3)) w') := (follows_any 2 _ _ sml8 [2, -1] _ (HA0.out.1.below (below_box _ _)) ((ownTwo w0a (2) (-1)).rd (by simp)) (by simp [i64]) sml8_few (HB0.out.2.at (Below.step HA0.out.2 (below_box _ _)))).mono fun e w' h => ⟨by rw [h.1]; exact two_same (congrArg Value.bool sml_fol) (congrArg (Value.int .i64) sml_sh1), h.2⟩
  go_wp2_with fail
  refine HC0.out.mono ?_
  rintro e w0b ⟨rfl, bel0⟩
  have HB1 : Hid (Below w.heap.size w w0b ∧ True) := ⟨Below.step (Below.step HA0.out.2 (below_box _ _)) bel0, trivial⟩
  clear bel0 HC0 HA0
  go_wp2_with fail
  refine (small8_any _).mono ?_
  rintro e w1a ⟨s1, rfl, hr1, bel1⟩
  have HA1 : Hid (Rds w1a s1 sml8 ∧ Below w.heap.size w w1a) := ⟨hr1, Below.step HB1.out.1 bel1⟩
  obtain ⟨a1, c1, rfl, -, -, -⟩ := hr1.form
  clear hr1 bel1
  have HC1 : Hid (Calls Tryd.prog 17 #[.agg #[.int .i64 2, .slice a1 sml8.length c1], .slice (some ⟨w1a.heap.size, 0, none⟩) 2 2] (w1a.alloc (.cells #[.int .i64 (1), .int .i64 (-2)] 3)) fun e w' => e = .returned (.tuple #[.bool false, .int .i64 0]) ∧ Below (w1a.alloc (.cells #[.int .i64 (1), .int .i64 (-2)] 3)).heap.size (w1a.alloc (.cells #[.int .i64 (1), .int .i64 (-2)] 3)) w') := (follows_any 2 _ _ sml8 [1, -2] _ (HA1.out.1.below (below_box _ _)) ((ownTwo w1a (1) (-2)).rd (by simp)) (by simp [i64]) sml8_few (HB0.out.2.at (Below.step HA1.out.2 (below_box _ _)))).mono fun e w' h => ⟨by rw [h.1]; exact two_same (congrArg Value.bool sml_fn) (congrArg (Value.int .i64) sml_sh2), h.2⟩
  go_wp2_with fail
  refine HC1.out.mono ?_
  rintro e w1b ⟨rfl, bel1⟩
  have HB2 : Hid (Below w.heap.size w w1b ∧ True) := ⟨Below.step (Below.step HA1.out.2 (below_box _ _)) bel1, trivial⟩
  clear bel1 HC1 HA1
  go_wp2_with fail
  refine (small8_any _).mono ?_
  rintro e w2a ⟨s2, rfl, hr2, bel2⟩
  have HA2 : Hid (Rds w2a s2 sml8 ∧ Below w.heap.size w w2a) := ⟨hr2, Below.step HB2.out.1 bel2⟩
  obtain ⟨a2, c2, rfl, -, -, -⟩ := hr2.form
  clear hr2 bel2
  have HC2 : Hid (Calls Tryd.prog 19 #[.agg #[.int .i64 2, .slice a2 sml8.length c2], .slice (some ⟨w2a.heap.size, 0, none⟩) 2 2] (w2a.alloc (.cells #[.int .i64 (1), .int .i64 (-2)] 3)) fun e w' => e = .returned (.tuple #[.int .i64 2, .int .i64 0]) ∧ Below (w2a.alloc (.cells #[.int .i64 (1), .int .i64 (-2)] 3)).heap.size (w2a.alloc (.cells #[.int .i64 (1), .int .i64 (-2)] 3)) w') := (kind_any 2 _ _ sml8 [1, -2] _ (HA2.out.1.below (below_box _ _)) ((ownTwo w2a (1) (-2)).rd (by simp)) (by simp [i64]) sml8_few (HB0.out.2.at (Below.step HA2.out.2 (below_box _ _)))).mono fun e w' h => ⟨by rw [h.1]; exact two_same (congrArg (Value.int .i64) sml_knd) (congrArg (Value.int .i64) sml_sh2), h.2⟩
  go_wp2_with fail
  refine HC2.out.mono ?_
  rintro e w2b ⟨rfl, bel2⟩
  have HB3 : Hid (Below w.heap.size w w2b ∧ True) := ⟨Below.step (Below.step HA2.out.2 (below_box _ _)) bel2, trivial⟩
  clear bel2 HC2 HA2
  go_wp2_with fail
  refine (small8_any _).mono ?_
  rintro e w3a ⟨s3, rfl, hr3, bel3⟩
  have HA3 : Hid (Rds w3a s3 sml8 ∧ Below w.heap.size w w3a) := ⟨hr3, Below.step HB3.out.1 bel3⟩
  obtain ⟨a3, c3, rfl, -, -, -⟩ := hr3.form
  clear hr3 bel3
  have HC3 : Hid (Calls Tryd.prog 19 #[.agg #[.int .i64 2, .slice a3 sml8.length c3], .slice (some ⟨w3a.heap.size, 0, none⟩) 1 1] (w3a.alloc (.cells #[.int .i64 (-2)] 3)) fun e w' => e = .returned (.tuple #[.int .i64 0, .int .i64 0]) ∧ Below (w3a.alloc (.cells #[.int .i64 (-2)] 3)).heap.size (w3a.alloc (.cells #[.int .i64 (-2)] 3)) w') := (kind_any 2 _ _ sml8 [-2] _ (HA3.out.1.below (below_box _ _)) ((ownOne w3a (-2)).rd (by simp)) (by simp [i64]) sml8_few (HB0.out.2.at (Below.step HA3.out.2 (below_box _ _)))).mono fun e w' h => ⟨by rw [h.1]; exact two_same (congrArg (Value.int .i64) sml_non) (congrArg (Value.int .i64) sml_sh3), h.2⟩
  go_wp2_with fail
  refine HC3.out.mono ?_
  rintro e w3b ⟨rfl, bel3⟩
  have HB4 : Hid (Below w.heap.size w w3b ∧ True) := ⟨Below.step (Below.step HA3.out.2 (below_box _ _)) bel3, trivial⟩
  clear bel3 HC3 HA3
  go_wp2
  go_ret
  exact ⟨rfl, HB4.out.1⟩
end Go.Proofs.YtgaojmcmpdjfmaaDoor

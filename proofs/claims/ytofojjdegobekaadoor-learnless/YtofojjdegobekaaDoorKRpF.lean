/-
  rup: Follows, Safe, Kind.
  KEEP: c2 c3 no of yes par c0 c1 cell call few from ty walk set on app at below new trans refl start ap kept rd rds mono lt add none own nil put len pos setF setV putL putR other neV same_any num form fin
-/
import Derived.Test.YtofojjdegobekaaDoorJOnR
import Derived.Test.YtofojjdegobekaaDoorJUnS
import Derived.Sort.AtCall
set_option linter.unusedSimpArgs false
set_option linter.unusedVariables false
namespace Go.Proofs.YtofojjdegobekaaDoor
open Go Go.RowKit

/-- is what comes in well shaped? -/
def shp (v : Int) (css : List (List Int)) (c : List Int) : Bool := frm v css && c.all fmd
def shE (b : Bool) : Int := if b then 0 else 1
theorem clo_sh {v : Int} {css : List (List Int)} {c : List Int} (hi : ∀ x ∈ c, i64 x) : cloE v css (c.map ngw) = shE (shp v css c) := by
  unfold cloE shE shp
  rw [opw_all hi]
/-- what Close says of the opposites -/
structure Cf (w W : World) (v : Int) (css : List (List Int)) (c : List Int) (u : Value) (clash : Bool) (D : List Int) : Prop where
  own : Own w.heap.size W u D
  no : shp v css c = false → clash = false
  cl : shp v css c = true → clash = folB css c
  der : shp v css c = true → clash = false → ∀ x, x ∈ D ↔ Der css (opp c) x
  fmd : ∀ x ∈ D, Go.Proofs.YtofojjdegobekaaDoor.fmd x = true
  bel : Below w.heap.size w W
  len : D.length ≤ 2097152
theorem Cf.of {w w0 W : World} {v : Int} {css : List (List Int)} {c : List Int} {u : Value} {clash : Bool} {D : List Int} (hi : ∀ x ∈ c, i64 x) (h : Clz w0 W v css (c.map ngw) u clash D) (hb : Below w.heap.size w w0) : Cf w W v css c u clash D := by
  have hs := clo_sh (v := v) (css := css) hi
  have hyes : shp v css c = true → Says6 css (opp c) clash D := fun h2 => by
    have h3 : c.all Go.Proofs.YtofojjdegobekaaDoor.fmd = true := by unfold shp at h2; rw [Bool.and_eq_true] at h2; exact h2.2
    have := h.yes (by rw [hs, h2]; rfl)
    rw [opw_opp h3] at this
    exact this
  refine ⟨h.own.mono hb.size, fun h2 => (h.no (by rw [hs, h2]; decide)).1, fun h2 => ?_, fun h2 h3 => ?_, h.fmd, Below.step hb h.bel, ?_⟩
  · rcases hyes h2 with ⟨e, cl, _⟩ | ⟨e, cl, _⟩
    · rw [e]; exact (claB_of cl).symm
    · rw [e]; exact (claB_not cl).symm
  · rcases hyes h2 with ⟨e, _⟩ | ⟨_, _, _, hd⟩
    · rw [h3] at e; cases e
    · exact hd
  · have hn : D.Nodup := by
      by_cases h0 : cloE v css (c.map ngw) = 0
      · rcases h.yes h0 with ⟨_, _, e⟩ | ⟨_, _, hr, _⟩
        · rw [e]; exact List.nodup_nil
        · exact hr.imp (fun h => by intro e; subst e; omega)
      · rw [(h.no h0).2]; exact List.nodup_nil
    exact lits_few hn h.fmd
theorem Deb.at {w W : World} (h : Deb w) (hb : Below w.heap.size w W) : Deb W := h.below hb
theorem Cf.par {w W : World} {v : Int} {css : List (List Int)} {p : Int} {r : List Int} {u : Value} {D : List Int} (h : Cf w W v css (p :: r) u false D) (hs : shp v css (p :: r) = true) : Con D ∧ Calm css D ∧ parB css D p css = safB css (p :: r) ∧ frm v css = true ∧ Go.Proofs.YtofojjdegobekaaDoor.fmd p = true ∧ folB css (p :: r) = false := by
  have h2 := hs
  unfold shp at h2
  rw [Bool.and_eq_true, List.all_cons, Bool.and_eq_true] at h2
  have hd := h.der hs rfl
  have hf : folB css (p :: r) = false := (h.cl hs).symm
  have hn : ¬ Cla css (opp (p :: r)) := fun h3 => by
    have := claB_of h3
    unfold folB at hf
    rw [this] at hf; cases hf
  obtain ⟨h4, h5⟩ := calm_clos (frm_nz h2.1) hn hd
  exact ⟨h4, h5, parB_clos hd, h2.1, h2.2.1, hf⟩
theorem Cf.yes {w W : World} {v : Int} {css : List (List Int)} {p : Int} {r : List Int} {u : Value} {D : List Int} (h : Cf w W v css (p :: r) u true D) (hs : shp v css (p :: r) = true) : folB css (p :: r) = true ∧ safB css (p :: r) = true := by
  have hf : folB css (p :: r) = true := (h.cl hs).symm
  exact ⟨hf, parB_clash (claB_true.1 hf)⟩
theorem two_same {a b : Value} {a' b' : Value} (h1 : a = a') (h2 : b = b') : Ending.returned (.tuple #[a, b]) = .returned (.tuple #[a', b']) := by rw [h1, h2]
set_option maxRecDepth 100000 in
set_option maxHeartbeats 3200000 in
theorem follows_any (v : Int) (s vc : Value) (css : List (List Int)) (c : List Int) (w : World) (hr : Rds w s css) (hc : Rd w vc c) (hi : ∀ x ∈ c, i64 x) (hw : Few css) (hD : Deb w) :
    Calls Tryd.prog 14 #[.agg #[.int .i64 v, s], vc] w fun e w' => e = .returned (.tuple #[.bool (shp v css c && folB css c), .int .i64 (shE (shp v css c))]) ∧ Below w.heap.size w w' := by
  have HX : Hid (Bx w v s css (w.alloc (.cells #[.int .i64 v, s] 37))) := Bx.new hr _
  have HR : Hid (Rd w vc c ∧ (∀ x ∈ c, i64 x) ∧ Few css ∧ Deb w) := ⟨hc, hi, hw, hD⟩
  obtain ⟨she, hshe⟩ : ∃ x, shE (shp v css c) = x := ⟨_, rfl⟩
  have HSE : Hid (shE (shp v css c) = she) := hshe
  have HSh : Hid (cloE v css (c.map ngw) = she) := (clo_sh hi).trans hshe
  obtain ⟨av, cv, rfl, -, -, hcell⟩ := hc.form
  obtain ⟨ac, cc, rfl, -, -, -⟩ := hr.form
  have hlc := hc.len
  have HC0 : Hid (∀ W, Below w.heap.size w W → 0 < c.length → ∃ bb off, av = some ⟨bb, off, none⟩ ∧ W.cell? ⟨bb, off, none⟩ = some (.int .i64 (c.getD 0 0))) := fun W hW h0 => by
    obtain ⟨bb, off, e, hc⟩ := hcell 0 h0
    exact ⟨bb, off, e, (hW.cell (p := ⟨bb, off + 0, none⟩) (World.block_lt_of_cell? w _ hc)).trans hc⟩
  clear hr hc hi hw hD hcell hshe
  go_enter Tryd.func14, Tryd.ntmps14
  go_wp2_with fail
  generalize hwa : w.alloc (.cells #[.int .i64 v, .slice ac css.length cc] 37) = wa at *
  have HOp : Hid (∀ W, Below wa.heap.size wa W → Calls Tryd.prog 30 #[.slice av c.length cv] W fun e w' => ∃ a2 c2, e = .returned (.slice a2 c.length c2) ∧ Rd w' (.slice a2 c.length c2) (c.map ngw) ∧ Below wa.heap.size wa w') := fun W hW => (oppos_any _ c W (HR.out.1.below (Below.step HX.out.bel hW))).mono fun e w' ⟨v', he, ho, hb⟩ => by
    have h5 := ho.rd (by rw [List.length_map]; exact hlc)
    obtain ⟨a2, c2, e2, -⟩ := h5.form
    rw [List.length_map] at e2
    subst e2
    exact ⟨a2, c2, he, h5, Below.step hW hb⟩
  have HCl : Hid (∀ W a2 c2, Below wa.heap.size wa W → Rd W (.slice a2 c.length c2) (c.map ngw) → Calls Tryd.prog 29 #[.agg #[.int .i64 v, .slice ac css.length cc], .slice a2 c.length c2] W fun e w' => ∃ u3 c3 clash D, e = .returned (.tuple #[.slice u3 D.length c3, .bool clash, .int .i64 she]) ∧ Cf w w' v css c (.slice u3 D.length c3) clash D ∧ Below wa.heap.size wa w') := fun W a2 c2 hW hrd => (uClose_any v _ _ css (c.map ngw) W (HX.out.rd.below hW) hrd HR.out.2.2.1 (HR.out.2.2.2.at (Below.step HX.out.bel hW))).mono fun e w' ⟨u, clash, D, he, hz⟩ => by
    obtain ⟨u3, c3, e3⟩ := own_form hz.own
    subst e3
    exact ⟨u3, c3, clash, D, by rw [← HSh.out]; exact he, Cf.of HR.out.2.1 hz (Below.step HX.out.bel hW), Below.step hW hz.bel⟩
  have HSt : Hid (∀ W, Below wa.heap.size wa W → Below wa.heap.size wa W ∧ W.cell? ⟨w.heap.size, 0, none⟩ = some (.int .i64 v) ∧ W.cell? ⟨w.heap.size, 1, none⟩ = some (.slice ac css.length cc)) := fun W hW => ⟨hW, (HX.out.on hW).c0, (HX.out.on hW).c1⟩
  have HXr : Hid (∀ W, Below wa.heap.size wa W → Rds W (.slice ac css.length cc) css) := fun W hW => HX.out.rd.below hW
  have HBw : Hid (∀ W, Below wa.heap.size wa W → Below w.heap.size w W) := fun W hW => Below.step HX.out.bel hW
  have c0 := HX.out.c0
  have c1 := HX.out.c1
  clear hwa HX
  go_region_held (fun W => Below wa.heap.size wa W ∧ W.cell? ⟨w.heap.size, 0, none⟩ = some (.int .i64 v) ∧ W.cell? ⟨w.heap.size, 1, none⟩ = some (.slice ac css.length cc)) (first | exact HSt.out _ (Below.refl _ _).drew | exact HSt.out _ B2.out | exact HSt.out _ B1.out) (first
    | (have qq := B1.out; go_at_call 29; refine (HCl.out _ _ _ B1.out R1.out).mono ?_; rintro e w2 ⟨u2, x2, clash2, D2, rfl, hcf, hb2⟩; have H2 : Hid (Cf w w2 v css c (.slice u2 D2.length x2) clash2 D2) := hcf; have B2 : Hid (Below wa.heap.size wa w2) := hb2; clear hcf hb2 qq)
    | (go_at_call 30; refine (HOp.out _ (Below.refl _ _).drew).mono ?_; rintro e w1 ⟨a1, c1', rfl, hr1, hb1⟩; have R1 : Hid (Rd w1 (.slice a1 c.length c1') (c.map ngw)) := hr1; have B1 : Hid (Below wa.heap.size wa w1) := hb1; clear hr1 hb1))
  clear c0 c1
  rename_i hHeld
  clear hHeld
  have HV : Hid (clash2 = (shp v css c && folB css c)) := by
    show _ = _
    cases hs : shp v css c
    · exact H2.out.no hs
    · exact H2.out.cl hs
  go_wp2
  go_ret2
  exact ⟨two_same (congrArg Value.bool HV.out) (congrArg (Value.int .i64) HSE.out.symm), HBw.out _ B2.out⟩
end Go.Proofs.YtofojjdegobekaaDoor

/-
  joined: RpF RpK RpL RpR RpS
-/
import Derived.Test.YtjajafeaengnjaaGreatDoorJOnR
import Derived.Test.YtjajafeaengnjaaGreatDoorJRpO
import Derived.Sort.AtCall
import Derived.Deep.RegionHeld
import Derived.Test.YtjajafeaengnjaaGreatDoorJTidy
set_option linter.unusedSimpArgs false
set_option linter.unusedVariables false
namespace Go.Proofs.YtjajafeaengnjaaGreatDoor
open Go Go.RowKit

/-- is what comes in well shaped? -/
def shp (v : Int) (css : List (List Int)) (c : List Int) : Bool := frm v css && c.all fmd
def shE (b : Bool) : Int := if b then 0 else 1
theorem clo_sh {v : Int} {css : List (List Int)} {c : List Int} (hi : ∀ x ∈ c, i64 x) : cloE v css (c.map ngw) = shE (shp v css c) := by
  unfold cloE shE shp
  rw [opw_all hi]
/-- what Close says of the opposites -/
structure Cf (w W : World) (v : Int) (css : List (List Int)) (c : List Int) (u : Value) (clash : Bool) (D : List Int) : Prop where
  own : Own w.heap.size W u D
  no : shp v css c = false → clash = false
  cl : shp v css c = true → clash = folB css c
  der : shp v css c = true → clash = false → ∀ x, x ∈ D ↔ Der css (opp c) x
  fmd : ∀ x ∈ D, Go.Proofs.YtjajafeaengnjaaGreatDoor.fmd x = true
  bel : Below w.heap.size w W
  len : D.length ≤ 2097152
theorem Cf.of {w w0 W : World} {v : Int} {css : List (List Int)} {c : List Int} {u : Value} {clash : Bool} {D : List Int} (hi : ∀ x ∈ c, i64 x) (h : Clz w0 W v css (c.map ngw) u clash D) (hb : Below w.heap.size w w0) : Cf w W v css c u clash D := by
  have hs := clo_sh (v := v) (css := css) hi
  have hyes : shp v css c = true → Says6 css (opp c) clash D := fun h2 => by
    have h3 : c.all Go.Proofs.YtjajafeaengnjaaGreatDoor.fmd = true := by unfold shp at h2; rw [Bool.and_eq_true] at h2; exact h2.2
    have := h.yes (by rw [hs, h2]; rfl)
    rw [opw_opp h3] at this
    exact this
  refine ⟨h.own.mono hb.size, fun h2 => (h.no (by rw [hs, h2]; decide)).1, fun h2 => ?_, fun h2 h3 => ?_, h.fmd, Below.step hb h.bel, ?_⟩
  · rcases hyes h2 with ⟨e, cl, _⟩ | ⟨e, cl, _⟩
    · rw [e]; exact (claB_of cl).symm
    · rw [e]; exact (claB_not cl).symm
  · rcases hyes h2 with ⟨e, _⟩ | ⟨_, _, _, hd⟩
    · rw [h3] at e; cases e
    · exact hd
  · have hn : D.Nodup := by
      by_cases h0 : cloE v css (c.map ngw) = 0
      · rcases h.yes h0 with ⟨_, _, e⟩ | ⟨_, _, hr, _⟩
        · rw [e]; exact List.nodup_nil
        · exact hr.imp (fun h => by intro e; subst e; omega)
      · rw [(h.no h0).2]; exact List.nodup_nil
    exact lits_few hn h.fmd
theorem Deb.at {w W : World} (h : Deb w) (hb : Below w.heap.size w W) : Deb W := h.below hb
theorem Cf.par {w W : World} {v : Int} {css : List (List Int)} {p : Int} {r : List Int} {u : Value} {D : List Int} (h : Cf w W v css (p :: r) u false D) (hs : shp v css (p :: r) = true) : Con D ∧ Calm css D ∧ parB css D p css = safB css (p :: r) ∧ frm v css = true ∧ Go.Proofs.YtjajafeaengnjaaGreatDoor.fmd p = true ∧ folB css (p :: r) = false := by
  have h2 := hs
  unfold shp at h2
  rw [Bool.and_eq_true, List.all_cons, Bool.and_eq_true] at h2
  have hd := h.der hs rfl
  have hf : folB css (p :: r) = false := (h.cl hs).symm
  have hn : ¬ Cla css (opp (p :: r)) := fun h3 => by
    have := claB_of h3
    unfold folB at hf
    rw [this] at hf; cases hf
  obtain ⟨h4, h5⟩ := calm_clos (frm_nz h2.1) hn hd
  exact ⟨h4, h5, parB_clos hd, h2.1, h2.2.1, hf⟩
theorem Cf.yes {w W : World} {v : Int} {css : List (List Int)} {p : Int} {r : List Int} {u : Value} {D : List Int} (h : Cf w W v css (p :: r) u true D) (hs : shp v css (p :: r) = true) : folB css (p :: r) = true ∧ safB css (p :: r) = true := by
  have hf : folB css (p :: r) = true := (h.cl hs).symm
  exact ⟨hf, parB_clash (claB_true.1 hf)⟩
theorem two_same {a b : Value} {a' b' : Value} (h1 : a = a') (h2 : b = b') : Ending.returned (.tuple #[a, b]) = .returned (.tuple #[a', b']) := by rw [h1, h2]
end Go.Proofs.YtjajafeaengnjaaGreatDoor
set_option linter.unusedSimpArgs false
set_option linter.unusedVariables false
namespace Go.Proofs.YtjajafeaengnjaaGreatDoor
open Go Go.RowKit

set_option maxRecDepth 100000 in
set_option maxHeartbeats 3200000 in
theorem safe_any (v : Int) (s vc : Value) (css : List (List Int)) (c : List Int) (w : World) (hr : Rds w s css) (hc : Rd w vc c) (hi : ∀ x ∈ c, i64 x) (hw : Few css) (hD : Deb w) :
    Calls Tryz.prog 72 #[.agg #[.int .i64 v, s], vc] w fun e w' => e = .returned (.tuple #[.bool (shp v css c && safB css c), .int .i64 (shE (shp v css c))]) ∧ Below w.heap.size w w' := by
  have HX : Hid (Bx w v s css (w.alloc (.cells #[.int .i64 v, s] 24))) := Bx.new hr _
  have HR : Hid (Rd w vc c ∧ (∀ x ∈ c, i64 x) ∧ Few css ∧ Deb w) := ⟨hc, hi, hw, hD⟩
  obtain ⟨she, hshe⟩ : ∃ x, shE (shp v css c) = x := ⟨_, rfl⟩
  have HSE : Hid (shE (shp v css c) = she) := hshe
  have HSh : Hid (cloE v css (c.map ngw) = she) := (clo_sh hi).trans hshe
  obtain ⟨av, cv, rfl, -, -, hcell⟩ := hc.form
  obtain ⟨ac, cc, rfl, -, -, -⟩ := hr.form
  have hlc := hc.len
  have HC0 : Hid (∀ W, Below w.heap.size w W → 0 < c.length → ∃ bb off, av = some ⟨bb, off, none⟩ ∧ W.cell? ⟨bb, off, none⟩ = some (.int .i64 (c.getD 0 0))) := fun W hW h0 => by
    obtain ⟨bb, off, e, hc⟩ := hcell 0 h0
    exact ⟨bb, off, e, (hW.cell (p := ⟨bb, off + 0, none⟩) (World.block_lt_of_cell? w _ hc)).trans hc⟩
  clear hr hc hi hw hD hcell hshe
  go_enter Tryz.func72, Tryz.ntmps72
  go_wp2_with fail
  generalize hwa : w.alloc (.cells #[.int .i64 v, .slice ac css.length cc] 24) = wa at *
  have HOp : Hid (∀ W, Below wa.heap.size wa W → Calls Tryz.prog 86 #[.slice av c.length cv] W fun e w' => ∃ a2 c2, e = .returned (.slice a2 c.length c2) ∧ Rd w' (.slice a2 c.length c2) (c.map ngw) ∧ Below wa.heap.size wa w') := fun W hW => (oppos_any _ c W (HR.out.1.below (Below.step HX.out.bel hW))).mono fun e w' ⟨v', he, ho, hb⟩ => by
    have h5 := ho.rd (by rw [List.length_map]; exact hlc)
    obtain ⟨a2, c2, e2, -⟩ := h5.form
    rw [List.length_map] at e2
    subst e2
    exact ⟨a2, c2, he, h5, Below.step hW hb⟩
  have HCl : Hid (∀ W a2 c2, Below wa.heap.size wa W → Rd W (.slice a2 c.length c2) (c.map ngw) → Calls Tryz.prog 85 #[.agg #[.int .i64 v, .slice ac css.length cc], .slice a2 c.length c2] W fun e w' => ∃ u3 c3 clash D, e = .returned (.tuple #[.slice u3 D.length c3, .bool clash, .int .i64 she]) ∧ Cf w w' v css c (.slice u3 D.length c3) clash D ∧ Below wa.heap.size wa w') := fun W a2 c2 hW hrd => (uClose_any v _ _ css (c.map ngw) W (HX.out.rd.below hW) hrd HR.out.2.2.1 (HR.out.2.2.2.at (Below.step HX.out.bel hW))).mono fun e w' ⟨u, clash, D, he, hz⟩ => by
    obtain ⟨u3, c3, e3⟩ := own_form hz.own
    subst e3
    exact ⟨u3, c3, clash, D, by rw [← HSh.out]; exact he, Cf.of HR.out.2.1 hz (Below.step HX.out.bel hW), Below.step hW hz.bel⟩
  have HSt : Hid (∀ W, Below wa.heap.size wa W → Below wa.heap.size wa W ∧ W.cell? ⟨w.heap.size, 0, none⟩ = some (.int .i64 v) ∧ W.cell? ⟨w.heap.size, 1, none⟩ = some (.slice ac css.length cc)) := fun W hW => ⟨hW, (HX.out.on hW).c0, (HX.out.on hW).c1⟩
  have HXr : Hid (∀ W, Below wa.heap.size wa W → Rds W (.slice ac css.length cc) css) := fun W hW => HX.out.rd.below hW
  have HBw : Hid (∀ W, Below wa.heap.size wa W → Below w.heap.size w W) := fun W hW => Below.step HX.out.bel hW
  have c0 := HX.out.c0
  have c1 := HX.out.c1
  clear hwa HX
  go_region_held (fun W => Below wa.heap.size wa W ∧ W.cell? ⟨w.heap.size, 0, none⟩ = some (.int .i64 v) ∧ W.cell? ⟨w.heap.size, 1, none⟩ = some (.slice ac css.length cc)) (first | exact HSt.out _ (Below.refl _ _).drew | exact HSt.out _ B2.out | exact HSt.out _ B1.out) (first
    | (have qq := B1.out; go_at_call 85; refine (HCl.out _ _ _ B1.out R1.out).mono ?_; rintro e w2 ⟨u2, x2, clash2, D2, rfl, hcf, hb2⟩; have H2 : Hid (Cf w w2 v css c (.slice u2 D2.length x2) clash2 D2) := hcf; have B2 : Hid (Below wa.heap.size wa w2) := hb2; clear hcf hb2 qq)
    | (go_at_call 86; refine (HOp.out _ (Below.refl _ _).drew).mono ?_; rintro e w1 ⟨a1, c1', rfl, hr1, hb1⟩; have R1 : Hid (Rd w1 (.slice a1 c.length c1') (c.map ngw)) := hr1; have B1 : Hid (Below wa.heap.size wa w1) := hb1; clear hr1 hb1))
  clear c0 c1
  rename_i hHeld
  clear hHeld
  cases hs : shp v css c
  · have HS : Hid (shp v css c = false) := hs
    have hcl := H2.out.no hs
    have hse : she = 1 := by rw [← HSE.out, hs]; rfl
    subst hcl; subst hse
    have HT : Hid (shE false = 1) := rfl
    clear hs
    go_wp2
    go_ret2
    exact ⟨two_same (congrArg Value.bool (by first | rfl | (rw [HS.out]; rfl) | simp [HS.out])) (congrArg (Value.int .i64) (by first | rfl | (rw [HS.out]; rfl) | simp [HS.out])), HBw.out _ B2.out⟩
  · have HS : Hid (shp v css c = true) := hs
    have hse : she = 0 := by rw [← HSE.out, hs]; rfl
    subst hse
    clear hs
    cases c with
    | nil =>
      go_wp2
      go_ret2
      exact ⟨two_same (congrArg Value.bool (by first | rfl | (rw [HS.out]; rfl) | simp [HS.out])) (congrArg (Value.int .i64) (by first | rfl | (rw [HS.out]; rfl) | simp [HS.out])), HBw.out _ B2.out⟩
    | cons p r =>
      have hpos : 0 < (p :: r).length := by simp
      obtain ⟨bb, off, rfl, k0⟩ := HC0.out w2 (HBw.out _ B2.out) hpos
      have hp0 : ¬ (((p :: r).length : Int) = 0) := by have := hpos; omega
      have hp1 : (0 : Int) < ((p :: r).length : Int) := by have := hpos; omega
      cases clash2 with
      | true =>
        obtain ⟨hf1, hf2⟩ := H2.out.yes HS.out
        have HF : Hid (folB css (p :: r) = true ∧ safB css (p :: r) = true) := ⟨hf1, hf2⟩
        clear hf1 hf2
        generalize (p :: r).length = cl at *
        go_wp2_with fail
        first | (go_region_law (fail)) | fail
        all_goals
          go_wp2
          go_ret2
          exact ⟨two_same (congrArg Value.bool (by first | rfl | (rw [HS.out, HF.out.2]; rfl) | simp [HS.out, HF.out.2])) (congrArg (Value.int .i64) (by first | rfl | (rw [HS.out]; rfl) | simp [HS.out])), (HBw.out _ B2.out).drew⟩
      | false =>
        obtain ⟨g1, g2, g3, g4, g5, g6⟩ := H2.out.par HS.out
        have HF : Hid (folB css (p :: r) = false) := g6
        have HAl : Hid (∀ W, Below w2.heap.size w2 W → Calls Tryz.prog 87 #[.agg #[.int .i64 v, .slice ac css.length cc], .int .i64 p, .slice u2 D2.length x2] W fun e w' => e = .returned (.bool (safB css (p :: r))) ∧ Below w2.heap.size w2 w') := fun W hW => (allFollow_any v p _ _ css D2 W (HXr.out W (Below.step B2.out hW)) ((H2.out.own.rd (by have := H2.out.len; omega)).below hW) HR.out.2.2.1 g4 H2.out.fmd g1 g2 g5).mono fun e w' h => ⟨by rw [← g3]; exact h.1, Below.step hW h.2⟩
        have HS2 : Hid (∀ W, Below w2.heap.size w2 W → Below w2.heap.size w2 W ∧ W.cell? ⟨w.heap.size, 0, none⟩ = some (.int .i64 v) ∧ W.cell? ⟨w.heap.size, 1, none⟩ = some (.slice ac css.length cc) ∧ W.cell? ⟨bb, off, none⟩ = some (.int .i64 p)) := fun W hW => ⟨hW, (HSt.out W (Below.step B2.out hW)).2.1, (HSt.out W (Below.step B2.out hW)).2.2, (hW.cell (p := ⟨bb, off, none⟩) (World.block_lt_of_cell? w2 _ k0)).trans k0⟩
        have HBf : Hid (∀ W, Below w2.heap.size w2 W → Below w.heap.size w W) := fun W hW => HBw.out _ (Below.step B2.out hW)
        clear g1 g2 g3 g4 g5 g6
        generalize hsf : safB css (p :: r) = sf at *
        have HSf : Hid (safB css (p :: r) = sf) := hsf
        clear hsf
        generalize (p :: r).length = cl at *
        generalize D2.length = dl at *
        go_wp2_with fail
        go_region_held (fun W => Below w2.heap.size w2 W ∧ W.cell? ⟨w.heap.size, 0, none⟩ = some (.int .i64 v) ∧ W.cell? ⟨w.heap.size, 1, none⟩ = some (.slice ac css.length cc) ∧ W.cell? ⟨bb, off, none⟩ = some (.int .i64 p)) (first | exact HS2.out _ (Below.refl _ _).drew | exact HS2.out _ B5.out) (first | (go_at_call 87; refine (HAl.out _ (Below.refl _ _).drew).mono ?_; rintro e w5 ⟨rfl, hb5⟩; have B5 : Hid (Below w2.heap.size w2 w5) := hb5; clear hb5))
        all_goals
          go_wp2
          go_ret2
          exact ⟨two_same (congrArg Value.bool (by first | rfl | (rw [HS.out, HSf.out]; rfl) | simp [HS.out, HSf.out])) (congrArg (Value.int .i64) (by first | rfl | (rw [HS.out]; rfl) | simp [HS.out])), HBf.out _ B5.out⟩
end Go.Proofs.YtjajafeaengnjaaGreatDoor
set_option linter.unusedSimpArgs false
set_option linter.unusedVariables false
namespace Go.Proofs.YtjajafeaengnjaaGreatDoor
open Go Go.RowKit

/-- what Kind answers -/
noncomputable def kn8 (v : Int) (css : List (List Int)) (c : List Int) : Int := if shp v css c then kndI css c else 0
theorem kn8_no {v : Int} {css : List (List Int)} {c : List Int} (h : shp v css c = false) : kn8 v css c = 0 := by unfold kn8; rw [h]; rfl
theorem kn8_yes {v : Int} {css : List (List Int)} {c : List Int} (h : shp v css c = true) : kn8 v css c = kndI css c := by unfold kn8; rw [if_pos h]
end Go.Proofs.YtjajafeaengnjaaGreatDoor
set_option linter.unusedSimpArgs false
set_option linter.unusedVariables false
namespace Go.Proofs.YtjajafeaengnjaaGreatDoor
open Go Go.RowKit

theorem map_take8 {c : List Int} {j : Nat} (h : j < c.length) : (c.take (j + 1)).map ngw = (c.take j).map ngw ++ [ngw (c.getD j 0)] := by
  rw [take_succ_getD c 0 j h, List.map_append]; rfl
set_option maxHeartbeats 1600000 in
theorem rOpp_any (v : Value) (c : List Int) (w : World) (hr : Rd w v c) :
    Calls Tryz.prog 56 #[v] w fun e w' => ∃ v', e = .returned v' ∧ Own w.heap.size w' v' (c.map ngw) ∧ Below w.heap.size w w' := by
  have hl := hr.len
  obtain ⟨i0, hi, hz0, hz1, hz2⟩ := info_parts Tryz.info3
  obtain ⟨a, cv, rfl, l1, l2, hcell⟩ := hr.form
  have HC : Hid (∀ (W : World) (j : Nat), Below w.heap.size w W → j < c.length → ∃ bb off, a = some ⟨bb, off, none⟩ ∧ W.cell? ⟨bb, off + j, none⟩ = some (.int .i64 (c.getD j 0))) := fun W j hW hj => by
    obtain ⟨bb, off, e, hc⟩ := hcell j hj
    exact ⟨bb, off, e, (hW.cell (p := ⟨bb, off + j, none⟩) (World.block_lt_of_cell? w _ hc)).trans hc⟩
  clear hr hcell
  go_enter Tryz.func56, Tryz.ntmps56
  go_wp2
  go_loopg [3, 4] c.length (fun g v i wr => ∃ k : Nat, k + g = c.length ∧ i = .int .i64 k ∧ Own w.heap.size wr v ((c.take k).map ngw) ∧ Below w.heap.size w wr)
  case atStart => exact ⟨0, by omega, rfl, World.ownsRow_nil _ _ _ _, Below.refl _ _⟩
  case round =>
    obtain ⟨k, hk, rfl, own, bel⟩ := hrel
    have HK : Hid (k + gk = c.length) := hk
    have hs := bel.size
    by_cases hlt : k < c.length
    · obtain ⟨b, off, rfl, hck⟩ := HC.out wr k bel hlt
      have HS : Hid ((c.take (k + 1)).map ngw = (c.take k).map ngw ++ [ngw (c.getD k 0)]) := map_take8 hlt
      have hlk : ((c.take k).map ngw).length ≤ c.length := by rw [List.length_map, List.length_take]; omega
      have hng : IntKind.i64.wrap (-(c.getD k 0)) = ngw (c.getD k 0) := rfl
      clear hk
      generalize ngw (c.getD k 0) = z2 at *
      generalize c.getD k 0 = z at *
      generalize (c.take k).map ngw = out at *
      go_wp2_with (at_builtin; refine wpList_append_own _ rfl _ _ 25 rfl w.heap.size 3 i0 (.int .i64 0) 1 8 Tryz.underlying25 hi hz0 hz1 hz2 rfl (by decide) _ out.length (out.map (Value.int .i64)) rfl (World.ownsRow.alloc own _) _ 1 1 [.int .i64 z2] rfl rfl (cell_one_new _ _ _) (by simp [Value.oneCell']) (by unfold maxLen; omega) (by omega) (by simp; omega) ?_; intro v2 w2 own2 gr2 hn2)
      go_roundg (gk - 1)
      case measure => have := HK.out; omega
      case rel => exact ⟨k + 1, by have := HK.out; omega, by go_num, by rw [HS.out]; exact own_more8 own2, (bel.alloc hs _).grown gr2 (by simp; omega) (fun j hj => (own.lt j hj).1)⟩
    · obtain rfl : k = c.length := by omega
      clear hk
      rw [List.take_length] at own
      go_wp2
      go_ret
      exact ⟨_, rfl, own, bel⟩
set_option maxHeartbeats 1600000 in
theorem rfol_any (v : Int) (s vc : Value) (css : List (List Int)) (c : List Int) (w : World) (hr : Rds w s css) (hc : Rd w vc c) (hw : Few css) (hf : frm v css = true) (hs : c.all fmd = true) :
    Calls Tryz.prog 44 #[.agg #[.int .i64 v, s], vc] w fun e w' => e = .returned (.bool (folB css c)) ∧ Below w.heap.size w w' := by
  have HX : Hid (Bx w v s css (w.alloc (.cells #[.int .i64 v, s] 24))) := Bx.new hr _
  have HR : Hid (Rd w vc c ∧ Few css ∧ frm v css = true ∧ c.all fmd = true) := ⟨hc, hw, hf, hs⟩
  have hlc := hc.len
  clear hr hc hw hf hs
  go_enter Tryz.func44, Tryz.ntmps44
  go_wp2_with fail
  refine (rOpp_any vc c _ (HR.out.1.below (below_box _ _))).mono ?_
  rintro e w1 ⟨v1, rfl, own1, bel1⟩
  rw [opw_opp HR.out.2.2.2] at own1
  have HX1 : Hid (Bx w v s css w1) := HX.out.on bel1
  have HO : Hid (Rd w1 v1 (opp c)) := own1.rd (by unfold opp; rw [List.length_map]; exact hlc)
  obtain ⟨a1, c1', e1⟩ := own_form own1
  subst e1
  have c0 := HX1.out.c0
  have c1 := HX1.out.c1
  clear own1 bel1 HX
  go_wp2_with fail
  refine (rClosing_any v s _ css (opp c) w1 HX1.out.rd HO.out HR.out.2.2.1 (by
    rw [List.all_eq_true]
    intro x hx
    have h3 := List.all_eq_true.1 HR.out.2.2.2 _ (mem_opp.1 hx)
    have h4 := fmd_neg h3
    rw [Int.neg_neg] at h4
    exact h4) HR.out.2.1.num).mono ?_
  rintro e w2 ⟨g, clash, rfl, bel2, hyes, hno⟩
  have HV : Hid (clash = folB css c) := by
    show _ = _
    cases clash with
    | true => exact (claB_of (hyes rfl)).symm
    | false => obtain ⟨L, -, -, -, hn, -⟩ := hno rfl; exact (claB_not hn).symm
  have HB : Hid (Below w.heap.size w w2) := Below.step HX1.out.bel bel2
  clear hyes hno bel2 c0 c1
  generalize (topL css (opp c)).toNat + 1 = tl at *
  go_wp2
  go_ret
  exact ⟨congrArg (fun x => Ending.returned (.bool x)) HV.out, HB.out⟩
/-- the document's answers to what comes in -/
theorem shp_parts {v : Int} {css : List (List Int)} {c : List Int} (h : shp v css c = true) : frm v css = true ∧ c.all fmd = true := by unfold shp at h; rw [Bool.and_eq_true] at h; exact h
theorem mem_both {c d : List Int} {q x : Int} (hc : c.all fmd = true) (hd : ∀ l ∈ d, fmd l = true) : x ∈ tid (c ++ wout (tid d) q) ↔ x ∈ c ∨ (x ∈ d ∧ x ≠ q) := by
  rw [mem_tid, List.mem_append]
  unfold wout
  rw [List.mem_filter, mem_tid, bne_iff_ne]
  constructor
  · rintro ⟨h | ⟨⟨h, _⟩, h2⟩, _⟩
    · exact .inl h
    · exact .inr ⟨h, h2⟩
  · rintro (h | ⟨h, h2⟩)
    · exact ⟨.inl h, List.all_eq_true.1 hc x h⟩
    · exact ⟨.inr ⟨⟨h, hd x h⟩, h2⟩, hd x h⟩
theorem fol_both {css : List (List Int)} {p : Int} {r d : List Int} (hc : (p :: r).all fmd = true) (hd : ∀ l ∈ d, fmd l = true) : folB css (tid ((p :: r) ++ wout (tid d) (-p))) = claB css (opp (p :: r) ++ opp (rst d p)) := by
  unfold folB
  refine claB_congr (cla_set fun x => ?_)
  rw [mem_opp, mem_both hc hd, List.mem_append, mem_opp, mem_opp, mem_rst]
theorem parB_take {css ds : List (List Int)} {L : List Int} {p : Int} {j : Nat} (h : j < ds.length) : parB css L p (ds.take (j + 1)) = (parB css L p (ds.take j) && (!decide (-p ∈ ds.getD j []) || claB css (L ++ opp (rst (ds.getD j []) p)))) := by
  unfold parB
  rw [List.take_succ_eq_append_getElem h, List.all_append, List.getD_eq_getElem?_getD, List.getElem?_eq_getElem h]
  simp
theorem parB_stop {css : List (List Int)} {L : List Int} {p : Int} {j : Nat} (h : j < css.length) (hm : -p ∈ css.getD j []) (hc : claB css (L ++ opp (rst (css.getD j []) p)) = false) : parB css L p css = false := by
  unfold parB
  rw [List.all_eq_false]
  refine ⟨_, getD_in h, ?_⟩
  rw [decide_eq_true hm, hc]
  simp
set_option maxRecDepth 100000 in
set_option maxHeartbeats 3200000 in
theorem rsafe_any (v : Int) (s vc : Value) (css : List (List Int)) (c : List Int) (w : World) (hr : Rds w s css) (hc : Rd w vc c) (hw : Few css) (hf : frm v css = true) (hs : c.all fmd = true) :
    Calls Tryz.prog 45 #[.agg #[.int .i64 v, s], vc] w fun e w' => e = .returned (.bool (safB css c)) ∧ Below w.heap.size w w' := by
  have HX : Hid (Bx w v s css (w.alloc (.cells #[.int .i64 v, s] 24))) := Bx.new hr _
  have HR : Hid (Rd w vc c ∧ Few css ∧ frm v css = true ∧ c.all fmd = true) := ⟨hc, hw, hf, hs⟩
  have hN := hw.num
  have hlc := hc.len
  obtain ⟨ac, cc, rfl, -, -, -⟩ := hr.form
  obtain ⟨av, cv, rfl, -, -, hcell⟩ := hc.form
  have c0 := HX.out.c0
  have c1 := HX.out.c1
  cases c with
  | nil =>
    have HB : Hid (Below w.heap.size w (w.alloc (.cells #[.int .i64 v, .slice ac css.length cc] 24))) := HX.out.bel
    clear hr hc hw hf hs hcell
    go_enter Tryz.func45, Tryz.ntmps45
    go_wp2
    go_ret
    exact ⟨rfl, HB.out⟩
  | cons p r =>
    obtain ⟨bb, off, rfl, k0⟩ := hcell 0 (by simp)
    have HK : Hid (∀ W, Below w.heap.size w W → W.cell? ⟨bb, off, none⟩ = some (.int .i64 p)) := fun W hW => (hW.cell (p := ⟨bb, off + 0, none⟩) (World.block_lt_of_cell? w _ k0)).trans k0
    have hpf : fmd p = true := by rw [List.all_cons, Bool.and_eq_true] at hs; exact hs.1
    have hpr := fmd_range hpf
    have hwp : IntKind.i64.wrap (-p) = -p := by rw [IntKind.wrap_i64]; omega
    have HE : Hid (safB css (p :: r) = parB css (opp (p :: r)) p css) := rfl
    have HLn : Hid (∀ d ∈ css, ∀ l ∈ d, fmd l = true) := frm_fmd hf
    have hcl0 : ¬ (((p :: r).length : Int) = 0) := by have h8 : 0 < (p :: r).length := (by simp); omega
    have hclp : 0 < (p :: r).length := by simp
    clear hr hc hw hf hs hcell k0
    have HFB : Hid (∀ d ∈ css, folB css (tid ((p :: r) ++ wout (tid d) (-p))) = claB css (opp (p :: r) ++ opp (rst d p))) := fun d hd => fol_both HR.out.2.2.2 (HLn.out d hd)
    generalize hcq : p :: r = q at *
    clear hcq
    have hcl1 : ((q.length : Int) == 0) = false := beq_eq_false_iff_ne.2 hcl0
    go_enter Tryz.func45, Tryz.ntmps45
    go_wp2
    go_loopg [5] css.length (fun g i wr => ∃ k : Nat, k + g = css.length ∧ i = .int .i64 k ∧ parB css (opp q) p (css.take k) = true ∧ Below (w.alloc (.cells #[.int .i64 v, .slice ac css.length cc] 24)).heap.size (w.alloc (.cells #[.int .i64 v, .slice ac css.length cc] 24)) wr)
    case atStart => exact ⟨0, by omega, rfl, rfl, Below.refl _ _⟩
    case round =>
      obtain ⟨k, hk, rfl, hpar, bel⟩ := hrel
      have HKk : Hid (k + gk = css.length) := hk
      have HPar : Hid (parB css (opp q) p (css.take k) = true) := hpar
      have HXr : Hid (Bx w v (.slice ac css.length cc) css wr) := HX.out.on bel
      have HBr : Hid (Below (w.alloc (.cells #[.int .i64 v, .slice ac css.length cc] 24)).heap.size (w.alloc (.cells #[.int .i64 v, .slice ac css.length cc] 24)) wr) := bel
      have d0 := HXr.out.c0
      have d1 := HXr.out.c1
      have kp := HK.out wr HXr.out.bel
      clear hk hpar bel
      by_cases hlt : k < css.length
      · obtain ⟨b2, o2, u, rfl, kc, hu⟩ := HXr.out.at hlt
        have HU : Hid (Rd wr u (css.getD k [])) := hu
        obtain ⟨ua, uc, rfl, -, -, -⟩ := hu.form
        have HLT : Hid (k < css.length) := hlt
        have HTk : Hid (parB css (opp q) p (css.take (k + 1)) = (parB css (opp q) p (css.take k) && (!decide (-p ∈ css.getD k []) || claB css (opp q ++ opp (rst (css.getD k []) p))))) := parB_take hlt
        have HSt : Hid (-p ∈ css.getD k [] → claB css (opp q ++ opp (rst (css.getD k []) p)) = false → parB css (opp q) p css = false) := fun h1 h2 => parB_stop hlt h1 h2
        have HFd := HFB.out _ (getD_in hlt)
        have HFd : Hid (folB css (tid (q ++ wout (tid (css.getD k [])) (-p))) = claB css (opp q ++ opp (rst (css.getD k []) p))) := HFd
        have hdf := HLn.out _ (getD_in hlt)
        have HDf : Hid (∀ l ∈ css.getD k [], fmd l = true) := hdf
        have hdl := HR.out.2.1.len _ (getD_in hlt)
        clear hu hdf
        generalize css.getD k [] = d at *
        have HHas0 := refHas_any (.slice ua d.length uc) d (-p) wr HU.out
        rw [fmd_neg hpf, Bool.true_and] at HHas0
        by_cases hm : -p ∈ d
        · have hb : d.contains (-p) = true := List.contains_iff_mem.2 hm
          rw [hb] at HHas0
          have HHas : Hid (Calls Tryz.prog 57 #[.slice ua d.length uc, .int .i64 (-p)] wr fun e w' => e = .returned (.bool true) ∧ w' = wr) := HHas0
          have HM : Hid (-p ∈ d) := hm
          clear HHas0 hb hm
          go_wp2_with fail
          refine HHas.out.mono ?_
          rintro e w9 ⟨rfl, hw9⟩
          obtain rfl := hw9.symm
          clear hw9
          go_wp2_with fail
          refine (refWithout_any _ d (-p) wr HU.out).mono ?_
          rintro e w3 ⟨v3, rfl, own3, bel3⟩
          have hl3 := wout_len (tid d) (-p)
          have hl3' := tid_len d
          have HO3 : Hid (Rd w3 v3 (wout (tid d) (-p)) ∧ Below wr.heap.size wr w3) := ⟨own3.rd (by omega), bel3⟩
          obtain ⟨a3, c3, e3⟩ := own_form own3
          subst e3
          clear own3 bel3
          go_wp2_with fail
          refine (refJoin_any _ _ q (wout (tid d) (-p)) w3 ((HR.out.1.below HXr.out.bel).below HO3.out.2) HO3.out.1).mono ?_
          rintro e w4 ⟨v4, rfl, own4, bel4⟩
          have hl4 := tid_len (q ++ wout (tid d) (-p))
          have HO4 : Hid (Rd w4 v4 (tid (q ++ wout (tid d) (-p))) ∧ Below wr.heap.size wr w4) := ⟨own4.rd (by omega), Below.step HO3.out.2 bel4⟩
          obtain ⟨a4, c4, e4⟩ := own_form own4
          subst e4
          have HX4 : Hid (Bx w v (.slice (some ⟨b2, o2, none⟩) css.length cc) css w4) := HXr.out.on HO4.out.2
          have f0 := HX4.out.c0
          have f1 := HX4.out.c1
          have hall : (tid (q ++ wout (tid d) (-p))).all fmd = true := by
            rw [List.all_eq_true]
            intro x hx
            exact (mem_tid.1 hx).2
          have HAll : Hid ((tid (q ++ wout (tid d) (-p))).all fmd = true) := hall
          clear own4 bel4 hall hl3 hl3' hl4
          generalize (wout (tid d) (-p)).length = l3 at *
          have HFol : Hid (Calls Tryz.prog 44 #[.agg #[.int .i64 v, .slice (some ⟨b2, o2, none⟩) css.length cc], .slice a4 (tid (q ++ wout (tid d) (-p))).length c4] w4 fun e w' => e = .returned (.bool (claB css (opp q ++ opp (rst d p)))) ∧ Below w4.heap.size w4 w') := by
            have h9 := rfol_any v _ _ css _ w4 HX4.out.rd HO4.out.1 HR.out.2.1 HR.out.2.2.1 HAll.out
            rw [HFd.out] at h9
            exact h9
          generalize (tid (q ++ wout (tid d) (-p))).length = l4 at *
          generalize hcb : claB css (opp q ++ opp (rst d p)) = cb at *
          have HCb : Hid (claB css (opp q ++ opp (rst d p)) = cb) := hcb
          clear hcb
          go_wp2_with fail
          refine HFol.out.mono ?_
          rintro e w5 ⟨rfl, bel5⟩
          have HB5 : Hid (Below wr.heap.size wr w5) := Below.step HO4.out.2 bel5
          clear bel5 HFol
          cases cb with
          | true =>
            have HF : Hid (parB css (opp q) p (css.take (k + 1)) = true) := by show _ = _; rw [HTk.out, HPar.out]; simp
            go_wp2
            go_roundg (gk - 1)
            case measure => have := HKk.out; have := HLT.out; omega
            case rel => exact ⟨k + 1, by have := HKk.out; have := HLT.out; omega, by go_num, HF.out, Below.step HBr.out HB5.out⟩
          | false =>
            have HF : Hid (parB css (opp q) p css = false) := HSt.out HM.out (by first | exact HCb.out | rfl)
            go_wp2
            go_ret
            exact ⟨congrArg (fun x => Ending.returned (.bool x)) (HE.out.trans HF.out).symm, Below.step HXr.out.bel HB5.out⟩
        · have hb : d.contains (-p) = false := by
            cases h9 : d.contains (-p)
            · rfl
            · exact absurd (List.contains_iff_mem.1 h9) hm
          rw [hb] at HHas0
          have HHas : Hid (Calls Tryz.prog 57 #[.slice ua d.length uc, .int .i64 (-p)] wr fun e w' => e = .returned (.bool false) ∧ w' = wr) := HHas0
          have HF : Hid (parB css (opp q) p (css.take (k + 1)) = true) := by rw [HTk.out, HPar.out, decide_eq_false hm]; rfl
          clear HHas0 hb hm
          go_wp2_with fail
          refine HHas.out.mono ?_
          rintro e w9 ⟨rfl, hw9⟩
          obtain rfl := hw9.symm
          clear hw9
          go_wp2
          go_roundg (gk - 1)
          case measure => have := HKk.out; have := HLT.out; omega
          case rel => exact ⟨k + 1, by have := HKk.out; have := HLT.out; omega, by go_num, HF.out, HBr.out⟩
      · have hke : k = css.length := by have := HKk.out; omega
        have HF : Hid (parB css (opp q) p css = true) := by
          have := HPar.out
          rw [hke, List.take_length] at this
          exact this
        clear hke
        go_wp2
        go_ret
        exact ⟨congrArg (fun x => Ending.returned (.bool x)) (HE.out.trans HF.out).symm, HXr.out.bel⟩
end Go.Proofs.YtjajafeaengnjaaGreatDoor
set_option linter.unusedSimpArgs false
set_option linter.unusedVariables false
namespace Go.Proofs.YtjajafeaengnjaaGreatDoor
open Go Go.RowKit

set_option maxRecDepth 100000 in
set_option maxHeartbeats 1600000 in
theorem rKind8_any (v : Int) (s vc : Value) (css : List (List Int)) (c : List Int) (w : World) (hr : Rds w s css) (hc : Rd w vc c) (hw : Few css) :
    Calls Tryz.prog 30 #[.agg #[.int .i64 v, s], vc] w fun e w' => e = .returned (.tuple #[.int .i64 (kn8 v css c), .int .i64 (shE (shp v css c))]) ∧ Below w.heap.size w w' := by
  have HX : Hid (Bx w v s css (w.alloc (.cells #[.int .i64 v, s] 24))) := Bx.new hr _
  have HR : Hid (Rd w vc c ∧ Few css) := ⟨hc, hw⟩
  obtain ⟨ac, cc, rfl, -, -, -⟩ := hr.form
  obtain ⟨av, cv, rfl, -, -, -⟩ := hc.form
  have hsv : shp v css c = (frm v css && c.all fmd) := rfl
  have HSv : Hid (shp v css c = (frm v css && c.all fmd)) := hsv
  clear hr hc hw hsv
  go_enter Tryz.func30, Tryz.ntmps30
  go_wp2_with fail
  refine (rFormed_any v _ css _ HX.out.rd).mono ?_
  rintro e w1 ⟨rfl, bel1⟩
  have HX1 : Hid (Bx w v (.slice ac css.length cc) css w1) := HX.out.on bel1
  have c0 := HX1.out.c0
  have c1 := HX1.out.c1
  clear bel1 HX
  cases hf : frm v css
  · have HS : Hid (shp v css c = false) := by show _ = _; rw [HSv.out, hf]; rfl
    clear hf
    go_wp2
    go_ret2
    exact ⟨two_same (congrArg (Value.int .i64) (kn8_no HS.out).symm) (congrArg (fun b => Value.int .i64 (shE b)) HS.out.symm), HX1.out.bel⟩
  · have HFr : Hid (frm v css = true) := hf
    have HSd : Hid (Calls Tryz.prog 16 #[.slice av c.length cv] w1 fun e w' => e = .returned (.bool (c.all fmd)) ∧ w' = w1) := rSound_any _ c w1 (HR.out.1.below HX1.out.bel)
    cases hs : c.all fmd
    · have HS : Hid (shp v css c = false) := by show _ = _; rw [HSv.out, hf, hs]; rfl
      rw [hs] at HSd
      clear hf hs
      go_wp2_with fail
      refine HSd.out.mono ?_
      rintro e w9 ⟨rfl, hw9⟩
      obtain rfl := hw9.symm
      clear hw9
      go_wp2
      go_ret2
      exact ⟨two_same (congrArg (Value.int .i64) (kn8_no HS.out).symm) (congrArg (fun b => Value.int .i64 (shE b)) HS.out.symm), HX1.out.bel⟩
    · have HS : Hid (shp v css c = true) := by show _ = _; rw [HSv.out, hf, hs]; rfl
      have HAl : Hid (c.all fmd = true) := hs
      rw [hs] at HSd
      clear hf hs
      go_wp2_with fail
      refine HSd.out.mono ?_
      rintro e w9 ⟨rfl, hw9⟩
      obtain rfl := hw9.symm
      clear hw9
      go_wp2_with fail
      refine (rfol_any v _ _ css c w1 HX1.out.rd (HR.out.1.below HX1.out.bel) HR.out.2 HFr.out HAl.out).mono ?_
      rintro e w2 ⟨rfl, bel2⟩
      have HX2 : Hid (Bx w v (.slice ac css.length cc) css w2) := HX1.out.on bel2
      have d0 := HX2.out.c0
      have d1 := HX2.out.c1
      clear bel2 c0 c1
      have HSaf : Hid (Calls Tryz.prog 45 #[.agg #[.int .i64 v, .slice ac css.length cc], .slice av c.length cv] w2 fun e w' => e = .returned (.bool (safB css c)) ∧ Below w2.heap.size w2 w') := rsafe_any v _ _ css c w2 HX2.out.rd (HR.out.1.below HX2.out.bel) HR.out.2 HFr.out HAl.out
      cases hq : folB css c
      · have HK : Hid (kn8 v css c = if safB css c then 2 else 0) := by show _ = _; rw [kn8_yes HS.out]; unfold kndI; rw [hq]; rfl
        clear hq
        generalize hsf : safB css c = sf at *
        clear hsf
        go_wp2_with fail
        refine HSaf.out.mono ?_
        rintro e w3 ⟨rfl, bel3⟩
        have HB : Hid (Below w.heap.size w w3) := Below.step HX2.out.bel bel3
        clear bel3 HSaf
        cases sf
        · go_wp2
          go_ret2
          exact ⟨two_same (congrArg (Value.int .i64) HK.out.symm) (congrArg (fun b => Value.int .i64 (shE b)) HS.out.symm), HB.out⟩
        · go_wp2
          go_ret2
          exact ⟨two_same (congrArg (Value.int .i64) HK.out.symm) (congrArg (fun b => Value.int .i64 (shE b)) HS.out.symm), HB.out⟩
      · have HK : Hid (kn8 v css c = 1) := by show _ = _; rw [kn8_yes HS.out]; unfold kndI; rw [hq]; rfl
        clear hq HSaf
        go_wp2
        go_ret2
        exact ⟨two_same (congrArg (Value.int .i64) HK.out.symm) (congrArg (fun b => Value.int .i64 (shE b)) HS.out.symm), HX2.out.bel⟩
end Go.Proofs.YtjajafeaengnjaaGreatDoor

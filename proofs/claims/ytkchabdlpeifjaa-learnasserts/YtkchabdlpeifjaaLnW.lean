/-
  learn: readUnder, Learn.
  KEEP: len below nil form rd mono one more grown lt size cell some none of ofNat add out step row get at mk new made look put del kept drew alloc has same other map rde take lit lev lstB pre ws cells bnd on start app set box bel rz tidy ms reason c f
-/
import Derived.Test.YtkchabdlpeifjaaLnU
set_option linter.unusedSimpArgs false
set_option linter.unusedVariables false
namespace Go.Proofs.Ytkchabdlpeifjaa
open Go Go.RowKit
/-- what readUnder has read -/
def RuS (w' : World) (v : Value) (t : List Ent) (zs : List Int) (xa : Option Addr) (xn xc : Nat) (ym : Option Nat) : Prop :=
  ∃ g, v = .slice xa t.length xc ∧ xn = t.length ∧ ym = some g ∧ Rz w' xa t xc g t ∧ falB t zs = true ∧ zs.all fmd = true
theorem RuS.below {w w' : World} {v : Value} {t : List Ent} {zs : List Int} {xa : Option Addr} {xn xc : Nat} {ym : Option Nat} (h : RuS w v t zs xa xn xc ym) (hb : Below w.heap.size w w') : RuS w' v t zs xa xn xc ym := by
  obtain ⟨g, h1, h2, h3, h4, h5⟩ := h
  exact ⟨g, h1, h2, h3, h4.below hb, h5⟩
set_option maxRecDepth 100000 in
set_option maxHeartbeats 3200000 in
theorem readUnder_any (v vc : Value) (t : List Ent) (zs : List Int) (w : World) (hr : RdE w v t) (hz : Rd w vc zs) :
    Calls Try.prog 30 #[v, vc] w fun e w' => ∃ xa xn xc ym, e = .returned (.tuple #[.agg #[.slice xa xn xc, .map ym], .int .i64 (askI t zs)]) ∧ Below w.heap.size w w' ∧ (askI t zs = 0 → RuS w' v t zs xa xn xc ym) := by
  have hl := hz.len
  have hb0 := below_box w (.cells #[.slice none 0 0, .map none] 45)
  have hbx := Bx2.new w 45 (.slice none 0 0) (.map none)
  obtain ⟨X, hX⟩ : ∃ X, w.heap.size = X := ⟨_, rfl⟩
  obtain ⟨w0, hw0⟩ : ∃ w0, w.alloc (.cells #[.slice none 0 0, .map none] 45) = w0 := ⟨_, rfl⟩
  rw [hw0, hX] at hbx
  rw [hw0] at hb0
  have hR0 := hr.below hb0
  have hZ0 := hz.below hb0
  have HRd : Hid (Calls Try.prog 25 #[v] w0 fun e w' => ∃ xa xn xc ym, e = .returned (.tuple #[.agg #[.slice xa xn xc, .map ym], .bool (frmE t)]) ∧ Below w0.heap.size w0 w' ∧ (frmE t = true → ∃ g, v = .slice xa t.length xc ∧ xn = t.length ∧ ym = some g ∧ Rz w' xa t xc g t ∧ w0.heap.size ≤ g)) := read_any v t w0 hR0
  have HSo : Hid (∀ W, Below w0.heap.size w0 W → Calls Try.prog 45 #[vc] W fun e w' => e = .returned (.bool (zs.all fmd)) ∧ w' = W) := fun W h => sound_any vc zs W (hZ0.below h)
  have HB0 : Hid (∀ W, Below w0.heap.size w0 W → Below X w W ∧ Bx2 W X 45 (.slice none 0 0) (.map none)) := fun W h => ⟨by rw [← hX]; exact Below.step hb0 h, hbx.below h⟩
  have HZ : Hid (Rd w0 vc zs) := hZ0
  obtain ⟨AI, hAI⟩ : ∃ AI, askI t zs = AI := ⟨_, rfl⟩
  have HAI : Hid ((if frmE t && zs.all fmd then (if falB t zs then 0 else 2) else 1) = AI) := by rw [← hAI]; rfl
  rw [hAI, hX]
  have HX0 : Hid (∀ W, Below w0.heap.size w0 W → W.frozen? ⟨X, 0, none⟩ = false ∧ W.frozen? ⟨X, 1, none⟩ = false ∧ X < W.heap.size ∧ W.cell? ⟨X, 0, none⟩ = some (.slice none 0 0) ∧ W.cell? ⟨X, 1, none⟩ = some (.map none)) := fun W h => by
    have q := (HB0.out W h).2
    exact ⟨q.f0, q.f1, q.lt, q.c0, q.c1⟩
  have HFin : Hid (∀ W x y, Below w0.heap.size w0 W → Below X w ((W.setCell ⟨X, 0, none⟩ x).setCell ⟨X, 1, none⟩ y) ∧ Bx2 ((W.setCell ⟨X, 0, none⟩ x).setCell ⟨X, 1, none⟩ y) X 45 x y) := fun W x y h => by
    have q := HB0.out W h
    exact ⟨below_set15 (below_set15 q.1 (Nat.le_refl _) (Nat.le_of_lt q.2.lt)) (Nat.le_refl _) (Nat.le_of_lt (q.2.set0 x).lt), (q.2.set0 x).set1 y⟩
  have HR : Hid (RdE w v t) := hr
  have HXl : Hid (X < w0.heap.size) := hbx.lt
  clear hR0 hZ0 hr hz hAI hb0 hbx
  cases h1 : frmE t
  · have HE : Hid (AI = 1) := by show AI = _; rw [← HAI.out, h1]; rfl
    rw [h1] at HRd
    clear h1 HAI
    go_enter Try.func30, Try.ntmps30
    go_wp2_with (first | (go_at_call 25; refine HRd.out.mono ?_; rintro e w1 ⟨xa, xn, xc, ym, rfl, bE, _⟩; have hb2 := Below.step bE (below_box w1 (.cells #[.slice xa xn xc, .map ym] 45)); obtain ⟨f0, f1, fl, _, _⟩ := HX0.out _ hb2; have HB : Hid (Below w0.heap.size w0 (w1.alloc (.cells #[.slice xa xn xc, .map ym] 45))) := hb2; clear hb2 bE))
    refine bodyPost_ret (ret_rdg rfl rfl (HFin.out _ _ _ HB.out).2) rfl ?_
    exact ⟨_, _, _, _, by rw [HE.out]; rfl, (HFin.out _ _ _ HB.out).1, fun h => by rw [HE.out] at h; cases h⟩
  cases h2 : zs.all fmd
  · have HE : Hid (AI = 1) := by show AI = _; rw [← HAI.out, h1, h2]; rfl
    rw [h1] at HRd
    rw [h2] at HSo
    clear h1 h2 HAI
    go_enter Try.func30, Try.ntmps30
    go_wp2_with (first | (go_at_call 25; refine HRd.out.mono ?_; rintro e w1 ⟨xa, xn, xc, ym, rfl, bE, _⟩; have hb2 := Below.step bE (below_box w1 (.cells #[.slice xa xn xc, .map ym] 45)); obtain ⟨f0, f1, fl, _, _⟩ := HX0.out _ hb2; have HB : Hid (Below w0.heap.size w0 (w1.alloc (.cells #[.slice xa xn xc, .map ym] 45))) := hb2; clear hb2 bE) | (go_at_call 45; refine (HSo.out _ HB.out).mono ?_; rintro e w2 ⟨rfl, hw⟩; obtain rfl := hw.symm))
    refine bodyPost_ret (ret_rdg rfl rfl (HFin.out _ _ _ HB.out).2) rfl ?_
    exact ⟨_, _, _, _, by rw [HE.out]; rfl, (HFin.out _ _ _ HB.out).1, fun h => by rw [HE.out] at h; cases h⟩
  have HWs : Hid (Ws t) := (frmE_iff t).1 h1
  have HAI2 : Hid ((if falB t zs then 0 else 2) = AI) := by have := HAI.out; rw [h1, h2] at this; exact this
  have HFm : Hid (zs.all fmd = true) := h2
  rw [h1] at HRd
  rw [h2] at HSo
  clear h1 h2 HAI
  obtain ⟨ua, uc, rfl, huc, hum, _⟩ := HZ.out.form
  go_enter Try.func30, Try.ntmps30
  go_upto_region 4 with (first | (go_at_call 25; refine HRd.out.mono ?_; rintro e w1 ⟨xa, xn, xc, ym, rfl, bE, hrz⟩; obtain ⟨g, hv, rfl, rfl, hrz, hgX⟩ := hrz rfl; have HgX : Hid (w0.heap.size ≤ g) := hgX; have HB : Hid (Below w0.heap.size w0 (w1.alloc (.cells #[.slice xa t.length xc, .map (some g)] 45)) ∧ Rz (w1.alloc (.cells #[.slice xa t.length xc, .map (some g)] 45)) xa t xc g t) := ⟨Below.step bE (below_box _ _), hrz.below (below_box _ _)⟩; subst hv; clear bE hrz hgX) | (go_at_call 45; refine (HSo.out _ HB.out.1).mono ?_; rintro e w2 ⟨rfl, hw⟩; obtain rfl := hw.symm))
  have HWb : Hid (∀ W, Below (w1.alloc (.cells #[.slice xa t.length xc, .map (some g)] 45)).heap.size (w1.alloc (.cells #[.slice xa t.length xc, .map (some g)] 45)) W → Below w0.heap.size w0 W ∧ Rz W xa t xc g t ∧ W.cell? ⟨w1.heap.size, 0, none⟩ = some (.slice xa t.length xc) ∧ W.cell? ⟨w1.heap.size, 1, none⟩ = some (.map (some g)) ∧ Rd W (.slice ua zs.length uc) zs) := fun W hW => by
    have h0 : Below w0.heap.size w0 W := Below.step HB.out.1 hW
    exact ⟨h0, HB.out.2.below hW, box_at hW rfl, box_at hW rfl, HZ.out.below h0⟩
  clear HB HSo HRd
  generalize w1.alloc (.cells #[.slice xa t.length xc, .map (some g)] 45) = wb at *
  obtain ⟨Y, hY⟩ : ∃ Y, w1.heap.size = Y := ⟨_, rfl⟩
  rw [hY] at HWb ⊢
  clear hY
  go_wp2_with fail
  go_loopg [25] zs.length (fun g' j wr => ∃ k : Nat, k + g' = zs.length ∧ j = .int .i64 k ∧ falB t (zs.take k) = true ∧ Below wb.heap.size wb wr)
  case atStart => exact ⟨0, by omega, rfl, rfl, Below.refl _ _⟩
  case round =>
    obtain ⟨k, hk, rfl, hall, bel⟩ := hrel
    have HA : Hid (falB t (zs.take k) = true) := hall
    have HK : Hid (k + gk = zs.length) := hk
    have HBl : Hid (Below wb.heap.size wb wr) := bel
    obtain ⟨hb3, hrz, f0, f1, hrd⟩ := HWb.out wr bel
    obtain ⟨x0, x1, x2, _, _⟩ := HX0.out wr hb3
    have HRz : Hid (Rz wr xa t xc g t) := hrz
    clear hall bel
    by_cases hlt : k < zs.length
    · obtain ⟨ua', uc', e', _, _, hcell⟩ := hrd.form
      injection e' with q1 q2 q3
      subst q1 q3
      obtain ⟨b2, off2, rfl, hck⟩ := hcell k hlt
      have HM := all_more (fun x => isF t x) zs k hlt
      have HN : Hid (isF t (zs.getD k 0) = false → AI = 2) := fun h => by rw [← HAI2.out, show falB t zs = false from all_no hlt h]; rfl
      have HM2 : Hid (isF t (zs.getD k 0) = true → falB t (zs.take (k + 1)) = true) := fun h => by
        show (zs.take (k + 1)).all _ = true
        rw [HM]; exact Bool.and_eq_true_iff.2 ⟨HA.out, h⟩
      have HIs : Hid (Calls Try.prog 49 #[rV xa t.length xc g, .int .i64 (zs.getD k 0)] wr fun e w' => e = .returned (.bool (isF t (zs.getD k 0))) ∧ Below wr.heap.size wr w') := isFalse_any xa t t xc g _ wr hrz
      clear hk HM hcell hrd hrz
      generalize zs.getD k 0 = y at *
      generalize isF t y = yf at *
      cases yf
      · have HT : Hid (AI = 2) := HN.out rfl
        clear HN HM2
        go_wp2_with (go_at_call 49; refine HIs.out.mono ?_; rintro e w5 ⟨rfl, bE⟩; have hb5 := (HWb.out w5 (Below.step HBl.out bE)).1; obtain ⟨y0, y1, y2, _, _⟩ := HX0.out w5 hb5; have HB5 : Hid (Below w0.heap.size w0 w5) := hb5; clear hb5 bE)
        refine bodyPost_ret (ret_rdg rfl rfl (HFin.out _ _ _ HB5.out).2) rfl ?_
        exact ⟨_, _, _, _, by rw [HT.out]; rfl, (HFin.out _ _ _ HB5.out).1, fun h => by rw [HT.out] at h; cases h⟩
      · have HT : Hid (falB t (zs.take (k + 1)) = true) := HM2.out rfl
        clear HN HM2
        go_wp2_with (go_at_call 49; refine HIs.out.mono ?_; rintro e w5 ⟨rfl, bE⟩)
        go_roundg (gk - 1)
        case measure => have := HK.out; omega
        case rel => exact ⟨k + 1, by have := HK.out; omega, by go_num, HT.out, Below.step HBl.out bE⟩
    · obtain rfl : k = zs.length := by omega
      have hfa : falB t zs = true := by have := HA.out; rw [List.take_length] at this; exact this
      have HE : Hid (AI = 0) := by show AI = _; rw [← HAI2.out, hfa]; rfl
      have HFa : Hid (falB t zs = true) := hfa
      have HBw : Hid (Below w0.heap.size w0 wr) := hb3
      clear hk hfa hb3 hrz hrd
      go_wp2_with fail
      refine bodyPost_ret (ret_rdg rfl rfl (HFin.out _ _ _ HBw.out).2) rfl ?_
      refine ⟨_, _, _, _, by rw [HE.out]; rfl, (HFin.out _ _ _ HBw.out).1, fun _ => ⟨g, rfl, rfl, rfl, ?_, HFa.out, HFm.out⟩⟩
      have hz := HRz.out
      have hgx : g ≠ X := by have := HXl.out; have := HgX.out; omega
      exact ⟨HR.out.below (by rw [hX]; exact (HFin.out _ _ _ HBw.out).1), (hz.map.set hgx).set hgx, hz.pre, hz.ws⟩
/-- the three answers of Learn -/
def LnS (w' : World) (B : Nat) (t : List Ent) (zs : List Int) (e : Ending) : Prop :=
  ∃ u, e = .returned (.tuple #[u, .int .i64 (if askI t zs = 0 then lrnB t zs else 0), .int .i64 (askI t zs)]) ∧ Own B w' u (if askI t zs = 0 then lrnC t zs else [])
set_option maxRecDepth 100000 in
set_option maxHeartbeats 3200000 in
theorem learn_any (v vc : Value) (t : List Ent) (zs : List Int) (w : World) (hr : RdE w v t) (hz : Rd w vc zs) :
    Calls Try.prog 13 #[v, vc] w fun e w' => LnS w' w.heap.size t zs e ∧ Below w.heap.size w w' := by
  have HRd : Hid (Calls Try.prog 30 #[v, vc] w fun e w' => ∃ xa xn xc ym, e = .returned (.tuple #[.agg #[.slice xa xn xc, .map ym], .int .i64 (askI t zs)]) ∧ Below w.heap.size w w' ∧ (askI t zs = 0 → RuS w' v t zs xa xn xc ym)) := readUnder_any v vc t zs w hr hz
  have HZ : Hid (Rd w vc zs) := hz
  unfold LnS
  clear hr hz
  by_cases h0 : askI t zs = 0
  · rw [h0] at HRd ⊢
    rw [if_pos rfl, if_pos rfl]
    go_enter Try.func13, Try.ntmps13
    go_upto_region 4 with (go_at_call 30; refine HRd.out.mono ?_; rintro e w1 ⟨xa, xn, xc, ym, rfl, bE, hrz⟩; obtain ⟨g, hv, rfl, rfl, hrz, hfa, hfm⟩ := hrz rfl; have HB : Hid (Below w.heap.size w w1 ∧ Rz w1 xa t xc g t ∧ falB t zs = true) := ⟨bE, hrz, hfa⟩; subst hv; clear bE hrz hfa hfm)
    have HWb : Hid (∀ W, Below (w1.alloc (.cells #[.slice xa t.length xc, .map (some g)] 45)).heap.size (w1.alloc (.cells #[.slice xa t.length xc, .map (some g)] 45)) W → Below w.heap.size w W ∧ Rz W xa t xc g t ∧ W.cell? ⟨w1.heap.size, 0, none⟩ = some (.slice xa t.length xc) ∧ W.cell? ⟨w1.heap.size, 1, none⟩ = some (.map (some g)) ∧ Rd W vc zs) := fun W hW => by
      have h1 : Below w1.heap.size w1 W := Below.step (below_box _ _) hW
      have h2 : Below w.heap.size w W := Below.step HB.out.1 h1
      exact ⟨h2, HB.out.2.1.below h1, box_at hW rfl, box_at hW rfl, HZ.out.below h2⟩
    have HWs : Hid (Ws t) := HB.out.2.1.ws
    have HFa : Hid (falB t zs = true) := HB.out.2.2
    have HFl : Hid (∀ x ∈ zs, isF t x = true) := List.all_eq_true.1 HFa.out
    clear HB HRd
    generalize w1.alloc (.cells #[.slice xa t.length xc, .map (some g)] 45) = wb at *
    obtain ⟨Y, hY⟩ : ∃ Y, w1.heap.size = Y := ⟨_, rfl⟩
    rw [hY] at HWb ⊢
    clear hY
    have HTp : Hid (Calls Try.prog 31 #[rV xa t.length xc g, vc] wb fun e w' => e = .returned (.int .i64 (topI t zs)) ∧ Below wb.heap.size wb w') := by
      have q := HWb.out wb (Below.refl _ _)
      exact top_any wb xa t xc g vc zs q.2.1 q.2.2.2.2 HFl.out
    obtain ⟨_, _, p0, p1, _⟩ := HWb.out wb (Below.refl _ _)
    by_cases hL : topI t zs = 0
    · have HE1 : Hid (lrnB t zs = -1) := by show _ = _; unfold lrnB; rw [if_pos hL]
      have HE2 : Hid (lrnC t zs = []) := by show _ = _; unfold lrnC; rw [if_pos hL]
      rw [hL] at HTp
      go_wp2_with (go_at_call 31; refine HTp.out.mono ?_; rintro e w2 ⟨rfl, bE⟩; have HB2 : Hid (Below w.heap.size w w2) := (HWb.out w2 bE).1; clear bE)
      go_ret3
      exact ⟨⟨.slice none 0 0, by rw [HE1.out]; rfl, by rw [HE2.out]; exact World.ownsRow_nil _ _ _ _⟩, HB2.out⟩
    · have HE1 : Hid (lrnB t zs = topI t (othL t (topI t zs) (RS t zs))) := by show _ = _; unfold lrnB; rw [if_neg hL]
      have HE2 : Hid (lrnC t zs = oneL t (topI t zs) (RS t zs) :: tid (othL t (topI t zs) (RS t zs))) := by show _ = _; unfold lrnC; rw [if_neg hL]
      obtain ⟨L, hLe⟩ : ∃ L, topI t zs = L := ⟨_, rfl⟩
      rw [hLe] at HTp hL HE1 HE2
      have HRs : Hid (∀ W, Below wb.heap.size wb W → Calls Try.prog 33 #[rV xa t.length xc g, vc, .int .i64 L] W fun e w' => ∃ G s, e = .returned (.map (some G)) ∧ Below W.heap.size W w' ∧ Ms w' G t.length s (RS t zs)) := fun W hW => by
        have q := HWb.out W hW
        exact (resolved_any W xa t xc g L vc zs q.2.1 q.2.2.2.2 HFa.out hLe.symm).mono fun e w' ⟨h1, h2⟩ => by
          obtain ⟨s, hs⟩ := h2.ms
          exact ⟨_, s, h1, h2.bel, hs⟩
      have HPa : Hid (∀ W G s, Below wb.heap.size wb W → Ms W G t.length s (RS t zs) → Calls Try.prog 32 #[rV xa t.length xc g, .map (some G), .int .i64 L] W fun e w' => ∃ v', e = .returned (.tuple #[v', .int .i64 (lrnB t zs)]) ∧ Own W.heap.size w' v' (lrnC t zs) ∧ Below W.heap.size W w') := fun W G s hW hm => by
        have q := HWb.out W hW
        have r := RS_end HWs.out HFa.out (by rw [hLe]; exact hL)
        rw [hLe] at r
        rw [HE1.out, HE2.out]
        exact parted_any W xa t xc g G t.length s (RS t zs) L q.2.1 hm r.2 r.1 hL
      clear hLe HE1 HE2
      have hLb : (L == 0) = false := by simpa using hL
      go_upto_region 7 with (go_at_call 31; refine HTp.out.mono ?_; rintro e w2 ⟨rfl, bE⟩; have HB2 : Hid (Below wb.heap.size wb w2) := bE; obtain ⟨_, _, p2, p3, _⟩ := HWb.out w2 bE; clear bE)
      have HK2 : Hid (∀ W, Below w2.heap.size w2 W → W.cell? ⟨Y, 0, none⟩ = some (.slice xa t.length xc) ∧ W.cell? ⟨Y, 1, none⟩ = some (.map (some g))) := fun W hW => by
        have q := HWb.out W (Below.step HB2.out hW)
        exact ⟨q.2.2.1, q.2.2.2.1⟩
      go_region_held (fun W' => Below w2.heap.size w2 W' ∧ W'.cell? ⟨Y, 0, none⟩ = some (.slice xa t.length xc) ∧ W'.cell? ⟨Y, 1, none⟩ = some (.map (some g))) (first | exact ⟨(Below.refl _ _).drew, HK2.out _ (Below.refl _ _).drew⟩ | exact ⟨H4.out.1, HK2.out _ H4.out.1⟩ | exact ⟨H3.out.1, HK2.out _ H3.out.1⟩) (first
        | (go_at_call 33; refine (HRs.out _ (Below.step HB2.out (Below.refl _ _).drew)).mono ?_; rintro e w3 ⟨G, s, rfl, b3, hm3⟩; have H3 : Hid (Below w2.heap.size w2 w3 ∧ Ms w3 G t.length s (RS t zs)) := ⟨Below.step (Below.refl _ _).drew b3, hm3⟩; clear b3 hm3)
        | (go_at_call 32; refine (HPa.out _ _ _ (Below.step HB2.out H3.out.1) H3.out.2).mono ?_; rintro e w4 ⟨vA, rfl, o4, b4⟩; have H4 : Hid (Below w2.heap.size w2 w4 ∧ Own w3.heap.size w4 vA (lrnC t zs)) := ⟨Below.step H3.out.1 b4, o4⟩; clear o4 b4))
      all_goals
        go_wp2_with fail
        go_ret3
        exact ⟨⟨vA, rfl, H4.out.2.mono (HWb.out w3 (Below.step HB2.out H3.out.1)).1.size⟩, (HWb.out w4 (Below.step HB2.out H4.out.1)).1⟩
  · rw [if_neg h0, if_neg h0]
    have hb0 : (askI t zs == 0) = false := by simpa using h0
    generalize askI t zs = AI at *
    have HR2 : Hid (Calls Try.prog 30 #[v, vc] w fun e w' => ∃ xa xn xc ym, e = .returned (.tuple #[.agg #[.slice xa xn xc, .map ym], .int .i64 AI]) ∧ Below w.heap.size w w') := HRd.out.mono fun e w' ⟨x1, x2, x3, x4, h1, h2, _⟩ => ⟨x1, x2, x3, x4, h1, h2⟩
    clear HRd
    go_enter Try.func13, Try.ntmps13
    go_wp2_with (go_at_call 30; refine HR2.out.mono ?_; rintro e w1 ⟨xa, xn, xc, ym, rfl, bE⟩; have HB : Hid (Below w.heap.size w w1) := bE; clear bE)
    go_ret3
    exact ⟨⟨.slice none 0 0, rfl, World.ownsRow_nil _ _ _ _⟩, Below.step HB.out (below_box _ _)⟩
end Go.Proofs.Ytkchabdlpeifjaa

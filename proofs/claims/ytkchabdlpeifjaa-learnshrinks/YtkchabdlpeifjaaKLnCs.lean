/-
  learn: Shrink.
  KEEP: len below nil form rd mono one more grown lt size cell some none of ofNat add out step row get at mk new made look put del kept drew alloc has same other map rde take lit lev lstB pre ws cells bnd on start app set box bel rz tidy ms reason c f
-/
import Derived.Test.YtkchabdlpeifjaaKLnCg
import Derived.Test.YtkchabdlpeifjaaJLnK
set_option linter.unusedSimpArgs false
set_option linter.unusedVariables false
namespace Go.Proofs.Ytkchabdlpeifjaa
open Go Go.RowKit
/-- does the literal of place k stay? -/
def stay (t : List Ent) (cl : List Int) (k : Nat) : Bool := k == 0 || (decide (0 < lvl t (cl.getD k 0)) && !covB t (fun x => cl.contains x) (plN t (cl.getD k 0))) && fsI cl (cl.getD k 0) == some k
/-- what Shrink leaves of the first k -/
def shrK (t : List Ent) (cl : List Int) : Nat → List Int
  | 0 => []
  | k + 1 => if stay t cl k then shrK t cl k ++ [cl.getD k 0] else shrK t cl k
theorem shrK_len (t : List Ent) (cl : List Int) : ∀ k, (shrK t cl k).length ≤ k
  | 0 => Nat.le_refl _
  | k + 1 => by
    have := shrK_len t cl k
    unfold shrK
    split
    · simp; omega
    · omega
def ShS (w' : World) (B : Nat) (t : List Ent) (cl : List Int) (e : Ending) : Prop :=
  ∃ u, e = .returned (.tuple #[u, .int .i64 (askI t cl)]) ∧ Own B w' u (if askI t cl = 0 then shrK t cl cl.length else [])
theorem CvA.kept {w0 W W' : World} {X : Nat} {a : Option Addr} {t : List Ent} {c g gs ns : Nat} {cl : List Int} {row : Option Nat} (h : CvA w0 W X a t c g gs ns cl) (hg : W.grownBy W' row) (hr : ∀ k, row = some k → X + 5 < k) : CvA w0 W' X a t c g gs ns cl := by
  obtain ⟨M, h1, h2, h3⟩ := h
  have ne : ∀ k, k ≤ X + 5 → some k ≠ row := fun k hk e => by have := hr k e.symm; omega
  refine ⟨M, ⟨h1.rz0, h1.st0, h1.eX, h1.bel.grown hg (Nat.le_of_lt h1.box.lt) (fun k hk => by have := hr k hk; omega), h1.box.kept hg (ne _ (by omega)), h1.sb.kept hg (ne _ (by omega)), h1.gf.kept hg (ne _ (by omega)), h1.mb.kept hg (ne _ (by omega)), h1.cf.kept hg (ne _ (by omega)), h1.ms.kept (hg.block _ h1.ms.lt (ne _ (by omega)))⟩, h2, h3⟩
/-- the state of Shrink's loop -/
structure ShL (w2 wr : World) (X : Nat) (a : Option Addr) (t : List Ent) (c g gs ns : Nat) (cl : List Int) (u : Value) (O : List Int) : Prop where
  cv : CvA w2 wr X a t c g gs ns cl
  own : Own (X + 6) wr u O
theorem ShL.below {w2 wr w' : World} {X : Nat} {a : Option Addr} {t : List Ent} {c g gs ns : Nat} {cl : List Int} {u : Value} {O : List Int} (h : ShL w2 wr X a t c g gs ns cl u O) (hb : Below wr.heap.size wr w') : ShL w2 w' X a t c g gs ns cl u O := ⟨h.cv.below hb, h.own.below hb⟩
theorem CvA.facts {w2 W : World} {X : Nat} {a : Option Addr} {t : List Ent} {c g gs ns : Nat} {cl : List Int} (h : CvA w2 W X a t c g gs ns cl) : Below w2.heap.size w2 W ∧ Rz W a t c g t ∧ Mi W gs ns (fsI cl) ∧ X + 5 < W.heap.size := by
  obtain ⟨M, h1, _, _⟩ := h
  exact ⟨by rw [h1.eX]; exact h1.bel, h1.rz, h1.st, h1.cf.lt⟩
set_option maxRecDepth 100000 in
set_option maxHeartbeats 6400000 in
theorem shrink_any (v vc : Value) (t : List Ent) (cl : List Int) (w : World) (hr : RdE w v t) (hz : Rd w vc cl) :
    Calls Try.prog 17 #[v, vc] w fun e w' => ShS w' w.heap.size t cl e ∧ Below w.heap.size w w' := by
  have HRd : Hid (Calls Try.prog 30 #[v, vc] w fun e w' => ∃ xa xn xc ym, e = .returned (.tuple #[.agg #[.slice xa xn xc, .map ym], .int .i64 (askI t cl)]) ∧ Below w.heap.size w w' ∧ (askI t cl = 0 → RuS w' v t cl xa xn xc ym)) := readUnder_any v vc t cl w hr hz
  have hlz := hz.len
  have HZ : Hid (Rd w vc cl) := hz
  unfold ShS
  clear hr hz
  by_cases h0 : askI t cl = 0
  case neg =>
    rw [if_neg h0]
    have hb0 : (askI t cl == 0) = false := by simpa using h0
    generalize askI t cl = AI at *
    have HR2 : Hid (Calls Try.prog 30 #[v, vc] w fun e w' => ∃ xa xn xc ym, e = .returned (.tuple #[.agg #[.slice xa xn xc, .map ym], .int .i64 AI]) ∧ Below w.heap.size w w') := HRd.out.mono fun e w' ⟨x1, x2, x3, x4, h1, h2, _⟩ => ⟨x1, x2, x3, x4, h1, h2⟩
    clear HRd
    go_enter Try.func17, Try.ntmps17
    go_wp2_with (go_at_call 30; refine HR2.out.mono ?_; rintro e w1 ⟨xa, xn, xc, ym, rfl, bE⟩; have HB : Hid (Below w.heap.size w w1) := bE; clear bE)
    go_ret2
    exact ⟨⟨.slice none 0 0, rfl, World.ownsRow_nil _ _ _ _⟩, Below.step HB.out (below_box _ _)⟩
  rw [h0] at HRd ⊢
  rw [if_pos rfl]
  go_enter Try.func17, Try.ntmps17
  go_upto_region 4 with (go_at_call 30; refine HRd.out.mono ?_; rintro e w1 ⟨xa, xn, xc, ym, rfl, bE, hrz⟩; obtain ⟨g, hv, rfl, rfl, hrz, hfa, hfm⟩ := hrz rfl; have HB : Hid (Below w.heap.size w w1 ∧ Rz w1 xa t xc g t ∧ falB t cl = true ∧ cl.all fmd = true) := ⟨bE, hrz, hfa, hfm⟩; subst hv; clear bE hrz hfa hfm)
  have HWb : Hid (∀ W, Below (w1.alloc (.cells #[.slice xa t.length xc, .map (some g)] 45)).heap.size (w1.alloc (.cells #[.slice xa t.length xc, .map (some g)] 45)) W → Below w.heap.size w W ∧ Rz W xa t xc g t ∧ W.cell? ⟨w1.heap.size, 0, none⟩ = some (.slice xa t.length xc) ∧ W.cell? ⟨w1.heap.size, 1, none⟩ = some (.map (some g)) ∧ Rd W vc cl) := fun W hW => by
    have h1 : Below w1.heap.size w1 W := Below.step (below_box _ _) hW
    have h2 : Below w.heap.size w W := Below.step HB.out.1 h1
    exact ⟨h2, HB.out.2.1.below h1, box_at hW rfl, box_at hW rfl, HZ.out.below h2⟩
  have HWs : Hid (Ws t) := HB.out.2.1.ws
  have HFl : Hid (∀ x ∈ cl, isF t x = true) := List.all_eq_true.1 HB.out.2.2.1
  have HFm : Hid (cl.all fmd = true) := HB.out.2.2.2
  clear HB HRd
  generalize w1.alloc (.cells #[.slice xa t.length xc, .map (some g)] 45) = wb at *
  obtain ⟨Y, hY⟩ : ∃ Y, w1.heap.size = Y := ⟨_, rfl⟩
  rw [hY] at HWb ⊢
  clear hY
  have HFs : Hid (Calls Try.prog 40 #[vc] wb fun e w' => e = .returned (.map (some wb.heap.size)) ∧ Mi w' wb.heap.size cl.length (fsI cl) ∧ Below wb.heap.size wb w') := firsts_any vc cl wb (HWb.out wb (Below.refl _ _)).2.2.2.2 HFm.out
  obtain ⟨_, _, p0, p1, _⟩ := HWb.out wb (Below.refl _ _)
  go_upto_region 5 with (go_at_call 40; refine HFs.out.mono ?_; rintro e w2 ⟨rfl, m2, b2⟩; have H2 : Hid (Mi w2 wb.heap.size cl.length (fsI cl) ∧ Below wb.heap.size wb w2) := ⟨m2, b2⟩; obtain ⟨_, _, r0, r1, _⟩ := HWb.out w2 b2; clear m2 b2)
  obtain ⟨gs, hgs⟩ : ∃ gs, wb.heap.size = gs := ⟨_, rfl⟩
  have HM2 : Hid (Mi w2 gs cl.length (fsI cl)) := by rw [← hgs]; exact H2.out.1
  have HB2 : Hid (∀ W, Below w2.heap.size w2 W → Below w.heap.size w W ∧ Rz W xa t xc g t ∧ W.cell? ⟨Y, 0, none⟩ = some (.slice xa t.length xc) ∧ W.cell? ⟨Y, 1, none⟩ = some (.map (some g)) ∧ Rd W vc cl) := fun W hW => HWb.out W (Below.step H2.out.2 hW)
  rw [hgs]
  have HCo : Hid (Calls Try.prog 41 #[rV xa t.length xc g, .map (some gs)] w2 fun e w' => e = .returned (cvV w2.heap.size) ∧ CvA w2 w' w2.heap.size xa t xc g gs cl.length cl) := coverer_any w2 xa t xc g gs cl.length cl (HB2.out w2 (Below.refl _ _)).2.1 HM2.out
  obtain ⟨X, hX⟩ : ∃ X, w2.heap.size = X := ⟨_, rfl⟩
  rw [hX] at HCo
  obtain ⟨ua, uc, rfl, huc, hum, _⟩ := HZ.out.form
  clear HFs H2 HWb hgs p0 p1
  go_wp2_with (go_at_call 41; refine HCo.out.mono ?_; rintro e w3 ⟨rfl, h3⟩; have H3 : Hid (ShL w2 w3 X xa t xc g gs cl.length cl (.slice none 0 0) []) := ⟨h3, World.ownsRow_nil _ _ _ _⟩; clear h3)
  clear r0 r1
  go_loopg [10, 31] cl.length (fun g' u i wr => ∃ k : Nat, k + g' = cl.length ∧ i = .int .i64 k ∧ Hid (ShL w2 wr X xa t xc g gs cl.length cl u (shrK t cl k)))
  case atStart => exact ⟨0, by omega, rfl, H3.out⟩
  case round =>
    obtain ⟨k, hk, rfl, HL⟩ := hrel
    have HK : Hid (k + gk = cl.length) := hk
    obtain ⟨hbl, hrz, hst, hX5⟩ := HL.out.cv.facts
    obtain ⟨hbw, _, f0, f1, hrd⟩ := HB2.out wr hbl
    have HBw : Hid (Below w.heap.size w wr) := hbw
    have hsw : w.heap.size ≤ X := by rw [← hX]; exact (HB2.out w2 (Below.refl _ _)).1.size
    by_cases hlt : k < cl.length
    · obtain ⟨ua', uc', e', _, _, hcell⟩ := hrd.form
      injection e' with q1 q2 q3
      subst q1 q3
      obtain ⟨b2, off2, rfl, hck⟩ := hcell k hlt
      have hmem := getD_mem' (l := cl) (k := k) (d := 0) hlt
      obtain ⟨hfy, hpl, _, hlv, hplc⟩ := HWs.out.isF_at (HFl.out _ hmem)
      have hyr := fmd_range hfy
      have HPl : Hid (Calls Try.prog 42 #[rV xa t.length xc g, .int .i64 (cl.getD k 0)] wr fun e w' => e = .returned (.int .i64 (plN t (cl.getD k 0) : Int)) ∧ Below wr.heap.size wr w') := place_any xa t t xc g _ wr hrz
      have hsl := shrK_len t cl k
      have hShr : shrK t cl (k + 1) = if stay t cl k then shrK t cl k ++ [cl.getD k 0] else shrK t cl k := rfl
      have hSty : stay t cl k = (k == 0 || (decide (0 < lvl t (cl.getD k 0)) && !covB t (fun x => cl.contains x) (plN t (cl.getD k 0))) && fsI cl (cl.getD k 0) == some k) := rfl
      have hCv0 := covered_any w2
      have H5s : Hid (∀ w5, Below wr.heap.size wr w5 → ShL w2 w5 X xa t xc g gs cl.length cl u10 (shrK t cl k)) := fun w5 hb => HL.out.below hb
      have HCv : Hid (∀ w5, Below wr.heap.size wr w5 → Calls Try.prog 55 #[.int .i64 (plN t (cl.getD k 0) : Int), .pointer (some ⟨X + 4, 0, none⟩), .pointer (some ⟨X, 0, none⟩), .pointer (some ⟨X + 2, 0, none⟩), .pointer (some ⟨X + 5, 0, none⟩)] w5 fun e w' => e = .returned (.bool (covB t (fun x => cl.contains x) (plN t (cl.getD k 0)))) ∧ ShL w2 w' X xa t xc g gs cl.length cl u10 (shrK t cl k)) := fun w5 hb => (covered_any w2 w5 X xa t xc g gs cl.length cl _ (H5s.out w5 hb).cv hpl).mono fun e w' ⟨h1, h2, h3⟩ => ⟨h1, h2, World.ownsRow.kept (H5s.out w5 hb).own h3 (by
        cases e : u10.ownBlock with
        | none => exact .inl rfl
        | some j => exact .inr (fun q => by have := (World.ownsRow.lt (H5s.out w5 hb).own j e).1; have := Option.some.inj q; omega))⟩
      obtain ⟨bt, offt, ut, hxa, hblt, ct0, ct1, ct2, _⟩ := hrz.cells hpl
      have hlvq : (t.getD (plN t (cl.getD k 0)) e0).2.1 = lvl t (cl.getD k 0) := hlv.symm
      rw [hlvq] at ct1
      have hfs : ∃ i, fsI cl (cl.getD k 0) = some i := by
        have : (fsI cl (cl.getD k 0)).isSome = true := by rw [fsI_some]; simpa using hmem
        exact Option.isSome_iff_exists.1 this
      obtain ⟨fi, hfi⟩ := hfs
      have HG : Hid (∀ W, Mi W gs cl.length (fsI cl) → (Instr.lookup 43 (.map (some gs)) (.int .i64 (cl.getD k 0)) false).run Try.prog W = .ok (.int .i64 (fi : Int)) W) := fun W hW => by
        have := hW.get (x := cl.getD k 0) (by omega) (by omega)
        rw [hfi] at this; exact this
      have H5f : Hid (∀ w5, Below wr.heap.size wr w5 → w5.cell? ⟨Y, 0, none⟩ = some (.slice xa t.length xc) ∧ w5.cell? ⟨Y, 1, none⟩ = some (.map (some g)) ∧ w5.cell? ⟨bt, offt + plN t (cl.getD k 0) * 3 + 1, none⟩ = some (.int .i64 (lvl t (cl.getD k 0))) ∧ (Instr.lookup 43 (.map (some gs)) (.int .i64 (cl.getD k 0)) false).run Try.prog w5 = .ok (.int .i64 (fi : Int)) w5 ∧ X + 5 < w5.heap.size) := fun w5 hb => by
        have q := (H5s.out w5 hb).cv.facts
        have r := HB2.out w5 q.1
        exact ⟨r.2.2.1, r.2.2.2.1, (hb.cell (p := ⟨bt, offt + plN t (cl.getD k 0) * 3 + 1, none⟩) hblt).trans ct1, HG.out w5 q.2.2.1, q.2.2.2⟩
      have H6f : Hid (∀ w6, ShL w2 w6 X xa t xc g gs cl.length cl u10 (shrK t cl k) → (Instr.lookup 43 (.map (some gs)) (.int .i64 (cl.getD k 0)) false).run Try.prog w6 = .ok (.int .i64 (fi : Int)) w6 ∧ X + 5 < w6.heap.size) := fun w6 h => by
        have q := h.cv.facts
        exact ⟨HG.out w6 q.2.2.1, q.2.2.2⟩
      have HApp : Hid (∀ wz w7 v7, ShL w2 wz X xa t xc g gs cl.length cl u10 (shrK t cl k) → Own (X + 6) w7 v7 (shrK t cl k ++ [cl.getD k 0]) → Ap (wz.alloc (.cells #[.int .i64 (cl.getD k 0)] 3)) u10 w7 v7 → ShL w2 w7 X xa t xc g gs cl.length cl v7 (shrK t cl k ++ [cl.getD k 0])) := fun wz w7 v7 h ho ha => ⟨(h.cv.below (below_box _ _)).kept ha.grown (fun j hj => by have := (World.ownsRow.lt h.own j hj).1; omega), ho⟩
      subst hxa
      have hSt2 : stay t cl k = (k == 0 || (decide (0 < lvl t (cl.getD k 0)) && !covB t (fun x => cl.contains x) (plN t (cl.getD k 0))) && fi == k) := by
        rw [hSty, hfi]
        congr 1
      clear hCv0 hSty hcell hmem hfy hlv hplc hlvq hfi HG hrd hbw hst hrz hbl ct0 ct1 ct2 hblt hyr hk
      generalize covB t (fun x => cl.contains x) (plN t (cl.getD k 0)) = CB at *
      generalize plN t (cl.getD k 0) = px at *
      generalize lvl t (cl.getD k 0) = lx at *
      generalize hShk : shrK t cl k = O at *
      clear hShk
      generalize cl.getD k 0 = y at *
      by_cases hk0 : k = 0
      · subst hk0
        have HN : Hid (shrK t cl (0 + 1) = O ++ [y]) := by show _ = _; rw [hShr, hSt2]; rfl
        rw [show ((0 : Nat) : Int) = 0 from rfl]
        simp only [Nat.add_zero] at hck
        clear hShr hSt2
        by_cases hl0 : 0 < lx
        · have hl0d : decide (0 < lx) = true := decide_eq_true hl0
          go_wp2_with (first | (go_at_call 42; refine HPl.out.mono ?_; rintro e w5 ⟨rfl, b5⟩; have H5 : Hid (Below wr.heap.size wr w5) := b5; obtain ⟨s0, s1, s2, s3, s4⟩ := H5f.out w5 b5; clear b5) | (go_at_call 55; refine (HCv.out w5 H5.out).mono ?_; rintro e w6 ⟨rfl, h6⟩; have H6 : Hid (ShL w2 w6 X (some ⟨bt, offt, none⟩) t xc g gs cl.length cl u10 O) := h6; obtain ⟨s5, s6⟩ := H6f.out w6 h6; clear h6) | (at_builtin; refine wpList_app_rd rfl _ _ rfl (X + 6) u10 (.slice (some ⟨w6.heap.size, 0, none⟩) 1 1) O [y] rfl rfl (H6.out.own.below (below_box _ _)) (Own.rd (own_one15 w6 y) (by simp)) (by simp; omega) (by have := (H6.out.cv.facts).2.2.2; simp; omega) ?_; intro v7 w7 own7 ap7; have HH7 : Hid (ShL w2 w7 X (some ⟨bt, offt, none⟩) t xc g gs cl.length cl v7 (O ++ [y])) := HApp.out w6 w7 v7 H6.out own7 ap7; clear own7 ap7))
          go_roundg (gk - 1)
          case measure => have := HK.out; omega
          case rel => exact ⟨0 + 1, by have := HK.out; omega, by go_num, by rw [HN.out]; exact HH7.out⟩
        · have hl0d : decide (0 < lx) = false := decide_eq_false hl0
          go_wp2_with (first | (go_at_call 42; refine HPl.out.mono ?_; rintro e w5 ⟨rfl, b5⟩; have H5 : Hid (Below wr.heap.size wr w5) := b5; obtain ⟨s0, s1, s2, s3, s4⟩ := H5f.out w5 b5; clear b5) | (at_builtin; refine wpList_app_rd rfl _ _ rfl (X + 6) u10 (.slice (some ⟨w5.heap.size, 0, none⟩) 1 1) O [y] rfl rfl ((H5s.out w5 H5.out).own.below (below_box _ _)) (Own.rd (own_one15 w5 y) (by simp)) (by simp; omega) (by have := ((H5s.out w5 H5.out).cv.facts).2.2.2; simp; omega) ?_; intro v7 w7 own7 ap7; have HH7 : Hid (ShL w2 w7 X (some ⟨bt, offt, none⟩) t xc g gs cl.length cl v7 (O ++ [y])) := HApp.out w5 w7 v7 (H5s.out w5 H5.out) own7 ap7; clear own7 ap7))
          go_roundg (gk - 1)
          case measure => have := HK.out; omega
          case rel => exact ⟨0 + 1, by have := HK.out; omega, by go_num, by rw [HN.out]; exact HH7.out⟩
      · have hkb : ((k : Int) == 0) = false := beq_eq_false_iff_ne.2 (by omega)
        rw [show (k == 0) = false by simpa using hk0, Bool.false_or] at hSt2
        by_cases hl0 : 0 < lx
        · have hl0d : decide (0 < lx) = true := decide_eq_true hl0
          cases CB
          · by_cases hfk : fi = k
            · have HN : Hid (shrK t cl (k + 1) = O ++ [y]) := by show _ = _; rw [hShr, hSt2, hl0d, hfk]; simp
              have hfb : ((fi : Int) == (k : Int)) = true := by rw [hfk]; simp
              clear hShr hSt2
              go_wp2_with (first | (go_at_call 42; refine HPl.out.mono ?_; rintro e w5 ⟨rfl, b5⟩; have H5 : Hid (Below wr.heap.size wr w5) := b5; obtain ⟨s0, s1, s2, s3, s4⟩ := H5f.out w5 b5; clear b5) | (go_at_call 55; refine (HCv.out w5 H5.out).mono ?_; rintro e w6 ⟨rfl, h6⟩; have H6 : Hid (ShL w2 w6 X (some ⟨bt, offt, none⟩) t xc g gs cl.length cl u10 O) := h6; obtain ⟨s5, s6⟩ := H6f.out w6 h6; clear h6) | (at_builtin; refine wpList_app_rd rfl _ _ rfl (X + 6) u10 (.slice (some ⟨w6.heap.size, 0, none⟩) 1 1) O [y] rfl rfl (H6.out.own.below (below_box _ _)) (Own.rd (own_one15 w6 y) (by simp)) (by simp; omega) (by have := (H6.out.cv.facts).2.2.2; simp; omega) ?_; intro v7 w7 own7 ap7; have HH7 : Hid (ShL w2 w7 X (some ⟨bt, offt, none⟩) t xc g gs cl.length cl v7 (O ++ [y])) := HApp.out w6 w7 v7 H6.out own7 ap7; clear own7 ap7))
              go_roundg (gk - 1)
              case measure => have := HK.out; omega
              case rel => exact ⟨k + 1, by have := HK.out; omega, by go_num, by rw [HN.out]; exact HH7.out⟩
            · have HN : Hid (shrK t cl (k + 1) = O) := by show _ = _; rw [hShr, hSt2, show (fi == k) = false by simpa using hfk]; simp
              have hfb : ((fi : Int) == (k : Int)) = false := beq_eq_false_iff_ne.2 (by omega)
              clear hShr hSt2
              go_wp2_with (first | (go_at_call 42; refine HPl.out.mono ?_; rintro e w5 ⟨rfl, b5⟩; have H5 : Hid (Below wr.heap.size wr w5) := b5; obtain ⟨s0, s1, s2, s3, s4⟩ := H5f.out w5 b5; clear b5) | (go_at_call 55; refine (HCv.out w5 H5.out).mono ?_; rintro e w6 ⟨rfl, h6⟩; have H6 : Hid (ShL w2 w6 X (some ⟨bt, offt, none⟩) t xc g gs cl.length cl u10 O) := h6; obtain ⟨s5, s6⟩ := H6f.out w6 h6; clear h6))
              go_roundg (gk - 1)
              case measure => have := HK.out; omega
              case rel => exact ⟨k + 1, by have := HK.out; omega, by go_num, by rw [HN.out]; exact H6.out⟩
          · have HN : Hid (shrK t cl (k + 1) = O) := by show _ = _; rw [hShr, hSt2]; simp
            clear hShr hSt2
            go_wp2_with (first | (go_at_call 42; refine HPl.out.mono ?_; rintro e w5 ⟨rfl, b5⟩; have H5 : Hid (Below wr.heap.size wr w5) := b5; obtain ⟨s0, s1, s2, s3, s4⟩ := H5f.out w5 b5; clear b5) | (go_at_call 55; refine (HCv.out w5 H5.out).mono ?_; rintro e w6 ⟨rfl, h6⟩; have H6 : Hid (ShL w2 w6 X (some ⟨bt, offt, none⟩) t xc g gs cl.length cl u10 O) := h6; obtain ⟨s5, s6⟩ := H6f.out w6 h6; clear h6))
            go_roundg (gk - 1)
            case measure => have := HK.out; omega
            case rel => exact ⟨k + 1, by have := HK.out; omega, by go_num, by rw [HN.out]; exact H6.out⟩
        · have hl0d : decide (0 < lx) = false := decide_eq_false hl0
          have HN : Hid (shrK t cl (k + 1) = O) := by show _ = _; rw [hShr, hSt2, hl0d]; simp
          clear hShr hSt2
          go_wp2_with (first | (go_at_call 42; refine HPl.out.mono ?_; rintro e w5 ⟨rfl, b5⟩; have H5 : Hid (Below wr.heap.size wr w5) := b5; obtain ⟨s0, s1, s2, s3, s4⟩ := H5f.out w5 b5; clear b5))
          go_roundg (gk - 1)
          case measure => have := HK.out; omega
          case rel => exact ⟨k + 1, by have := HK.out; omega, by go_num, by rw [HN.out]; exact (H5s.out w5 H5.out)⟩
    · obtain rfl : k = cl.length := by omega
      clear hk
      go_wp2_with fail
      go_ret2
      exact ⟨⟨u10, rfl, HL.out.own.mono (by omega)⟩, HBw.out⟩
end Go.Proofs.Ytkchabdlpeifjaa

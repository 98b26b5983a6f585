/-
  cnf.Entails, walked.
-/
import Derived.Test.YtfklgfdkpmfdnaaDoorCntW
set_option linter.unusedSimpArgs false
set_option linter.unusedVariables false
namespace Go.Proofs.YtfklgfdkpmfdnaaDoor
open Go Go.RowKit Go.Shelf

attribute [local go_sem] Oper.semAt_some

/-- what Entails says, and its error -/
def entE (n : Int) (css : List (List Int)) (zs : List Int) : Int := if frm n css && fitsP n zs then (if 16 < n then 4 else 0) else 1
def entB (n : Int) (css : List (List Int)) (zs : List Int) : Bool := (frm n css && fitsP n zs) && (decide (n ≤ 16) && (modF n css).all (fun m => mkT m zs))
/-- the boxes of Entails -/
structure EB (w : World) (n : Int) (s : Value) (css : List (List Int)) (vc : Value) (zs : List Int) (rb re : Value) (W : World) : Prop where
  bx : Bx w n s css W
  cc : B1 W (w.heap.size + 1) vc
  rd : Rd W vc zs
  rb : B1 W (w.heap.size + 1 + 1) rb
  re : B1 W (w.heap.size + 1 + 1 + 1) re
theorem EB.on {w : World} {n : Int} {s : Value} {css : List (List Int)} {vc : Value} {zs : List Int} {rb re : Value} {W W' : World} (h : EB w n s css vc zs rb re W) (hb : Below W.heap.size W W') : EB w n s css vc zs rb re W' :=
  ⟨h.bx.on hb, h.cc.below hb, h.rd.below hb, h.rb.below hb, h.re.below hb⟩
theorem EB.new {w : World} {n : Int} {s : Value} {css : List (List Int)} {vc : Value} {zs : List Int} (hr : Rds w s css) (hz : Rd w vc zs) :
    EB w n s css vc zs (.bool false) (.int .i64 0) ((((w.alloc (.cells #[.int .i64 n, s] 24)).alloc (.cells #[vc] 31)).alloc (.cells #[.bool false] 4)).alloc (.cells #[.int .i64 0] 46)) := by
  have b1 := below_box w (.cells #[.int .i64 n, s] 24)
  have b2 := below_box (w.alloc (.cells #[.int .i64 n, s] 24)) (.cells #[vc] 31)
  have b3 := below_box ((w.alloc (.cells #[.int .i64 n, s] 24)).alloc (.cells #[vc] 31)) (.cells #[.bool false] 4)
  have b4 := below_box (((w.alloc (.cells #[.int .i64 n, s] 24)).alloc (.cells #[vc] 31)).alloc (.cells #[.bool false] 4)) (.cells #[.int .i64 0] 46)
  have e2 := B1.new (w.alloc (.cells #[.int .i64 n, s] 24)) 31 vc
  have e3 := B1.new ((w.alloc (.cells #[.int .i64 n, s] 24)).alloc (.cells #[vc] 31)) 4 (.bool false)
  have e4 := B1.new (((w.alloc (.cells #[.int .i64 n, s] 24)).alloc (.cells #[vc] 31)).alloc (.cells #[.bool false] 4)) 46 (.int .i64 0)
  simp only [World.size_alloc] at e2 e3 e4
  exact ⟨(Bx.new hr _).on (Below.step (Below.step b2 b3) b4), e2.below (Below.step b3 b4), hz.below (Below.step (Below.step (Below.step b1 b2) b3) b4), e3.below b4, e4⟩
theorem res_cells {fn : Func} {p q : Tmp} {tmps : Array Value} {W : World} {D1 D2 : Nat} {x y : Value} (h : fn.results = #[.cell p 4, .cell q 46]) (hp : tmps.getD p undef = .pointer (some ⟨D1, 0, none⟩)) (hq : tmps.getD q undef = .pointer (some ⟨D2, 0, none⟩))
    (h1 : W.cell? ⟨D1, 0, none⟩ = some x) (h2 : W.cell? ⟨D2, 0, none⟩ = some y) : (results fn tmps).run Tryd.prog W = .ok (.tuple #[x, y]) W := by
  have hp' : tmps[p]?.getD undef = .pointer (some ⟨D1, 0, none⟩) := by simpa using hp
  have hq' : tmps[q]?.getD undef = .pointer (some ⟨D2, 0, none⟩) := by simpa using hq
  simp only [results, h]
  simp [go_sem, hp', hq', h1, h2]
theorem EB.out {w : World} {n : Int} {s : Value} {css : List (List Int)} {vc : Value} {zs : List Int} {rb re : Value} {W : World} (h : EB w n s css vc zs rb re W) (b : Bool) (e : Int) :
    ((W.setCell ⟨w.heap.size + 1 + 1, 0, none⟩ (.bool b)).setCell ⟨w.heap.size + 1 + 1 + 1, 0, none⟩ (.int .i64 e)).cell? ⟨w.heap.size + 1 + 1, 0, none⟩ = some (.bool b) ∧
    ((W.setCell ⟨w.heap.size + 1 + 1, 0, none⟩ (.bool b)).setCell ⟨w.heap.size + 1 + 1 + 1, 0, none⟩ (.int .i64 e)).cell? ⟨w.heap.size + 1 + 1 + 1, 0, none⟩ = some (.int .i64 e) ∧
    (W.setCell ⟨w.heap.size + 1 + 1, 0, none⟩ (.bool b)).cell? ⟨w.heap.size + 1 + 1 + 1, 0, none⟩ = some re ∧ (W.setCell ⟨w.heap.size + 1 + 1, 0, none⟩ (.bool b)).frozen? ⟨w.heap.size + 1 + 1 + 1, 0, none⟩ = false ∧
    Below w.heap.size w ((W.setCell ⟨w.heap.size + 1 + 1, 0, none⟩ (.bool b)).setCell ⟨w.heap.size + 1 + 1 + 1, 0, none⟩ (.int .i64 e)) := by
  have q2 := h.rb.set (.bool b)
  have q3 := h.re.kept (grown_set W ⟨w.heap.size + 1 + 1, 0, none⟩ (.bool b)) (by simp)
  have q4 := q3.set (.int .i64 e)
  have q5 := q2.kept (grown_set (W.setCell ⟨w.heap.size + 1 + 1, 0, none⟩ (.bool b)) ⟨w.heap.size + 1 + 1 + 1, 0, none⟩ (.int .i64 e)) (by simp)
  exact ⟨q5.c, q4.c, q3.c, q3.f, below_set (below_set h.bx.bel (by omega) _ _) (by omega) _ _⟩

set_option maxRecDepth 100000 in
set_option maxHeartbeats 1600000 in
theorem cnfEntails_any (n : Int) (s vc : Value) (css : List (List Int)) (zs : List Int) (w : World) (hr : Rds w s css) (hz : Rd w vc zs) (ht : Tens w) :
    Calls Tryd.prog 17 #[.agg #[.int .i64 n, s], vc] w fun e w' => e = .returned (.tuple #[.bool (entB n css zs), .int .i64 (entE n css zs)]) ∧ Below w.heap.size w w' := by
  have HX : Hid (EB w n s css vc zs (.bool false) (.int .i64 0) ((((w.alloc (.cells #[.int .i64 n, s] 24)).alloc (.cells #[vc] 31)).alloc (.cells #[.bool false] 4)).alloc (.cells #[.int .i64 0] 46))) := EB.new hr hz
  have HT : Hid (Tens w) := ht
  obtain ⟨a, c, rfl, hc, hm, _⟩ := hr.form
  obtain ⟨az, cz, rfl, hcz, hmz, _⟩ := hz.form
  clear hr ht hz
  cases hf : frm n css
  · have HR : Hid (entB n css zs = false ∧ entE n css zs = 1) := by unfold entB entE Hid; rw [hf]; exact ⟨rfl, rfl⟩
    go_enter Tryd.func17, Tryd.ntmps17
    go_wp2_with fail
    refine (cnfFormed_any n _ css _ HX.out.bx.rd).mono ?_
    rw [hf]
    rintro e w1 ⟨rfl, bel1⟩
    have HX1 := HX.out.on bel1
    obtain ⟨o1, o2, -, -, o3⟩ := HX1.out false 1
    have f2 := HX1.rb.f
    have f3 := HX1.re.f
    have g2 := HX1.rb.c
    have g3 := HX1.re.c
    go_wp2
    refine bodyPost_ret (res_cells rfl rfl rfl o1 o2) rfl ⟨by rw [HR.out.1, HR.out.2], o3⟩
  cases hfit : fitsP n zs
  · have HR : Hid (entB n css zs = false ∧ entE n css zs = 1) := by unfold entB entE Hid; rw [hf, hfit]; exact ⟨rfl, rfl⟩
    go_enter Tryd.func17, Tryd.ntmps17
    go_wp2_with fail
    refine (cnfFormed_any n _ css _ HX.out.bx.rd).mono ?_
    rw [hf]
    rintro e w1 ⟨rfl, bel1⟩
    have HX1 : Hid (EB w n (.slice a css.length c) css (.slice az zs.length cz) zs (.bool false) (.int .i64 0) w1) := HX.out.on bel1
    have d0 := HX1.out.bx.c0
    have d1 := HX1.out.cc.c
    clear HX
    go_wp2_with fail
    refine (fits_any _ zs n w1 HX1.out.rd).mono ?_
    rw [hfit]
    rintro e w2 ⟨rfl, rfl⟩
    obtain ⟨o1, o2, -, -, o3⟩ := HX1.out.out false 1
    have f2 := HX1.out.rb.f
    have f3 := HX1.out.re.f
    have g2 := HX1.out.rb.c
    have g3 := HX1.out.re.c
    go_wp2
    refine bodyPost_ret (res_cells rfl rfl rfl o1 o2) rfl ⟨by rw [HR.out.1, HR.out.2], o3⟩
  cases h16 : decide (16 < n)
  case true =>
    have HR : Hid (entB n css zs = false ∧ entE n css zs = 4) := by
      have h : 16 < n := of_decide_eq_true h16
      unfold entB entE Hid; rw [hf, hfit, decide_eq_false (by omega : ¬ n ≤ 16), if_pos h]; exact ⟨rfl, rfl⟩
    go_enter Tryd.func17, Tryd.ntmps17
    go_wp2_with fail
    refine (cnfFormed_any n _ css _ HX.out.bx.rd).mono ?_
    rw [hf]
    rintro e w1 ⟨rfl, bel1⟩
    have HX1 : Hid (EB w n (.slice a css.length c) css (.slice az zs.length cz) zs (.bool false) (.int .i64 0) w1) := HX.out.on bel1
    have d0 := HX1.out.bx.c0
    have d1 := HX1.out.cc.c
    clear HX
    go_wp2_with fail
    refine (fits_any _ zs n w1 HX1.out.rd).mono ?_
    rw [hfit]
    rintro e w2 ⟨rfl, rfl⟩
    obtain ⟨o1, o2, -, -, o3⟩ := HX1.out.out false 4
    have f2 := HX1.out.rb.f
    have f3 := HX1.out.re.f
    have g2 := HX1.out.rb.c
    have g3 := HX1.out.re.c
    go_wp2
    refine bodyPost_ret (res_cells rfl rfl rfl o1 o2) rfl ⟨by rw [HR.out.1, HR.out.2], o3⟩
  have HE : Hid (entE n css zs = 0 ∧ entB n css zs = (modF n css).all (fun m => mkT m zs)) := by
    have h : ¬ 16 < n := of_decide_eq_false h16
    unfold entB entE Hid; rw [hf, hfit, if_neg h, decide_eq_true (by omega : n ≤ 16)]; exact ⟨rfl, by simp⟩
  have HML : Hid (∀ m ∈ modF n css, (m.length : Int) = n) := fun m hm => by
    have h : ¬ 16 < n := of_decide_eq_false h16
    have h0 : 0 ≤ n := by have := hf; simp only [frm, Bool.and_eq_true, decide_eq_true_eq] at this; exact this.1.1
    unfold modF at hm
    rw [hf, decide_eq_true (by omega : n ≤ 16)] at hm
    have := (mem_mods.1 hm).1
    omega
  have HFit : Hid (fitsP n zs = true) := hfit
  refine calls_marks 12 Tryd.func17 rfl ?_
  simp only [Tryd.ntmps17, List.size_toArray, List.length_cons, List.length_nil, Nat.reduceAdd, Nat.reduceSub, Array.replicate_succ, Array.replicate_zero, List.push_toArray, List.append_toArray, List.nil_append, List.cons_append]
  go_wp2_with fail
  refine (cnfFormed_any n _ css _ HX.out.bx.rd).mono ?_
  rw [hf]
  rintro e w1 ⟨rfl, bel1⟩
  have HX1 : Hid (EB w n (.slice a css.length c) css (.slice az zs.length cz) zs (.bool false) (.int .i64 0) w1) := HX.out.on bel1
  have d0 := HX1.out.bx.c0
  have d1 := HX1.out.cc.c
  have d2 := HX1.out.bx.c1
  clear HX bel1
  go_wp2_with fail
  refine (fits_any _ zs n w1 HX1.out.rd).mono ?_
  rw [hfit]
  rintro e w2 ⟨rfl, rfl⟩
  go_wp2_with fail
  refine (models_any n _ css _ HX1.out.bx.rd (HT.out.below HX1.out.bx.bel)).mono ?_
  rintro e w3 ⟨f, rfl, hg, bel3⟩
  have HX3 : Hid (EB w n (.slice a css.length c) css (.slice az zs.length cz) zs (.bool false) (.int .i64 0) w3) := HX1.out.on bel3
  have HG : Hid (GivesB w2.heap.size (modF n css) f w3) := hg
  obtain ⟨gf, lb, rfl, -, -⟩ := hg
  have hs1 : w.heap.size + 1 + 1 + 1 < w2.heap.size := HX1.out.re.lt
  have hs3 := bel3.size
  clear d0 d1 d2 HX1 hf hfit
  go_wp2
  obtain ⟨gf', lb', e', heg, hseq⟩ := HG.out
  cases e'
  refine (wpIn_wide (n := 12)).1 ?_
  refine' wpIn_rangeN rfl (by omega) (gf := gf) (lb := lb) rfl trivial heg (hseq (12 - 1) (by omega) _) Mid.trans (midK_b (Nat.le_refl _)) (fun W o h => h.alloc (Nat.le_refl _) o) (Mid.refl _ _ _) (fun _ => rfl)
    (fun pre W => Below w3.heap.size w3 W ∧ (pre.map Prod.snd).all (fun m => mkT m zs) = true)
    (fun c pre W => (c = .ret ∧ entB n css zs = false) ∧ W.cell? ⟨w.heap.size + 1 + 1, 0, none⟩ = some (.bool false) ∧ W.cell? ⟨w.heap.size + 1 + 1 + 1, 0, none⟩ = some (.int .i64 0) ∧ Below w.heap.size w W)
    (fun s A B row hs hg hr => ⟨own_below (β := Unit) (C := w3.heap.size) (Nat.le_refl _) (Nat.le_refl _) () A B row hs.1 hg hr, hs.2⟩)
    (fun s A B h hg => ⟨below_grown h.1 hg h.1.size (fun r e => by cases e; omega), h.2⟩)
    (fun c s A B row hs hg hr => ⟨hs.1, cell_kept hs.2.1 hg (fun r e => (hr r e).2), cell_kept hs.2.2.1 hg (fun r e => (hr r e).2), own_below (β := Unit) (C := w3.heap.size) (by omega) (Nat.le_refl _) () A B row hs.2.2.2 hg hr⟩)
    (fun m pre => VB.own _ _ _ pre)
    ⟨Below.refl _ _, rfl⟩
    _ ?assign ?body ?done ?stop
  case assign =>
    intro l x W K hK
    gi_wp2
    exact hK
  case body =>
    rintro l pre ⟨xv, xm⟩ S0 W ⟨h1, h2⟩ hsz hS0 hV
    have hrdb : RdB W xv xm := hV.rd
    have hpx := hV.1
    have hmem : xm ∈ modF n css := hpx.subset (by simp)
    have hlen := HML.out xm hmem
    have hfm : fitsP xm.length zs = true := by rw [hlen]; exact HFit.out
    have EW : Hid (EB w n (.slice a css.length c) css (.slice az zs.length cz) zs (.bool false) (.int .i64 0) W) := HX3.out.on h1
    have d1 := EW.out.cc.c
    have f2 := EW.out.rb.f
    have f3 := EW.out.re.f
    have g2 := EW.out.rb.c
    have g3 := EW.out.re.c
    obtain ⟨am, cm, rfl, -⟩ := hrdb.form
    have HC : Hid (Calls Tryd.prog 40 #[.slice am xm.length cm, .slice az zs.length cz] W fun e w' => e = .returned (.bool (mkT xm zs)) ∧ w' = W) := makesTrue_any _ _ xm zs W hrdb EW.out.rd hfm
    have hsW := h1.size
    cases hq : mkT xm zs
    · have HNo : Hid (entB n css zs = false) := by
        show entB n css zs = false
        rw [HE.out.2]
        exact List.all_eq_false.2 ⟨xm, hmem, by simp [hq]⟩
      rw [hq] at HC
      have h1' := h1
      clear hV hpx hmem hlen hfm hrdb h2
      gi_wp2_with fail
      refine ⟨trivial, ?_⟩
      refine ((callsIn_wide.2 HC.out).inRound l).mono ?_
      rintro e w9 ⟨rfl, rfl⟩
      obtain ⟨o1, o2, -, -, o3⟩ := EW.out.out false 0
      gi_wp2
      exact ⟨(KeepsOthers.setCell _ _ _).trans (KeepsOthers.setCell _ _ _), ⟨rfl, HNo.out⟩, o1, o2, o3⟩
    · have HYes : Hid (((pre ++ [((.slice am xm.length cm, xm) : Itb)]).map Prod.snd).all (fun m => mkT m zs) = true) := by
        show _ = _
        rw [List.map_append, List.all_append, h2]; simp [hq]
      rw [hq] at HC
      clear hV hpx hmem hlen hfm hrdb h2
      gi_wp2_with fail
      refine ⟨trivial, ?_⟩
      refine ((callsIn_wide.2 HC.out).inRound l).mono ?_
      rintro e w9 ⟨rfl, rfl⟩
      gi_wp2
      exact ⟨KeepsOthers.refl _, ⟨Mid.refl _ _ _, rfl⟩, h1, HYes.out⟩
  case done =>
    rintro D xs W hD hS ⟨h1, h2⟩ hK
    rw [hS] at h2
    have EW : Hid (EB w n (.slice a css.length c) css (.slice az zs.length cz) zs (.bool false) (.int .i64 0) W) := HX3.out.on h1
    have f2 := EW.out.rb.f
    have f3 := EW.out.re.f
    have g2 := EW.out.rb.c
    have g3 := EW.out.re.c
    obtain ⟨o1, o2, -, -, o3⟩ := EW.out.out true 0
    go_wp2
    have hK' := ((KeepsOthers.setCell W ⟨w.heap.size + 1 + 1, 0, none⟩ (.bool true)).trans (KeepsOthers.setCell _ ⟨w.heap.size + 1 + 1 + 1, 0, none⟩ (.int .i64 0))).same D _ hK rfl
    refine ⟨by simp, .inl ⟨_, _, rfl, run_takeDeferred hK', ?_⟩⟩
    have k1 := cell_kept o1 (grownBy_putObj' _ D (.deferred none)) (fun r e => by cases e; exact ⟨_, hK', rfl⟩)
    have k2 := cell_kept o2 (grownBy_putObj' _ D (.deferred none)) (fun r e => by cases e; exact ⟨_, hK', rfl⟩)
    exact ⟨_, res_cells rfl rfl rfl k1 k2, by rw [HE.out.1, HE.out.2, h2], o3.trans (belowK_b (w := w) (Nat.le_refl _) _ D _ _ (by omega) hK' rfl rfl)⟩
  case stop =>
    rintro D c pre W hD hSp ⟨⟨rfl, hE⟩, h2, h3, h4⟩ hK
    gi_wp2
    refine ⟨by simp, .inl ⟨_, _, rfl, run_takeDeferred hK, ?_⟩⟩
    have k1 := cell_kept h2 (grownBy_putObj' _ D (.deferred none)) (fun r e => by cases e; exact ⟨_, hK, rfl⟩)
    have k2 := cell_kept h3 (grownBy_putObj' _ D (.deferred none)) (fun r e => by cases e; exact ⟨_, hK, rfl⟩)
    exact ⟨_, res_cells rfl rfl rfl k1 k2, by rw [HE.out.1, hE], h4.trans (belowK_b (w := w) (Nat.le_refl _) _ D _ _ (by omega) hK rfl rfl)⟩

end Go.Proofs.YtfklgfdkpmfdnaaDoor

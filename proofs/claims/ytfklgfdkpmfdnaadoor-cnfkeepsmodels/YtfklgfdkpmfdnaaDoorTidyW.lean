/-
  Tidy, walked.
-/
import Derived.Test.YtfklgfdkpmfdnaaDoorSpell
import Derived.Test.YtfklgfdkpmfdnaaDoorGrow
import Derived.Test.YtfklgfdkpmfdnaaDoorFormAns
import Derived.Test.YtfklgfdkpmfdnaaDoorPlainRef
import Derived.Maps.Own
import Derived.Maps.OwnOps
set_option linter.unusedSimpArgs false
set_option linter.unusedVariables false
namespace Go.Proofs.YtfklgfdkpmfdnaaDoor
open Go.RowKit Go.Maps

theorem lawS : Keyed Tryd.prog 9 := string_keyed Tryd.underlying9
theorem zeroUnit (w : World) : (zeroValue 76).run Tryd.prog w = .ok (.agg #[]) w := by kernel_rfl
theorem row_offT {base e s : Nat} {w w' : World} {v : Value} {n b : Nat} {xs : List Value} (h : w.ownsRow base e s v n xs) (hg : w.grownBy w' (some b)) (hb : ∃ o : Obj, w.heap[b]? = some o ∧ o.isCells = false) : w'.ownsRow base e s v n xs := by
  refine ⟨h.1, ?_⟩
  rcases h.2 with hn | ⟨g, cap, cur, hv, hb', hh, r⟩
  · exact .inl hn
  · refine .inr ⟨g, cap, cur, hv, hb', ?_, r⟩
    rw [hg.block g (Array.getElem?_eq_some_iff.1 hh).1 (fun e => ?_)]
    · exact hh
    · obtain ⟨o, ho, hc⟩ := hb
      cases e
      rw [hh] at ho; cases ho; cases hc
theorem map_obj {w : World} {k : TypeId} {b n : Nat} {D : DataW Unit} (h : w.ownsMap Tryd.prog k unitElem b n D) : ∃ o : Obj, w.heap[b]? = some o ∧ o.isCells = false := by
  obtain ⟨es, cl, hh, _⟩ := h
  exact ⟨_, hh, rfl⟩
theorem map_not_row {w : World} {k : TypeId} {b n : Nat} {D : DataW Unit} (h : w.ownsMap Tryd.prog k unitElem b n D) {base e s m : Nat} {v : Value} {xs : List Value} (hr : w.ownsRow base e s v m xs) : some b ≠ v.ownBlock := fun e => by
  obtain ⟨o, ho, hc⟩ := map_obj h
  rcases hr.2 with ⟨rfl, _⟩ | ⟨g, cap, cur, rfl, _, hh, _⟩
  · cases e
  · cases e
    rw [hh] at ho; cases ho; cases hc
theorem map_app {w w7 : World} {o : Obj} {k : TypeId} {b n : Nat} {D : DataW Unit} (h : w.ownsMap Tryd.prog k unitElem b n D) {base e s m : Nat} {v : Value} {xs : List Value} (hr : w.ownsRow base e s v m xs) (hg : (w.alloc o).grownBy w7 v.ownBlock) : w7.ownsMap Tryd.prog k unitElem b n D :=
  (World.ownsMap.alloc h o).kept hg (map_not_row (World.ownsMap.alloc h o) (World.ownsRow.alloc hr o))
theorem Bd.turn {Wp : World} {n : Int} {W W' : World} {rv : Value} {L : List Cls} {b : Nat} (h : Bd Wp n W rv L) (hg : W.grownBy W' (some b)) (hb : ∃ o : Obj, W.heap[b]? = some o ∧ o.isCells = false) (hWb : Wp.heap.size ≤ b) : Bd Wp n W' rv L :=
  ⟨h.bel.grown hg h.bel.size (fun k e => by cases e; exact hWb), h.box.kept hg (fun e => by cases e; obtain ⟨o, ho, hc⟩ := hb; rw [show W.heap[Wp.heap.size]? = _ from h.box] at ho; cases ho; cases hc),
    ⟨row_offT h.own.row hg hb, fun x hx => row_offT (h.own.own x hx) hg hb, h.own.ap⟩⟩
theorem Bd.app2 {Wp : World} {n : Int} {W w1 : World} {rv rv' u : Value} {L : List Cls} {z : List Int} {o : Obj} (h1 : Bd Wp n W rv L) (hu' : Own Wp.heap.size W u z) (hap : ApartC (L ++ [(u, z)]))
    (own' : w1.ownsRow Wp.heap.size 31 1 rv' (L.length + 1) (L.map Prod.fst ++ [u])) (hg : (W.alloc o).grownBy w1 rv.ownBlock) :
    Bx2 w1 Wp.heap.size 24 (.int .i64 n) rv ∧ Bd Wp n (w1.setCell ⟨Wp.heap.size, 1, none⟩ rv') rv' (L ++ [(u, z)]) := by
  have ga := World.grownBy_alloc W o none
  have bxa := h1.box.kept ga (by simp)
  have rowa := World.ownsRow.kept h1.own.row ga (one_or _)
  have bx1 := bxa.kept hg (bxa.not_row (by decide) rowa)
  have sW : Wp.heap.size ≤ W.heap.size := h1.bel.size
  have R1 := h1.own.app ga own' hg hu' hap
  refine ⟨bx1, ⟨?_, bx1.set1 rv', R1.set bx1 (by decide) (by decide) 1 rv'⟩⟩
  exact ((h1.bel.alloc sW o).grown hg (Nat.le_trans sW ga.size) (fun b e => (World.ownsRow.lt rowa b e).1)).setCell (p := ⟨Wp.heap.size, 1, none⟩) (Nat.le_refl _) _
theorem tid_twice (z : List Int) : tid (tid z) = tid z := tid_id (tid_rising z) tid_fmd
theorem key_of (t : List Int) (h : (textOf t).length ≤ maxLen) : keyOf Tryd.prog 9 (.string ⟨(textOf t).toArray⟩) = some (.string (textOf t)) := by
  have := Go.WideMaps.keyOf_string_mk (P := Tryd.prog) Tryd.underlying9 (s := ⟨(textOf t).toArray⟩) (by show (textOf t).toArray.size ≤ _; simpa using h)
  simpa using this

set_option maxHeartbeats 3200000 in
set_option maxRecDepth 100000 in
theorem cnfTidy_any (n : Int) (s : Value) (css : List (List Int)) (w : World) (hr : Rds w s css) (ht : Tens w) :
    Calls Tryd.prog 33 #[.agg #[.int .i64 n, s]] w fun e w' => ∃ s', e = .returned (.tuple #[.agg #[.int .i64 (tdF n css).1, s'], .int .i64 (tdF n css).2.2]) ∧ OwnF w.heap.size w' s' (tdF n css).2.1 ∧ Below w.heap.size w w' := by
  have HX : Hid (En w n s css ((w.alloc (.cells #[.int .i64 n, s] 24)).alloc (.cells #[.int .i64 0, .slice none 0 0] 24))) := En.new hr
  have HT : Hid (Tens ((w.alloc (.cells #[.int .i64 n, s] 24)).alloc (.cells #[.int .i64 0, .slice none 0 0] 24))) := Tens.below (Tens.below ht (below_box _ _)) (below_box _ _)
  have hmm := @run_makeMap Tryd.prog
  clear hr ht
  cases hf : frm n css
  case false =>
    have HU : Hid (tdF n css = (0, [], 1)) := by unfold tdF Hid; rw [hf]; rfl
    go_enter Tryd.func33, Tryd.ntmps33
    go_wp2_with fail
    generalize (w.alloc (.cells #[.int .i64 n, s] 24)).alloc (.cells #[.int .i64 0, .slice none 0 0] 24) = W0 at *
    refine (cnfFormed_any n s css _ HX.out.bx.rd).mono ?_
    rw [hf]
    rintro e w1 ⟨rfl, bel1⟩
    have HX1 : Hid (En w n s css w1) := HX.out.on bel1
    have a0 := HX1.out.ans.c0
    have a1 := HX1.out.ans.c1
    have f0 := HX1.out.ans.f0
    have f1 := HX1.out.ans.f1
    clear HX HT bel1
    go_wp2
    try simp only [Exit.inBlock, Exit.then]
    refine bodyPost_ret (ret_form rfl rfl ((HX1.out.ans.set0 _).set1 _)) rfl ?_
    exact ⟨_, by rw [HU.out]; rfl, by rw [HU.out]; exact OwnF.nil _ _, below_set (below_set HX1.out.bx.bel (by omega) _ _) (by omega) _ _⟩
  have HU : Hid (tdF n css = (n, tdK css css.length, 0)) := by unfold tdF Hid; rw [hf]; rfl
  obtain ⟨il, hil, hzl0, hzl1, hzl2⟩ := info_parts infoR
  have hlc := HX.out.bx.rd.len
  obtain ⟨sa, sc, rfl, hcs, hms, _⟩ := HX.out.bx.rd.form
  go_enter Tryd.func33, Tryd.ntmps33
  go_wp2_with fail
  generalize (w.alloc (.cells #[.int .i64 n, .slice sa css.length sc] 24)).alloc (.cells #[.int .i64 0, .slice none 0 0] 24) = W0 at *
  refine (cnfFormed_any n _ css _ HX.out.bx.rd).mono ?_
  rw [hf]
  rintro e w1 ⟨rfl, bel1⟩
  have HX1 : Hid (En w n (.slice sa css.length sc) css w1) := HX.out.on bel1
  have HT1 : Hid (Tens w1) := Tens.below HT.out bel1
  clear HX HT bel1 hf
  have c0 := HX1.out.bx.c0
  have HX3 : Hid (En w n (.slice sa css.length sc) css ((w1.alloc (.cells #[.int .i64 n, .slice none 0 0] 24)).alloc (.map #[] 0))) := (HX1.out.on (below_box _ _)).on (below_box _ _)
  have c1 := HX3.out.bx.c1
  have HM3 : Hid (((w1.alloc (.cells #[.int .i64 n, .slice none 0 0] 24)).alloc (.map #[] 0)).ownsMap Tryd.prog 9 unitElem (w1.heap.size + 1) 0 (setX (tdK css 0))) := by
    have := World.ownsMap_made (H := Unit) (w1.alloc (.cells #[.int .i64 n, .slice none 0 0] 24)) Tryd.prog 9 unitElem
    rw [World.size_alloc] at this
    show World.ownsMap _ _ _ _ _ _ (setX [])
    rw [setX_nil]; exact this
  have HB3 : Hid (Bd w1 n ((w1.alloc (.cells #[.int .i64 n, .slice none 0 0] 24)).alloc (.map #[] 0)) (.slice none 0 0) []) := (Bd.start w1 n).on (below_box _ _)
  go_wp2
  clear c0 c1
  go_loopg [22] css.length (fun g i wq => ∃ (k : Nat) (L : List Cls) (rv : Value), k + g = css.length ∧ i = .int .i64 k ∧ L.length ≤ k ∧ L.map Prod.snd = tdK css k ∧ Hid (Bd w1 n wq rv L) ∧ Hid (wq.ownsMap Tryd.prog 9 unitElem (w1.heap.size + 1) k (setX (tdK css k))))
  case atStart => exact ⟨0, [], _, by omega, rfl, Nat.le_refl _, by simp [tdK], HB3, HM3⟩
  case round =>
    obtain ⟨k, L, rv, hk, rfl, hLk, hL, HB, HM⟩ := hrel
    have HK : Hid (k + gk = css.length) := hk
    have HL : Hid (L.map Prod.snd = tdK css k) := hL
    have HXq : Hid (En w n (.slice sa css.length sc) css wr) := HX1.out.on HB.out.bel
    have HTq : Hid (Tens wr) := Tens.below HT1.out HB.out.bel
    have sz := HB.out.bel.size
    clear hL HX3 HM3 HB3
    by_cases hlt : k < css.length
    · obtain ⟨b, off, u, rfl, hck, hu0⟩ := HXq.out.bx.at hlt
      have HUq : Hid (Rd wr u (css.getD k [])) := hu0
      have HS : Hid (tdK css (k + 1) = if adj (tid (css.getD k [])) || (tdK css k).contains (tid (css.getD k [])) then tdK css k else tdK css k ++ [tid (css.getD k [])]) := rfl
      obtain ⟨_, ua, uc, hu, _⟩ := hu0
      clear hk
      generalize css.getD k [] = z at *
      subst hu
      have htl := tid_len z
      have htx := textOf_len (tid z) tid_fmd
      have hkey : keyOf Tryd.prog 9 (.string ⟨(textOf (tid z)).toArray⟩) = some (.string (textOf (tid z))) := key_of _ (by unfold maxLen; omega)
      have HKY : Hid (keyOf Tryd.prog 9 (.string ⟨(textOf (tid z)).toArray⟩) = some (.string (textOf (tid z)))) := hkey
      have HHAS : Hid (Maps.has (setX (tdK css k)) (.string (textOf (tid z))) = (tdK css k).contains (tid z)) := has_setX _ _
      have HSN : Hid (setX (tdK css k ++ [tid z]) = (setX (tdK css k)).put (.string (textOf (tid z))) (.agg [])) := setX_snoc _ _
      have HFM : Hid (∀ x ∈ tid z, fmd x = true) := tid_fmd
      clear hkey
      go_wp2_with fail
      refine (tidy_any _ z wr HUq.out).mono ?_
      rintro e w2 ⟨v2, rfl, own2, bel2⟩
      have O2 : Hid (Own wr.heap.size w2 v2 (tid z)) := own2
      have R2 : Hid (Rd w2 v2 (tid z)) := own2.rd (tid8 z)
      have B2 : Hid (Bd w1 n w2 rv L) := HB.out.on bel2
      have M2 : Hid (w2.ownsMap Tryd.prog 9 unitElem (w1.heap.size + 1) k (setX (tdK css k))) := World.ownsMap.kept HM.out (grown_below bel2) (by simp)
      have T2 : Hid (Tens w2) := Tens.below HTq.out bel2
      clear own2 bel2
      go_wp2_with fail
      refine (taut_any v2 (tid z) w2 R2.out).mono ?_
      rw [tid_twice]
      rintro e w3 ⟨rfl, bel3⟩
      have B3 : Hid (Bd w1 n w3 rv L) := B2.out.on bel3
      have M3 : Hid (w3.ownsMap Tryd.prog 9 unitElem (w1.heap.size + 1) k (setX (tdK css k))) := World.ownsMap.kept M2.out (grown_below bel3) (by simp)
      cases hadj : adj (tid z)
      case true =>
        have HS2 : Hid (tdK css (k + 1) = tdK css k) := by have := HS.out; rw [hadj] at this; exact this
        clear bel3
        go_wp2
        go_roundg (gk - 1)
        case measure => have := HK.out; omega
        case rel => exact ⟨k + 1, L, rv, by have := HK.out; omega, by go_num, by omega, by rw [HS2.out]; exact HL.out, B3, by rw [HS2.out]; exact World.ownsMap.mono M3.out (Nat.le_succ _)⟩
      have T3 : Hid (Tens w3) := Tens.below T2.out bel3
      have R3 : Hid (Rd w3 v2 (tid z)) := R2.out.below bel3
      have O3 : Hid (Own wr.heap.size w3 v2 (tid z)) := O2.out.below bel3
      clear bel3 R2 O2 B2 M2 T2
      go_wp2_with fail
      refine (spell_any v2 (tid z) w3 R3.out HFM.out htl T3.out).mono ?_
      rintro e w4 ⟨rfl, bel4⟩
      have B4 : Hid (Bd w1 n w4 rv L) := B3.out.on bel4
      have M4 : Hid (w4.ownsMap Tryd.prog 9 unitElem (w1.heap.size + 1) k (setX (tdK css k))) := World.ownsMap.kept M3.out (grown_below bel4) (by simp)
      have O4 : Hid (Own wr.heap.size w4 v2 (tid z)) := O3.out.below bel4
      clear bel4 R3 O3 B3 M3 T3
      obtain ⟨a2, c2, hv2⟩ := own_form O4.out
      subst hv2
      have s4 := B4.out.bel.size
      cases hc : (tdK css k).contains (tid z)
      case true =>
        have HS2 : Hid (tdK css (k + 1) = tdK css k) := by have := HS.out; rw [hadj, hc] at this; exact this
        rw [hc] at HHAS
        go_wp2_with (at_lookup; refine wpList_lookup_own_unit _ rfl _ _ 73 rfl 9 76 lawS Tryd.underlying73 (zeroUnit _) (w1.heap.size + 1) k (setX (tdK css k)) rfl M4.out _ _ rfl HKY.out ?_; rw [HHAS.out])
        go_roundg (gk - 1)
        case measure => have := HK.out; omega
        case rel => exact ⟨k + 1, L, rv, by have := HK.out; omega, by go_num, by omega, by rw [HS2.out]; exact HL.out, B4.out.on (below_box _ _), by rw [HS2.out]; exact (World.ownsMap.mono M4.out (Nat.le_succ _)).alloc _⟩
      have HS2 : Hid (tdK css (k + 1) = tdK css k ++ [tid z]) := by have := HS.out; rw [hadj, hc] at this; exact this
      rw [hc] at HHAS
      have HAP : Hid (ApartC (L ++ [(.slice a2 (tid z).length c2, tid z)])) := ApartC.snoc HB.out.own.ap HB.out.own.own O4.out (Nat.le_refl _)
      have tok1 : True := trivial
      go_wp2_with (first | (at_lookup; refine wpList_lookup_own_unit _ rfl _ _ 73 rfl 9 76 lawS Tryd.underlying73 (zeroUnit _) (w1.heap.size + 1) k (setX (tdK css k)) rfl M4.out _ _ rfl HKY.out ?_; rw [HHAS.out]) | (at_mapUpdate; refine wpList_mapUpdate_own _ rfl _ _ _ 73 rfl 9 76 lawS Tryd.underlying73 (unitElem (H := Unit)) (w1.heap.size + 1) k _ rfl (M4.out.alloc _) (by unfold maxLen; omega) _ _ _ rfl rfl HKY.out _ [] unitElem_mk ?_; intro w6 own6 gr6; have M6 : Hid (w6.ownsMap Tryd.prog 9 unitElem (w1.heap.size + 1) (k + 1) ((setX (tdK css k)).put (.string (textOf (tid z))) (.agg []))) := own6; have B6 : Hid (Bd w1 n w6 rv L) := (B4.out.on (below_box _ _)).turn gr6 (map_obj (M4.out.alloc _)) (Nat.le_succ _); have O6 : Hid (Own wr.heap.size w6 (.slice a2 (tid z).length c2) (tid z)) := row_offT (O4.out.below (below_box _ _)) gr6 (map_obj (M4.out.alloc _)); have s6 := B6.out.bel.size; have e0 := B6.out.box.c0; have e1 := B6.out.box.c1; clear own6 gr6; refine Hid.out ?_))
      refine Lib.hid ?_
      go_wp2_with (at_builtin; refine wpList_append_own _ rfl _ _ 22 rfl w1.heap.size 31 il (.slice none 0 0) 1 24 Tryd.underlying22 hil hzl0 hzl1 hzl2 rfl (by decide) _ L.length (L.map Prod.fst) rfl (B6.out.row_alloc _) _ 1 1 [.slice a2 (tid z).length c2] rfl rfl (cell_one_new _ _ _) (by simp [Value.oneCell']) (by unfold maxLen; omega) (by omega) (by simp; omega) ?_; intro v7 w7 own7 gr7 hn7; refine Hid.out ?_)
      refine Lib.hid ?_
      obtain ⟨a7, c7, hv7⟩ := row_form own7
      subst hv7
      have A7 : Hid (Bx2 w7 w1.heap.size 24 (.int .i64 n) rv ∧ Bd w1 n (w7.setCell ⟨w1.heap.size, 1, none⟩ (.slice a7 (L.length + 1) c7)) (.slice a7 (L.length + 1) c7) (L ++ [(.slice a2 (tid z).length c2, tid z)])) := B6.out.app2 (O6.out.mono sz) HAP.out own7 gr7
      have M7 : Hid (w7.ownsMap Tryd.prog 9 unitElem (w1.heap.size + 1) (k + 1) ((setX (tdK css k)).put (.string (textOf (tid z))) (.agg []))) := map_app M6.out B6.out.own.row gr7
      have g0 := A7.out.1.c0
      have g1 := A7.out.1.c1
      have g2 := A7.out.1.f1
      clear own7 gr7 hn7
      go_wp2
      go_roundg (gk - 1)
      case measure => have := HK.out; omega
      case rel => exact ⟨k + 1, L ++ [(Value.slice a2 (tid z).length c2, tid z)], Value.slice a7 (L.length + 1) c7, by have := HK.out; omega, by go_num, by simp; omega, by rw [HS2.out, List.map_append, HL.out]; rfl, A7.out.2, by rw [HS2.out, HSN.out]; exact World.ownsMap.setCell M7.out (by simp) _⟩
    · obtain rfl : k = css.length := by omega
      have p0 := HXq.out.ans.c0
      have p1 := HXq.out.ans.c1
      have p2 := HXq.out.ans.f0
      have p3 := HXq.out.ans.f1
      have d0 := HB.out.box.c0
      have d1 := HB.out.box.c1
      have HWz : Hid (w.heap.size ≤ w1.heap.size) := HX1.out.bx.bel.size
      obtain ⟨ar, cr, hrv⟩ := row_form HB.out.own.row
      subst hrv
      clear hk
      go_wp2
      try simp only [Exit.inBlock, Exit.then]
      refine bodyPost_ret (ret_form rfl rfl ((HXq.out.ans.set0 _).set1 _)) rfl ?_
      refine ⟨.slice ar L.length cr, by rw [HU.out]; rfl, ?_, below_set (below_set HXq.out.bx.bel (by omega) _ _) (by omega) _ _⟩
      rw [HU.out]
      have F0 : OwnF w.heap.size wr (.slice ar L.length cr) (tdK css css.length) := ⟨L, HB.out.own.mono HWz.out, HL.out⟩
      exact (F0.set HXq.out.ans (by decide) (by decide) _ _).set (HXq.out.ans.set0 _) (by decide) (by decide) _ _

end Go.Proofs.YtfklgfdkpmfdnaaDoor

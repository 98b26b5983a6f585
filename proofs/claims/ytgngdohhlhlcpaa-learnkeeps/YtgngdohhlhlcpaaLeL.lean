/-
  depotkit.LentEntries, walked.
  KEEP: set on app at below new trans refl start ap kept rd rds mono lt add none own nil put len pos setF setV putL putR other neV same_any row box
-/
import Derived.Test.YtgngdohhlhlcpaaLeW
set_option linter.unusedSimpArgs false
set_option linter.unusedVariables false
namespace Go.Proofs.Ytgngdohhlhlcpaa
open Go Go.RowKit

theorem three_newE (w : World) (x y z : Value) (t : TypeId) : ∀ j u, [x, y, z][j]? = some u → (w.alloc (.cells #[x, y, z] t)).cell? ((⟨w.heap.size, 0, none⟩ : Addr).add j) = some u := cell_three_new w x y z t
set_option maxRecDepth 100000 in
set_option maxHeartbeats 6400000 in
theorem lentEntries_any (v : Value) (t : List Ent) (w : World) (hr : RdE w v t) (hb : t.length ≤ 1073741824) :
    Calls Try.prog 4 #[v] w fun e w' => ∃ vi vw vr L, e = .returned (.agg #[vi, vw, vr]) ∧ Lf w w' vi vw vr t L := by
  have HR : Hid (RdE w v t ∧ t.length ≤ 1073741824) := ⟨hr, hb⟩
  obtain ⟨a, c, rfl, h1, h2, hAT⟩ := hr.form
  have HAT : Hid (∀ (k : Nat), k < t.length → ∃ bb off u cu, a = some ⟨bb, off, none⟩ ∧ ∀ W, Below w.heap.size w W → W.cell? ⟨bb, off + k * 3, none⟩ = some (.int .i64 (t.getD k e0).1) ∧ W.cell? ⟨bb, off + k * 3 + 1, none⟩ = some (.int .i64 (t.getD k e0).2.1) ∧ W.cell? ⟨bb, off + k * 3 + 2, none⟩ = some (.slice u (t.getD k e0).2.2.length cu) ∧ Rd W (.slice u (t.getD k e0).2.2.length cu) (t.getD k e0).2.2) := fun k hk => by
    obtain ⟨bb, off, u, e, kl, k0, k1, k2, hrd⟩ := hAT k hk
    obtain ⟨au, cu, eu, -, -, -⟩ := hrd.form
    subst eu
    exact ⟨bb, off, au, cu, e, fun W hW => ⟨(hW.cell (p := ⟨bb, off + k * 3, none⟩) kl).trans k0, (hW.cell (p := ⟨bb, off + k * 3 + 1, none⟩) kl).trans k1, (hW.cell (p := ⟨bb, off + k * 3 + 2, none⟩) kl).trans k2, hrd.below hW⟩⟩
  obtain ⟨il, hil, hzl0, hzl1, hzl2⟩ := info_parts infoLe
  have HIl : Hid (Try.prog.info? 23 = some il ∧ il.zero = some (.slice none 0 0) ∧ il.size = 1 ∧ il.bytes = 24) := ⟨hil, hzl0, hzl1, hzl2⟩
  obtain ⟨ie, hie, hze0, hze1, hze2⟩ := info_parts infoE
  have HIe : Hid (Try.prog.info? 47 = some ie ∧ ie.zero = some (.agg #[.int .i64 0, .int .i64 0, .slice none 0 0]) ∧ ie.size = 3 ∧ ie.bytes = 40) := ⟨hie, hze0, hze1, hze2⟩
  have H0 : Hid (Es1 w ((w.alloc (.cells #[.slice none 0 0, .slice none 0 0, .slice none 0 0] 28)).alloc (.cells #[.slice none 0 0, .slice none 0 0, .slice none 0 0] 28)) (.slice none 0 0) (.slice none 0 0) [] []) := by
    refine ⟨?_, ?_, Le.nil _ _, Below.step (below_box _ _) (below_box _ _)⟩
    · have := World.alloc_heap_new (w.alloc (.cells #[.slice none 0 0, .slice none 0 0, .slice none 0 0] 28)) (.cells #[.slice none 0 0, .slice none 0 0, .slice none 0 0] 28)
      rw [World.size_alloc] at this
      exact this
    · exact Bt3.below (World.alloc_heap_new w _) (below_box _ _)
  clear hr hAT hil hzl0 hzl1 hzl2 hie hze0 hze1 hze2
  go_enter Try.func4, Try.ntmps4
  go_wp2
  generalize (w.alloc (.cells #[.slice none 0 0, .slice none 0 0, .slice none 0 0] 28)).alloc (.cells #[.slice none 0 0, .slice none 0 0, .slice none 0 0] 28) = W0 at *
  go_loopg [4, 5] t.length (fun q i' r' wr => ∃ (k : Nat) (vw vr : Value) (L : List Cls), k + q = t.length ∧ i' = .int .i64 k ∧ Es1 w wr vw vr L (enW (t.take k) L) ∧ L.map Prod.snd = (t.take k).map (fun e => e.2.2 ++ m64))
  case atStart => exact ⟨0, _, _, [], by omega, rfl, H0.out, by simp⟩
  case round =>
    obtain ⟨k, vw, vr, L, hk, rfl, hls, hL⟩ := hrel
    have HK : Hid (k + gk = t.length) := hk
    have HL : Hid (Es1 w wr vw vr L (enW (t.take k) L) ∧ L.map Prod.snd = (t.take k).map (fun e => e.2.2 ++ m64)) := ⟨hls, hL⟩
    have HLl : Hid (L.length = k) := by
      have h5 := congrArg List.length hL
      simp only [List.length_map, List.length_take] at h5
      show L.length = k
      omega
    clear hls hL hk
    by_cases hlt : k < t.length
    · obtain ⟨bb, off, au, cu, rfl, hcr⟩ := HAT.out k hlt
      obtain ⟨k0, k1, k2, hrd⟩ := hcr wr HL.out.1.b
      have HTk : Hid ((t.take (k + 1)).map (fun e => e.2.2 ++ m64) = (t.take k).map (fun e => e.2.2 ++ m64) ++ [(t.getD k e0).2.2 ++ m64]) := by
        show _ = _
        rw [take_succ_getD t e0 k hlt, List.map_append]; rfl
      have HEs : Hid (∀ cc : Cls, enW (t.take (k + 1)) (L ++ [cc]) = enW (t.take k) L ++ [((t.getD k e0).1, (t.getD k e0).2.1, cutE cc)]) := fun cc => enW_snoc hlt HLl.out cc
      have HEl0 : Hid ((enW (t.take k) L).length = L.length) := by
        show _ = _
        have h9 := enW_len (t := t.take k) (L := L) (by rw [List.length_take]; have := HLl.out; omega)
        rw [h9, List.length_take]
        have := HLl.out; omega
      have hzl := hrd.len
      have HLT : Hid (k < t.length) := hlt
      have HLent : Hid (Calls Try.prog 5 #[.slice au (t.getD k e0).2.2.length cu] wr fun e w' => ∃ v', e = .returned v' ∧ Own wr.heap.size w' v' ((t.getD k e0).2.2 ++ m64) ∧ Below wr.heap.size wr w') := lent_any _ _ wr hrd
      have HKc : Hid (∀ W, Below w.heap.size w W → W.cell? ⟨bb, off + k * 3, none⟩ = some (.int .i64 (t.getD k e0).1) ∧ W.cell? ⟨bb, off + k * 3 + 1, none⟩ = some (.int .i64 (t.getD k e0).2.1) ∧ W.cell? ⟨bb, off + k * 3 + 2, none⟩ = some (.slice au (t.getD k e0).2.2.length cu)) := fun W hW => ⟨(hcr W hW).1, (hcr W hW).2.1, (hcr W hW).2.2.1⟩
      clear hcr hrd k0 k1
      generalize (t.getD k e0).2.2 = z at *
      generalize (t.getD k e0).2.1 = lv at *
      generalize (t.getD k e0).1 = lt at *
      generalize enW (t.take k) L = E at *
      go_wp2_with fail
      refine Calls.mono HLent.out ?_
      rintro e w1 ⟨v1, rfl, own1, bel1⟩
      have HSm := row_some own1 (by rw [m64_app_lenE]; omega)
      obtain ⟨a1, c1, e1⟩ := own_form own1
      rw [m64_app_lenE] at e1
      have hc1 : z.length + 64 ≤ c1 := by
        obtain ⟨g', c', e', h5, -, -⟩ := HSm
        rw [e1] at e'
        injection e' with _ _ e3
        rw [m64_app_lenE] at h5
        omega
      clear HSm
      have hzc : z.length ≤ c1 := by omega
      subst e1
      have H1 : Hid (Es1 w w1 vw vr L E ∧ Own w.heap.size w1 (.slice a1 (z.length + 64) c1) (z ++ m64) ∧ ApartC (L ++ [(.slice a1 (z.length + 64) c1, z ++ m64)])) := ⟨HL.out.1.below bel1, own1.mono HL.out.1.b.size, ApartC.snoc HL.out.1.l.r.ap HL.out.1.l.r.own own1 (Nat.le_refl _)⟩
      have x2 := H1.out.1.x.c2
      obtain ⟨ar, cr, er⟩ := row_form H1.out.1.l.r.row
      subst er
      have HRa : Hid ((w1.alloc (.cells #[.slice a1 (z.length + 64) c1] 23)).ownsRow w.heap.size 23 1 (.slice ar L.length cr) L.length (L.map Prod.fst)) := World.ownsRow.alloc H1.out.1.l.r.row _
      have HNa : Hid (∀ j y, [Value.slice a1 (z.length + 64) c1][j]? = some y → (w1.alloc (.cells #[.slice a1 (z.length + 64) c1] 23)).cell? ((⟨w1.heap.size, 0, none⟩ : Addr).add j) = some y) := one_newE w1 _ _
      have HSa : Hid (w.heap.size ≤ (w1.alloc (.cells #[.slice a1 (z.length + 64) c1] 23)).heap.size) := Nat.le_trans H1.out.1.b.size (below_box _ _).size
      have hLb : L.length ≤ 1073741824 := by have := HLl.out; have := HLT.out; have := HR.out.2; omega
      have hl63 : L.length + 1 ≤ maxLen := by unfold maxLen; omega
      have hl48 : (L.length + 1) * 24 ≤ 140737488355328 := by omega
      have he63 : E.length + 1 ≤ maxLen := by have := HEl0.out; unfold maxLen; omega
      have he48 : (E.length + 1) * 40 ≤ 140737488355328 := by have := HEl0.out; omega
      have HAr : Hid (∀ v5 w5, w5.ownsRow w.heap.size 23 1 v5 (L.length + 1) (L.map Prod.fst ++ [.slice a1 (z.length + 64) c1]) → (w1.alloc (.cells #[.slice a1 (z.length + 64) c1] 23)).grownBy w5 (Value.slice ar L.length cr).ownBlock → w5.cell? ⟨w.heap.size + 1, 2, none⟩ = some (.slice ar L.length cr) ∧ w5.frozen? ⟨w.heap.size + 1, 2, none⟩ = false ∧ Es1 w (w5.setCell ⟨w.heap.size + 1, 2, none⟩ v5) vw v5 (L ++ [(.slice a1 (z.length + 64) c1, z ++ m64)]) E) := fun v5 w5 ho ha => H1.out.1.appR ho ha H1.out.2.1 H1.out.2.2
      clear own1 bel1 k2
      go_upto_region 7 with (at_builtin; refine wpList_append_own _ rfl _ _ 26 rfl w.heap.size 23 il (.slice none 0 0) 1 24 Try.underlying26 HIl.out.1 HIl.out.2.1 HIl.out.2.2.1 HIl.out.2.2.2 rfl (by decide) (.slice ar L.length cr) L.length (L.map Prod.fst) rfl HRa.out ⟨w1.heap.size, 0, none⟩ 1 1 [.slice a1 (z.length + 64) c1] rfl rfl HNa.out (by simp [Value.oneCell']) hl63 hl48 HSa.out ?_; intro v5 w5 own5 ap5 hn5; obtain ⟨a5, c5, hv5⟩ := row_form' own5; subst hv5; have K5 := HAr.out _ w5 own5 ap5; have q1 := K5.1; have q2 := K5.2.1; have F5 : Hid (Es1 w (w5.setCell ⟨w.heap.size + 1, 2, none⟩ (.slice a5 (L.length + 1) c5)) vw (.slice a5 (L.length + 1) c5) (L ++ [(.slice a1 (z.length + 64) c1, z ++ m64)]) E) := K5.2.2; clear K5 own5 ap5 hn5)
      generalize w5.setCell ⟨w.heap.size + 1, 2, none⟩ (.slice a5 (L.length + 1) c5) = w6 at *
      have y1 := F5.out.x.c1
      obtain ⟨aw, cw, ew⟩ := row_form' F5.out.l.w
      subst ew
      obtain ⟨kc0, kc1, kc2⟩ := HKc.out w6 F5.out.b
      have HRw : Hid ((w6.alloc (.cells #[.int .i64 lt, .int .i64 lv, .slice a1 z.length c1] 47)).drew.ownsRow w.heap.size 47 3 (.slice aw E.length cw) E.length (ecC E)) := World.ownsRow.alloc (row_kept F5.out.l.w fun _ _ => rfl : w6.drew.ownsRow _ _ _ _ _ _) (.cells #[.int .i64 lt, .int .i64 lv, .slice a1 z.length c1] 47)
      have HNw : Hid (∀ j y, [Value.int .i64 lt, .int .i64 lv, .slice a1 z.length c1][j]? = some y → (w6.alloc (.cells #[.int .i64 lt, .int .i64 lv, .slice a1 z.length c1] 47)).drew.cell? ((⟨w6.heap.size, 0, none⟩ : Addr).add j) = some y) := fun j y hy => three_newE w6 _ _ _ _ j y hy
      have HSw : Hid (w.heap.size ≤ (w6.alloc (.cells #[.int .i64 lt, .int .i64 lv, .slice a1 z.length c1] 47)).drew.heap.size) := Nat.le_trans F5.out.b.size (below_box w6 _).size
      have HAw : Hid (∀ v7 w7, w7.ownsRow w.heap.size 47 3 v7 (E.length + 1) (ecC E ++ [.int .i64 lt, .int .i64 lv, .slice a1 z.length c1]) → (w6.alloc (.cells #[.int .i64 lt, .int .i64 lv, .slice a1 z.length c1] 47)).drew.grownBy w7 (Value.slice aw E.length cw).ownBlock → w7.cell? ⟨w.heap.size + 1, 1, none⟩ = some (.slice aw E.length cw) ∧ w7.frozen? ⟨w.heap.size + 1, 1, none⟩ = false ∧ Es1 w (w7.setCell ⟨w.heap.size + 1, 1, none⟩ v7) v7 (.slice a5 (L.length + 1) c5) (L ++ [(.slice a1 (z.length + 64) c1, z ++ m64)]) (E ++ [(lt, lv, .slice a1 z.length c1)])) := fun v7 w7 ho ha => (F5.out.below (Below.refl _ _).drew).appW (x := (lt, lv, .slice a1 z.length c1)) ho ha
      have ya : (w6.alloc (.cells #[.int .i64 lt, .int .i64 lv, .slice a1 z.length c1] 47)).cell? ⟨w.heap.size + 1, 1, none⟩ = some (.slice aw E.length cw) := (F5.out.below (below_box w6 _)).x.c1
      have HFn : Hid (E ++ [(lt, lv, .slice a1 z.length c1)] = enW (t.take (k + 1)) (L ++ [((.slice a1 (z.length + 64) c1 : Value), z ++ m64)]) ∧ (L ++ [((.slice a1 (z.length + 64) c1 : Value), z ++ m64)]).map Prod.snd = (t.take (k + 1)).map (fun e => e.2.2 ++ m64)) := by
        refine ⟨?_, ?_⟩
        · rw [HEs.out]; simp [cutE]
        · rw [HTk.out, List.map_append, HL.out.2]; rfl
      clear HRa HNa HSa HAr H1 x2 q1 q2
      go_region_law (refine step_append_own rfl (.tmp 26) (.tmp 46) 22 rfl w.heap.size 47 ie (.agg #[.int .i64 0, .int .i64 0, .slice none 0 0]) 3 40 Try.underlying22 HIe.out.1 HIe.out.2.1 HIe.out.2.2.1 HIe.out.2.2.2 rfl (by decide) (.slice aw E.length cw) E.length (ecC E) (by simp [Act.eval, Act.put]) HRw.out ⟨w6.heap.size, 0, none⟩ 1 1 [.int .i64 lt, .int .i64 lv, .slice a1 z.length c1] (by simp [Act.eval, Act.put]) rfl HNw.out (by simp [Value.oneCell']) he63 he48 HSw.out ?_; intro v7 w7 own7 ap7; obtain ⟨a7, c7, hv7⟩ := row_form' own7; subst hv7; have K7 := HAw.out _ w7 own7 ap7; have q1 := K7.1; have q2 := K7.2.1; have F7 : Hid (Es1 w (w7.setCell ⟨w.heap.size + 1, 1, none⟩ (.slice a7 (E.length + 1) c7)) (.slice a7 (E.length + 1) c7) (.slice a5 (L.length + 1) c5) (L ++ [(.slice a1 (z.length + 64) c1, z ++ m64)]) (E ++ [(lt, lv, .slice a1 z.length c1)])) := K7.2.2; clear K7 own7 ap7)
      all_goals
        go_wp2
        go_roundg (gk - 1)
        case measure => have := HK.out; have := HLT.out; omega
        case rel => exact ⟨k + 1, _, _, L ++ [(.slice a1 (z.length + 64) c1, z ++ m64)], by have := HK.out; have := HLT.out; omega, by go_num, by rw [← HFn.out.1]; exact F7.out, HFn.out.2⟩
    · obtain rfl : k = t.length := by have := HK.out; omega
      have HLs : Hid (L.map Prod.snd = t.map (fun e => e.2.2 ++ m64)) := by have := HL.out.2; rw [List.take_length] at this; exact this
      have H2 : Hid (Es1 w wr vw vr L (enW t L ++ mkE 0)) := by
        show Es1 w wr vw vr L (enW t L ++ mkE 0)
        have := HL.out.1
        rw [List.take_length] at this
        simpa [mkE] using this
      have HEl : Hid ((enW t L).length = t.length) := enW_len HLl.out
      generalize hEE : enW t L = E at *
      have HEE : Hid (enW t L = E) := hEE
      generalize hCL : t.length = CL at *
      have HCL : Hid (t.length = CL) := hCL
      clear hCL HL hEE
      go_wp2
      generalize wr = wq at *
      generalize gk = G at *
      go_loopg [6] 64 (fun q i' wr => ∃ (j : Nat) (vw2 : Value), j + q = 64 ∧ i' = .int .i64 j ∧ Es1 w wr vw2 vr L (E ++ mkE j))
      case atStart => exact ⟨0, vw, by omega, rfl, H2.out⟩
      case round =>
        obtain ⟨j, vw2, hj, rfl, hls⟩ := hrel
        have HJ : Hid (j + gk = 64) := hj
        have H3 : Hid (Es1 w wr vw2 vr L (E ++ mkE j)) := hls
        clear hls hj
        by_cases hj64 : j < 64
        · have HLT : Hid (j < 64) := hj64
          have HMk : Hid (∀ W, Calls Try.prog 22 #[.int .i64 1, .int .i64 j] W fun e w' => e = .returned (.int .i64 (mrk 1 j)) ∧ w' = W) := fun W => mark_any 1 j W (by omega) (by omega)
          have HMs : Hid (E ++ mkE (j + 1) = (E ++ mkE j) ++ [(mrk 1 j, 0, .slice none 0 0)]) := by show _ = _; rw [mkE_snoc, List.append_assoc]
          have hwl : (E ++ mkE j).length ≤ 1073741888 := by
            rw [List.length_append, mkE_len]
            have h5 := HEl.out
            have h7 := HR.out.2
            have h8 := HCL.out
            omega
          have y1 := H3.out.x.c1
          obtain ⟨aw, cw, ew⟩ := row_form' H3.out.l.w
          subst ew
          generalize hWS : E ++ mkE j = WS at *
          generalize mrk 1 j = mk at *
          have hl63 : WS.length + 1 ≤ maxLen := by unfold maxLen; omega
          have hl48 : (WS.length + 1) * 40 ≤ 140737488355328 := by omega
          have HRw : Hid ((wr.alloc (.cells #[.int .i64 mk, .int .i64 0, .slice none 0 0] 47)).drew.ownsRow w.heap.size 47 3 (.slice aw WS.length cw) WS.length (ecC WS)) := World.ownsRow.alloc (row_kept H3.out.l.w fun _ _ => rfl : wr.drew.ownsRow _ _ _ _ _ _) (.cells #[.int .i64 mk, .int .i64 0, .slice none 0 0] 47)
          have HNw : Hid (∀ i y, [Value.int .i64 mk, .int .i64 0, .slice none 0 0][i]? = some y → (wr.alloc (.cells #[.int .i64 mk, .int .i64 0, .slice none 0 0] 47)).drew.cell? ((⟨wr.heap.size, 0, none⟩ : Addr).add i) = some y) := fun i y hy => three_newE wr _ _ _ _ i y hy
          have HSw : Hid (w.heap.size ≤ (wr.alloc (.cells #[.int .i64 mk, .int .i64 0, .slice none 0 0] 47)).drew.heap.size) := Nat.le_trans H3.out.b.size (below_box wr _).size
          have HAw : Hid (∀ v7 w7, w7.ownsRow w.heap.size 47 3 v7 (WS.length + 1) (ecC WS ++ [.int .i64 mk, .int .i64 0, .slice none 0 0]) → (wr.alloc (.cells #[.int .i64 mk, .int .i64 0, .slice none 0 0] 47)).drew.grownBy w7 (Value.slice aw WS.length cw).ownBlock → w7.cell? ⟨w.heap.size + 1, 1, none⟩ = some (.slice aw WS.length cw) ∧ w7.frozen? ⟨w.heap.size + 1, 1, none⟩ = false ∧ Es1 w (w7.setCell ⟨w.heap.size + 1, 1, none⟩ v7) v7 vr L (WS ++ [(mk, 0, .slice none 0 0)])) := fun v7 w7 ho ha => (H3.out.below (Below.refl _ _).drew).appW (x := (mk, 0, .slice none 0 0)) ho ha
          have ya : (wr.alloc (.cells #[.int .i64 mk, .int .i64 0, .slice none 0 0] 47)).cell? ⟨w.heap.size + 1, 1, none⟩ = some (.slice aw WS.length cw) := (H3.out.below (below_box wr _)).x.c1
          clear hWS
          go_upto_region 11 with fail
          go_region_law (first
            | (go_simp; go_at_call 22; refine (HMk.out _).mono ?_; intro e w9 hh; rw [hh.1, hh.2]; clear hh e w9; dsimp only)
            | (refine step_append_own rfl (.tmp 54) (.tmp 58) 22 rfl w.heap.size 47 ie (.agg #[.int .i64 0, .int .i64 0, .slice none 0 0]) 3 40 Try.underlying22 HIe.out.1 HIe.out.2.1 HIe.out.2.2.1 HIe.out.2.2.2 rfl (by decide) (.slice aw WS.length cw) WS.length (ecC WS) (by simp [Act.eval, Act.put]) HRw.out ⟨wr.heap.size, 0, none⟩ 1 1 [.int .i64 mk, .int .i64 0, .slice none 0 0] (by simp [Act.eval, Act.put]) rfl HNw.out (by simp [Value.oneCell']) hl63 hl48 HSw.out ?_; intro v7 w7 own7 ap7; obtain ⟨a7, c7, hv7⟩ := row_form' own7; subst hv7; have K7 := HAw.out _ w7 own7 ap7; have q1 := K7.1; have q2 := K7.2.1; have F7 : Hid (Es1 w (w7.setCell ⟨w.heap.size + 1, 1, none⟩ (.slice a7 (WS.length + 1) c7)) (.slice a7 (WS.length + 1) c7) vr L (WS ++ [(mk, 0, .slice none 0 0)])) := K7.2.2; clear K7 own7 ap7))
          all_goals
            go_wp2
            go_roundg (gk - 1)
            case measure => have := HJ.out; have := HLT.out; omega
            case rel => exact ⟨j + 1, _, by have := HJ.out; have := HLT.out; omega, by go_num, by rw [HMs.out]; exact F7.out⟩
        · obtain rfl : j = 64 := by have := HJ.out; omega
          have HWl : Hid ((E ++ mkE 64).length = CL + 64) := by
            show _ = _
            rw [List.length_append, mkE_len]
            have h5 := HEl.out
            omega
          obtain ⟨aw, cw, ew⟩ := row_form' H3.out.l.w
          rw [HWl.out] at ew
          subst ew
          have hcw : CL ≤ cw := by
            rcases H3.out.l.w.2 with ⟨e1, e2⟩ | ⟨g', cap', cur, hv, hb, hg, r1, r2, r3, r4⟩
            · rw [HWl.out] at e2; omega
            · injection hv with _ e2 e3
              rw [HWl.out] at r1
              omega
          have hx := H3.out.x
          have hy := H3.out.y
          have x0 := hx.c0
          have x1 := hx.c1
          have f0 := hx.fz 0
          have hx2 := hx.set0 (.slice aw CL cw)
          have hne : some w.heap.size ≠ some (w.heap.size + 1) := by simp
          have hne2 : some (w.heap.size + 1) ≠ some w.heap.size := by simp
          have hy2 := hy.kept (grown_set wr ⟨w.heap.size + 1, 0, none⟩ (.slice aw CL cw)) hne
          have z0 := hx2.c0
          have z1 := hx2.c1
          have z2 := hx2.c2
          have u0 := hy2.c0
          have g0 := hy2.fz 0
          have hy3 := hy2.set0 (.slice aw CL cw)
          have u1 := hy3.c1
          have g1 := hy3.fz 1
          have hy4 := hy3.set1 (.slice aw (CL + 64) cw)
          have u2 := hy4.c2
          have g2 := hy4.fz 2
          have hy5 := hy4.set2 vr
          have hl2 := H3.out.l.box hx (by decide) (by decide) (by decide) 0 (.slice aw CL cw)
          have hl3 := ((hl2.box hy2 (by decide) (by decide) (by decide) 0 (.slice aw CL cw)).box hy3 (by decide) (by decide) (by decide) 1 (.slice aw (CL + 64) cw)).box hy4 (by decide) (by decide) (by decide) 2 vr
          have hb5 : Below w.heap.size w ((((wr.setCell ⟨w.heap.size + 1, 0, none⟩ (.slice aw CL cw)).setCell ⟨w.heap.size, 0, none⟩ (.slice aw CL cw)).setCell ⟨w.heap.size, 1, none⟩ (.slice aw (CL + 64) cw)).setCell ⟨w.heap.size, 2, none⟩ vr) := (((H3.out.b.setCell (p := ⟨w.heap.size + 1, 0, none⟩) (Nat.le_succ _) _).setCell (p := ⟨w.heap.size, 0, none⟩) (Nat.le_refl _) _).setCell (p := ⟨w.heap.size, 1, none⟩) (Nat.le_refl _) _).setCell (p := ⟨w.heap.size, 2, none⟩) (Nat.le_refl _) _
          have HF : Hid (Bt3 ((((wr.setCell ⟨w.heap.size + 1, 0, none⟩ (.slice aw CL cw)).setCell ⟨w.heap.size, 0, none⟩ (.slice aw CL cw)).setCell ⟨w.heap.size, 1, none⟩ (.slice aw (CL + 64) cw)).setCell ⟨w.heap.size, 2, none⟩ vr) w.heap.size 28 (.slice aw CL cw) (.slice aw (CL + 64) cw) vr ∧ Lf w ((((wr.setCell ⟨w.heap.size + 1, 0, none⟩ (.slice aw CL cw)).setCell ⟨w.heap.size, 0, none⟩ (.slice aw CL cw)).setCell ⟨w.heap.size, 1, none⟩ (.slice aw (CL + 64) cw)).setCell ⟨w.heap.size, 2, none⟩ vr) (.slice aw CL cw) (.slice aw (CL + 64) cw) vr t L) := ⟨hy5, ⟨by rw [HEE.out]; exact hl3, HLs.out, hb5, aw, cw, by rw [HCL.out], by rw [HCL.out]⟩⟩
          obtain ⟨ar, cr, er⟩ := row_form H3.out.l.r.row
          subst er
          clear hx hy hx2 hy2 hy3 hy4 hy5 hl2 hl3 hb5
          go_wp2
          refine bodyPost_ret (results_cell_row rfl _ _ w.heap.size 28 #[.slice aw CL cw, .slice aw (CL + 64) cw, .slice ar L.length cr] (0, 0) _ rfl HF.out.1 Try.underlying28 rfl (by kernel_rfl)) rfl ?_
          exact ⟨_, _, _, L, rfl, HF.out.2⟩
end Go.Proofs.Ytgngdohhlhlcpaa

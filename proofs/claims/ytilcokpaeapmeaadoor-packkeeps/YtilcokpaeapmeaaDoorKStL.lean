/-
  depotkit.LentSteps, walked.
  KEEP: set on app at below new trans refl start ap kept rd rds mono lt add none own nil put len pos setF setV putL putR other neV same_any row box m snoc
-/
import Derived.Test.YtilcokpaeapmeaaDoorJStW
import Derived.Test.YtilcokpaeapmeaaDoorKSmall
set_option linter.unusedSimpArgs false
set_option linter.unusedVariables false
namespace Go.Proofs.YtilcokpaeapmeaaDoor
open Go Go.RowKit

theorem two_newZ (w : World) (x y : Value) (t : TypeId) : ∀ j u, [x, y][j]? = some u → (w.alloc (.cells #[x, y] t)).cell? ((⟨w.heap.size, 0, none⟩ : Addr).add j) = some u := cell_two_new9 w x y t
set_option maxRecDepth 100000 in
set_option maxHeartbeats 6400000 in
theorem lentSteps_any (v : Value) (t : List Stp) (w : World) (hr : RdZ w v t) (hb : t.length ≤ 1073741824) :
    Calls Tryd.prog 5 #[v] w fun e w' => ∃ vi vw vr L M, e = .returned (.agg #[vi, vw, vr]) ∧ Lzf w w' vi vw vr t L M := by
  have HR : Hid (RdZ w v t ∧ t.length ≤ 1073741824) := ⟨hr, hb⟩
  obtain ⟨a, c, rfl, h1, h2, hAT⟩ := hr.form
  have HAT : Hid (∀ (k : Nat), k < t.length → ∃ bb off u cu, a = some ⟨bb, off, none⟩ ∧ ∀ W, Below w.heap.size w W → W.cell? ⟨bb, off + k * 2, none⟩ = some (.bool (t.getD k (false, [])).1) ∧ W.cell? ⟨bb, off + k * 2 + 1, none⟩ = some (.slice u (t.getD k (false, [])).2.length cu) ∧ Rd W (.slice u (t.getD k (false, [])).2.length cu) (t.getD k (false, [])).2) := fun k hk => by
    obtain ⟨bb, off, u, e, kl, k0, k1, hrd⟩ := hAT k hk
    obtain ⟨au, cu, eu, -, -, -⟩ := hrd.form
    subst eu
    exact ⟨bb, off, au, cu, e, fun W hW => ⟨(hW.cell (p := ⟨bb, off + k * 2, none⟩) kl).trans k0, (hW.cell (p := ⟨bb, off + k * 2 + 1, none⟩) kl).trans k1, hrd.below hW⟩⟩
  obtain ⟨il, hil, hzl0, hzl1, hzl2⟩ := info_parts infoLz
  have HIl : Hid (Tryd.prog.info? 58 = some il ∧ il.zero = some (.slice none 0 0) ∧ il.size = 1 ∧ il.bytes = 24) := ⟨hil, hzl0, hzl1, hzl2⟩
  obtain ⟨ie, hie, hze0, hze1, hze2⟩ := info_parts infoZ
  have HIe : Hid (Tryd.prog.info? 61 = some ie ∧ ie.zero = some (.agg #[.bool false, .slice none 0 0]) ∧ ie.size = 2 ∧ ie.bytes = 32) := ⟨hie, hze0, hze1, hze2⟩
  have H0 : Hid (Zs1 w ((w.alloc (.cells #[.slice none 0 0, .slice none 0 0, .slice none 0 0] 25)).alloc (.cells #[.slice none 0 0, .slice none 0 0, .slice none 0 0] 25)) (.slice none 0 0) (.slice none 0 0) [] [] []) := by
    refine ⟨?_, ?_, Lz.nil _ _, Below.step (below_box _ _) (below_box _ _)⟩
    · have := World.alloc_heap_new (w.alloc (.cells #[.slice none 0 0, .slice none 0 0, .slice none 0 0] 25)) (.cells #[.slice none 0 0, .slice none 0 0, .slice none 0 0] 25)
      rw [World.size_alloc] at this
      exact this
    · exact Zt3.below (World.alloc_heap_new w _) (below_box _ _)
  clear hr hAT hil hzl0 hzl1 hzl2 hie hze0 hze1 hze2
  go_enter Tryd.func5, Tryd.ntmps5
  go_wp2
  generalize (w.alloc (.cells #[.slice none 0 0, .slice none 0 0, .slice none 0 0] 25)).alloc (.cells #[.slice none 0 0, .slice none 0 0, .slice none 0 0] 25) = W0 at *
  go_loopg [4, 5] t.length (fun q i' r' wr => ∃ (k : Nat) (vw vr : Value) (L : List Cls), k + q = t.length ∧ i' = .int .i64 k ∧ Zs1 w wr vw vr L (stZ (t.take k) L) [] ∧ L.map Prod.snd = (t.take k).map (fun e => e.2 ++ m64))
  case atStart => exact ⟨0, _, _, [], by omega, rfl, H0.out, by simp⟩
  case round =>
    obtain ⟨k, vw, vr, L, hk, rfl, hls, hL⟩ := hrel
    have HK : Hid (k + gk = t.length) := hk
    have HL : Hid (Zs1 w wr vw vr L (stZ (t.take k) L) [] ∧ L.map Prod.snd = (t.take k).map (fun e => e.2 ++ m64)) := ⟨hls, hL⟩
    have HLl : Hid (L.length = k) := by
      have h5 := congrArg List.length hL
      simp only [List.length_map, List.length_take] at h5
      show L.length = k
      omega
    clear hls hL hk
    by_cases hlt : k < t.length
    · obtain ⟨bb, off, au, cu, rfl, hcr⟩ := HAT.out k hlt
      obtain ⟨k0, k2, hrd⟩ := hcr wr HL.out.1.b
      have HTk : Hid ((t.take (k + 1)).map (fun e => e.2 ++ m64) = (t.take k).map (fun e => e.2 ++ m64) ++ [(t.getD k (false, [])).2 ++ m64]) := by
        show _ = _
        rw [take_succ_getD t (false, []) k hlt, List.map_append]; rfl
      have HEs : Hid (∀ cc : Cls, stZ (t.take (k + 1)) (L ++ [cc]) = stZ (t.take k) L ++ [((t.getD k (false, [])).1, cutZ cc, (t.getD k (false, [])).2)]) := fun cc => stZ_snoc hlt HLl.out cc
      have HEl0 : Hid ((stZ (t.take k) L).length = L.length) := by
        show _ = _
        have h9 := stZ_len (t := t.take k) (L := L) (by rw [List.length_take]; have := HLl.out; omega)
        rw [h9, List.length_take]
        have := HLl.out; omega
      have hzl := hrd.len
      have HLT : Hid (k < t.length) := hlt
      have HLent : Hid (Calls Tryd.prog 29 #[.slice au (t.getD k (false, [])).2.length cu] wr fun e w' => ∃ v', e = .returned v' ∧ Own wr.heap.size w' v' ((t.getD k (false, [])).2 ++ m64) ∧ Below wr.heap.size wr w') := lent_any _ _ wr hrd
      have HKc : Hid (∀ W, Below w.heap.size w W → W.cell? ⟨bb, off + k * 2, none⟩ = some (.bool (t.getD k (false, [])).1) ∧ W.cell? ⟨bb, off + k * 2 + 1, none⟩ = some (.slice au (t.getD k (false, [])).2.length cu)) := fun W hW => ⟨(hcr W hW).1, (hcr W hW).2.1⟩
      clear hcr hrd k0
      generalize (t.getD k (false, [])).2 = z at *
      generalize (t.getD k (false, [])).1 = dd at *
      generalize stZ (t.take k) L = E at *
      go_wp2_with fail
      refine Calls.mono HLent.out ?_
      rintro e w1 ⟨v1, rfl, own1, bel1⟩
      have HSm := row_some own1 (by rw [m64_app_lenZ]; omega)
      obtain ⟨a1, c1, e1⟩ := own_form own1
      rw [m64_app_lenZ] at e1
      have hc1 : z.length + 64 ≤ c1 := by
        obtain ⟨g', c', e', h5, -, -⟩ := HSm
        rw [e1] at e'
        injection e' with _ _ e3
        rw [m64_app_lenZ] at h5
        omega
      clear HSm
      have hzc : z.length ≤ c1 := by omega
      subst e1
      have H1 : Hid (Zs1 w w1 vw vr L E [] ∧ Own w.heap.size w1 (.slice a1 (z.length + 64) c1) (z ++ m64) ∧ ApartC (L ++ [(.slice a1 (z.length + 64) c1, z ++ m64)])) := ⟨HL.out.1.below bel1, own1.mono HL.out.1.b.size, ApartC.snoc HL.out.1.l.r.ap HL.out.1.l.r.own own1 (Nat.le_refl _)⟩
      have x2 := H1.out.1.x.c2
      obtain ⟨ar, cr, er⟩ := row_form H1.out.1.l.r.row
      subst er
      have HRa : Hid ((w1.alloc (.cells #[.slice a1 (z.length + 64) c1] 58)).ownsRow w.heap.size 58 1 (.slice ar L.length cr) L.length (L.map Prod.fst)) := World.ownsRow.alloc H1.out.1.l.r.row _
      have HNa : Hid (∀ j y, [Value.slice a1 (z.length + 64) c1][j]? = some y → (w1.alloc (.cells #[.slice a1 (z.length + 64) c1] 58)).cell? ((⟨w1.heap.size, 0, none⟩ : Addr).add j) = some y) := one_newZ w1 _ _
      have HSa : Hid (w.heap.size ≤ (w1.alloc (.cells #[.slice a1 (z.length + 64) c1] 58)).heap.size) := Nat.le_trans H1.out.1.b.size (below_box _ _).size
      have hLb : L.length ≤ 1073741824 := by have := HLl.out; have := HLT.out; have := HR.out.2; omega
      have hl63 : L.length + 1 ≤ maxLen := by unfold maxLen; omega
      have hl48 : (L.length + 1) * 24 ≤ 140737488355328 := by omega
      have he63 : E.length + 1 ≤ maxLen := by have := HEl0.out; unfold maxLen; omega
      have he48 : (E.length + 1) * 32 ≤ 140737488355328 := by have := HEl0.out; omega
      have HAr : Hid (∀ v5 w5, w5.ownsRow w.heap.size 58 1 v5 (L.length + 1) (L.map Prod.fst ++ [.slice a1 (z.length + 64) c1]) → (w1.alloc (.cells #[.slice a1 (z.length + 64) c1] 58)).grownBy w5 (Value.slice ar L.length cr).ownBlock → w5.cell? ⟨w.heap.size + 1, 2, none⟩ = some (.slice ar L.length cr) ∧ w5.frozen? ⟨w.heap.size + 1, 2, none⟩ = false ∧ Zs1 w (w5.setCell ⟨w.heap.size + 1, 2, none⟩ v5) vw v5 (L ++ [(.slice a1 (z.length + 64) c1, z ++ m64)]) E []) := fun v5 w5 ho ha => H1.out.1.appR ho ha H1.out.2.1 H1.out.2.2
      clear own1 bel1 k2
      go_upto_region 7 with (at_builtin; refine wpList_append_own _ rfl _ _ 23 rfl w.heap.size 58 il (.slice none 0 0) 1 24 Tryd.underlying23 HIl.out.1 HIl.out.2.1 HIl.out.2.2.1 HIl.out.2.2.2 rfl (by decide) (.slice ar L.length cr) L.length (L.map Prod.fst) rfl HRa.out ⟨w1.heap.size, 0, none⟩ 1 1 [.slice a1 (z.length + 64) c1] rfl rfl HNa.out (by simp [Value.oneCell']) hl63 hl48 HSa.out ?_; intro v5 w5 own5 ap5 hn5; obtain ⟨a5, c5, hv5⟩ := row_form' own5; subst hv5; have K5 := HAr.out _ w5 own5 ap5; have q1 := K5.1; have q2 := K5.2.1; have F5 : Hid (Zs1 w (w5.setCell ⟨w.heap.size + 1, 2, none⟩ (.slice a5 (L.length + 1) c5)) vw (.slice a5 (L.length + 1) c5) (L ++ [(.slice a1 (z.length + 64) c1, z ++ m64)]) E []) := K5.2.2; clear K5 own5 ap5 hn5)
      generalize w5.setCell ⟨w.heap.size + 1, 2, none⟩ (.slice a5 (L.length + 1) c5) = w6 at *
      have y1 := F5.out.x.c1
      obtain ⟨aw, cw, ew⟩ := row_form' F5.out.l.w
      subst ew
      obtain ⟨kc0, kc2⟩ := HKc.out w6 F5.out.b
      have HRw : Hid ((w6.alloc (.cells #[.bool dd, .slice a1 z.length c1] 61)).drew.ownsRow w.heap.size 61 2 (.slice aw E.length cw) E.length (svC E)) := World.ownsRow.alloc (row_kept F5.out.l.w fun _ _ => rfl : w6.drew.ownsRow _ _ _ _ _ _) (.cells #[.bool dd, .slice a1 z.length c1] 61)
      have HNw : Hid (∀ j y, [Value.bool dd, .slice a1 z.length c1][j]? = some y → (w6.alloc (.cells #[.bool dd, .slice a1 z.length c1] 61)).drew.cell? ((⟨w6.heap.size, 0, none⟩ : Addr).add j) = some y) := fun j y hy => two_newZ w6 _ _ _ j y hy
      have HSw : Hid (w.heap.size ≤ (w6.alloc (.cells #[.bool dd, .slice a1 z.length c1] 61)).drew.heap.size) := Nat.le_trans F5.out.b.size (below_box w6 _).size
      have HAw : Hid (∀ v7 w7, w7.ownsRow w.heap.size 61 2 v7 (E.length + 1) (svC E ++ [.bool dd, .slice a1 z.length c1]) → (w6.alloc (.cells #[.bool dd, .slice a1 z.length c1] 61)).drew.grownBy w7 (Value.slice aw E.length cw).ownBlock → w7.cell? ⟨w.heap.size + 1, 1, none⟩ = some (.slice aw E.length cw) ∧ w7.frozen? ⟨w.heap.size + 1, 1, none⟩ = false ∧ Zs1 w (w7.setCell ⟨w.heap.size + 1, 1, none⟩ v7) v7 (.slice a5 (L.length + 1) c5) (L ++ [(.slice a1 (z.length + 64) c1, z ++ m64)]) (E ++ [(dd, .slice a1 z.length c1, z)]) []) := fun v7 w7 ho ha => F5.out.appW (x := (dd, .slice a1 z.length c1, z)) (below_box w6 _).drew ho ha
      have ya : (w6.alloc (.cells #[.bool dd, .slice a1 z.length c1] 61)).cell? ⟨w.heap.size + 1, 1, none⟩ = some (.slice aw E.length cw) := (F5.out.below (below_box w6 _)).x.c1
      have HFn : Hid (E ++ [(dd, .slice a1 z.length c1, z)] = stZ (t.take (k + 1)) (L ++ [((.slice a1 (z.length + 64) c1 : Value), z ++ m64)]) ∧ (L ++ [((.slice a1 (z.length + 64) c1 : Value), z ++ m64)]).map Prod.snd = (t.take (k + 1)).map (fun e => e.2 ++ m64)) := by
        refine ⟨?_, ?_⟩
        · rw [HEs.out]; simp [cutZ]
        · rw [HTk.out, List.map_append, HL.out.2]; rfl
      clear HRa HNa HSa HAr H1 x2 q1 q2
      go_region_law (refine step_append_own rfl (.tmp 26) (.tmp 41) 22 rfl w.heap.size 61 ie (.agg #[.bool false, .slice none 0 0]) 2 32 Tryd.underlying22 HIe.out.1 HIe.out.2.1 HIe.out.2.2.1 HIe.out.2.2.2 rfl (by decide) (.slice aw E.length cw) E.length (svC E) (by simp [Act.eval, Act.put]) HRw.out ⟨w6.heap.size, 0, none⟩ 1 1 [.bool dd, .slice a1 z.length c1] (by simp [Act.eval, Act.put]) rfl HNw.out (by simp [Value.oneCell']) he63 he48 HSw.out ?_; intro v7 w7 own7 ap7; obtain ⟨a7, c7, hv7⟩ := row_form' own7; subst hv7; have K7 := HAw.out _ w7 own7 ap7; have q1 := K7.1; have q2 := K7.2.1; have F7 : Hid (Zs1 w (w7.setCell ⟨w.heap.size + 1, 1, none⟩ (.slice a7 (E.length + 1) c7)) (.slice a7 (E.length + 1) c7) (.slice a5 (L.length + 1) c5) (L ++ [(.slice a1 (z.length + 64) c1, z ++ m64)]) (E ++ [(dd, .slice a1 z.length c1, z)]) []) := K7.2.2; clear K7 own7 ap7)
      all_goals
        go_wp2
        go_roundg (gk - 1)
        case measure => have := HK.out; have := HLT.out; omega
        case rel => exact ⟨k + 1, _, _, L ++ [(.slice a1 (z.length + 64) c1, z ++ m64)], by have := HK.out; have := HLT.out; omega, by go_num, by rw [← HFn.out.1]; exact F7.out, HFn.out.2⟩
    · obtain rfl : k = t.length := by have := HK.out; omega
      have HLs : Hid (L.map Prod.snd = t.map (fun e => e.2 ++ m64)) := by have := HL.out.2; rw [List.take_length] at this; exact this
      have H2 : Hid (Zs1 w wr vw vr L (stZ t L ++ mkZ []) []) := by
        show Zs1 w wr vw vr L (stZ t L ++ mkZ []) []
        have := HL.out.1
        rw [List.take_length] at this
        simpa [mkZ] using this
      have HEl : Hid ((stZ t L).length = t.length) := stZ_len HLl.out
      generalize hEE : stZ t L = E at *
      have HEE : Hid (stZ t L = E) := hEE
      generalize hCL : t.length = CL at *
      have HCL : Hid (t.length = CL) := hCL
      clear hCL HL hEE
      go_wp2
      generalize wr = wq at *
      generalize gk = G at *
      go_loopg [6] 64 (fun q i' wr => ∃ (j : Nat) (vw2 : Value) (M : List Cls), j + q = 64 ∧ i' = .int .i64 j ∧ Zs1 w wr vw2 vr L (E ++ mkZ M) M ∧ MksZ M j)
      case atStart => exact ⟨0, vw, [], by omega, rfl, H2.out, rfl, fun i h => by cases h⟩
      case round =>
        obtain ⟨j, vw2, M, hj, rfl, hls, hM⟩ := hrel
        have HJ : Hid (j + gk = 64) := hj
        have H3 : Hid (Zs1 w wr vw2 vr L (E ++ mkZ M) M ∧ MksZ M j) := ⟨hls, hM⟩
        have HMl : Hid (M.length = j) := hM.1
        clear hls hj hM
        by_cases hj64 : j < 64
        · have HLT : Hid (j < 64) := hj64
          have HMk : Hid (∀ W, Calls Tryd.prog 30 #[.int .i64 1, .int .i64 j] W fun e w' => e = .returned (.int .i64 (mrk 1 j)) ∧ w' = W) := fun W => mark_any 1 j W (by omega) (by omega)
          have HM2 : Hid (∀ u, MksZ (M ++ [(u, [mrk 1 j])]) (j + 1)) := fun u => H3.out.2.snoc u
          have hwl : (E ++ mkZ M).length ≤ 1073741888 := by
            rw [List.length_append, mkZ_len]
            have h5 := HEl.out
            have h7 := HR.out.2
            have h8 := HCL.out
            have h9 := HMl.out
            omega
          have y1 := H3.out.1.x.c1
          obtain ⟨aw, cw, ew⟩ := row_form' H3.out.1.l.w
          subst ew
          generalize hWS : E ++ mkZ M = WS at *
          have HWS : Hid (E ++ mkZ M = WS) := hWS
          clear hWS
          generalize mrk 1 j = mk at *
          have hl63 : WS.length + 1 ≤ maxLen := by unfold maxLen; omega
          have hl48 : (WS.length + 1) * 32 ≤ 140737488355328 := by omega
          have H4 : Hid (Zs1 w (wr.alloc (.cells #[.int .i64 mk] 3)) (.slice aw WS.length cw) vr L WS (M ++ [(.slice (some ⟨wr.heap.size, 0, none⟩) 1 1, [mk])])) :=
            (H3.out.1.below (below_box _ _)).addM ((ownOne wr mk).mono H3.out.1.b.size)
          have HRw : Hid (((wr.alloc (.cells #[.int .i64 mk] 3)).alloc (.cells #[.bool false, .slice (some ⟨wr.heap.size, 0, none⟩) 1 1] 61)).drew.ownsRow w.heap.size 61 2 (.slice aw WS.length cw) WS.length (svC WS)) := row_kept (World.ownsRow.alloc H4.out.l.w (.cells #[.bool false, .slice (some ⟨wr.heap.size, 0, none⟩) 1 1] 61)) fun _ _ => rfl
          have HNw : Hid (∀ i y, [Value.bool false, .slice (some ⟨wr.heap.size, 0, none⟩) 1 1][i]? = some y → ((wr.alloc (.cells #[.int .i64 mk] 3)).alloc (.cells #[.bool false, .slice (some ⟨wr.heap.size, 0, none⟩) 1 1] 61)).drew.cell? ((⟨wr.heap.size + 1, 0, none⟩ : Addr).add i) = some y) := fun i y hy => by
            have h5 := two_newZ (wr.alloc (.cells #[.int .i64 mk] 3)) (.bool false) (.slice (some ⟨wr.heap.size, 0, none⟩) 1 1) 61 i y hy
            rw [World.size_alloc] at h5
            exact h5
          have HSw : Hid (w.heap.size ≤ ((wr.alloc (.cells #[.int .i64 mk] 3)).alloc (.cells #[.bool false, .slice (some ⟨wr.heap.size, 0, none⟩) 1 1] 61)).drew.heap.size) := Nat.le_trans H4.out.b.size (below_box _ _).size
          have HAw : Hid (∀ v7 w7, w7.ownsRow w.heap.size 61 2 v7 (WS.length + 1) (svC WS ++ [.bool false, .slice (some ⟨wr.heap.size, 0, none⟩) 1 1]) → ((wr.alloc (.cells #[.int .i64 mk] 3)).alloc (.cells #[.bool false, .slice (some ⟨wr.heap.size, 0, none⟩) 1 1] 61)).drew.grownBy w7 (Value.slice aw WS.length cw).ownBlock → w7.cell? ⟨w.heap.size + 1, 1, none⟩ = some (.slice aw WS.length cw) ∧ w7.frozen? ⟨w.heap.size + 1, 1, none⟩ = false ∧ Zs1 w (w7.setCell ⟨w.heap.size + 1, 1, none⟩ v7) v7 vr L (WS ++ [(false, .slice (some ⟨wr.heap.size, 0, none⟩) 1 1, [mk])]) (M ++ [(.slice (some ⟨wr.heap.size, 0, none⟩) 1 1, [mk])])) := fun v7 w7 ho ha => H4.out.appW (x := (false, .slice (some ⟨wr.heap.size, 0, none⟩) 1 1, [mk])) (below_box _ _).drew ho ha
          have ya : (wr.alloc (.cells #[.int .i64 mk] 3)).cell? ⟨w.heap.size + 1, 1, none⟩ = some (.slice aw WS.length cw) := H4.out.x.c1
          have yb : ((wr.alloc (.cells #[.int .i64 mk] 3)).alloc (.cells #[.bool false, .slice (some ⟨wr.heap.size, 0, none⟩) 1 1] 61)).cell? ⟨w.heap.size + 1, 1, none⟩ = some (.slice aw WS.length cw) := (H4.out.below (below_box _ _)).x.c1
          have HFn : Hid (WS ++ [(false, .slice (some ⟨wr.heap.size, 0, none⟩) 1 1, [mk])] = E ++ mkZ (M ++ [((.slice (some ⟨wr.heap.size, 0, none⟩) 1 1 : Value), [mk])])) := by
            show _ = _
            rw [← HWS.out, mkZ_snoc, List.append_assoc]
          go_upto_region 11 with fail
          go_region_law (first
            | (go_simp; go_at_call 30; refine (HMk.out _).mono ?_; intro e w9 hh; rw [hh.1, hh.2]; clear hh e w9; dsimp only)
            | (refine step_append_own rfl (.tmp 49) (.tmp 54) 22 rfl w.heap.size 61 ie (.agg #[.bool false, .slice none 0 0]) 2 32 Tryd.underlying22 HIe.out.1 HIe.out.2.1 HIe.out.2.2.1 HIe.out.2.2.2 rfl (by decide) (.slice aw WS.length cw) WS.length (svC WS) (by simp [Act.eval, Act.put]) HRw.out ⟨wr.heap.size + 1, 0, none⟩ 1 1 [.bool false, .slice (some ⟨wr.heap.size, 0, none⟩) 1 1] (by simp [Act.eval, Act.put]) rfl HNw.out (by simp [Value.oneCell']) hl63 hl48 HSw.out ?_; intro v7 w7 own7 ap7; obtain ⟨a7, c7, hv7⟩ := row_form' own7; subst hv7; have K7 := HAw.out _ w7 own7 ap7; have q1 := K7.1; have q2 := K7.2.1; have F7 : Hid (Zs1 w (w7.setCell ⟨w.heap.size + 1, 1, none⟩ (.slice a7 (WS.length + 1) c7)) (.slice a7 (WS.length + 1) c7) vr L (WS ++ [(false, .slice (some ⟨wr.heap.size, 0, none⟩) 1 1, [mk])]) (M ++ [(.slice (some ⟨wr.heap.size, 0, none⟩) 1 1, [mk])])) := K7.2.2; clear K7 own7 ap7))
          all_goals
            go_wp2
            go_roundg (gk - 1)
            case measure => have := HJ.out; have := HLT.out; omega
            case rel => exact ⟨j + 1, _, M ++ [(.slice (some ⟨wr.heap.size, 0, none⟩) 1 1, [mk])], by have := HJ.out; have := HLT.out; omega, by go_num, by rw [← HFn.out]; exact F7.out, HM2.out _⟩
        · obtain rfl : j = 64 := by have := HJ.out; omega
          have HWl : Hid ((E ++ mkZ M).length = CL + 64) := by
            show _ = _
            rw [List.length_append, mkZ_len]
            have h5 := HEl.out
            have h9 := HMl.out
            omega
          obtain ⟨aw, cw, ew⟩ := row_form' H3.out.1.l.w
          rw [HWl.out] at ew
          subst ew
          have hcw : CL ≤ cw := by
            rcases H3.out.1.l.w.2 with ⟨e1, e2⟩ | ⟨g', cap', cur, hv, hb, hg, r1, r2, r3, r4⟩
            · rw [HWl.out] at e2; omega
            · injection hv with _ e2 e3
              rw [HWl.out] at r1
              omega
          have hx := H3.out.1.x
          have hy := H3.out.1.y
          have x0 := hx.c0
          have x1 := hx.c1
          have f0 := hx.fz 0
          have hx2 := hx.set0 (.slice aw CL cw)
          have hne : some w.heap.size ≠ some (w.heap.size + 1) := by simp
          have hne2 : some (w.heap.size + 1) ≠ some w.heap.size := by simp
          have hy2 := hy.kept (grown_set wr ⟨w.heap.size + 1, 0, none⟩ (.slice aw CL cw)) hne
          have z0 := hx2.c0
          have z1 := hx2.c1
          have z2 := hx2.c2
          have u0 := hy2.c0
          have g0 := hy2.fz 0
          have hy3 := hy2.set0 (.slice aw CL cw)
          have u1 := hy3.c1
          have g1 := hy3.fz 1
          have hy4 := hy3.set1 (.slice aw (CL + 64) cw)
          have u2 := hy4.c2
          have g2 := hy4.fz 2
          have hy5 := hy4.set2 vr
          have hl2 := H3.out.1.l.box hx (by decide) (by decide) (by decide) 0 (.slice aw CL cw)
          have hl3 := ((hl2.box hy2 (by decide) (by decide) (by decide) 0 (.slice aw CL cw)).box hy3 (by decide) (by decide) (by decide) 1 (.slice aw (CL + 64) cw)).box hy4 (by decide) (by decide) (by decide) 2 vr
          have hb5 : Below w.heap.size w ((((wr.setCell ⟨w.heap.size + 1, 0, none⟩ (.slice aw CL cw)).setCell ⟨w.heap.size, 0, none⟩ (.slice aw CL cw)).setCell ⟨w.heap.size, 1, none⟩ (.slice aw (CL + 64) cw)).setCell ⟨w.heap.size, 2, none⟩ vr) := (((H3.out.1.b.setCell (p := ⟨w.heap.size + 1, 0, none⟩) (Nat.le_succ _) _).setCell (p := ⟨w.heap.size, 0, none⟩) (Nat.le_refl _) _).setCell (p := ⟨w.heap.size, 1, none⟩) (Nat.le_refl _) _).setCell (p := ⟨w.heap.size, 2, none⟩) (Nat.le_refl _) _
          have HF : Hid (Zt3 ((((wr.setCell ⟨w.heap.size + 1, 0, none⟩ (.slice aw CL cw)).setCell ⟨w.heap.size, 0, none⟩ (.slice aw CL cw)).setCell ⟨w.heap.size, 1, none⟩ (.slice aw (CL + 64) cw)).setCell ⟨w.heap.size, 2, none⟩ vr) w.heap.size 25 (.slice aw CL cw) (.slice aw (CL + 64) cw) vr ∧ Lzf w ((((wr.setCell ⟨w.heap.size + 1, 0, none⟩ (.slice aw CL cw)).setCell ⟨w.heap.size, 0, none⟩ (.slice aw CL cw)).setCell ⟨w.heap.size, 1, none⟩ (.slice aw (CL + 64) cw)).setCell ⟨w.heap.size, 2, none⟩ vr) (.slice aw CL cw) (.slice aw (CL + 64) cw) vr t L M) := ⟨hy5, ⟨by rw [HEE.out]; exact hl3, HLs.out, H3.out.2, hb5, aw, cw, by rw [HCL.out], by rw [HCL.out]⟩⟩
          obtain ⟨ar, cr, er⟩ := row_form H3.out.1.l.r.row
          subst er
          clear hx hy hx2 hy2 hy3 hy4 hy5 hl2 hl3 hb5
          go_wp2
          refine bodyPost_ret (results_cell_row rfl _ _ w.heap.size 25 #[.slice aw CL cw, .slice aw (CL + 64) cw, .slice ar L.length cr] (0, 0) _ rfl HF.out.1 Tryd.underlying25 rfl (by kernel_rfl)) rfl ?_
          exact ⟨_, _, _, L, M, rfl, HF.out.2⟩
end Go.Proofs.YtilcokpaeapmeaaDoor

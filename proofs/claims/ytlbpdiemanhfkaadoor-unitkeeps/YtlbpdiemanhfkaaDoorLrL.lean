/-
  depotkit.LentRows, walked.
  KEEP: set on app at below new trans refl start ap kept rd rds mono lt add none own nil put len pos setF setV putL putR other neV same_any row
-/
import Derived.Test.YtlbpdiemanhfkaaDoorLrW
import Derived.Test.YtlbpdiemanhfkaaDoorSmall
set_option linter.unusedSimpArgs false
set_option linter.unusedVariables false
namespace Go.Proofs.YtlbpdiemanhfkaaDoor
open Go Go.RowKit

theorem m64_app_len (z : List Int) : (z ++ m64).length = z.length + 64 := by rw [List.length_append, m64_len]
theorem getD_inR {css : List (List Int)} {k : Nat} (h : k < css.length) : css.getD k [] ∈ css := by
  rw [List.getD_eq_getElem?_getD, List.getElem?_eq_getElem h]; exact List.getElem_mem h
/-- the marks behind rows that are lent -/
noncomputable def mks (j : Nat) : List (List Int) := (List.range j).map fun i => [mrk 1 i]
/-- what LentRows answers -/
structure Lq (w W : World) (vi vw vr : Value) (css : List (List Int)) (L M : List Cls) : Prop where
  l : Lr w.heap.size W vw vr L (L.map cutV ++ M.map Prod.fst) M
  ls : L.map Prod.snd = css.map (· ++ m64)
  ms : M.map Prod.snd = mks 64
  b : Below w.heap.size w W
  i : ∃ a c, vw = .slice a (css.length + 64) c ∧ vi = .slice a css.length c
set_option maxRecDepth 100000 in
set_option maxHeartbeats 6400000 in
theorem lentRows_any (v : Value) (css : List (List Int)) (w : World) (hr : Rds w v css) (hb : css.length ≤ 1073741824) :
    Calls Tryd.prog 4 #[v] w fun e w' => ∃ vi vw vr L M, e = .returned (.agg #[vi, vw, vr]) ∧ Lq w w' vi vw vr css L M := by
  have HR : Hid (Rds w v css ∧ css.length ≤ 1073741824 ∧ ∀ z ∈ css, z.length * 8 ≤ 140737488351232) := ⟨hr, hb, rds_each hr⟩
  obtain ⟨a, c, rfl, h1, h2, hAT⟩ := hr.form
  have HAT : Hid (∀ (k : Nat), k < css.length → ∃ bb off u cu, a = some ⟨bb, off, none⟩ ∧ ∀ W, Below w.heap.size w W → W.cell? ⟨bb, off + k, none⟩ = some (.slice u (css.getD k []).length cu) ∧ Rd W (.slice u (css.getD k []).length cu) (css.getD k [])) := fun k hk => by
    obtain ⟨bb, off, u, e, kc, hrd⟩ := hAT k hk
    obtain ⟨au, cu, eu, -, -, -⟩ := hrd.form
    subst eu
    exact ⟨bb, off, au, cu, e, fun W hW => ⟨(hW.cell (p := ⟨bb, off + k, none⟩) (World.block_lt_of_cell? w _ kc)).trans kc, hrd.below hW⟩⟩
  obtain ⟨il, hil, hzl0, hzl1, hzl2⟩ := info_parts infoLr
  have HIl : Hid (Tryd.prog.info? 25 = some il ∧ il.zero = some (.slice none 0 0) ∧ il.size = 1 ∧ il.bytes = 24) := ⟨hil, hzl0, hzl1, hzl2⟩
  have H0 : Hid (Ls1 w ((w.alloc (.cells #[.slice none 0 0, .slice none 0 0, .slice none 0 0] 29)).alloc (.cells #[.slice none 0 0, .slice none 0 0, .slice none 0 0] 29)) (.slice none 0 0) (.slice none 0 0) [] [] []) := by
    refine ⟨?_, ?_, Lr.nil _ _, Below.step (below_box _ _) (below_box _ _)⟩
    · have := World.alloc_heap_new (w.alloc (.cells #[.slice none 0 0, .slice none 0 0, .slice none 0 0] 29)) (.cells #[.slice none 0 0, .slice none 0 0, .slice none 0 0] 29)
      rw [World.size_alloc] at this
      exact this
    · exact Bx3.below (World.alloc_heap_new w _) (below_box _ _)
  clear hr hAT hil hzl0 hzl1 hzl2
  go_enter Tryd.func4, Tryd.ntmps4
  go_wp2
  generalize (w.alloc (.cells #[.slice none 0 0, .slice none 0 0, .slice none 0 0] 29)).alloc (.cells #[.slice none 0 0, .slice none 0 0, .slice none 0 0] 29) = W0 at *
  go_loopg [4, 5] css.length (fun q i' r' wr => ∃ (k : Nat) (vw vr : Value) (L : List Cls), k + q = css.length ∧ i' = .int .i64 k ∧ Ls1 w wr vw vr L (L.map cutV) [] ∧ L.map Prod.snd = (css.take k).map (· ++ m64))
  case atStart => exact ⟨0, _, _, [], by omega, rfl, H0.out, by simp⟩
  case round =>
    obtain ⟨k, vw, vr, L, hk, rfl, hls, hL⟩ := hrel
    have HK : Hid (k + gk = css.length) := hk
    have HL : Hid (Ls1 w wr vw vr L (L.map cutV) [] ∧ L.map Prod.snd = (css.take k).map (· ++ m64)) := ⟨hls, hL⟩
    have HLl : Hid (L.length = k) := by
      have h5 := congrArg List.length hL
      simp only [List.length_map, List.length_take] at h5
      show L.length = k
      omega
    clear hls hL hk
    by_cases hlt : k < css.length
    · obtain ⟨bb, off, au, cu, rfl, hcr⟩ := HAT.out k hlt
      obtain ⟨kc, hrd⟩ := hcr wr HL.out.1.b
      have HTk : Hid ((css.take (k + 1)).map (· ++ m64) = (css.take k).map (· ++ m64) ++ [css.getD k [] ++ m64]) := by
        show _ = _
        rw [List.take_succ_eq_append_getElem hlt, List.map_append]
        simp [List.getD_eq_getElem?_getD, List.getElem?_eq_getElem hlt]
      have HZl : Hid ((css.getD k []).length * 8 ≤ 140737488351232) := HR.out.2.2 _ (getD_inR hlt)
      have HLT : Hid (k < css.length) := hlt
      have HLent : Hid (Calls Tryd.prog 5 #[.slice au (css.getD k []).length cu] wr fun e w' => ∃ v', e = .returned v' ∧ Own wr.heap.size w' v' (css.getD k [] ++ m64) ∧ Below wr.heap.size wr w') := lent_any _ _ wr hrd
      have HKc : Hid (∀ W, Below w.heap.size w W → W.cell? ⟨bb, off + k, none⟩ = some (.slice au (css.getD k []).length cu)) := fun W hW => (hcr W hW).1
      clear hcr
      clear hrd
      generalize css.getD k [] = z at *
      have hzl := HZl.out
      go_wp2_with fail
      refine Calls.mono HLent.out ?_
      rintro e w1 ⟨v1, rfl, own1, bel1⟩
      have HSm := row_some own1 (by rw [m64_app_len]; omega)
      obtain ⟨a1, c1, e1⟩ := own_form own1
      rw [m64_app_len] at e1
      have hc1 : z.length + 64 ≤ c1 := by
        obtain ⟨g', c', e', h5, -, -⟩ := HSm
        rw [e1] at e'
        injection e' with _ _ e3
        rw [m64_app_len] at h5
        omega
      clear HSm
      have hzc : z.length ≤ c1 := by omega
      subst e1
      have H1 : Hid (Ls1 w w1 vw vr L (L.map cutV) [] ∧ Own w.heap.size w1 (.slice a1 (z.length + 64) c1) (z ++ m64) ∧ ApartC (L ++ [(.slice a1 (z.length + 64) c1, z ++ m64)])) := ⟨HL.out.1.below bel1, own1.mono HL.out.1.b.size, ApartC.snoc HL.out.1.l.r.ap HL.out.1.l.r.own own1 (Nat.le_refl _)⟩
      have x2 := H1.out.1.x.c2
      obtain ⟨ar, cr, er⟩ := row_form H1.out.1.l.r.row
      subst er
      have HRa : Hid ((w1.alloc (.cells #[.slice a1 (z.length + 64) c1] 25)).ownsRow w.heap.size 25 1 (.slice ar L.length cr) L.length (L.map Prod.fst)) := World.ownsRow.alloc H1.out.1.l.r.row _
      have HNa : Hid (∀ j y, [Value.slice a1 (z.length + 64) c1][j]? = some y → (w1.alloc (.cells #[.slice a1 (z.length + 64) c1] 25)).cell? ((⟨w1.heap.size, 0, none⟩ : Addr).add j) = some y) := one_newR w1 _ _
      have HSa : Hid (w.heap.size ≤ (w1.alloc (.cells #[.slice a1 (z.length + 64) c1] 25)).heap.size) := Nat.le_trans H1.out.1.b.size (below_box _ _).size
      have hl63 : L.length + 1 ≤ maxLen := by have := HLl.out; have := HLT.out; have := HR.out.2.1; unfold maxLen; omega
      have hl48 : (L.length + 1) * 24 ≤ 140737488355328 := by have := HLl.out; have := HLT.out; have := HR.out.2.1; omega
      have HAr : Hid (∀ v5 w5, w5.ownsRow w.heap.size 25 1 v5 (L.length + 1) (L.map Prod.fst ++ [.slice a1 (z.length + 64) c1]) → Ap (w1.alloc (.cells #[.slice a1 (z.length + 64) c1] 25)) (.slice ar L.length cr) w5 v5 → w5.cell? ⟨w.heap.size + 1, 2, none⟩ = some (.slice ar L.length cr) ∧ w5.frozen? ⟨w.heap.size + 1, 2, none⟩ = false ∧ Ls1 w (w5.setCell ⟨w.heap.size + 1, 2, none⟩ v5) vw v5 (L ++ [(.slice a1 (z.length + 64) c1, z ++ m64)]) (L.map cutV) []) := fun v5 w5 ho ha => H1.out.1.appR ho ha H1.out.2.1 H1.out.2.2
      clear own1 bel1 kc
      go_upto_region 7 with (at_builtin; refine wpList_append_apk rfl _ _ 22 rfl w.heap.size 25 il (.slice none 0 0) 1 24 Tryd.underlying22 HIl.out.1 HIl.out.2.1 HIl.out.2.2.1 HIl.out.2.2.2 rfl (by decide) (.slice ar L.length cr) L.length (L.map Prod.fst) rfl HRa.out ⟨w1.heap.size, 0, none⟩ 1 1 [.slice a1 (z.length + 64) c1] rfl rfl HNa.out (by simp [Value.oneCell']) hl63 hl48 HSa.out ?_; intro v5 w5 own5 ap5; obtain ⟨a5, c5, hv5⟩ := row_form' own5; subst hv5; have K5 := HAr.out _ w5 own5 ap5; have q1 := K5.1; have q2 := K5.2.1; have F5 : Hid (Ls1 w (w5.setCell ⟨w.heap.size + 1, 2, none⟩ (.slice a5 (L.length + 1) c5)) vw (.slice a5 (L.length + 1) c5) (L ++ [(.slice a1 (z.length + 64) c1, z ++ m64)]) (L.map cutV) []) := K5.2.2; clear K5 own5 ap5)
      generalize w5.setCell ⟨w.heap.size + 1, 2, none⟩ (.slice a5 (L.length + 1) c5) = w6 at *
      have y1 := F5.out.x.c1
      have HWl : Hid ((L.map cutV).length = L.length) := List.length_map _
      obtain ⟨aw, cw, ew⟩ := row_form' F5.out.l.w
      rw [HWl.out] at ew
      subst ew
      have kc := HKc.out w6 F5.out.b
      have HRw : Hid ((w6.drew.alloc (.cells #[.slice a1 z.length c1] 25)).ownsRow w.heap.size 25 1 (.slice aw L.length cw) L.length (L.map cutV)) := by
        have h5 := F5.out.l.w
        rw [HWl.out] at h5
        exact World.ownsRow.alloc (row_kept h5 fun _ _ => rfl) _
      have HNw : Hid (∀ j y, [Value.slice a1 z.length c1][j]? = some y → (w6.drew.alloc (.cells #[.slice a1 z.length c1] 25)).cell? ((⟨w6.drew.heap.size, 0, none⟩ : Addr).add j) = some y) := one_newR w6.drew _ _
      have HSw : Hid (w.heap.size ≤ (w6.drew.alloc (.cells #[.slice a1 z.length c1] 25)).heap.size) := Nat.le_trans F5.out.b.size (below_box w6.drew _).size
      have HAw : Hid (∀ v7 w7, w7.ownsRow w.heap.size 25 1 v7 (L.length + 1) (L.map cutV ++ [.slice a1 z.length c1]) → Ap (w6.drew.alloc (.cells #[.slice a1 z.length c1] 25)) (.slice aw L.length cw) w7 v7 → w7.cell? ⟨w.heap.size + 1, 1, none⟩ = some (.slice aw L.length cw) ∧ w7.frozen? ⟨w.heap.size + 1, 1, none⟩ = false ∧ Ls1 w (w7.setCell ⟨w.heap.size + 1, 1, none⟩ v7) v7 (.slice a5 (L.length + 1) c5) (L ++ [(.slice a1 (z.length + 64) c1, z ++ m64)]) (L.map cutV ++ [.slice a1 z.length c1]) []) := fun v7 w7 ho ha => (F5.out.below (Below.refl _ _).drew).appW (by rw [HWl.out]; exact ho) ha
      have ya : (w6.alloc (.cells #[.slice a1 z.length c1] 25)).cell? ⟨w.heap.size + 1, 1, none⟩ = some (.slice aw L.length cw) := (F5.out.below (below_box w6 _)).x.c1
      have HFn : Hid (L.map cutV ++ [.slice a1 z.length c1] = (L ++ [((.slice a1 (z.length + 64) c1 : Value), z ++ m64)]).map cutV ∧ (L ++ [((.slice a1 (z.length + 64) c1 : Value), z ++ m64)]).map Prod.snd = (css.take (k + 1)).map (· ++ m64)) := by
        refine ⟨?_, ?_⟩
        · rw [List.map_append]; simp [cutV]
        · rw [HTk.out, List.map_append, HL.out.2]; rfl
      clear HRa HNa HSa HAr H1 x2 q1 q2
      go_region_law (refine step_append_apk rfl (.tmp 25) (.tmp 33) 22 rfl w.heap.size 25 il (.slice none 0 0) 1 24 Tryd.underlying22 HIl.out.1 HIl.out.2.1 HIl.out.2.2.1 HIl.out.2.2.2 rfl (by decide) (.slice aw L.length cw) L.length (L.map cutV) (by simp [Act.eval, Act.put]) HRw.out ⟨w6.drew.heap.size, 0, none⟩ 1 1 [.slice a1 z.length c1] (by simp [Act.eval, Act.put]) rfl HNw.out (by simp [Value.oneCell']) hl63 hl48 HSw.out ?_; intro v7 w7 own7 ap7; obtain ⟨a7, c7, hv7⟩ := row_form' own7; subst hv7; have K7 := HAw.out _ w7 own7 ap7; have q1 := K7.1; have q2 := K7.2.1; have F7 : Hid (Ls1 w (w7.setCell ⟨w.heap.size + 1, 1, none⟩ (.slice a7 (L.length + 1) c7)) (.slice a7 (L.length + 1) c7) (.slice a5 (L.length + 1) c5) (L ++ [(.slice a1 (z.length + 64) c1, z ++ m64)]) (L.map cutV ++ [.slice a1 z.length c1]) []) := K7.2.2; clear K7 own7 ap7)
      all_goals
        go_wp2
        go_roundg (gk - 1)
        case measure => have := HK.out; have := HLT.out; omega
        case rel => exact ⟨k + 1, _, _, L ++ [(.slice a1 (z.length + 64) c1, z ++ m64)], by have := HK.out; have := HLT.out; omega, by go_num, by rw [← HFn.out.1]; exact F7.out, HFn.out.2⟩
    · obtain rfl : k = css.length := by have := HK.out; omega
      have HLs : Hid (L.map Prod.snd = css.map (· ++ m64)) := by have := HL.out.2; rw [List.take_length] at this; exact this
      have H2 : Hid (Ls1 w wr vw vr L (L.map cutV ++ ([] : List Cls).map Prod.fst) []) := by
        show Ls1 w wr vw vr L (L.map cutV ++ ([] : List Cls).map Prod.fst) []
        simpa using HL.out.1
      generalize hCL : css.length = CL at *
      have HCL : Hid (css.length = CL) := hCL
      clear hCL HL
      go_wp2
      generalize wr = wq at *
      generalize gk = G at *
      go_loopg [6] 64 (fun q i' wr => ∃ (j : Nat) (vw2 : Value) (M : List Cls), j + q = 64 ∧ i' = .int .i64 j ∧ Ls1 w wr vw2 vr L (L.map cutV ++ M.map Prod.fst) M ∧ M.map Prod.snd = mks j)
      case atStart => exact ⟨0, vw, [], by omega, rfl, H2.out, rfl⟩
      case round =>
        obtain ⟨j, vw2, M, hj, rfl, hls, hM⟩ := hrel
        have HJ : Hid (j + gk = 64) := hj
        have H3 : Hid (Ls1 w wr vw2 vr L (L.map cutV ++ M.map Prod.fst) M ∧ M.map Prod.snd = mks j) := ⟨hls, hM⟩
        have HMl : Hid (M.length = j) := by
          have h5 := congrArg List.length hM
          simp only [List.length_map, mks, List.length_range] at h5
          exact h5
        clear hls hM hj
        by_cases hj64 : j < 64
        · have HLT : Hid (j < 64) := hj64
          have HMk : Hid (∀ W, Calls Tryd.prog 24 #[.int .i64 1, .int .i64 j] W fun e w' => e = .returned (.int .i64 (mrk 1 j)) ∧ w' = W) := fun W => mark_any 1 j W (by omega) (by omega)
          have HMs : Hid (mks (j + 1) = mks j ++ [[mrk 1 j]]) := by show _ = _; unfold mks; rw [List.range_succ, List.map_append]; rfl
          have HWl : Hid ((L.map cutV ++ M.map Prod.fst).length ≤ 1073741888) := by
            have h5 := HMl.out
            have h6 := congrArg List.length HLs.out
            have h7 := HR.out.2.1
            have h8 := HCL.out
            simp only [List.length_map] at h6
            show _ ≤ _
            simp only [List.length_append, List.length_map]
            omega
          have hwl := HWl.out
          have y1 := H3.out.1.x.c1
          obtain ⟨aw, cw, ew⟩ := row_form' H3.out.1.l.w
          subst ew
          generalize hWS : L.map cutV ++ M.map Prod.fst = WS at *
          have HWS : Hid (L.map cutV ++ M.map Prod.fst = WS) := hWS
          clear hWS
          generalize mrk 1 j = mk at *
          have hl63 : WS.length + 1 ≤ maxLen := by unfold maxLen; omega
          have hl48 : (WS.length + 1) * 24 ≤ 140737488355328 := by omega
          have H4 : Hid (Ls1 w (wr.drew.alloc (.cells #[.int .i64 mk] 3)) (.slice aw WS.length cw) vr L WS (M ++ [(.slice (some ⟨wr.heap.size, 0, none⟩) 1 1, [mk])])) := by
            have h5 := H3.out.1.below (W' := wr.drew.alloc (.cells #[.int .i64 mk] 3)) (Below.step (Below.refl _ _).drew (below_box _ _))
            exact ⟨h5.x, h5.y, h5.l.addM ((ownOne wr.drew mk).mono H3.out.1.b.size), h5.b⟩
          have HRw : Hid (((wr.drew.alloc (.cells #[.int .i64 mk] 3)).alloc (.cells #[.slice (some ⟨wr.heap.size, 0, none⟩) 1 1] 25)).ownsRow w.heap.size 25 1 (.slice aw WS.length cw) WS.length WS) := World.ownsRow.alloc H4.out.l.w _
          have HNw : Hid (∀ i y, [Value.slice (some ⟨wr.heap.size, 0, none⟩) 1 1][i]? = some y → ((wr.drew.alloc (.cells #[.int .i64 mk] 3)).alloc (.cells #[.slice (some ⟨wr.heap.size, 0, none⟩) 1 1] 25)).cell? ((⟨wr.heap.size + 1, 0, none⟩ : Addr).add i) = some y) := by
            have h5 := one_newR (wr.drew.alloc (.cells #[.int .i64 mk] 3)) (.slice (some ⟨wr.heap.size, 0, none⟩) 1 1) 25
            rw [World.size_alloc] at h5
            exact h5
          have HSw : Hid (w.heap.size ≤ ((wr.drew.alloc (.cells #[.int .i64 mk] 3)).alloc (.cells #[.slice (some ⟨wr.heap.size, 0, none⟩) 1 1] 25)).heap.size) := Nat.le_trans H4.out.b.size (below_box _ _).size
          have HAw : Hid (∀ v7 w7, w7.ownsRow w.heap.size 25 1 v7 (WS.length + 1) (WS ++ [.slice (some ⟨wr.heap.size, 0, none⟩) 1 1]) → Ap ((wr.drew.alloc (.cells #[.int .i64 mk] 3)).alloc (.cells #[.slice (some ⟨wr.heap.size, 0, none⟩) 1 1] 25)) (.slice aw WS.length cw) w7 v7 → w7.cell? ⟨w.heap.size + 1, 1, none⟩ = some (.slice aw WS.length cw) ∧ w7.frozen? ⟨w.heap.size + 1, 1, none⟩ = false ∧ Ls1 w (w7.setCell ⟨w.heap.size + 1, 1, none⟩ v7) v7 vr L (WS ++ [.slice (some ⟨wr.heap.size, 0, none⟩) 1 1]) (M ++ [(.slice (some ⟨wr.heap.size, 0, none⟩) 1 1, [mk])])) := fun v7 w7 ho ha => H4.out.appW ho ha
          have ya : (wr.alloc (.cells #[.int .i64 mk] 3)).cell? ⟨w.heap.size + 1, 1, none⟩ = some (.slice aw WS.length cw) := (H3.out.1.below (below_box wr _)).x.c1
          have yb : ((wr.alloc (.cells #[.int .i64 mk] 3)).alloc (.cells #[.slice (some ⟨wr.heap.size, 0, none⟩) 1 1] 25)).cell? ⟨w.heap.size + 1, 1, none⟩ = some (.slice aw WS.length cw) := (H3.out.1.below (Below.step (below_box wr _) (below_box _ _))).x.c1
          have HFn : Hid (WS ++ [.slice (some ⟨wr.heap.size, 0, none⟩) 1 1] = L.map cutV ++ (M ++ [((.slice (some ⟨wr.heap.size, 0, none⟩) 1 1 : Value), [mk])]).map Prod.fst ∧ (M ++ [((.slice (some ⟨wr.heap.size, 0, none⟩) 1 1 : Value), [mk])]).map Prod.snd = mks (j + 1)) := by
            refine ⟨?_, ?_⟩
            · rw [← HWS.out, List.map_append, List.append_assoc]; rfl
            · rw [HMs.out, List.map_append, H3.out.2]; rfl
          go_upto_region 11 with fail
          go_region_law (first
            | (go_simp; go_at_call 24; refine (HMk.out _).mono ?_; intro e w9 hh; rw [hh.1, hh.2]; clear hh e w9; dsimp only)
            | (refine step_append_apk rfl (.tmp 41) (.tmp 45) 22 rfl w.heap.size 25 il (.slice none 0 0) 1 24 Tryd.underlying22 HIl.out.1 HIl.out.2.1 HIl.out.2.2.1 HIl.out.2.2.2 rfl (by decide) (.slice aw WS.length cw) WS.length WS (by simp [Act.eval, Act.put]) HRw.out ⟨wr.heap.size + 1, 0, none⟩ 1 1 [.slice (some ⟨wr.heap.size, 0, none⟩) 1 1] (by simp [Act.eval, Act.put]) rfl HNw.out (by simp [Value.oneCell']) hl63 hl48 HSw.out ?_; intro v7 w7 own7 ap7; obtain ⟨a7, c7, hv7⟩ := row_form' own7; subst hv7; have K7 := HAw.out _ w7 own7 ap7; have q1 := K7.1; have q2 := K7.2.1; have F7 : Hid (Ls1 w (w7.setCell ⟨w.heap.size + 1, 1, none⟩ (.slice a7 (WS.length + 1) c7)) (.slice a7 (WS.length + 1) c7) vr L (WS ++ [.slice (some ⟨wr.heap.size, 0, none⟩) 1 1]) (M ++ [(.slice (some ⟨wr.heap.size, 0, none⟩) 1 1, [mk])])) := K7.2.2; clear K7 own7 ap7))
          all_goals
            go_wp2
            go_roundg (gk - 1)
            case measure => have := HJ.out; have := HLT.out; omega
            case rel => exact ⟨j + 1, _, M ++ [(.slice (some ⟨wr.heap.size, 0, none⟩) 1 1, [mk])], by have := HJ.out; have := HLT.out; omega, by go_num, by rw [← HFn.out.1]; exact F7.out, HFn.out.2⟩
        · obtain rfl : j = 64 := by have := HJ.out; omega
          have HWl : Hid ((L.map cutV ++ M.map Prod.fst).length = CL + 64) := by
            have h5 := HMl.out
            have h6 := congrArg List.length HLs.out
            have h8 := HCL.out
            simp only [List.length_map] at h6
            show _ = _
            simp only [List.length_append, List.length_map]
            omega
          obtain ⟨aw, cw, ew⟩ := row_form' H3.out.1.l.w
          rw [HWl.out] at ew
          subst ew
          have hcw : CL ≤ cw := by
            rcases H3.out.1.l.w.2 with ⟨e1, e2⟩ | ⟨g', cap', cur, hv, hb, hg, r1, r2, r3, r4⟩
            · rw [HWl.out] at e2; omega
            · injection hv with _ e2 e3
              rw [HWl.out] at r1
              omega
          have hx := H3.out.1.x
          have hy := H3.out.1.y
          have x0 := hx.c0
          have x1 := hx.c1
          have f0 := hx.fz 0
          have hx2 := hx.set0 (.slice aw CL cw)
          have hne : some w.heap.size ≠ some (w.heap.size + 1) := by simp
          have hne2 : some (w.heap.size + 1) ≠ some w.heap.size := by simp
          have hy2 := hy.kept (grown_set wr ⟨w.heap.size + 1, 0, none⟩ (.slice aw CL cw)) hne
          have z0 := hx2.c0
          have z1 := hx2.c1
          have z2 := hx2.c2
          have u0 := hy2.c0
          have g0 := hy2.fz 0
          have hy3 := hy2.set0 (.slice aw CL cw)
          have u1 := hy3.c1
          have g1 := hy3.fz 1
          have hy4 := hy3.set1 (.slice aw (CL + 64) cw)
          have u2 := hy4.c2
          have g2 := hy4.fz 2
          have hy5 := hy4.set2 vr
          have hl2 := H3.out.1.l.box hx (by decide) (by decide) 0 (.slice aw CL cw)
          have hl3 := ((hl2.box hy2 (by decide) (by decide) 0 (.slice aw CL cw)).box hy3 (by decide) (by decide) 1 (.slice aw (CL + 64) cw)).box hy4 (by decide) (by decide) 2 vr
          have hb5 : Below w.heap.size w ((((wr.setCell ⟨w.heap.size + 1, 0, none⟩ (.slice aw CL cw)).setCell ⟨w.heap.size, 0, none⟩ (.slice aw CL cw)).setCell ⟨w.heap.size, 1, none⟩ (.slice aw (CL + 64) cw)).setCell ⟨w.heap.size, 2, none⟩ vr) := (((H3.out.1.b.setCell (p := ⟨w.heap.size + 1, 0, none⟩) (Nat.le_succ _) _).setCell (p := ⟨w.heap.size, 0, none⟩) (Nat.le_refl _) _).setCell (p := ⟨w.heap.size, 1, none⟩) (Nat.le_refl _) _).setCell (p := ⟨w.heap.size, 2, none⟩) (Nat.le_refl _) _
          have HF : Hid (Bx3 ((((wr.setCell ⟨w.heap.size + 1, 0, none⟩ (.slice aw CL cw)).setCell ⟨w.heap.size, 0, none⟩ (.slice aw CL cw)).setCell ⟨w.heap.size, 1, none⟩ (.slice aw (CL + 64) cw)).setCell ⟨w.heap.size, 2, none⟩ vr) w.heap.size 29 (.slice aw CL cw) (.slice aw (CL + 64) cw) vr ∧ Lq w ((((wr.setCell ⟨w.heap.size + 1, 0, none⟩ (.slice aw CL cw)).setCell ⟨w.heap.size, 0, none⟩ (.slice aw CL cw)).setCell ⟨w.heap.size, 1, none⟩ (.slice aw (CL + 64) cw)).setCell ⟨w.heap.size, 2, none⟩ vr) (.slice aw CL cw) (.slice aw (CL + 64) cw) vr css L M) := ⟨hy5, ⟨hl3, HLs.out, H3.out.2, hb5, aw, cw, by rw [HCL.out], by rw [HCL.out]⟩⟩
          obtain ⟨ar, cr, er⟩ := row_form H3.out.1.l.r.row
          subst er
          clear hx hy hx2 hy2 hy3 hy4 hy5 hl2 hl3 hb5
          go_wp2
          refine bodyPost_ret (results_cell_row rfl _ _ w.heap.size 29 #[.slice aw CL cw, .slice aw (CL + 64) cw, .slice ar L.length cr] (0, 0) _ rfl HF.out.1 Tryd.underlying29 rfl (by kernel_rfl)) rfl ?_
          exact ⟨_, _, _, L, M, rfl, HF.out.2⟩
end Go.Proofs.YtlbpdiemanhfkaaDoor

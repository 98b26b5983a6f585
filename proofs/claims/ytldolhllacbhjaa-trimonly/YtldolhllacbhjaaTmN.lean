/-
  trim: Only.
  KEEP: len below nil form rd mono one more grown lt size cell some none of ofNat add out step row get at drop on app start bx ans own box bel rds
-/
import Derived.Test.YtldolhllacbhjaaTmO
set_option linter.unusedSimpArgs false
set_option linter.unusedVariables false
namespace Go.Proofs.Ytldolhllacbhjaa
open Go Go.RowKit
theorem cell_one_new (W : World) (x : Value) (t : TypeId) : ∀ j y, [x][j]? = some y → (W.alloc (.cells #[x] t)).cell? ((⟨W.heap.size, 0, none⟩ : Addr).add j) = some y := fun j y hy => by
  rw [Addr.add_lit]
  have hh : (W.alloc (.cells #[x] t)).heap[W.heap.size]? = _ := World.alloc_heap_new W (.cells #[x] t)
  show (match (W.alloc (.cells #[x] t)).heap[W.heap.size]? with | some (Obj.cells c elem frozen) => c[0 + j]? | x => none) = _
  rw [hh]
  simpa using hy
def OnS (w : World) (q : Int × List (List Int) × Int) (e : Ending) (w' : World) : Prop :=
  ∃ s', e = .returned (.tuple #[.agg #[.int .i64 q.1, s'], .int .i64 q.2.2]) ∧ OwnF w.heap.size w' s' q.2.1 ∧ Below w.heap.size w w'
theorem ris_no {n last : Int} {core : List Int} {k : Nat} (h : k < core.length) (hn : ¬ (last < core.getD k 0 ∧ core.getD k 0 < n)) : risF n last (core.drop k) = false := by
  rw [ris_at n last core k h, decide_eq_false hn, Bool.false_and]
theorem ris_yes {n last : Int} {core : List Int} {k : Nat} (h : k < core.length) (hn : last < core.getD k 0 ∧ core.getD k 0 < n) : risF n last (core.drop k) = risF n (lstF core (k + 1)) (core.drop (k + 1)) := by
  rw [ris_at n last core k h, decide_eq_true hn, Bool.true_and]; rfl
set_option maxHeartbeats 1600000 in
set_option maxRecDepth 100000 in
theorem only_any (v : Int) (s vc : Value) (css : List (List Int)) (core : List Int) (w : World) (hr : Rds w s css) (hc : Rd w vc core) :
    Calls Try.prog 6 #[.agg #[.int .i64 v, s], vc] w fun e w' => OnS w (onlF v css core) e w' := by
  have HX : Hid (En w v s css ((w.alloc (.cells #[.int .i64 v, s] 24)).alloc (.cells #[.int .i64 0, .slice none 0 0] 24))) := En.new hr
  have HP : Hid (Rd ((w.alloc (.cells #[.int .i64 v, s] 24)).alloc (.cells #[.int .i64 0, .slice none 0 0] 24)) vc core) := (hc.below (below_box _ _)).below (below_box _ _)
  have h8 := hr.len
  obtain ⟨sa, sc, rfl, hsc, hsm, _⟩ := hr.form
  clear hr hc
  cases hf : frm v css
  case false =>
    have HU : Hid (onlF v css core = (0, [], 1)) := by unfold onlF Hid; rw [hf]; rfl
    go_enter Try.func6, Try.ntmps6
    go_wp2_with fail
    generalize (w.alloc (.cells #[.int .i64 v, .slice sa css.length sc] 24)).alloc (.cells #[.int .i64 0, .slice none 0 0] 24) = W0 at *
    refine (cnfFormed_any v _ css _ HX.out.bx.rd).mono ?_
    rw [hf]
    rintro e w1 ⟨rfl, bel1⟩
    have HX1 : Hid (En w v (.slice sa css.length sc) css w1) := HX.out.on bel1
    have a0 := HX1.out.ans.c0
    have a1 := HX1.out.ans.c1
    have f0 := HX1.out.ans.f0
    have f1 := HX1.out.ans.f1
    clear HX HP bel1
    go_wp2
    try simp only [Exit.inBlock, Exit.then]
    refine bodyPost_ret (ret_form rfl rfl ((HX1.out.ans.set0 _).set1 _)) rfl ?_
    exact ⟨_, by rw [HU.out]; rfl, by rw [HU.out]; exact OwnF.nil _ _, below_set (below_set HX1.out.bx.bel (by omega) _ _) (by omega) _ _⟩
  have HU : Hid (onlF v css core = if risF css.length (-1) core then (v, pikF css core, 0) else (0, [], 2)) := by unfold onlF Hid; rw [hf]; rfl
  obtain ⟨il, hil, hzl0, hzl1, hzl2⟩ := info_parts infoR
  obtain ⟨ac, cc, rfl, hcc, hcm, hcell⟩ := HP.out.form
  go_enter Try.func6, Try.ntmps6
  go_wp2_with fail
  generalize (w.alloc (.cells #[.int .i64 v, .slice sa css.length sc] 24)).alloc (.cells #[.int .i64 0, .slice none 0 0] 24) = W0 at *
  refine (cnfFormed_any v _ css _ HX.out.bx.rd).mono ?_
  rw [hf]
  rintro e w1 ⟨rfl, bel1⟩
  have HX1 : Hid (En w v (.slice sa css.length sc) css w1) := HX.out.on bel1
  have HP1 : Hid (Rd w1 (.slice ac core.length cc) core) := HP.out.below bel1
  have c0 := HX1.out.bx.c0
  have c1 := HX1.out.bx.c1
  have HS0 : Hid (Bd w1 v (w1.alloc (.cells #[.int .i64 v, .slice none 0 0] 24)) (.slice none 0 0) []) := Bd.start w1 v
  clear HX HP bel1 hcell hf
  go_upto_region 4 with fail
  generalize w1.alloc (.cells #[.int .i64 v, .slice none 0 0] 24) = W5 at *
  obtain ⟨Y, hY⟩ : ∃ Y, w1.heap.size = Y := ⟨_, rfl⟩
  have HY : Hid (w1.heap.size = Y) := hY
  rw [hY]
  clear hY c0 c1
  go_wp2_with fail
  go_loopg [7, 19] core.length (fun g la i wr => ∃ (k : Nat) (L : List Cls) (rv : Value), k + g = core.length ∧ la = .int .i64 (lstF core k) ∧ i = .int .i64 (k : Int) ∧ Hid (L.map Prod.snd = pikF css (core.take k) ∧ risF css.length (-1) core = risF css.length (lstF core k) (core.drop k) ∧ (k : Int) - 1 ≤ lstF core k ∧ k ≤ css.length ∧ L.length = k ∧ Bd w1 v wr rv L))
  case atStart => exact ⟨0, [], _, by omega, rfl, rfl, rfl, by rw [List.drop_zero]; rfl, Int.le_refl _, Nat.zero_le _, rfl, HS0.out⟩
  case round =>
    obtain ⟨k, L, rv, hk, rfl, rfl, HI⟩ := hrel
    obtain ⟨ra, rc, rfl⟩ := row_form HI.out.2.2.2.2.2.own.row
    have HK : Hid (k + gk = core.length) := hk
    have HXr : Hid (En w v (.slice sa css.length sc) css wr) := HX1.out.on HI.out.2.2.2.2.2.bel
    have c0 := HXr.out.bx.c0
    have c1 := HXr.out.bx.c1
    have a0 := HXr.out.ans.c0
    have a1 := HXr.out.ans.c1
    have f0 := HXr.out.ans.f0
    have f1 := HXr.out.ans.f1
    have hbx := HI.out.2.2.2.2.2.box
    rw [HY.out] at hbx
    have o0 := hbx.c0
    have o1 := hbx.c1
    have hLk : L.length ≤ k := by have := HI.out.2.2.2.2.1; omega
    have hkc := HI.out.2.2.2.1
    by_cases hlt : k < core.length
    · obtain ⟨ap', cp', ep, _, _, hcell⟩ := (HP1.out.below HI.out.2.2.2.2.2.bel).form
      have e3 : ap' = ac ∧ cp' = cc := by injection ep with q1 q2 q3; exact ⟨q1.symm, q3.symm⟩
      obtain ⟨rfl, rfl⟩ := e3
      obtain ⟨b, off, rfl, hck⟩ := hcell k hlt
      have HRn : Hid (¬ (lstF core k < core.getD k 0 ∧ core.getD k 0 < css.length) → risF css.length (-1) core = false) := fun h => by rw [HI.out.2.1]; exact ris_no hlt h
      have HRy : Hid ((lstF core k < core.getD k 0 ∧ core.getD k 0 < css.length) → risF css.length (-1) core = risF css.length (lstF core (k + 1)) (core.drop (k + 1))) := fun h => by rw [HI.out.2.1]; exact ris_yes hlt h
      have HPm : Hid (pikF css (core.take (k + 1)) = pikF css (core.take k) ++ [css.getD (core.getD k 0).toNat []]) := pik_more css core k hlt
      have HLs : Hid (lstF core (k + 1) = core.getD k 0) := rfl
      have hlo := HI.out.2.2.1
      clear hk hcell ep
      generalize core.getD k 0 = x at *
      generalize hls : lstF core k = la at *
      by_cases h1 : x ≤ la
      · have HU2 : Hid (onlF v css core = (0, [], 2)) := by show _ = _; rw [HU.out, HRn.out (by omega)]; rfl
        go_wp2_with fail
        try simp only [Exit.inBlock, Exit.then]
        refine bodyPost_ret (ret_form rfl rfl ((HXr.out.ans.set0 _).set1 _)) rfl ?_
        exact ⟨_, by rw [HU2.out]; rfl, by rw [HU2.out]; exact OwnF.nil _ _, below_set (below_set HXr.out.bx.bel (by omega) _ _) (by omega) _ _⟩
      · by_cases h2 : (css.length : Int) ≤ x
        · have HU2 : Hid (onlF v css core = (0, [], 2)) := by show _ = _; rw [HU.out, HRn.out (by omega)]; rfl
          go_wp2_with fail
          try simp only [Exit.inBlock, Exit.then]
          refine bodyPost_ret (ret_form rfl rfl ((HXr.out.ans.set0 _).set1 _)) rfl ?_
          exact ⟨_, by rw [HU2.out]; rfl, by rw [HU2.out]; exact OwnF.nil _ _, below_set (below_set HXr.out.bx.bel (by omega) _ _) (by omega) _ _⟩
        · obtain ⟨i, rfl⟩ : ∃ i : Nat, x = (i : Int) := ⟨x.toNat, by omega⟩
          have hil2 : i < css.length := by omega
          obtain ⟨sa', sc', es, _, _, hrow⟩ := HXr.out.bx.rd.form
          have e4 : sa' = sa ∧ sc' = sc := by injection es with q1 q2 q3; exact ⟨q1.symm, q3.symm⟩
          obtain ⟨rfl, rfl⟩ := e4
          obtain ⟨b2, o2, uu, rfl, hu2, hru⟩ := hrow i hil2
          have hb2 : b2 < wr.heap.size := World.block_lt_of_cell? wr _ hu2
          obtain ⟨au, cu, rfl, _⟩ := hru.form
          have HR2 : Hid (risF css.length (-1) core = risF css.length (lstF core (k + 1)) (core.drop (k + 1))) := HRy.out (by omega)
          have HP2 : Hid (pikF css (core.take (k + 1)) = pikF css (core.take k) ++ [css.getD i []]) := by have := HPm.out; rw [Int.toNat_natCast] at this; exact this
          generalize css.getD i [] = z at *
          have HCl : Hid (∀ W, Below wr.heap.size wr W → Calls Try.prog 15 #[.slice au z.length cu] W fun e w' => ∃ u, e = .returned u ∧ Own wr.heap.size w' u z ∧ Below wr.heap.size wr w') := fun W h => (clone_any _ z W (hru.below h)).mono fun e w' ⟨u, h1, h2, h3⟩ => ⟨u, h1, h2.mono h.size, Below.step h h3⟩
          have HCx : Hid (∀ W, Below wr.heap.size wr W → W.cell? ⟨Y, 1, none⟩ = some (.slice ra L.length rc) ∧ W.cell? ⟨w.heap.size, 1, none⟩ = some (.slice (some ⟨b2, o2, none⟩) css.length sc') ∧ W.cell? ⟨b2, o2 + i, none⟩ = some (.slice au z.length cu)) := fun W h => ⟨(hbx.below h).c1, (HXr.out.on h).bx.c1, (h.cell (p := ⟨b2, o2 + i, none⟩) hb2).trans hu2⟩
          have hsz := HI.out.2.2.2.2.2.bel.size
          have hLc : (L.length + 1) * 24 ≤ 140737488355328 := by omega
          clear hrow es hru HRn HRy HPm hbx a0 a1 f0 f1 c0 o0
          go_upto_region 10 with fail
          go_region_law (first
            | (go_simp; go_at_call 15; refine (HCl.out _ (Below.refl _ _).drew).mono ?_; rintro e w2 ⟨u2, rfl, own2, bel2⟩; have d0 := (HCx.out w2 bel2).1; have d1 := (HCx.out w2 bel2).2.1; have d2 := (HCx.out w2 bel2).2.2; have g0 := (HCx.out _ (Below.step bel2 (below_box w2 (.cells #[u2] 25)))).1; have g1 := (HCx.out _ (Below.step bel2 (below_box w2 (.cells #[u2] 25)))).2.1; have hs2 := bel2.size; have H2 : Hid (Own wr.heap.size w2 u2 z ∧ Below wr.heap.size wr w2) := ⟨own2, bel2⟩; obtain ⟨a2, c2, hu2'⟩ := own_form own2; subst hu2'; clear own2 bel2; dsimp only)
            | (refine step_append_own rfl (.tmp 35) (.tmp 42) 22 rfl w1.heap.size 25 il (.slice none 0 0) 1 24 Try.underlying22 hil hzl0 hzl1 hzl2 rfl (by decide) (.slice ra L.length rc) L.length (L.map Prod.fst) (by simp [Act.eval, Act.put]) (World.ownsRow.alloc (HI.out.2.2.2.2.2.on H2.out.2).own.row _) ⟨w2.heap.size, 0, none⟩ 1 1 [.slice a2 z.length c2] (by simp [Act.eval, Act.put]) rfl (cell_one_new _ _ _) (by simp [Value.oneCell']) (by unfold maxLen; omega) (by omega) (by simp; omega) ?_; intro v3 w3 own3 gr3; obtain ⟨a3, c3, hv3⟩ := row_form own3; subst hv3; have hap := Bd.app HI.out.2.2.2.2.2 H2.out.2 H2.out.1 own3 gr3; have hb3 := hap.1; rw [HY.out] at hb3; have p0 := hb3.c1; have p1 := hb3.f1; have H3 : Hid (Bd w1 v (w3.setCell ⟨Y, 1, none⟩ (.slice a3 (L.length + 1) c3)) (.slice a3 (L.length + 1) c3) (L ++ [(.slice a2 z.length c2, z)])) := (by have := hap.2; rw [HY.out] at this; exact this); clear own3 gr3 hap hb3))
          all_goals
            go_wp2_with fail
            go_roundg (gk - 1)
            case measure => have := HK.out; omega
            case rel => exact ⟨k + 1, _, _, by have := HK.out; omega, by rw [HLs.out], by go_num, by rw [List.map_append, HI.out.1, HP2.out]; rfl, HR2.out, by rw [HLs.out]; push_cast; omega, by omega, by have := HI.out.2.2.2.2.1; simp; omega, H3.out⟩
    · obtain rfl : k = core.length := by omega
      have HU2 : Hid (onlF v css core = (v, pikF css core, 0)) := by
        show _ = _
        rw [HU.out, HI.out.2.1, List.drop_length]; rfl
      have HF : Hid (L.map Prod.snd = pikF css core) := by have := HI.out.1; rw [List.take_length] at this; exact this
      have hLe : (w1.heap.size : Nat) = Y := HY.out
      have hsz1 : w.heap.size + 1 < w1.heap.size := HX1.out.ans.lt
      clear hk
      go_wp2_with fail
      try simp only [Exit.inBlock, Exit.then]
      refine bodyPost_ret (ret_form rfl rfl ((HXr.out.ans.set0 _).set1 _)) rfl ?_
      refine ⟨_, by rw [HU2.out]; rfl, ?_, below_set (below_set HXr.out.bx.bel (by omega) _ _) (by omega) _ _⟩
      rw [HU2.out]
      have h0 : OwnF w.heap.size wr (.slice ra L.length rc) (pikF css core) := ⟨L, HI.out.2.2.2.2.2.own.mono (by omega), HF.out⟩
      exact (h0.set HXr.out.ans (by decide) (by decide) 0 _).set (HXr.out.ans.set0 _) (by decide) (by decide) 1 _
end Go.Proofs.Ytldolhllacbhjaa

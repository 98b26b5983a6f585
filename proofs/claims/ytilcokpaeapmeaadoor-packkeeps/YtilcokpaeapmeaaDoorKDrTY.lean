/-
  drat's reader.take, walked, where the steps are given to a range's round (walks/genty.py writes it out of DrT).
  KEEP: box own below mono lt set kept new trans refl app on grown cell out block size os tape output c f c0 c1
-/
import Derived.Test.YtilcokpaeapmeaaDoorJDrR
import Derived.Test.YtilcokpaeapmeaaDoorRangeV
import Derived.Stop.RegionWithIn
import Derived.Sort.LoopGhostIn
import Derived.Sort.AtCallIn
import Derived.Sort.CutIn
set_option linter.unusedSimpArgs false
set_option linter.unusedVariables false
namespace Go.Proofs.YtilcokpaeapmeaaDoor
open Go Go.RowKit Go.Lib Go.Sort Go.Shelf

attribute [local go_sem] Oper.semAt_some

set_option maxRecDepth 100000 in
set_option maxHeartbeats 3200000 in
theorem takeY_any (B D ly : Nat) (W : World) (op dr : Bool) (cl : List Int) (cv : Value) (wd : List UInt8)
    (h : Rx B D (.func (.yield ly) #[] #[]) W ⟨op, dr, cl⟩ cv) (hB : B ≤ W.heap.size) (hBD : D < B) (he : Env W) (hl : (cl.length + 1) * 8 ≤ 140737488351232) (hw : wd.length ≤ 1099511627776) (R : Bool → World → Prop)
    (hno : takeW ⟨op, dr, cl⟩ wd = none → ∀ W', Below W.heap.size W W' → R false W')
    (hgo : ∀ st', takeW ⟨op, dr, cl⟩ wd = some (st', []) → ∀ cv' W', Rx B D (.func (.yield ly) #[] #[]) W' st' cv' → Mq W (rdQ D cv) W' (rdQ D cv') → R true W')
    (hgv : ∀ st' x, takeW ⟨op, dr, cl⟩ wd = some (st', [x]) → ∀ v cv' W', Rx B D (.func (.yield ly) #[] #[]) W' st' cv' → Own W.heap.size W' v x.2 → cv'.ownBlock = cv.ownBlock → Mq W (rdQ D cv) W' (rdQ D cv') →
      ∀ m, YieldAt Fence.wide m Tryd.prog ly #[.agg #[.bool x.1, v]] W' fun e W'' => ∃ b : Bool, e = .returned (.bool b) ∧ R b W'') :
    Calls Tryd.prog 53 #[.pointer (some ⟨D, 0, none⟩), .string ⟨wd.toArray⟩] W fun e W' => ∃ b : Bool, e = .returned (.bool b) ∧ R b W' := by
  have hD := h.box.lt
  have HR : Hid (Rx B D (.func (.yield ly) #[] #[]) W ⟨op, dr, cl⟩ cv) := h
  have HNO : Hid (takeW ⟨op, dr, cl⟩ wd = none → ∀ W', Below W.heap.size W W' → R false W') := hno
  have HGO : Hid (∀ st', takeW ⟨op, dr, cl⟩ wd = some (st', []) → ∀ cv' W', Rx B D (.func (.yield ly) #[] #[]) W' st' cv' → Mq W (rdQ D cv) W' (rdQ D cv') → R true W') := hgo
  have HGV : Hid (∀ st' x, takeW ⟨op, dr, cl⟩ wd = some (st', [x]) → ∀ v cv' W', Rx B D (.func (.yield ly) #[] #[]) W' st' cv' → Own W.heap.size W' v x.2 → cv'.ownBlock = cv.ownBlock → Mq W (rdQ D cv) W' (rdQ D cv') →
      ∀ m, YieldAt Fence.wide m Tryd.prog ly #[.agg #[.bool x.1, v]] W' fun e W'' => ∃ b : Bool, e = .returned (.bool b) ∧ R b W'') := hgv
  have HEq := eq100 wd
  obtain ⟨c0, c1, c2, c3⟩ := h.box.c
  obtain ⟨f1, f2, f3⟩ := h.box.f
  dsimp only at c1 c2
  have HEnv : Hid (Env W) := he
  have HTW : Hid (takeW ⟨op, dr, cl⟩ wd = if wd == [100] && !op then some (⟨true, true, cl⟩, []) else match numD wd with | none => none | some z => if z = 0 then some (⟨false, false, []⟩, [(dr, cl)]) else some (⟨true, dr, cl ++ [z]⟩, [])) := rfl
  clear hno hgo hgv h he
  cases hd : (wd == [100] && !op)
  case true =>
    simp only [Bool.and_eq_true, Bool.not_eq_true'] at hd
    obtain ⟨hd1, rfl⟩ := hd
    rw [hd1] at HEq
    have HT : Hid (takeW ⟨false, dr, cl⟩ wd = some (⟨true, true, cl⟩, [])) := by show _ = _; rw [HTW.out, hd1]; rfl
    have hfin : Hid (R true ((W.setCell ⟨D, 1, none⟩ (.bool true)).setCell ⟨D, 2, none⟩ (.bool true))) := by
      refine HGO.out _ HT.out cv _ ⟨((HR.out.box.set1 (.bool true)).set2 (.bool true)), own_keep9 HR.out.own fun k hk => ?_⟩ ?_
      · have hne : k ≠ D := fun e => HR.out.box.not_row HR.out.own (by rw [← e]; exact hk)
        exact (Below.heap_setCell _ ⟨D, 2, none⟩ _ k hne).trans (Below.heap_setCell _ ⟨D, 1, none⟩ _ k hne)
      · exact mq_wide (mq_set (mq_set (Mq.refl W _) hD 1 _) hD 2 _) rfl
    clear HTW HNO HGO HGV HT
    go_enter Tryd.func53, Tryd.ntmps53
    go_wp2
    go_ret
    exact ⟨true, rfl, hfin.out⟩
  case false =>
    have HTW2 : Hid (takeW ⟨op, dr, cl⟩ wd = match numD wd with | none => none | some z => if z = 0 then some (⟨false, false, []⟩, [(dr, cl)]) else some (⟨true, dr, cl ++ [z]⟩, [])) := by show _ = _; rw [HTW.out, hd]; rfl
    have HNum : Hid (Calls Tryd.prog 64 #[.string ⟨wd.toArray⟩] W fun e w' => ∃ n : Int, e = .returned (.tuple #[.int .i64 n, .bool (numD wd).isSome]) ∧ (∀ z, numD wd = some z → n = z) ∧ Below W.heap.size W w') := number9_any ⟨wd.toArray⟩ W (by show wd.length ≤ _; omega) HEnv.out
    have hop2 : Hid ((wd == [100]) = true → op = true) := fun h1 => by rw [h1] at hd; simpa using hd
    clear HTW hd
    cases hn : numD wd with
    | none =>
      rw [hn] at HTW2 HNum
      have HN0 : Hid (∀ W', Below W.heap.size W W' → R false W') := HNO.out HTW2.out
      clear HGO HGV HNO HTW2 hn
      cases hq : (wd == [100])
      all_goals
        rw [hq] at HEq
        first | (have hop : op = true := hop2.out hq; subst hop) | skip
        go_enter Tryd.func53, Tryd.ntmps53
        go_wp2_with fail
        all_goals
          refine HNum.out.mono ?_
          rintro e w1 ⟨n, rfl, -, bel1⟩
          go_wp2
          go_ret
          exact ⟨false, rfl, HN0.out _ bel1⟩
    | some z =>
      obtain ⟨hnw, hok⟩ := numD_some hn
      have hzr := okN_range hok
      rw [hn] at HTW2 HNum
      have HNum2 : Hid (Calls Tryd.prog 64 #[.string ⟨wd.toArray⟩] W fun e w' => e = .returned (.tuple #[.int .i64 z, .bool true]) ∧ Below W.heap.size W w') := HNum.out.mono fun e w' ⟨n, h1, h2, h3⟩ => ⟨by rw [h1, h2 z rfl]; rfl, h3⟩
      clear HNO HNum hn hnw hok
      by_cases hz : z = 0
      · subst hz
        have HT : Hid (takeW ⟨op, dr, cl⟩ wd = some (⟨false, false, []⟩, [(dr, cl)])) := HTW2.out
        have HGV2 := fun v cv' W' => HGV.out _ _ HT.out v cv' W'
        have HG : Hid (∀ v cv' W', Rx B D (.func (.yield ly) #[] #[]) W' ⟨false, false, []⟩ cv' → Own W.heap.size W' v cl → cv'.ownBlock = cv.ownBlock → Mq W (rdQ D cv) W' (rdQ D cv') →
            ∀ m, YieldAt Fence.wide m Tryd.prog ly #[.agg #[.bool dr, v]] W' fun e W'' => ∃ b : Bool, e = .returned (.bool b) ∧ R b W'') := HGV2
        clear HGO HGV HGV2 HTW2 HT
        cases hq : (wd == [100])
        all_goals
          rw [hq] at HEq
          first | (have hop : op = true := hop2.out hq; subst hop) | skip
          refine (callsIn_wide (n := 6)).1 ?_
          refine callsIn_of_wp Tryd.func53 rfl trivial ?_ rfl
          simp only [Tryd.ntmps53, List.size_toArray, List.length_cons, List.length_nil, Nat.reduceAdd, Nat.reduceSub, Array.replicate_succ, Array.replicate_zero, List.push_toArray, List.append_toArray, List.nil_append, List.cons_append]
          gi_wp2_with fail
          refine ⟨trivial, ?_⟩
          refine (callsIn_wide.2 HNum2.out).mono ?_
          rintro e w1 ⟨rfl, bel1⟩
          have HR1 : Hid (Rx B D (.func (.yield ly) #[] #[]) w1 ⟨_, dr, cl⟩ cv) := HR.out.below bel1
          have hs1 := bel1.size
          have d0 := HR1.out.box.c.1
          have HEn : Hid (∀ Wx, Below w1.heap.size w1 Wx → Calls Tryd.prog 65 #[.pointer (some ⟨D, 0, none⟩)] Wx fun e W' => ∃ v cv', e = .returned (.agg #[.bool dr, v]) ∧ Own Wx.heap.size W' v cl ∧ Rx B D (.func (.yield ly) #[] #[]) W' ⟨false, false, []⟩ cv' ∧ cv'.ownBlock = cv.ownBlock ∧ Mq Wx (fun k => k = D) W' (fun k => k = D)) := fun Wx hb => end_any B D _ Wx _ cv (HR1.out.below hb) (by have := hb.size; omega) (by show cl.length * 8 ≤ _; omega)
          clear HNum2
          gi_upto_region 8 with fail
          gi_region_with (first
            | (refine ⟨trivial, ?_⟩; gi_at_call 65; refine (callsIn_wide.2 (HEn.out _ (Below.refl _ _).drew)).mono ?_; rintro e w2 ⟨v, cv', rfl, hov, hrx, hcv, hmq⟩; have q2 := hrx.box.c.1; obtain ⟨av, ac, hv⟩ := own_form hov; subst hv; obtain ⟨fn, tmps, assign, body, hy, hR⟩ := HG.out (.slice av cl.length ac) cv' w2 hrx (hov.mono (by simp; omega)) hcv ((Mq.below bel1 _).trans ((Mq.below (Below.refl _ _).drew _).trans (mq_wide hmq hcv))) (6 - 1))
            | (refine hR.mono ?_; rintro e w3 ⟨b, rfl, hb⟩; clear hR hy))
          all_goals
            gi_wp2
            go_ret
            exact ⟨_, rfl, hb⟩
      · have HT : Hid (takeW ⟨op, dr, cl⟩ wd = some (⟨true, dr, cl ++ [z]⟩, [])) := by show _ = _; rw [HTW2.out]; simp [hz]
        have HG : Hid (∀ cv' W', Rx B D (.func (.yield ly) #[] #[]) W' ⟨true, dr, cl ++ [z]⟩ cv' → Mq W (rdQ D cv) W' (rdQ D cv') → R true W') := fun cv' W' => HGO.out _ HT.out cv' W'
        have hz0' : (z == 0) = false := by simpa using hz
        obtain ⟨i0, hi, hz0, hz1, hz2⟩ := info_parts Tryd.info3
        clear HGO HGV HTW2 HT
        cases hq : (wd == [100])
        all_goals
          rw [hq] at HEq
          first | (have hop : op = true := hop2.out hq; subst hop) | skip
          go_enter Tryd.func53, Tryd.ntmps53
          go_wp2_with fail
          refine HNum2.out.mono ?_
          rintro e w1 ⟨rfl, bel1⟩
          have HR1 : Hid (Rx B D (.func (.yield ly) #[] #[]) w1 ⟨_, dr, cl⟩ cv) := HR.out.below bel1
          have hs1 := bel1.size
          obtain ⟨_, d1, d2, d3⟩ := HR1.out.box.c
          obtain ⟨g1, g2, g3⟩ := HR1.out.box.f
          obtain ⟨ca, cc, hcv⟩ := own_form HR.out.own
          have HOw : Hid (Own B ((w1.setCell ⟨D, 1, none⟩ (.bool true)).alloc (.cells #[.int .i64 z] 3)) cv cl) := World.ownsRow.alloc (own_keep9 HR1.out.own fun k hk => Below.heap_setCell _ ⟨D, 1, none⟩ _ k (fun e => HR1.out.box.not_row HR1.out.own (by have e' : k = D := e; rw [← e']; exact hk))) _
          have HNw : Hid (∀ j u, [Value.int .i64 z][j]? = some u → ((w1.setCell ⟨D, 1, none⟩ (.bool true)).alloc (.cells #[.int .i64 z] 3)).cell? ((⟨w1.heap.size, 0, none⟩ : Addr).add j) = some u) := by
            have := cell_one_new (w1.setCell ⟨D, 1, none⟩ (.bool true)) (.int .i64 z) 3
            rw [World.size_setCell] at this
            exact this
          subst hcv
          dsimp only at *
          clear HNum2
          go_wp2_with (at_builtin; refine wpList_append_apk rfl _ _ 58 rfl B 3 i0 (.int .i64 0) 1 8 Tryd.underlying58 hi hz0 hz1 hz2 rfl (by decide) _ cl.length (cl.map (Value.int .i64)) rfl HOw.out _ 1 1 [.int .i64 z] rfl rfl HNw.out (by simp [Value.oneCell']) (by unfold maxLen; omega) (by omega) (by simp; omega) ?_; intro v7 w7 own7 ap7; obtain ⟨a7, c7, hv7⟩ := own_form9 own7; subst hv7; have H7 := fin9e HR1.out own7 ap7; have p3 := H7.1.c.2.2.2; have q3 := H7.1.f.2.2)
          go_ret
          exact ⟨true, rfl, HG.out _ _ H7.2.1 ((Mq.below bel1 _).trans H7.2.2)⟩

end Go.Proofs.YtilcokpaeapmeaaDoor

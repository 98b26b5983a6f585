/-
  drat's reader.take, walked, where the steps are given to a function (Read's).
  KEEP: box own below mono lt set kept new trans refl app on grown cell out block size os tape output c f c0 c1
-/
import Derived.Test.YtaipajalkendaaaDoorDrE
set_option linter.unusedSimpArgs false
set_option linter.unusedVariables false
namespace Go.Proofs.YtaipajalkendaaaDoor
open Go Go.RowKit Go.Lib Go.Sort

/-- the reader's own blocks -/
def rdQ (D : Nat) (cv : Value) : Nat → Prop := fun k => k = D ∨ some k = cv.ownBlock
theorem mq_wide {W W' : World} {D : Nat} {cv cv' : Value} (h : Mq W (fun k => k = D) W' (fun k => k = D)) (hc : cv'.ownBlock = cv.ownBlock) : Mq W (rdQ D cv) W' (rdQ D cv') :=
  ⟨h.os, h.tape, h.output, h.size, fun k hk hq => h.block k hk (fun e => hq (.inl e)), fun k hk => .inl (by unfold rdQ at hk ⊢; rwa [hc] at hk)⟩
theorem eq100 (wd : List UInt8) : ((⟨wd.toArray⟩ : ByteArray).toList == [100]) = (wd == [100]) := by rw [ByteArray.toList_eq]

theorem fin9e {B D : Nat} {gv cv v7 : Value} {w1 w7 : World} {op dr : Bool} {cl : List Int} {z : Int} {o : Obj} (h : Rx B D gv w1 ⟨op, dr, cl⟩ cv) (own7 : w7.ownsRow B 3 1 v7 (cl.length + 1) (cl.map (Value.int .i64) ++ [.int .i64 z])) (ap7 : Ap ((w1.setCell ⟨D, 1, none⟩ (.bool true)).alloc o) cv w7 v7) :
    Bx4 w7 D gv (.bool true) (.bool dr) cv ∧ Rx B D gv (w7.setCell ⟨D, 3, none⟩ v7) ⟨true, dr, cl ++ [z]⟩ v7 ∧ Mq w1 (rdQ D cv) (w7.setCell ⟨D, 3, none⟩ v7) (rdQ D v7) := by
  have hD := h.box.lt
  have hsz : ((w1.setCell ⟨D, 1, none⟩ (.bool true)).alloc o).heap.size = w1.heap.size + 1 := by simp
  have hne := h.box.not_row h.own
  have b0 : Bx4 ((w1.setCell ⟨D, 1, none⟩ (.bool true)).alloc o) D gv (.bool true) (.bool dr) cv := (Below.heap_alloc _ _ _ (by simpa using hD)).trans (h.box.set1 (.bool true))
  have b7 : Bx4 w7 D gv (.bool true) (.bool dr) cv := (ap7.grown.block D (by omega) hne).trans b0
  have o7 : Own B w7 v7 (cl ++ [z]) := own_one_more own7
  refine ⟨b7, ⟨b7.set3 v7, own_keep9 o7 fun k hk => Below.heap_setCell _ ⟨D, 3, none⟩ _ k (fun e => b7.not_row o7 (by have e' : k = D := e; rw [← e']; exact hk))⟩, ⟨?_, ?_, ?_, ?_, fun k hk hq => ?_, fun k hk => ?_⟩⟩
  · exact ap7.grown.os
  · exact ap7.grown.tape
  · exact ap7.grown.output
  · have := ap7.grown.size; rw [World.size_setCell]; omega
  · have h1 : k ≠ D := fun e => hq (.inl e)
    have h2 : some k ≠ cv.ownBlock := fun e => hq (.inr e)
    rw [Below.heap_setCell _ ⟨D, 3, none⟩ _ k h1, ap7.grown.block k (by omega) h2, Below.heap_alloc _ _ _ (by simpa using hk)]
    exact Below.heap_setCell _ ⟨D, 1, none⟩ _ k h1
  · rcases hk with rfl | hk
    · exact .inl (.inl rfl)
    · rcases ap7.new with e | e
      · exact .inl (.inr (by rw [hk, e]))
      · have := e k hk.symm; exact .inr (by omega)

set_option maxRecDepth 100000 in
set_option maxHeartbeats 3200000 in
theorem takeF_any (B D A : Nat) (W : World) (op dr : Bool) (cl : List Int) (cv : Value) (wd : List UInt8)
    (h : Rx B D (.func (.func 42) #[] #[.pointer (some ⟨A, 0, none⟩)]) W ⟨op, dr, cl⟩ cv) (hB : B ≤ W.heap.size) (hBD : D < B) (he : Env W) (hl : (cl.length + 1) * 8 ≤ 140737488351232) (hw : wd.length ≤ 1099511627776) (R : Bool → World → Prop)
    (hno : takeW ⟨op, dr, cl⟩ wd = none → ∀ W', Below W.heap.size W W' → R false W')
    (hgo : ∀ st', takeW ⟨op, dr, cl⟩ wd = some (st', []) → ∀ cv' W', Rx B D (.func (.func 42) #[] #[.pointer (some ⟨A, 0, none⟩)]) W' st' cv' → Mq W (rdQ D cv) W' (rdQ D cv') → R true W')
    (hgv : ∀ st' x, takeW ⟨op, dr, cl⟩ wd = some (st', [x]) → ∀ v cv' W', Rx B D (.func (.func 42) #[] #[.pointer (some ⟨A, 0, none⟩)]) W' st' cv' → Own W.heap.size W' v x.2 → cv'.ownBlock = cv.ownBlock → Mq W (rdQ D cv) W' (rdQ D cv') →
      Calls Tryd.prog 42 #[.agg #[.bool x.1, v], .pointer (some ⟨A, 0, none⟩)] W' fun e W'' => ∃ b : Bool, e = .returned (.bool b) ∧ R b W'' ∧ W''.cell? ⟨D, 0, none⟩ = W'.cell? ⟨D, 0, none⟩) :
    Calls Tryd.prog 54 #[.pointer (some ⟨D, 0, none⟩), .string ⟨wd.toArray⟩] W fun e W' => ∃ b : Bool, e = .returned (.bool b) ∧ R b W' := by
  have hD := h.box.lt
  have HR : Hid (Rx B D (.func (.func 42) #[] #[.pointer (some ⟨A, 0, none⟩)]) W ⟨op, dr, cl⟩ cv) := h
  have HNO : Hid (takeW ⟨op, dr, cl⟩ wd = none → ∀ W', Below W.heap.size W W' → R false W') := hno
  have HGO : Hid (∀ st', takeW ⟨op, dr, cl⟩ wd = some (st', []) → ∀ cv' W', Rx B D (.func (.func 42) #[] #[.pointer (some ⟨A, 0, none⟩)]) W' st' cv' → Mq W (rdQ D cv) W' (rdQ D cv') → R true W') := hgo
  have HGV : Hid (∀ st' x, takeW ⟨op, dr, cl⟩ wd = some (st', [x]) → ∀ v cv' W', Rx B D (.func (.func 42) #[] #[.pointer (some ⟨A, 0, none⟩)]) W' st' cv' → Own W.heap.size W' v x.2 → cv'.ownBlock = cv.ownBlock → Mq W (rdQ D cv) W' (rdQ D cv') →
      Calls Tryd.prog 42 #[.agg #[.bool x.1, v], .pointer (some ⟨A, 0, none⟩)] W' fun e W'' => ∃ b : Bool, e = .returned (.bool b) ∧ R b W'' ∧ W''.cell? ⟨D, 0, none⟩ = W'.cell? ⟨D, 0, none⟩) := hgv
  have HEq := eq100 wd
  obtain ⟨c0, c1, c2, c3⟩ := h.box.c
  obtain ⟨f1, f2, f3⟩ := h.box.f
  dsimp only at c1 c2
  have HEnv : Hid (Env W) := he
  have HTW : Hid (takeW ⟨op, dr, cl⟩ wd = if wd == [100] && !op then some (⟨true, true, cl⟩, []) else match numD wd with | none => none | some z => if z = 0 then some (⟨false, false, []⟩, [(dr, cl)]) else some (⟨true, dr, cl ++ [z]⟩, [])) := rfl
  clear hno hgo hgv h he
  cases hd : (wd == [100] && !op)
  case true =>
    simp only [Bool.and_eq_true, Bool.not_eq_true'] at hd
    obtain ⟨hd1, rfl⟩ := hd
    rw [hd1] at HEq
    have HT : Hid (takeW ⟨false, dr, cl⟩ wd = some (⟨true, true, cl⟩, [])) := by show _ = _; rw [HTW.out, hd1]; rfl
    have hfin : Hid (R true ((W.setCell ⟨D, 1, none⟩ (.bool true)).setCell ⟨D, 2, none⟩ (.bool true))) := by
      refine HGO.out _ HT.out cv _ ⟨((HR.out.box.set1 (.bool true)).set2 (.bool true)), own_keep9 HR.out.own fun k hk => ?_⟩ ?_
      · have hne : k ≠ D := fun e => HR.out.box.not_row HR.out.own (by rw [← e]; exact hk)
        exact (Below.heap_setCell _ ⟨D, 2, none⟩ _ k hne).trans (Below.heap_setCell _ ⟨D, 1, none⟩ _ k hne)
      · exact mq_wide (mq_set (mq_set (Mq.refl W _) hD 1 _) hD 2 _) rfl
    clear HTW HNO HGO HGV HT
    go_enter Tryd.func54, Tryd.ntmps54
    go_wp2
    go_ret
    exact ⟨true, rfl, hfin.out⟩
  case false =>
    have HTW2 : Hid (takeW ⟨op, dr, cl⟩ wd = match numD wd with | none => none | some z => if z = 0 then some (⟨false, false, []⟩, [(dr, cl)]) else some (⟨true, dr, cl ++ [z]⟩, [])) := by show _ = _; rw [HTW.out, hd]; rfl
    have HNum : Hid (Calls Tryd.prog 66 #[.string ⟨wd.toArray⟩] W fun e w' => ∃ n : Int, e = .returned (.tuple #[.int .i64 n, .bool (numD wd).isSome]) ∧ (∀ z, numD wd = some z → n = z) ∧ Below W.heap.size W w') := number9_any ⟨wd.toArray⟩ W (by show wd.length ≤ _; omega) HEnv.out
    have hop2 : Hid ((wd == [100]) = true → op = true) := fun h1 => by rw [h1] at hd; simpa using hd
    clear HTW hd
    cases hn : numD wd with
    | none =>
      rw [hn] at HTW2 HNum
      have HN0 : Hid (∀ W', Below W.heap.size W W' → R false W') := HNO.out HTW2.out
      clear HGO HGV HNO HTW2 hn
      cases hq : (wd == [100])
      all_goals
        rw [hq] at HEq
        first | (have hop : op = true := hop2.out hq; subst hop) | skip
        go_enter Tryd.func54, Tryd.ntmps54
        go_wp2_with fail
        all_goals
          refine HNum.out.mono ?_
          rintro e w1 ⟨n, rfl, -, bel1⟩
          go_wp2
          go_ret
          exact ⟨false, rfl, HN0.out _ bel1⟩
    | some z =>
      obtain ⟨hnw, hok⟩ := numD_some hn
      have hzr := okN_range hok
      rw [hn] at HTW2 HNum
      have HNum2 : Hid (Calls Tryd.prog 66 #[.string ⟨wd.toArray⟩] W fun e w' => e = .returned (.tuple #[.int .i64 z, .bool true]) ∧ Below W.heap.size W w') := HNum.out.mono fun e w' ⟨n, h1, h2, h3⟩ => ⟨by rw [h1, h2 z rfl]; rfl, h3⟩
      clear HNO HNum hn hnw hok
      by_cases hz : z = 0
      · subst hz
        have HT : Hid (takeW ⟨op, dr, cl⟩ wd = some (⟨false, false, []⟩, [(dr, cl)])) := HTW2.out
        have HGV2 := fun v cv' W' => HGV.out _ _ HT.out v cv' W'
        have HG : Hid (∀ v cv' W', Rx B D (.func (.func 42) #[] #[.pointer (some ⟨A, 0, none⟩)]) W' ⟨false, false, []⟩ cv' → Own W.heap.size W' v cl → cv'.ownBlock = cv.ownBlock → Mq W (rdQ D cv) W' (rdQ D cv') →
            Calls Tryd.prog 42 #[.agg #[.bool dr, v], .pointer (some ⟨A, 0, none⟩)] W' fun e W'' => ∃ b : Bool, e = .returned (.bool b) ∧ R b W'' ∧ W''.cell? ⟨D, 0, none⟩ = W'.cell? ⟨D, 0, none⟩) := HGV2
        clear HGO HGV HGV2 HTW2 HT
        cases hq : (wd == [100])
        all_goals
          rw [hq] at HEq
          first | (have hop : op = true := hop2.out hq; subst hop) | skip
          go_enter Tryd.func54, Tryd.ntmps54
          go_wp2_with fail
          refine HNum2.out.mono ?_
          rintro e w1 ⟨rfl, bel1⟩
          have HR1 : Hid (Rx B D (.func (.func 42) #[] #[.pointer (some ⟨A, 0, none⟩)]) w1 ⟨_, dr, cl⟩ cv) := HR.out.below bel1
          have hs1 := bel1.size
          have d0 := HR1.out.box.c.1
          have HEn : Hid (∀ Wx, Below w1.heap.size w1 Wx → Calls Tryd.prog 67 #[.pointer (some ⟨D, 0, none⟩)] Wx fun e W' => ∃ v cv', e = .returned (.agg #[.bool dr, v]) ∧ Own Wx.heap.size W' v cl ∧ Rx B D (.func (.func 42) #[] #[.pointer (some ⟨A, 0, none⟩)]) W' ⟨false, false, []⟩ cv' ∧ cv'.ownBlock = cv.ownBlock ∧ Mq Wx (fun k => k = D) W' (fun k => k = D)) := fun Wx hb => end_any B D _ Wx _ cv (HR1.out.below hb) (by have := hb.size; omega) (by show cl.length * 8 ≤ _; omega)
          have HD0 : Hid (∀ Wx, Below w1.heap.size w1 Wx → Wx.cell? ⟨D, 0, none⟩ = some (.func (.func 42) #[] #[.pointer (some ⟨A, 0, none⟩)])) := fun Wx hb => (HR1.out.below hb).box.c.1
          clear HNum2
          go_upto_region 8 with fail
          go_region_held (fun W' => W'.cell? ⟨D, 0, none⟩ = some (.func (.func 42) #[] #[.pointer (some ⟨A, 0, none⟩)])) (first | exact HD0.out _ (Below.refl _ _).drew | exact q3 | exact q2) (first
            | (go_at_call 67; refine (HEn.out _ (Below.refl _ _).drew).mono ?_; rintro e w2 ⟨v, cv', rfl, hov, hrx, hcv, hmq⟩; have q2 := hrx.box.c.1; have HF2 : Hid (Calls Tryd.prog 42 #[.agg #[.bool dr, v], .pointer (some ⟨A, 0, none⟩)] w2 fun e W'' => ∃ b : Bool, e = .returned (.bool b) ∧ R b W'' ∧ W''.cell? ⟨D, 0, none⟩ = w2.cell? ⟨D, 0, none⟩) := HG.out v cv' w2 hrx (hov.mono (by simp; omega)) hcv ((Mq.below bel1 _).trans ((Mq.below (Below.refl _ _).drew _).trans (mq_wide hmq hcv))); obtain ⟨av, ac, hv⟩ := own_form hov; subst hv)
            | (go_at_call 42; refine HF2.out.mono ?_; rintro e w3 ⟨b, rfl, hb, q3'⟩; have q3 := q3'.trans q2; clear q3'))
          all_goals
            go_wp2_with fail
            go_ret
            exact ⟨_, rfl, hb⟩
      · have HT : Hid (takeW ⟨op, dr, cl⟩ wd = some (⟨true, dr, cl ++ [z]⟩, [])) := by show _ = _; rw [HTW2.out]; simp [hz]
        have HG : Hid (∀ cv' W', Rx B D (.func (.func 42) #[] #[.pointer (some ⟨A, 0, none⟩)]) W' ⟨true, dr, cl ++ [z]⟩ cv' → Mq W (rdQ D cv) W' (rdQ D cv') → R true W') := fun cv' W' => HGO.out _ HT.out cv' W'
        have hz0' : (z == 0) = false := by simpa using hz
        obtain ⟨i0, hi, hz0, hz1, hz2⟩ := info_parts Tryd.info3
        clear HGO HGV HTW2 HT
        cases hq : (wd == [100])
        all_goals
          rw [hq] at HEq
          first | (have hop : op = true := hop2.out hq; subst hop) | skip
          go_enter Tryd.func54, Tryd.ntmps54
          go_wp2_with fail
          refine HNum2.out.mono ?_
          rintro e w1 ⟨rfl, bel1⟩
          have HR1 : Hid (Rx B D (.func (.func 42) #[] #[.pointer (some ⟨A, 0, none⟩)]) w1 ⟨_, dr, cl⟩ cv) := HR.out.below bel1
          have hs1 := bel1.size
          obtain ⟨_, d1, d2, d3⟩ := HR1.out.box.c
          obtain ⟨g1, g2, g3⟩ := HR1.out.box.f
          obtain ⟨ca, cc, hcv⟩ := own_form HR.out.own
          have HOw : Hid (Own B ((w1.setCell ⟨D, 1, none⟩ (.bool true)).alloc (.cells #[.int .i64 z] 3)) cv cl) := World.ownsRow.alloc (own_keep9 HR1.out.own fun k hk => Below.heap_setCell _ ⟨D, 1, none⟩ _ k (fun e => HR1.out.box.not_row HR1.out.own (by have e' : k = D := e; rw [← e']; exact hk))) _
          have HNw : Hid (∀ j u, [Value.int .i64 z][j]? = some u → ((w1.setCell ⟨D, 1, none⟩ (.bool true)).alloc (.cells #[.int .i64 z] 3)).cell? ((⟨w1.heap.size, 0, none⟩ : Addr).add j) = some u) := by
            have := cell_one_new (w1.setCell ⟨D, 1, none⟩ (.bool true)) (.int .i64 z) 3
            rw [World.size_setCell] at this
            exact this
          subst hcv
          dsimp only at *
          clear HNum2
          go_wp2_with (at_builtin; refine wpList_append_apk rfl _ _ 39 rfl B 3 i0 (.int .i64 0) 1 8 Tryd.underlying39 hi hz0 hz1 hz2 rfl (by decide) _ cl.length (cl.map (Value.int .i64)) rfl HOw.out _ 1 1 [.int .i64 z] rfl rfl HNw.out (by simp [Value.oneCell']) (by unfold maxLen; omega) (by omega) (by simp; omega) ?_; intro v7 w7 own7 ap7; obtain ⟨a7, c7, hv7⟩ := own_form9 own7; subst hv7; have H7 := fin9e HR1.out own7 ap7; have p3 := H7.1.c.2.2.2; have q3 := H7.1.f.2.2)
          go_ret
          exact ⟨true, rfl, HG.out _ _ H7.2.1 ((Mq.below bel1 _).trans H7.2.2)⟩

end Go.Proofs.YtaipajalkendaaaDoor

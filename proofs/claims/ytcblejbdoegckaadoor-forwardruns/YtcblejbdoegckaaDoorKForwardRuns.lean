/-
  ForwardRuns, walked.
  KEEP: len below nil form rd mono one more grown lt size cell some none of ofNat add out step row get at mk new made look put del kept drew alloc has same other map perm td yes no pos all ne enter leave pm gone less keep box c u l f h r v ty own off cells nd txt tid bel oth sum done fwd setD hm fg keep2 start drop stays st bx pur
-/
import Derived.Test.YtcblejbdoegckaaDoorJFwMp
import Derived.Test.YtcblejbdoegckaaDoorKApS
import Derived.Test.YtcblejbdoegckaaDoorKOpenZ
import Derived.Test.YtcblejbdoegckaaDoorKConcat
set_option linter.unusedSimpArgs false
set_option linter.unusedVariables false
namespace Go.Proofs.YtcblejbdoegckaaDoor
open Go Go.RowKit
/-- the loop's state: the checker, and what is wanted, in its box -/
structure RnI (W4 : World) (b g Y : Nat) (css : List (List Int)) (l : List Stp) (k : Nat) (A : List (List Int)) (D : Bool) (cd : Int) (a0 : Nat) (wr : World) : Prop where
  st : Fst W4.heap.size wr b g (css.length + k) A D
  bel : Below W4.heap.size W4 wr
  bx : Bx2 wr Y 28 (.int .i64 cd) (.int .i64 (a0 : Int))
  hY : W4.heap.size ≤ Y
  len : A.length ≤ css.length + k
  sum : lsum A ≤ lsum css + lsZ (l.take k)
  pur : (cd = 4 ∧ a0 = l.length ∧ D = false ∧ chkF A (l.drop k) k = chkF ((css.map tid).reverse) l 0) ∨ (cd ≠ 4 ∧ chkF ((css.map tid).reverse) l 0 = (cd, a0))
section
variable {w W4 wr w' : World} {b g Y k a0 : Nat} {css A A' : List (List Int)} {l : List Stp} {D D' : Bool} {cd : Int}
/-- behind a call of the checker -/
structure RnC (W4 : World) (b g Y : Nat) (css : List (List Int)) (l : List Stp) (k : Nat) (A' : List (List Int)) (D' : Bool) (w' : World) : Prop where
  st : Fst W4.heap.size w' b g (css.length + (k + 1)) A' D'
  bel : Below W4.heap.size W4 w'
  bx : Bx2 w' Y 28 (.int .i64 4) (.int .i64 (l.length : Int))
  hY : W4.heap.size ≤ Y
  len : A'.length ≤ css.length + (k + 1)
  sum : lsum A' ≤ lsum css + lsZ (l.take (k + 1))
theorem RnI.call (h : RnI W4 b g Y css l k A false 4 l.length wr) (hk : k < l.length) (hst : Fst W4.heap.size w' b g (css.length + k + 1) A' D') (hz : Bz W4.heap.size wr w') (hl : A'.length ≤ A.length + 1) (hs : lsum A' ≤ lsum A + (l.getD k (false, [])).2.length) : RnC W4 b g Y css l k A' D' w' := by
  have h1 := lsZ_at l k hk
  have h2 := h.len
  have h3 := h.sum
  exact ⟨hst, h.bel.trans hz.bel, (hz.fg Y _ _ _ h.bx (by decide)).trans h.bx, h.hY, by omega, by omega⟩
/-- the step ends it -/
theorem RnC.stop (h : RnC W4 b g Y css l k A' D' w') {code : Int} (hc : chkF ((css.map tid).reverse) l 0 = (code, k)) (h4 : code ≠ 4) : RnI W4 b g Y css l (k + 1) A' D' code k ((w'.setCell ⟨Y, 0, none⟩ (.int .i64 code)).setCell ⟨Y, 1, none⟩ (.int .i64 (k : Int))) := by
  have g1 := grown_set w' ⟨Y, 0, none⟩ (.int .i64 code)
  have hx1 := h.bx.set0 (.int .i64 code)
  have g2 := grown_set (w'.setCell ⟨Y, 0, none⟩ (.int .i64 code)) ⟨Y, 1, none⟩ (.int .i64 (k : Int))
  have s1 := h.st.grownF (e := 28) g1 (fun q e => by injection e with e; rw [← e]; exact ⟨_, _, h.bx⟩) (by decide)
  have s2 := s1.grownF (e := 28) g2 (fun q e => by injection e with e; rw [← e]; exact ⟨_, _, hx1⟩) (by decide)
  exact ⟨s2, (h.bel.setCell (p := ⟨Y, 0, none⟩) h.hY _).setCell (p := ⟨Y, 1, none⟩) h.hY _, hx1.set1 _, h.hY, h.len, h.sum, .inr ⟨h4, hc⟩⟩
theorem RnC.on (h : RnC W4 b g Y css l k A' false w') (hc : chkF A' (l.drop (k + 1)) (k + 1) = chkF ((css.map tid).reverse) l 0) : RnI W4 b g Y css l (k + 1) A' false 4 l.length w' :=
  ⟨h.st, h.bel, h.bx, h.hY, h.len, h.sum, .inl ⟨rfl, rfl, rfl, hc⟩⟩
end
/-- append, as one step of a region that draws, by its run -/
theorem step_app_any {P : Program} {ops : Array Oper} {o : Oper} {a : Act} {w : World} {K : Act → World → Prop} {Q : Exit → Act → World → Prop} {E : Prop}
    (hg : o.guard = none) (s x : Operand) (t : TypeId) (hop : o.op = Op.call { callee := Callee.builtin Builtin.append, args := #[s, x], argTypes := #[t, t] })
    (v xv : Value) (hs : a.eval s = v) (hx : a.eval x = xv) (R : World → Value → World → Prop) (hrun : ∃ v' w', (Builtin.append_ #[t, t] o.type #[v, xv]).run P w = .ok v' w' ∧ R w v' w') (hK : ∀ v' w', R w v' w' → K (a.put o.dst v') w') :
    if Region.wanted o (yielded ops a.tmps) = true then Oper.wp P o a w K Q else E := by
  have hw : Region.wanted o (yielded ops a.tmps) = true := by simp [Region.wanted, hg]
  rw [if_pos hw]
  obtain ⟨v', w', hr, hR⟩ := hrun
  unfold Oper.wp
  simp [execOp, hop, resolve, invoke, builtin, hs, hx, hr, Result.andThen]
  exact hK v' w' hR
/-- what append leaves -/
def AzR (wr : World) (l : List Stp) (W : World) (v' : Value) (w' : World) : Prop :=
  Below wr.heap.size wr w' ∧ RdZ w' v' l ∧ ∀ D x y, Bx2 W D 28 x y → Bx2 w' D 28 x y
theorem fin_set {wr w6 : World} {D : Nat} {x y : Value} (c2 : Int) (a2 : Nat) (hx : Bx2 w6 D 28 x y) (hb : Below wr.heap.size wr w6) (hD : wr.heap.size ≤ D) : Bx2 ((w6.setCell ⟨D, 0, none⟩ (.int .i64 c2)).setCell ⟨D, 1, none⟩ (.int .i64 (a2 : Int))) D 28 (.int .i64 c2) (.int .i64 (a2 : Int)) ∧ Below wr.heap.size wr ((w6.setCell ⟨D, 0, none⟩ (.int .i64 c2)).setCell ⟨D, 1, none⟩ (.int .i64 (a2 : Int))) :=
  ⟨(hx.set0 _).set1 _, (hb.setCell (p := ⟨D, 0, none⟩) hD _).setCell (p := ⟨D, 1, none⟩) hD _⟩
theorem fin_new {wr w6 : World} (c2 : Int) (a2 : Nat) (hb : Below wr.heap.size wr w6) : Bx2 (w6.alloc (.cells #[.int .i64 c2, .int .i64 (a2 : Int)] 28)) w6.heap.size 28 (.int .i64 c2) (.int .i64 (a2 : Int)) ∧ Below wr.heap.size wr (w6.alloc (.cells #[.int .i64 c2, .int .i64 (a2 : Int)] 28)) :=
  ⟨Bx2.new _ _ _ _, Below.step hb (below_box _ _)⟩
theorem drop_len (A : List (List Int)) (c : List Int) : (dropF A false c).2.2.length ≤ A.length + 1 ∧ lsum (dropF A false c).2.2 ≤ lsum A + c.length := by
  have := endF_len A (true, c)
  unfold endF at this
  exact this
theorem add_len (A : List (List Int)) (c : List Int) : (addF A false c).2.2.1.length ≤ A.length + 1 ∧ lsum (addF A false c).2.2.1 ≤ lsum A + c.length := by
  have := endF_len A (false, c)
  unfold endF at this
  exact this
namespace forwardRuns
set_option maxRecDepth 100000 in
set_option maxHeartbeats 3200000 in
theorem walk (n : Int) (s : Value) (css : List (List Int)) (vl : Value) (l : List Stp) (vm : Value) (m : List Stp) (w : World) (_ : (Lit.int .i64 n).wf = true) (hr : Rds w s css) (hl : RdZ w vl l) (hm : RdZ w vm m) (hb : css.length + (css.map List.length).sum ≤ 1048576) (hb1 : stpN l ≤ 1048576) (hb2 : stpN m ≤ 1048576) (hD : Deb w) :
    Calls Tryd.prog 3 #[.agg #[.int .i64 n, s], vl, vm] w fun e w' => e = .returned (.bool true) ∧ Below w.heap.size w w' := by
  have hls : lsum css = (css.map List.length).sum := rfl
  have hlz : lsZ l + l.length ≤ 1048576 := by unfold stpN at hb1; unfold lsZ; omega
  have hlm : lsZ m + m.length ≤ 1048576 := by unfold stpN at hb2; unfold lsZ; omega
  have hbx := below_box w (.cells #[.int .i64 n, s] 24)
  have hX := Bx2.new w 24 (.int .i64 n) s
  have HW : Hid (∀ W, Below w.heap.size w W → Rds W s css ∧ RdZ W vl l ∧ Deb W ∧ RdZ W vm m) := fun W h => ⟨hr.below h, hl.below h, hD.below h, hm.below h⟩
  have HBd : Hid (css.length + lsum css ≤ 1048576 ∧ lsZ l + l.length ≤ 1048576 ∧ lsZ m + m.length ≤ 1048576) := ⟨by omega, hlz, hlm⟩
  have HB1 : Hid (Below w.heap.size w (w.alloc (.cells #[.int .i64 n, s] 24)) ∧ Bx2 (w.alloc (.cells #[.int .i64 n, s] 24)) w.heap.size 24 (.int .i64 n) s) := ⟨hbx, hX⟩
  have HCk : Hid (∀ W, Below w.heap.size w W → Calls Tryd.prog 6 #[.agg #[.int .i64 n, s], vl] W fun e w' => e = ckV (chk n css l) ∧ Below W.heap.size W w') := fun W h => fCheck_any n s vl css l W (HW.out W h).1 (HW.out W h).2.1 (by omega) (by omega) (HW.out W h).2.2.1
  obtain ⟨al, cl, rfl, hcl, hml, hcell⟩ := hl.form
  obtain ⟨am, cm, rfl, _⟩ := hm.form
  have HC : Hid (∀ k, k < l.length → ∃ b off u, al = some ⟨b, off, none⟩ ∧ b < w.heap.size ∧ w.cell? ⟨b, off + k * 2, none⟩ = some (.bool (l.getD k (false, [])).1) ∧ w.cell? ⟨b, off + k * 2 + 1, none⟩ = some u ∧ Rd w u (l.getD k (false, [])).2) := hcell
  have h8 := hl.len
  clear hr hl hm hb hb1 hb2 hD hls hlz hlm hbx hX hcell
  go_enter Tryd.func3, Tryd.ntmps3
  go_upto_region 1 with fail
  generalize w.alloc (.cells #[.int .i64 n, s] 24) = W1 at *
  obtain ⟨X, hXe⟩ : ∃ X, w.heap.size = X := ⟨_, rfl⟩
  have HXe : Hid (w.heap.size = X) := hXe
  rw [hXe] at HB1 ⊢
  clear hXe
  have HAw : Hid (Calls Tryd.prog 5 #[] W1 fun e w' => e = .returned (.bool true) ∧ Below W1.heap.size W1 w') := awake11_any W1 (HW.out W1 (by rw [HXe.out]; exact HB1.out.1)).2.2.1
  go_upto_region 3 with (go_at_call 5; refine HAw.out.mono ?_; rintro e w1 ⟨rfl, hb1⟩; have H1 : Hid (Below X w w1 ∧ Bx2 w1 X 24 (.int .i64 n) s) := ⟨by have := HB1.out.1; rw [← HXe.out] at this ⊢; exact Below.step this hb1, HB1.out.2.below hb1⟩; clear hb1)
  have f0 := H1.out.2.c0
  have f1 := H1.out.2.c1
  have HCk1 : Hid (Calls Tryd.prog 6 #[.agg #[.int .i64 n, s], .slice al l.length cl] w1 fun e w' => e = ckV (chk n css l) ∧ Below X w w' ∧ Bx2 w' X 24 (.int .i64 n) s) := (HCk.out w1 (by rw [HXe.out]; exact H1.out.1)).mono fun e w' hh => ⟨hh.1, by have := H1.out.1; rw [← HXe.out] at this ⊢; exact Below.step this hh.2, H1.out.2.below hh.2⟩
  obtain ⟨code, at_, er, hq⟩ : ∃ code at_ er, chk n css l = (code, at_, er) := ⟨_, _, _, rfl⟩
  have HQ : Hid (chk n css l = (code, at_, er)) := hq
  rw [hq] at HCk1
  unfold ckV at HCk1
  dsimp only at HCk1
  clear hq HAw
  go_upto_region 4 with (go_at_call 6; refine HCk1.out.mono ?_; rintro e w2 ⟨rfl, hb2, hx2⟩; have H2 : Hid (Below X w w2 ∧ Bx2 w2 X 24 (.int .i64 n) s) := ⟨hb2, hx2⟩; clear hb2 hx2)
  have hb3 := below_box w2 (.cells #[.int .i64 code, .int .i64 at_] 28)
  have hx3 := Bx2.new w2 28 (.int .i64 code) (.int .i64 at_)
  have H3 : Hid (Below X w (w2.alloc (.cells #[.int .i64 code, .int .i64 at_] 28)) ∧ Bx2 (w2.alloc (.cells #[.int .i64 code, .int .i64 at_] 28)) X 24 (.int .i64 n) s ∧ Bx2 (w2.alloc (.cells #[.int .i64 code, .int .i64 at_] 28)) w2.heap.size 28 (.int .i64 code) (.int .i64 at_)) := ⟨by have := H2.out.1; rw [← HXe.out] at this ⊢; exact Below.step this hb3, H2.out.2.below hb3, hx3⟩
  clear hb3 hx3 f0 f1 HCk1
  generalize w2.alloc (.cells #[.int .i64 code, .int .i64 at_] 28) = w3 at *
  generalize w2.heap.size = Za at *
  have f0 := H3.out.2.1.c0
  have f1 := H3.out.2.1.c1
  have hNw := fNew_any n s css w3 (HW.out w3 (by rw [HXe.out]; exact H3.out.1)).1 (by have := HBd.out.1; omega)
  cases hf : frm n css
  case false =>
    have hq := HQ.out
    unfold chk at hq
    rw [hf] at hq
    have e2 : er = 1 := (congrArg (fun q => q.2.2) hq).symm
    subst e2
    have HNw : Hid (Calls Tryd.prog 7 #[.agg #[.int .i64 n, s]] w3 fun e w' => e = .returned (.tuple #[.pointer none, .int .i64 1]) ∧ Below w.heap.size w w') := hNw.mono fun e w' hh => by
      rcases hh with ⟨_, h1, h2⟩ | ⟨h0, _⟩
      · refine ⟨h1, ?_⟩
        have := H3.out.1
        rw [← HXe.out] at this
        exact Below.step this h2
      · rw [hf] at h0; cases h0
    clear hq hNw
    go_wp2_with (go_at_call 7; refine HNw.out.mono ?_; rintro e w4 ⟨rfl, hb4⟩; have H4 : Hid (Below w.heap.size w w4) := hb4; clear hb4)
    go_ret
    exact ⟨rfl, H4.out⟩
  have hq := HQ.out
  unfold chk at hq
  rw [hf] at hq
  have e2 : er = 0 := (congrArg (fun q => q.2.2) hq).symm
  have e1 : chkF ((css.map tid).reverse) l 0 = (code, at_) := by
    have q1 := congrArg Prod.fst hq
    have q2 := congrArg (fun q => q.2.1) hq
    exact Prod.ext q1 q2
  subst e2
  have HF1 : Hid (chkF ((css.map tid).reverse) l 0 = (code, at_) ∧ frm n css = true) := ⟨e1, hf⟩
  clear hq e1
  have HNw : Hid (Calls Tryd.prog 7 #[.agg #[.int .i64 n, s]] w3 fun e w' => ∃ b g, e = .returned (.tuple #[.pointer (some ⟨b, 0, none⟩), .int .i64 0]) ∧ w3.heap.size ≤ w'.heap.size ∧ RnI w3 b g w'.heap.size css l 0 ((css.map tid).reverse) false 4 l.length (w'.alloc (.cells #[.int .i64 4, .int .i64 (l.length : Int)] 28))) := hNw.mono fun e w' hh => by
    rcases hh with ⟨h0, _⟩ | ⟨_, b, g, h1, h2, h3⟩
    · rw [hf] at h0; cases h0
    · have hbx := below_box w' (.cells #[.int .i64 4, .int .i64 (l.length : Int)] 28)
      refine ⟨b, g, h1, h3.size, h2.below hbx, Below.step h3 hbx, Bx2.new _ _ _ _, h3.size, by simp, ?_, .inl ⟨rfl, rfl, rfl, rfl⟩⟩
      rw [lsum_rev]
      exact Nat.le_trans (lsum_tid css) (Nat.le_add_right _ _)
  clear hNw hf
  go_upto_region 10 with (go_at_call 7; refine HNw.out.mono ?_; rintro e w4 ⟨b, g, rfl, hsz, hs4⟩; have H4 : Hid (RnI w3 b g w4.heap.size css l 0 ((css.map tid).reverse) false 4 l.length (w4.alloc (.cells #[.int .i64 4, .int .i64 (l.length : Int)] 28))) := hs4; clear hs4 hsz)
  clear HNw f0 f1
  generalize w4.alloc (.cells #[.int .i64 4, .int .i64 (l.length : Int)] 28) = w5 at *
  generalize w4.heap.size = Y at *
  go_wp2_with fail
  go_loopg [12] l.length (fun q iv wx => ∃ (k : Nat) (A : List (List Int)) (D : Bool) (cd : Int) (a0 : Nat), k + q = l.length ∧ iv = .int .i64 (k : Int) ∧ Hid (RnI w3 b g Y css l k A D cd a0 wx))
  case atStart => exact ⟨0, _, _, _, _, by omega, rfl, H4⟩
  case round =>
    obtain ⟨k, A, D, cd, a0, hk, rfl, HS⟩ := hrel
    have HK : Hid (k + gk = l.length) := hk
    have y0 := HS.out.bx.c0
    have y1 := HS.out.bx.c1
    by_cases hlt : k < l.length
    · rcases Classical.em (cd = 4) with hcd | hcd
      · subst hcd
        obtain ⟨e1, e2, hck⟩ : a0 = l.length ∧ D = false ∧ chkF A (l.drop k) k = chkF ((css.map tid).reverse) l 0 := by
          rcases HS.out.pur with ⟨_, h⟩ | ⟨h, _⟩
          · exact h
          · exact absurd rfl h
        subst e1; subst e2
        have hbw : Below w.heap.size w wr := by have := H3.out.1; rw [← HXe.out] at this; exact Below.step this HS.out.bel
        have hb3 : Below w.heap.size w w3 := by have := H3.out.1; rw [← HXe.out] at this; exact this
        have hlb := HS.out.len
        have hsb := HS.out.sum
        have hlzt := lsZ_take l k
        have hBd := HBd.out
        have hch := chk_at A l k hlt
        rw [hck] at hch
        obtain ⟨bb, off, uu, rfl, hbb, hd, hu, hru⟩ := HC.out k hlt
        obtain ⟨ac, cc, rfl, _⟩ := hru.form
        have kd := (hbw.cell (p := ⟨bb, off + k * 2, none⟩) hbb).trans hd
        have ku := (hbw.cell (p := ⟨bb, off + k * 2 + 1, none⟩) hbb).trans hu
        generalize hst0 : l.getD k (false, []) = st at *
        obtain ⟨d, c⟩ := st
        dsimp only at *
        have HCel : Hid (∀ W, Below w3.heap.size w3 W → W.cell? ⟨bb, off + k * 2, none⟩ = some (.bool d) ∧ W.cell? ⟨bb, off + k * 2 + 1, none⟩ = some (.slice ac c.length cc)) := fun W h => by
          have h := Below.step hb3 h
          exact ⟨(h.cell (p := ⟨bb, off + k * 2, none⟩) hbb).trans hd, (h.cell (p := ⟨bb, off + k * 2 + 1, none⟩) hbb).trans hu⟩
        cases d with
        | true =>
          have hdr := fDrop_all wr (.slice ac c.length cc) c HS.out.st (hru.below hbw) HS.out.bel.size (by omega) (by omega)
          have hdl := drop_len A c
          have hen : endF A (true, c) = (if (dropF A false c).2.1 ≠ 0 then 5 else if (dropF A false c).1 = 0 then 3 else 0, (dropF A false c).2.2, false) := by unfold endF; rfl
          obtain ⟨n1, e1, A', hq⟩ : ∃ n1 e1 A', dropF A false c = (n1, e1, A') := ⟨_, _, _, rfl⟩
          rw [hq] at hdr hdl hen
          dsimp only at hdl hen
          rw [hen] at hch
          have HDr : Hid (Calls Tryd.prog 8 #[.pointer (some ⟨b, 0, none⟩), .slice ac c.length cc] wr fun e w' => e = .returned (.tuple #[.int .i64 n1, .int .i64 e1]) ∧ RnC w3 b g Y css l k A' false w') := hdr.mono fun e w' hh => by
            obtain ⟨h1, h2, h3⟩ := hh
            exact ⟨h1, HS.out.call hlt h2 h3 hdl.1 (by rw [hst0]; exact hdl.2)⟩
          clear hbw hb3 hlb hsb hlzt hBd hbb hd hu hru hdr hdl hen hq
          by_cases he : e1 = 0
          · subst he
            by_cases hn : n1 = 0
            · subst hn
              have HE : Hid (chkF ((css.map tid).reverse) l 0 = (3, k)) := by show _ = _; rw [hch]; rfl
              clear hch hck
              go_wp2_with (first
                | (go_at_call 8; refine HDr.out.mono ?_; rintro e w6 ⟨rfl, hc6⟩; have kd6 := (HCel.out w6 hc6.bel).1; have ku6 := (HCel.out w6 hc6.bel).2; have z0 := hc6.bx.c0; have z1 := hc6.bx.c1; have z2 := hc6.bx.f0; have z3 := hc6.bx.f1; have H6 : Hid (RnC w3 b g Y css l k A' false w6) := hc6; clear hc6)
                | (go_at_call 10; refine (fDone_any H6.out.st).mono ?_; intro e w9 hh; rw [hh.1, hh.2]; clear hh e w9; dsimp only))
              go_roundg (gk - 1)
              case measure => have := HK.out; omega
              case rel => exact ⟨k + 1, _, _, _, _, by have := HK.out; omega, by go_num, H6.out.stop HE.out (by decide)⟩
            · have hn1 : (n1 == 0) = false := beq_eq_false_iff_ne.2 hn
              have HE : Hid (chkF A' (l.drop (k + 1)) (k + 1) = chkF ((css.map tid).reverse) l 0) := by show _ = _; rw [hch]; simp [hn]
              clear hch hck
              go_wp2_with (first
                | (go_at_call 8; refine HDr.out.mono ?_; rintro e w6 ⟨rfl, hc6⟩; have kd6 := (HCel.out w6 hc6.bel).1; have ku6 := (HCel.out w6 hc6.bel).2; have z0 := hc6.bx.c0; have H6 : Hid (RnC w3 b g Y css l k A' false w6) := hc6; clear hc6)
                | (go_at_call 10; refine (fDone_any H6.out.st).mono ?_; intro e w9 hh; rw [hh.1, hh.2]; clear hh e w9; dsimp only))
              go_roundg (gk - 1)
              case measure => have := HK.out; omega
              case rel => exact ⟨k + 1, _, _, _, _, by have := HK.out; omega, by go_num, H6.out.on HE.out⟩
          · have he1 : (e1 != 0) = true := bne_iff_ne.2 he
            have HE : Hid (chkF ((css.map tid).reverse) l 0 = (5, k)) := by show _ = _; rw [hch]; simp [he]
            clear hch hck
            go_wp2_with (first
              | (go_at_call 8; refine HDr.out.mono ?_; rintro e w6 ⟨rfl, hc6⟩; have kd6 := (HCel.out w6 hc6.bel).1; have ku6 := (HCel.out w6 hc6.bel).2; have z0 := hc6.bx.c0; have z1 := hc6.bx.c1; have z2 := hc6.bx.f0; have z3 := hc6.bx.f1; have H6 : Hid (RnC w3 b g Y css l k A' false w6) := hc6; clear hc6)
              | (go_at_call 10; refine (fDone_any H6.out.st).mono ?_; intro e w9 hh; rw [hh.1, hh.2]; clear hh e w9; dsimp only))
            go_roundg (gk - 1)
            case measure => have := HK.out; omega
            case rel => exact ⟨k + 1, _, _, _, _, by have := HK.out; omega, by go_num, H6.out.stop HE.out (by decide)⟩
        | false =>
          have had := fAdd_any w3 wr (.slice ac c.length cc) HS.out.st rfl HS.out.bel (hru.below hb3) (by omega) (by omega) (by omega) (HW.out w3 hb3).2.2.1
          have hdl := add_len A c
          have hen : endF A (false, c) = (if (addF A false c).2.1 ≠ 0 then 5 else if (addF A false c).1 = 0 then 2 else if (addF A false c).2.2.2 then 1 else 0, (addF A false c).2.2.1, (addF A false c).2.2.2) := by unfold endF; rfl
          obtain ⟨n1, e1, A', D', hq⟩ : ∃ n1 e1 A' D', addF A false c = (n1, e1, A', D') := ⟨_, _, _, _, rfl⟩
          rw [hq] at had hdl hen
          dsimp only at hdl hen
          rw [hen] at hch
          have HDr : Hid (Calls Tryd.prog 9 #[.pointer (some ⟨b, 0, none⟩), .slice ac c.length cc] wr fun e w' => e = .returned (.tuple #[.int .i64 n1, .int .i64 e1]) ∧ RnC w3 b g Y css l k A' D' w') := had.mono fun e w' hh => by
            obtain ⟨h1, h2, h3⟩ := hh
            exact ⟨h1, HS.out.call hlt h2 h3 hdl.1 (by rw [hst0]; exact hdl.2)⟩
          clear hbw hb3 hlb hsb hlzt hBd hbb hd hu hru had hdl hen hq
          by_cases he : e1 = 0
          · subst he
            by_cases hn : n1 = 0
            · subst hn
              have HE : Hid (chkF ((css.map tid).reverse) l 0 = (2, k)) := by show _ = _; rw [hch]; rfl
              clear hch hck
              go_wp2_with (first
                | (go_at_call 9; refine HDr.out.mono ?_; rintro e w6 ⟨rfl, hc6⟩; have kd6 := (HCel.out w6 hc6.bel).1; have ku6 := (HCel.out w6 hc6.bel).2; have z0 := hc6.bx.c0; have z1 := hc6.bx.c1; have z2 := hc6.bx.f0; have z3 := hc6.bx.f1; have H6 : Hid (RnC w3 b g Y css l k A' D' w6) := hc6; clear hc6)
                | (go_at_call 10; refine (fDone_any H6.out.st).mono ?_; intro e w9 hh; rw [hh.1, hh.2]; clear hh e w9; dsimp only))
              go_roundg (gk - 1)
              case measure => have := HK.out; omega
              case rel => exact ⟨k + 1, _, _, _, _, by have := HK.out; omega, by go_num, H6.out.stop HE.out (by decide)⟩
            · have hn1 : (n1 == 0) = false := beq_eq_false_iff_ne.2 hn
              cases D' with
              | true =>
                have HE : Hid (chkF ((css.map tid).reverse) l 0 = (1, k)) := by show _ = _; rw [hch]; simp [hn]
                clear hch hck
                go_wp2_with (first
                  | (go_at_call 9; refine HDr.out.mono ?_; rintro e w6 ⟨rfl, hc6⟩; have kd6 := (HCel.out w6 hc6.bel).1; have ku6 := (HCel.out w6 hc6.bel).2; have z0 := hc6.bx.c0; have z1 := hc6.bx.c1; have z2 := hc6.bx.f0; have z3 := hc6.bx.f1; have H6 : Hid (RnC w3 b g Y css l k A' true w6) := hc6; clear hc6)
                  | (go_at_call 10; refine (fDone_any H6.out.st).mono ?_; intro e w9 hh; rw [hh.1, hh.2]; clear hh e w9; dsimp only))
                go_roundg (gk - 1)
                case measure => have := HK.out; omega
                case rel => exact ⟨k + 1, _, _, _, _, by have := HK.out; omega, by go_num, H6.out.stop HE.out (by decide)⟩
              | false =>
                have HE : Hid (chkF A' (l.drop (k + 1)) (k + 1) = chkF ((css.map tid).reverse) l 0) := by show _ = _; rw [hch]; simp [hn]
                clear hch hck
                go_wp2_with (first
                  | (go_at_call 9; refine HDr.out.mono ?_; rintro e w6 ⟨rfl, hc6⟩; have kd6 := (HCel.out w6 hc6.bel).1; have ku6 := (HCel.out w6 hc6.bel).2; have z0 := hc6.bx.c0; have H6 : Hid (RnC w3 b g Y css l k A' false w6) := hc6; clear hc6)
                  | (go_at_call 10; refine (fDone_any H6.out.st).mono ?_; intro e w9 hh; rw [hh.1, hh.2]; clear hh e w9; dsimp only))
                go_roundg (gk - 1)
                case measure => have := HK.out; omega
                case rel => exact ⟨k + 1, _, _, _, _, by have := HK.out; omega, by go_num, H6.out.on HE.out⟩
          · have he1 : (e1 != 0) = true := bne_iff_ne.2 he
            have HE : Hid (chkF ((css.map tid).reverse) l 0 = (5, k)) := by show _ = _; rw [hch]; simp [he]
            clear hch hck
            go_wp2_with (first
              | (go_at_call 9; refine HDr.out.mono ?_; rintro e w6 ⟨rfl, hc6⟩; have kd6 := (HCel.out w6 hc6.bel).1; have ku6 := (HCel.out w6 hc6.bel).2; have z0 := hc6.bx.c0; have z1 := hc6.bx.c1; have z2 := hc6.bx.f0; have z3 := hc6.bx.f1; have H6 : Hid (RnC w3 b g Y css l k A' D' w6) := hc6; clear hc6)
              | (go_at_call 10; refine (fDone_any H6.out.st).mono ?_; intro e w9 hh; rw [hh.1, hh.2]; clear hh e w9; dsimp only))
            go_roundg (gk - 1)
            case measure => have := HK.out; omega
            case rel => exact ⟨k + 1, _, _, _, _, by have := HK.out; omega, by go_num, H6.out.stop HE.out (by decide)⟩
      · have hcd1 : (cd == 4) = false := beq_eq_false_iff_ne.2 hcd
        have HE : Hid (cd = code ∧ a0 = at_) := by
          rcases HS.out.pur with ⟨h, _⟩ | ⟨_, h⟩
          · exact absurd h hcd
          · rw [HF1.out.1] at h
            exact ⟨(congrArg Prod.fst h).symm, (congrArg Prod.snd h).symm⟩
        have hbw : Below w.heap.size w wr := by have := H3.out.1; rw [← HXe.out] at this; exact Below.step this HS.out.bel
        have hxf := H3.out.2.1.below HS.out.bel
        have hxa := H3.out.2.2.below HS.out.bel
        have f0 := hxf.c0
        have f1 := hxf.c1
        have q0 := hxa.c0
        have q1 := hxa.c1
        have HFc : Hid (∀ W, Below wr.heap.size wr W → W.cell? ⟨X, 0, none⟩ = some (.int .i64 n) ∧ W.cell? ⟨X, 1, none⟩ = some s) := fun W h => ⟨(hxf.below h).c0, (hxf.below h).c1⟩
        have HQc : Hid (Bx2 wr Za 28 (.int .i64 code) (.int .i64 (at_ : Int)) ∧ Below w.heap.size w wr) := ⟨hxa, hbw⟩
        obtain ⟨hE1, hE2⟩ := HE.out
        subst hE1; subst hE2
        have hcc : (cd == cd) = true := beq_self_eq_true cd
        have haa : ((a0 : Int) == (a0 : Int)) = true := beq_self_eq_true _
        have HCp : Hid (∀ W, Below wr.heap.size wr W → Calls Tryd.prog 11 #[.slice al l.length cl] W fun e w' => ∃ u, e = .returned u ∧ Below W.heap.size W w' ∧ Below wr.heap.size wr w' ∧ ∀ Wa, Below w'.heap.size w' Wa → ∃ v' w2, (Builtin.append_ #[25, 25] 25 #[u, .slice am m.length cm]).run Tryd.prog Wa = .ok v' w2 ∧ AzR wr (l ++ m) Wa v' w2) := fun W h => by
          have hb0 := Below.step HQc.out.2 h
          refine (copySteps_any _ l W (HW.out W hb0).2.1).mono fun e w' hh => ?_
          obtain ⟨u, h1, ⟨L1, h2, h3⟩, h4⟩ := hh
          refine ⟨u, h1, h4, Below.step h h4, fun Wa hWa => ?_⟩
          have hL1 : L1.length = l.length := by rw [← h3, svS_len]
          have hb1 := Below.step (Below.step h h4) hWa
          have hBd := HBd.out
          have h2a := h2.below hWa
          have hr2 := row_mono h2a.row h.size
          obtain ⟨v', w2, L2, r1, r2, r3, r4, r5⟩ := run_append_z (w := Wa) 25 wr.heap.size u L1 hr2 (.slice am m.length cm) m w (HW.out w (Below.refl _ _)).2.2.2 (Below.step HQc.out.2 hb1) (by rw [hL1]; omega) hb1.size
          have hb2 : Below wr.heap.size wr w2 := hb1.grown r5 hb1.size fun q e => (World.ownsRow.lt hr2 q e).1
          refine ⟨v', w2, r1, hb2, ?_, fun D x y hx => hx.kept r5 (hx.not_row (by decide) hr2)⟩
          have e5 : svS (L1 ++ L2) = l ++ m := by rw [← h3, ← r2]; unfold svS; rw [List.map_append]
          rw [← e5]
          have hL2 : L2.length = m.length := by rw [← r2, svS_len]
          refine rdz_row r4 (fun x hx => ?_) (by rw [List.length_append, hL1, hL2]; omega)
          rcases List.mem_append.1 hx with q | q
          · have h8 : x.2.2.length * 8 ≤ 140737488351232 := by
              have := rdz_each (HW.out w (Below.refl _ _)).2.1 (x.1, x.2.2) (by rw [← h3]; exact List.mem_map_of_mem (f := fun x : SV => (x.1, x.2.2)) q)
              exact this
            have ho : Own W.heap.size w2 x.2.1 x.2.2 := row_apart (by decide) (h2a.own x q) hr2 r5
            exact ho.rd h8
          · exact (r3 x q).below (Below.step HQc.out.2 hb2)
        have HCk3 : Hid (∀ W v', Below wr.heap.size wr W → RdZ W v' (l ++ m) → Calls Tryd.prog 6 #[.agg #[.int .i64 n, s], v'] W fun e w' => ∃ (c2 : Int) (a2 : Nat), e = .returned (.tuple #[.agg #[.int .i64 c2, .int .i64 (a2 : Int)], .int .i64 0]) ∧ (cd ≠ 4 → c2 = cd ∧ a2 = a0) ∧ Below W.heap.size W w' ∧ Below wr.heap.size wr w') := fun W v' h hz => by
          have hb0 := Below.step HQc.out.2 h
          have hBd := HBd.out
          have hlz : lsZ (l ++ m) = lsZ l + lsZ m := by unfold lsZ; simp
          refine (fCheck_any n s v' css (l ++ m) W (HW.out W hb0).1 hz (by simp; omega) (by rw [hlz]; omega) (HW.out W hb0).2.2.1).mono fun e w' hh => ?_
          have hck : chk n css (l ++ m) = ((chkF ((css.map tid).reverse) (l ++ m) 0).1, (chkF ((css.map tid).reverse) (l ++ m) 0).2, 0) := by unfold chk; rw [if_pos HF1.out.2]
          refine ⟨(chkF ((css.map tid).reverse) (l ++ m) 0).1, (chkF ((css.map tid).reverse) (l ++ m) 0).2, by rw [hh.1, hck]; rfl, fun h4 => ?_, hh.2, Below.step h hh.2⟩
          have := chk_more l m ((css.map tid).reverse) 0 (by rw [HF1.out.1]; exact h4)
          rw [this, HF1.out.1]
          exact ⟨rfl, rfl⟩
        clear hbw hxf hxa
        go_upto_region 27 with fail
        try clear hcd1
        try clear hcd
        have i0 := (HFc.out _ (below_box wr (.cells #[.int .i64 0, .int .i64 0] 28))).1
        have i1 := (HFc.out _ (below_box wr (.cells #[.int .i64 0, .int .i64 0] 28))).2
        go_region_law (first
          | (go_simp; go_at_call 11; refine (HCp.out _ (by first | exact (Below.refl _ _).drew | exact (below_box _ _).drew | exact Below.step (Below.refl _ _).drew (below_box _ _))).mono ?_; rintro e w1 ⟨u, rfl, bW1, hb1, hAp⟩; have g0 := (HFc.out w1 hb1).1; have g1 := (HFc.out w1 hb1).2; have h0 := (HFc.out _ (Below.step hb1 (below_box w1 (.cells #[.int .i64 0, .int .i64 0] 28)))).1; have h1 := (HFc.out _ (Below.step hb1 (below_box w1 (.cells #[.int .i64 0, .int .i64 0] 28)))).2; have HAp : Hid (∀ Wa, Below w1.heap.size w1 Wa → ∃ v' w2, (Builtin.append_ #[25, 25] 25 #[u, .slice am m.length cm]).run Tryd.prog Wa = .ok v' w2 ∧ AzR wr (l ++ m) Wa v' w2) := hAp; have HS1 : Hid (wr.heap.size ≤ w1.heap.size) := hb1.size; first | (have HX1 : Hid (Bx2 w1 wr.heap.size 28 (.int .i64 0) (.int .i64 0)) := Bx2.below (W := (wr.alloc (.cells #[.int .i64 0, .int .i64 0] 28)).drew) (Bx2.new wr 28 (.int .i64 0) (.int .i64 0)) bW1) | skip; clear hb1 bW1 hAp; dsimp only)
          | (refine step_app_any rfl (.tmp 114) (.tmp 115) 25 rfl u (.slice am m.length cm) (by simp [Act.eval, Act.put]) (by simp [Act.eval, Act.put]) (AzR wr (l ++ m)) (HAp.out _ (by first | exact Below.refl _ _ | exact below_box _ _)) ?_; rintro v' w2 ⟨hb2, hz2, hbx2⟩; have k0 := (HFc.out w2 hb2).1; have k1 := (HFc.out w2 hb2).2; have j0 := (HFc.out _ (Below.step hb2 (below_box w2 (.cells #[.int .i64 0, .int .i64 0] 28)))).1; have j1 := (HFc.out _ (Below.step hb2 (below_box w2 (.cells #[.int .i64 0, .int .i64 0] 28)))).2; have H2c : Hid (Below wr.heap.size wr w2 ∧ RdZ w2 v' (l ++ m)) := ⟨hb2, hz2⟩; first | (have HX2 : Hid (Bx2 w2 wr.heap.size 28 (.int .i64 0) (.int .i64 0)) := hbx2 _ _ _ HX1.out) | (have HX2 : Hid (Bx2 w2 w1.heap.size 28 (.int .i64 0) (.int .i64 0)) := hbx2 _ _ _ (Bx2.new w1 28 (.int .i64 0) (.int .i64 0))) | skip; clear hb2 hz2 hbx2)
          | (go_simp; go_at_call 6; refine (HCk3.out _ _ (by first | exact H2c.out.1 | exact Below.step H2c.out.1 (below_box _ _)) (by first | exact H2c.out.2 | exact H2c.out.2.below (below_box _ _))).mono ?_; rintro e w6 ⟨c2, a2, rfl, hsame, bW6, hb6⟩; have H6 : Hid (Below wr.heap.size wr w6 ∧ (cd ≠ 4 → c2 = cd ∧ a2 = a0)) := ⟨hb6, hsame⟩; first | (have hx6 := HX2.out.below bW6; have p0 := hx6.c0; have p1 := hx6.c1; have p2 := hx6.f0; have p3 := hx6.f1; have HX6 : Hid (Bx2 w6 _ 28 (.int .i64 0) (.int .i64 0)) := hx6; clear hx6) | (have hx6 := (Bx2.new w2 28 (.int .i64 0) (.int .i64 0)).below bW6; have p0 := hx6.c0; have p1 := hx6.c1; have p2 := hx6.f0; have p3 := hx6.f1; have HX6 : Hid (Bx2 w6 _ 28 (.int .i64 0) (.int .i64 0)) := hx6; clear hx6) | skip; clear hb6 bW6 hsame; dsimp only))
        all_goals
          first
            | (have hff := fin_set c2 a2 HX6.out H6.out.1 (by first | exact Nat.le_refl _ | exact HS1.out | exact H2c.out.1.size); generalize (w6.setCell ⟨wr.heap.size, 0, none⟩ (.int .i64 c2)).setCell ⟨wr.heap.size, 1, none⟩ (.int .i64 (a2 : Int)) = wf at *; generalize (w6.setCell ⟨w1.heap.size, 0, none⟩ (.int .i64 c2)).setCell ⟨w1.heap.size, 1, none⟩ (.int .i64 (a2 : Int)) = wf1 at *; generalize (w6.setCell ⟨w2.heap.size, 0, none⟩ (.int .i64 c2)).setCell ⟨w2.heap.size, 1, none⟩ (.int .i64 (a2 : Int)) = wf2 at *)
            | (have hff := fin_new c2 a2 H6.out.1; generalize w6.alloc (.cells #[.int .i64 c2, .int .i64 (a2 : Int)] 28) = wf at *)
          have hza := HQc.out.1.below hff.2
          have r0 := hff.1.c0
          have r1 := hff.1.c1
          have t0 := hza.c0
          have t1 := hza.c1
          have HFn : Hid (Below w.heap.size w _) := Below.step HQc.out.2 hff.2
          have HS6 : Hid (cd ≠ 4 → c2 = cd ∧ a2 = a0) := H6.out.2
          clear hff hza
          try clear p0 p1 p2 p3
          clear i0 i1 g0 g1 h0 h1 k0 k1 j0 j1 f0 f1 q0 q1 y0 y1
          rcases Classical.em (cd = 4) with hc4 | hc4
          · have hc41 : (cd == 4) = true := beq_iff_eq.2 hc4
            clear hc4
            go_wp2_with fail
            go_ret
            exact ⟨rfl, HFn.out⟩
          · have hc41 : (cd == 4) = false := beq_eq_false_iff_ne.2 hc4
            obtain ⟨e1, e2⟩ := HS6.out hc4
            subst e1; subst e2
            clear hc4
            go_wp2_with fail
            go_ret
            exact ⟨rfl, HFn.out⟩
    · have ek : k = l.length := by omega
      have HE : Hid (cd = code ∧ a0 = at_) := by
        rcases HS.out.pur with ⟨h, h1, _, h2⟩ | ⟨_, h⟩
        · rw [ek, List.drop_length, HF1.out.1] at h2
          exact ⟨by rw [h]; exact congrArg Prod.fst h2, by rw [h1]; exact congrArg Prod.snd h2⟩
        · rw [HF1.out.1] at h
          exact ⟨(congrArg Prod.fst h).symm, (congrArg Prod.snd h).symm⟩
      have hbw : Below w.heap.size w wr := by have := H3.out.1; rw [← HXe.out] at this; exact Below.step this HS.out.bel
      have hxf := H3.out.2.1.below HS.out.bel
      have hxa := H3.out.2.2.below HS.out.bel
      have f0 := hxf.c0
      have f1 := hxf.c1
      have q0 := hxa.c0
      have q1 := hxa.c1
      have HFc : Hid (∀ W, Below wr.heap.size wr W → W.cell? ⟨X, 0, none⟩ = some (.int .i64 n) ∧ W.cell? ⟨X, 1, none⟩ = some s) := fun W h => ⟨(hxf.below h).c0, (hxf.below h).c1⟩
      have HQc : Hid (Bx2 wr Za 28 (.int .i64 code) (.int .i64 (at_ : Int)) ∧ Below w.heap.size w wr) := ⟨hxa, hbw⟩
      obtain ⟨hE1, hE2⟩ := HE.out
      subst hE1; subst hE2
      have hcc : (cd == cd) = true := beq_self_eq_true cd
      have haa : ((a0 : Int) == (a0 : Int)) = true := beq_self_eq_true _
      have HCp : Hid (∀ W, Below wr.heap.size wr W → Calls Tryd.prog 11 #[.slice al l.length cl] W fun e w' => ∃ u, e = .returned u ∧ Below W.heap.size W w' ∧ Below wr.heap.size wr w' ∧ ∀ Wa, Below w'.heap.size w' Wa → ∃ v' w2, (Builtin.append_ #[25, 25] 25 #[u, .slice am m.length cm]).run Tryd.prog Wa = .ok v' w2 ∧ AzR wr (l ++ m) Wa v' w2) := fun W h => by
        have hb0 := Below.step HQc.out.2 h
        refine (copySteps_any _ l W (HW.out W hb0).2.1).mono fun e w' hh => ?_
        obtain ⟨u, h1, ⟨L1, h2, h3⟩, h4⟩ := hh
        refine ⟨u, h1, h4, Below.step h h4, fun Wa hWa => ?_⟩
        have hL1 : L1.length = l.length := by rw [← h3, svS_len]
        have hb1 := Below.step (Below.step h h4) hWa
        have hBd := HBd.out
        have h2a := h2.below hWa
        have hr2 := row_mono h2a.row h.size
        obtain ⟨v', w2, L2, r1, r2, r3, r4, r5⟩ := run_append_z (w := Wa) 25 wr.heap.size u L1 hr2 (.slice am m.length cm) m w (HW.out w (Below.refl _ _)).2.2.2 (Below.step HQc.out.2 hb1) (by rw [hL1]; omega) hb1.size
        have hb2 : Below wr.heap.size wr w2 := hb1.grown r5 hb1.size fun q e => (World.ownsRow.lt hr2 q e).1
        refine ⟨v', w2, r1, hb2, ?_, fun D x y hx => hx.kept r5 (hx.not_row (by decide) hr2)⟩
        have e5 : svS (L1 ++ L2) = l ++ m := by rw [← h3, ← r2]; unfold svS; rw [List.map_append]
        rw [← e5]
        have hL2 : L2.length = m.length := by rw [← r2, svS_len]
        refine rdz_row r4 (fun x hx => ?_) (by rw [List.length_append, hL1, hL2]; omega)
        rcases List.mem_append.1 hx with q | q
        · have h8 : x.2.2.length * 8 ≤ 140737488351232 := by
            have := rdz_each (HW.out w (Below.refl _ _)).2.1 (x.1, x.2.2) (by rw [← h3]; exact List.mem_map_of_mem (f := fun x : SV => (x.1, x.2.2)) q)
            exact this
          have ho : Own W.heap.size w2 x.2.1 x.2.2 := row_apart (by decide) (h2a.own x q) hr2 r5
          exact ho.rd h8
        · exact (r3 x q).below (Below.step HQc.out.2 hb2)
      have HCk3 : Hid (∀ W v', Below wr.heap.size wr W → RdZ W v' (l ++ m) → Calls Tryd.prog 6 #[.agg #[.int .i64 n, s], v'] W fun e w' => ∃ (c2 : Int) (a2 : Nat), e = .returned (.tuple #[.agg #[.int .i64 c2, .int .i64 (a2 : Int)], .int .i64 0]) ∧ (cd ≠ 4 → c2 = cd ∧ a2 = a0) ∧ Below W.heap.size W w' ∧ Below wr.heap.size wr w') := fun W v' h hz => by
        have hb0 := Below.step HQc.out.2 h
        have hBd := HBd.out
        have hlz : lsZ (l ++ m) = lsZ l + lsZ m := by unfold lsZ; simp
        refine (fCheck_any n s v' css (l ++ m) W (HW.out W hb0).1 hz (by simp; omega) (by rw [hlz]; omega) (HW.out W hb0).2.2.1).mono fun e w' hh => ?_
        have hck : chk n css (l ++ m) = ((chkF ((css.map tid).reverse) (l ++ m) 0).1, (chkF ((css.map tid).reverse) (l ++ m) 0).2, 0) := by unfold chk; rw [if_pos HF1.out.2]
        refine ⟨(chkF ((css.map tid).reverse) (l ++ m) 0).1, (chkF ((css.map tid).reverse) (l ++ m) 0).2, by rw [hh.1, hck]; rfl, fun h4 => ?_, hh.2, Below.step h hh.2⟩
        have := chk_more l m ((css.map tid).reverse) 0 (by rw [HF1.out.1]; exact h4)
        rw [this, HF1.out.1]
        exact ⟨rfl, rfl⟩
      clear hbw hxf hxa
      go_upto_region 27 with fail
      try clear hcd1
      try clear hcd
      have i0 := (HFc.out _ (below_box wr (.cells #[.int .i64 0, .int .i64 0] 28))).1
      have i1 := (HFc.out _ (below_box wr (.cells #[.int .i64 0, .int .i64 0] 28))).2
      go_region_law (first
        | (go_simp; go_at_call 11; refine (HCp.out _ (by first | exact (Below.refl _ _).drew | exact (below_box _ _).drew | exact Below.step (Below.refl _ _).drew (below_box _ _))).mono ?_; rintro e w1 ⟨u, rfl, bW1, hb1, hAp⟩; have g0 := (HFc.out w1 hb1).1; have g1 := (HFc.out w1 hb1).2; have h0 := (HFc.out _ (Below.step hb1 (below_box w1 (.cells #[.int .i64 0, .int .i64 0] 28)))).1; have h1 := (HFc.out _ (Below.step hb1 (below_box w1 (.cells #[.int .i64 0, .int .i64 0] 28)))).2; have HAp : Hid (∀ Wa, Below w1.heap.size w1 Wa → ∃ v' w2, (Builtin.append_ #[25, 25] 25 #[u, .slice am m.length cm]).run Tryd.prog Wa = .ok v' w2 ∧ AzR wr (l ++ m) Wa v' w2) := hAp; have HS1 : Hid (wr.heap.size ≤ w1.heap.size) := hb1.size; first | (have HX1 : Hid (Bx2 w1 wr.heap.size 28 (.int .i64 0) (.int .i64 0)) := Bx2.below (W := (wr.alloc (.cells #[.int .i64 0, .int .i64 0] 28)).drew) (Bx2.new wr 28 (.int .i64 0) (.int .i64 0)) bW1) | skip; clear hb1 bW1 hAp; dsimp only)
        | (refine step_app_any rfl (.tmp 114) (.tmp 115) 25 rfl u (.slice am m.length cm) (by simp [Act.eval, Act.put]) (by simp [Act.eval, Act.put]) (AzR wr (l ++ m)) (HAp.out _ (by first | exact Below.refl _ _ | exact below_box _ _)) ?_; rintro v' w2 ⟨hb2, hz2, hbx2⟩; have k0 := (HFc.out w2 hb2).1; have k1 := (HFc.out w2 hb2).2; have j0 := (HFc.out _ (Below.step hb2 (below_box w2 (.cells #[.int .i64 0, .int .i64 0] 28)))).1; have j1 := (HFc.out _ (Below.step hb2 (below_box w2 (.cells #[.int .i64 0, .int .i64 0] 28)))).2; have H2c : Hid (Below wr.heap.size wr w2 ∧ RdZ w2 v' (l ++ m)) := ⟨hb2, hz2⟩; first | (have HX2 : Hid (Bx2 w2 wr.heap.size 28 (.int .i64 0) (.int .i64 0)) := hbx2 _ _ _ HX1.out) | (have HX2 : Hid (Bx2 w2 w1.heap.size 28 (.int .i64 0) (.int .i64 0)) := hbx2 _ _ _ (Bx2.new w1 28 (.int .i64 0) (.int .i64 0))) | skip; clear hb2 hz2 hbx2)
        | (go_simp; go_at_call 6; refine (HCk3.out _ _ (by first | exact H2c.out.1 | exact Below.step H2c.out.1 (below_box _ _)) (by first | exact H2c.out.2 | exact H2c.out.2.below (below_box _ _))).mono ?_; rintro e w6 ⟨c2, a2, rfl, hsame, bW6, hb6⟩; have H6 : Hid (Below wr.heap.size wr w6 ∧ (cd ≠ 4 → c2 = cd ∧ a2 = a0)) := ⟨hb6, hsame⟩; first | (have hx6 := HX2.out.below bW6; have p0 := hx6.c0; have p1 := hx6.c1; have p2 := hx6.f0; have p3 := hx6.f1; have HX6 : Hid (Bx2 w6 _ 28 (.int .i64 0) (.int .i64 0)) := hx6; clear hx6) | (have hx6 := (Bx2.new w2 28 (.int .i64 0) (.int .i64 0)).below bW6; have p0 := hx6.c0; have p1 := hx6.c1; have p2 := hx6.f0; have p3 := hx6.f1; have HX6 : Hid (Bx2 w6 _ 28 (.int .i64 0) (.int .i64 0)) := hx6; clear hx6) | skip; clear hb6 bW6 hsame; dsimp only))
      all_goals
        first
          | (have hff := fin_set c2 a2 HX6.out H6.out.1 (by first | exact Nat.le_refl _ | exact HS1.out | exact H2c.out.1.size); generalize (w6.setCell ⟨wr.heap.size, 0, none⟩ (.int .i64 c2)).setCell ⟨wr.heap.size, 1, none⟩ (.int .i64 (a2 : Int)) = wf at *; generalize (w6.setCell ⟨w1.heap.size, 0, none⟩ (.int .i64 c2)).setCell ⟨w1.heap.size, 1, none⟩ (.int .i64 (a2 : Int)) = wf1 at *; generalize (w6.setCell ⟨w2.heap.size, 0, none⟩ (.int .i64 c2)).setCell ⟨w2.heap.size, 1, none⟩ (.int .i64 (a2 : Int)) = wf2 at *)
          | (have hff := fin_new c2 a2 H6.out.1; generalize w6.alloc (.cells #[.int .i64 c2, .int .i64 (a2 : Int)] 28) = wf at *)
        have hza := HQc.out.1.below hff.2
        have r0 := hff.1.c0
        have r1 := hff.1.c1
        have t0 := hza.c0
        have t1 := hza.c1
        have HFn : Hid (Below w.heap.size w _) := Below.step HQc.out.2 hff.2
        have HS6 : Hid (cd ≠ 4 → c2 = cd ∧ a2 = a0) := H6.out.2
        clear hff hza
        try clear p0 p1 p2 p3
        clear i0 i1 g0 g1 h0 h1 k0 k1 j0 j1 f0 f1 q0 q1 y0 y1
        rcases Classical.em (cd = 4) with hc4 | hc4
        · have hc41 : (cd == 4) = true := beq_iff_eq.2 hc4
          clear hc4
          go_wp2_with fail
          go_ret
          exact ⟨rfl, HFn.out⟩
        · have hc41 : (cd == 4) = false := beq_eq_false_iff_ne.2 hc4
          obtain ⟨e1, e2⟩ := HS6.out hc4
          subst e1; subst e2
          clear hc4
          go_wp2_with fail
          go_ret
          exact ⟨rfl, HFn.out⟩
end forwardRuns
end Go.Proofs.YtcblejbdoegckaaDoor

/-
  ForwardSound, walked: narrow, and the statement.
  KEEP: len below nil form rd mono one more grown lt size cell some none of ofNat add out step row get at drop on app start bx ans own box bel rds mk new made look put del kept drew alloc has same other map perm td yes no pos all ne enter leave pm gone less keep c u l f h r v ty off cells nd txt tid oth sum done fwd setD hm fg keep2 stays st pur fact unit rdz
-/
import Derived.Test.YtnkmkbailifdoaaGreatDoorJFwMp
import Derived.Test.YtnkmkbailifdoaaGreatDoorJModW
import Derived.Test.YtnkmkbailifdoaaGreatDoorKOpenZ
import Derived.Test.YtnkmkbailifdoaaGreatDoorKCopy
import Derived.Test.YtnkmkbailifdoaaGreatDoorJNum
import Derived.Handy
import Derived.Deep.RegionWith
import Derived.Deep.QuietTactic
import Derived.Deep.RegionHeld
import Derived.Deep.CutRange
set_option linter.unusedSimpArgs false
set_option linter.unusedVariables false
namespace Go.Proofs.YtnkmkbailifdoaaGreatDoor
open Go Go.RowKit
def fldF (c : List Int) (a : Int) : Int := c.foldl (fun a l => max a (varOf l)) a
theorem nrw_more (css : List (List Int)) (k : Nat) (h : k < css.length) : nrwF (css.take (k + 1)) = fldF (css.getD k []) (nrwF (css.take k)) := by
  unfold nrwF fldF
  rw [take_succ_getD css [] k h, List.foldl_append]; rfl
theorem fld_more (c : List Int) (a : Int) (j : Nat) (h : j < c.length) : fldF (c.take (j + 1)) a = max (fldF (c.take j) a) (varOf (c.getD j 0)) := by
  unfold fldF
  rw [take_succ_getD c 0 j h, List.foldl_append]; rfl
/-- the state of narrow's loops -/
structure NrI (w W0 : World) (G : Nat) (n : Int) (s u : Value) (css : List (List Int)) (M : Int) (wr : World) : Prop where
  bel : Below W0.heap.size W0 wr
  hG : W0.heap.size ≤ G
  bx : Bx2 wr G 24 (.int .i64 M) u
  own : OwnF W0.heap.size wr u css
theorem NrI.set {w W0 : World} {G : Nat} {n M : Int} {s u : Value} {css : List (List Int)} {wr : World} (h : NrI w W0 G n s u css M wr) (M' : Int) : NrI w W0 G n s u css M' (wr.setCell ⟨G, 0, none⟩ (.int .i64 M')) :=
  ⟨h.bel.setCell (p := ⟨G, 0, none⟩) h.hG _, h.hG, h.bx.set0 _, h.own.set h.bx (by decide) (by decide) 0 _⟩
set_option maxHeartbeats 1600000 in
set_option maxRecDepth 100000 in
theorem narrow_any (n : Int) (s : Value) (css : List (List Int)) (w : World) (hr : Rds w s css) :
    Calls Tryz.prog 7 #[.agg #[.int .i64 n, s]] w fun e w' => ∃ u, e = .returned (.agg #[.int .i64 (nrwF css), u]) ∧ Rds w' u css ∧ Below w.heap.size w w' := by
  have HX : Hid (En w n s css ((w.alloc (.cells #[.int .i64 n, s] 24)).alloc (.cells #[.int .i64 0, .slice none 0 0] 24))) := En.new hr
  have h24 := hr.len
  have h8 := rds_each hr
  obtain ⟨sa, sc, rfl, hsc, hsm, _⟩ := hr.form
  have c0 := HX.out.bx.c0
  have c1 := HX.out.bx.c1
  clear hr
  go_enter Tryz.func7, Tryz.ntmps7
  go_wp2_with fail
  clear c0 c1
  generalize (w.alloc (.cells #[.int .i64 n, .slice sa css.length sc] 24)).alloc (.cells #[.int .i64 0, .slice none 0 0] 24) = W0 at *
  refine (copyFormula_any n _ css W0 HX.out.bx.rd).mono ?_
  rintro e w1 ⟨u1, rfl, own1, bel1⟩
  obtain ⟨a1, k1, hu1⟩ := ownf_form own1
  subst hu1
  have hb2 := below_box w1 (.cells #[.int .i64 0, .slice a1 css.length k1] 24)
  have HS : Hid (NrI w W0 w1.heap.size n (.slice sa css.length sc) (.slice a1 css.length k1) css 0 (w1.alloc (.cells #[.int .i64 0, .slice a1 css.length k1] 24))) := ⟨Below.step bel1 hb2, bel1.size, Bx2.new _ _ _ _, own1.below hb2⟩
  clear own1 bel1 hb2
  go_upto_region 3 with fail
  generalize w1.alloc (.cells #[.int .i64 0, .slice a1 css.length k1] 24) = w2 at *
  generalize w1.heap.size = G at *
  go_wp2_with fail
  go_loopg [4] css.length (fun q iv wx => ∃ k : Nat, k + q = css.length ∧ iv = .int .i64 (k : Int) ∧ Hid (NrI w W0 G n (.slice sa css.length sc) (.slice a1 css.length k1) css (nrwF (css.take k)) wx))
  case atStart => exact ⟨0, by omega, rfl, HS⟩
  case round =>
    obtain ⟨k, hk, rfl, HI⟩ := hrel
    have HK : Hid (k + gk = css.length) := hk
    have HXr : Hid (En w n (.slice sa css.length sc) css wr) := HX.out.on HI.out.bel
    have c1 := HXr.out.bx.c1
    by_cases hlt : k < css.length
    · have HNm : Hid (nrwF (css.take (k + 1)) = fldF (css.getD k []) (nrwF (css.take k))) := nrw_more css k hlt
      have HRow : Hid (∀ W, Below W0.heap.size W0 W → ∃ b off u, sa = some ⟨b, off, none⟩ ∧ W.cell? ⟨b, off + k, none⟩ = some u ∧ Rd W u (css.getD k [])) := fun W h => by
        obtain ⟨sa', sc', es, _, _, hrow⟩ := (HX.out.on h).bx.rd.form
        have e4 : sa' = sa ∧ sc' = sc := by injection es with q1 q2 q3; exact ⟨q1.symm, q3.symm⟩
        obtain ⟨rfl, rfl⟩ := e4
        exact hrow k hlt
      obtain ⟨b2, o2, uu, rfl, hu0, hru0⟩ := HRow.out W0 (Below.refl _ _)
      have hb2 : b2 < W0.heap.size := World.block_lt_of_cell? W0 _ hu0
      obtain ⟨au, cu, rfl, _, _, hcl⟩ := hru0.form
      have hz8 := hru0.len
      generalize css.getD k [] = z at *
      generalize nrwF (css.take k) = M0 at *
      have HZ : Hid (∀ W, Below W0.heap.size W0 W → W.cell? ⟨b2, o2 + k, none⟩ = some (.slice au z.length cu) ∧ ∀ j, j < z.length → ∃ b off, au = some ⟨b, off, none⟩ ∧ W.cell? ⟨b, off + j, none⟩ = some (.int .i64 (z.getD j 0))) := fun W h => by
        refine ⟨(h.cell (p := ⟨b2, o2 + k, none⟩) hb2).trans hu0, fun j hj => ?_⟩
        obtain ⟨b, off, e, hc⟩ := hcl j hj
        exact ⟨b, off, e, (h.cell (p := ⟨b, off + j, none⟩) (World.block_lt_of_cell? W0 _ hc)).trans hc⟩
      have HI0 : Hid (NrI w W0 G n (.slice (some ⟨b2, o2, none⟩) css.length sc) (.slice a1 css.length k1) css M0 wr) := HI
      clear hk hu0 hru0 hcl HRow HI
      go_wp2_with fail
      go_loopg [5] z.length (fun q iv wx => ∃ j : Nat, j + q = z.length ∧ iv = .int .i64 (j : Int) ∧ Hid (NrI w W0 G n (.slice (some ⟨b2, o2, none⟩) css.length sc) (.slice a1 css.length k1) css (fldF (z.take j) M0) wx))
      case atStart => exact ⟨0, by omega, rfl, HI0⟩
      case round =>
        obtain ⟨j, hj, rfl, HJ⟩ := hrel
        have HJk : Hid (j + gk = z.length) := hj
        have d1 := (HX.out.on HJ.out.bel).bx.c1
        have d2 := (HZ.out _ HJ.out.bel).1
        have d3 := HJ.out.bx.c0
        have d4 := HJ.out.bx.f0
        by_cases hjl : j < z.length
        · obtain ⟨b3, o3, hau, d5⟩ := (HZ.out _ HJ.out.bel).2 j hjl
          subst hau
          have HFm : Hid (fldF (z.take (j + 1)) M0 = max (fldF (z.take j) M0) (varOf (z.getD j 0))) := fld_more z M0 j hjl
          generalize z.getD j 0 = x at *
          generalize hM : fldF (z.take j) M0 = M at *
          clear hj hM
          by_cases hv : varOf x > M
          · have HFn : Hid (fldF (z.take (j + 1)) M0 = varOf x) := by show _ = _; rw [HFm.out]; omega
            have HN := HJ.out.set (varOf x)
            have HN2 : Hid (NrI w W0 G n (.slice (some ⟨b2, o2, none⟩) css.length sc) (.slice a1 css.length k1) css (varOf x) _) := HN
            clear HN
            go_wp2_with (go_at_call 14; refine (var_any _ _).mono ?_; intro e w9 hh; rw [hh.1, hh.2]; clear hh e w9; dsimp only)
            go_roundg (z.length - (j + 1))
            case measure => have := HJk.out; omega
            case rel => exact ⟨j + 1, by omega, by go_num, by rw [HFn.out]; exact HN2⟩
          · have HFn : Hid (fldF (z.take (j + 1)) M0 = M) := by show _ = _; rw [HFm.out]; omega
            go_wp2_with (go_at_call 14; refine (var_any _ _).mono ?_; intro e w9 hh; rw [hh.1, hh.2]; clear hh e w9; dsimp only)
            go_roundg (z.length - (j + 1))
            case measure => have := HJk.out; omega
            case rel => exact ⟨j + 1, by omega, by go_num, by rw [HFn.out]; exact HJ⟩
        · obtain rfl : j = z.length := by omega
          have HE : Hid (nrwF (css.take (k + 1)) = fldF (z.take z.length) M0) := by show _ = _; rw [HNm.out, List.take_length]
          clear hj
          go_wp2_with fail
          go_roundg (css.length - (k + 1))
          case measure => have := HK.out; omega
          case rel => exact ⟨k + 1, by omega, by go_num, by rw [HE.out]; exact HJ⟩
    · obtain rfl : k = css.length := by omega
      have HN : Hid (NrI w W0 G n (.slice sa css.length sc) (.slice a1 css.length k1) css (nrwF css) wr) := by have := HI.out; rw [List.take_length] at this; exact this
      have d3 := HN.out.bx.c0
      have d4 := HN.out.bx.c1
      have a0 := HXr.out.ans.c0
      have a1' := HXr.out.ans.c1
      have f0 := HXr.out.ans.f0
      have f1 := HXr.out.ans.f1
      clear hk HI
      go_wp2_with fail
      have hb := (HXr.out.ans.set0 (.int .i64 (nrwF css))).set1 (.slice a1 css.length k1)
      try simp only [Exit.inBlock, Exit.then]
      refine bodyPost_ret (results_cell_row rfl _ _ (w.heap.size + 1) 24 #[.int .i64 (nrwF css), .slice a1 css.length k1] (0, 0) _ rfl hb Tryz.underlying24 rfl (by kernel_rfl)) rfl ?_
      have ho := (HN.out.own.set HXr.out.ans (by decide) (by decide) 0 (.int .i64 (nrwF css))).set (HXr.out.ans.set0 _) (by decide) (by decide) 1 (.slice a1 css.length k1)
      exact ⟨_, rfl, ho.rds h24 h8, below_set (below_set HXr.out.bx.bel (by omega) _ _) (by omega) _ _⟩
namespace forwardSound
open Go Go.RowKit
theorem none_left {v v' : Int} {css : List (List Int)} {l : List Stp} {K : Nat} (h : chk v css l = (1, K, 0)) (h0 : 0 ≤ v') (hf : frm v' css = true) (h16 : ¬ 16 < v') : (modF v' css).length = 0 ∧ cntE v' css = 0 := by
  refine ⟨?_, by unfold cntE; rw [hf, if_neg h16]; rfl⟩
  unfold modF
  rw [hf, decide_eq_true (by omega)]
  show (mods v'.toNat css).length = 0
  rw [List.length_eq_zero_iff]
  apply List.eq_nil_iff_forall_not_mem.2
  intro m hm
  obtain ⟨h1, h2⟩ := mem_mods.1 hm
  have := top_sound2 h hf (ms := m) (by omega)
  rw [this] at h2; cases h2
set_option maxRecDepth 100000 in
set_option maxHeartbeats 3200000 in
theorem walk (n : Int) (s : Value) (css : List (List Int)) (vl : Value) (l : List Stp) (w : World) (_ : (Lit.int .i64 n).wf = true) (hr : Rds w s css) (hl : RdZ w vl l) (hb : css.length + (css.map List.length).sum ≤ 1048576) (hb1 : stpN l ≤ 1048576) (hT : Tens w ∧ Deb w) :
    Calls Tryz.prog 3 #[.agg #[.int .i64 n, s], vl] w fun e w' => e = .returned (.bool true) ∧ Below w.heap.size w w' := by
  have hls : lsum css = (css.map List.length).sum := rfl
  have hlz : lsZ l + l.length ≤ 1048576 := by unfold stpN at hb1; unfold lsZ; omega
  have hbx := below_box w (.cells #[.int .i64 n, s] 24)
  have hX := Bx2.new w 24 (.int .i64 n) s
  have HW : Hid (∀ W, Below w.heap.size w W → Rds W s css ∧ RdZ W vl l ∧ Deb W ∧ Tens W) := fun W h => ⟨hr.below h, hl.below h, hT.2.below h, hT.1.below h⟩
  have HB1 : Hid (Below w.heap.size w (w.alloc (.cells #[.int .i64 n, s] 24)) ∧ Bx2 (w.alloc (.cells #[.int .i64 n, s] 24)) w.heap.size 24 (.int .i64 n) s) := ⟨hbx, hX⟩
  have HCk : Hid (∀ W, Below w.heap.size w W → Calls Tryz.prog 5 #[.agg #[.int .i64 n, s], vl] W fun e w' => e = ckV (chk n css l) ∧ Below W.heap.size W w') := fun W h => fCheck_any n s vl css l W (HW.out W h).1 (HW.out W h).2.1 (by omega) (by omega) (HW.out W h).2.2.1
  obtain ⟨sa, sc, rfl, _⟩ := hr.form
  obtain ⟨al, cl, rfl, hcl, hml, hcell⟩ := hl.form
  have HC : Hid (∀ k, k < l.length → ∃ b off u, al = some ⟨b, off, none⟩ ∧ b < w.heap.size ∧ w.cell? ⟨b, off + k * 2, none⟩ = some (.bool (l.getD k (false, [])).1) ∧ w.cell? ⟨b, off + k * 2 + 1, none⟩ = some u ∧ Rd w u (l.getD k (false, [])).2) := hcell
  have h8 := hl.len
  clear hr hl hb hb1 hT hls hlz hbx hX hcell
  go_enter Tryz.func3, Tryz.ntmps3
  go_upto_region 1 with fail
  generalize w.alloc (.cells #[.int .i64 n, .slice sa css.length sc] 24) = W1 at *
  obtain ⟨X, hXe⟩ : ∃ X, w.heap.size = X := ⟨_, rfl⟩
  have HXe : Hid (w.heap.size = X) := hXe
  rw [hXe] at HB1 ⊢
  clear hXe
  have HW1 : Hid (Below w.heap.size w W1) := by have := HB1.out.1; rw [← HXe.out] at this; exact this
  have HAw : Hid (Calls Tryz.prog 4 #[] W1 fun e w' => e = .returned (.bool true) ∧ Below W1.heap.size W1 w') := awake11_any W1 (HW.out W1 HW1.out).2.2.1
  go_upto_region 3 with (go_at_call 4; refine HAw.out.mono ?_; rintro e w1 ⟨rfl, hb1⟩; have H1 : Hid (Below w.heap.size w w1 ∧ Bx2 w1 X 24 (.int .i64 n) (.slice sa css.length sc)) := ⟨Below.step HW1.out hb1, HB1.out.2.below hb1⟩; clear hb1)
  have f0 := H1.out.2.c0
  have f1 := H1.out.2.c1
  obtain ⟨code, at_, er, hq⟩ : ∃ code at_ er, chk n css l = (code, at_, er) := ⟨_, _, _, rfl⟩
  have HQ : Hid (chk n css l = (code, at_, er)) := hq
  have HCk1 : Hid (Calls Tryz.prog 5 #[.agg #[.int .i64 n, .slice sa css.length sc], .slice al l.length cl] w1 fun e w' => e = .returned (.tuple #[.agg #[.int .i64 code, .int .i64 (at_ : Int)], .int .i64 er]) ∧ Below w1.heap.size w1 w') := by
    have := HCk.out w1 H1.out.1
    rw [hq] at this
    exact this
  clear hq HAw
  go_upto_region 4 with (go_at_call 5; refine HCk1.out.mono ?_; rintro e w2 ⟨rfl, b2⟩; have H2 : Hid (Below w1.heap.size w1 w2) := b2; clear b2)
  have hb3 := below_box w2 (.cells #[.int .i64 code, .int .i64 (at_ : Int)] 28)
  have hx3 := Bx2.new w2 28 (.int .i64 code) (.int .i64 (at_ : Int))
  have hb13 := Below.step H2.out hb3
  have H3 : Hid (Below w.heap.size w (w2.alloc (.cells #[.int .i64 code, .int .i64 (at_ : Int)] 28)) ∧ Bx2 (w2.alloc (.cells #[.int .i64 code, .int .i64 (at_ : Int)] 28)) X 24 (.int .i64 n) (.slice sa css.length sc) ∧ Bx2 (w2.alloc (.cells #[.int .i64 code, .int .i64 (at_ : Int)] 28)) w2.heap.size 28 (.int .i64 code) (.int .i64 (at_ : Int))) := ⟨Below.step H1.out.1 hb13, H1.out.2.below hb13, hx3⟩
  clear hb3 hx3 hb13 f0 f1 HCk1
  generalize w2.alloc (.cells #[.int .i64 code, .int .i64 (at_ : Int)] 28) = w3 at *
  generalize w2.heap.size = Y at *
  have f0 := H3.out.2.1.c0
  have f1 := H3.out.2.1.c1
  have y0 := H3.out.2.2.c0
  have y1 := H3.out.2.2.c1
  cases hf : frm n css
  · have hq := HQ.out
    unfold chk at hq
    rw [hf] at hq
    have e0 : code = 0 := (congrArg Prod.fst hq).symm
    have e1 : at_ = 0 := (congrArg (fun q => q.2.1) hq).symm
    have e2 : er = 1 := (congrArg (fun q => q.2.2) hq).symm
    subst e0; subst e1; subst e2
    have HFo : Hid (Calls Tryz.prog 6 #[.agg #[.int .i64 n, .slice sa css.length sc]] w3 fun e w' => e = .returned (.bool false) ∧ Below w.heap.size w w') := (cnfFormed_any n _ css w3 (HW.out w3 H3.out.1).1).mono fun e w' hh => ⟨by rw [hh.1, hf], Below.step H3.out.1 hh.2⟩
    clear hq hf
    go_wp2_with (go_at_call 6; refine HFo.out.mono ?_; rintro e w4 ⟨rfl, b4⟩; have H4 : Hid (Below w.heap.size w w4) := b4; clear b4)
    go_ret
    exact ⟨rfl, H4.out⟩
  have hq := HQ.out
  unfold chk at hq
  rw [hf] at hq
  have e2 : er = 0 := (congrArg (fun q => q.2.2) hq).symm
  have e1 : chkF ((css.map tid).reverse) l 0 = (code, at_) := by
    have q1 := congrArg Prod.fst hq
    have q2 := congrArg (fun q => q.2.1) hq
    exact Prod.ext q1 q2
  subst e2
  have hsh := chk_shape l ((css.map tid).reverse) 0
  rw [e1] at hsh
  clear hq e1
  rcases hsh with ⟨s1, s2⟩ | ⟨s1, s2, s3, s4⟩
  · have s1 : code = 4 := s1
    have s2 : at_ = l.length := by have : at_ = 0 + l.length := s2; omega
    subst s1; subst s2
    have hll : ((l.length : Int) == (l.length : Int)) = true := beq_self_eq_true _
    go_wp2_with fail
    go_ret
    exact ⟨rfl, H3.out.1⟩
  dsimp only at s1 s2 s3 s4
  have hlt : at_ < l.length := by omega
  have hne : ((at_ : Int) == (l.length : Int)) = false := beq_eq_false_iff_ne.2 (by omega)
  by_cases hc1 : code = 1
  case neg =>
    rcases s1 with e | e | e | e
    · exact absurd e hc1
    all_goals
      subst e
      clear s4 hc1
      go_wp2_with fail
      go_ret
      exact ⟨rfl, H3.out.1⟩
  subst hc1
  have s5 := s4 rfl
  rw [Nat.sub_zero] at s5
  obtain ⟨bb, off, uu, rfl, hbb, hd, hu, hru⟩ := HC.out at_ hlt
  rw [s5] at hd hru
  obtain ⟨ac, cc, rfl, _⟩ := hru.form
  have kd := (H3.out.1.cell (p := ⟨bb, off + at_ * 2, none⟩) hbb).trans hd
  have ku := (H3.out.1.cell (p := ⟨bb, off + at_ * 2 + 1, none⟩) hbb).trans hu
  have HNr : Hid (Calls Tryz.prog 7 #[.agg #[.int .i64 n, .slice sa css.length sc]] w3 fun e w' => ∃ u, e = .returned (.agg #[.int .i64 (nrwF css), u]) ∧ Rds w' u css ∧ Below w3.heap.size w3 w') := narrow_any n _ css w3 (HW.out w3 H3.out.1).1
  obtain ⟨g0, g1⟩ := nrw_frm hf
  have HNo : Hid (¬ 16 < nrwF css → (modF (nrwF css) css).length = 0 ∧ cntE (nrwF css) css = 0) := fun h => none_left HQ.out g0 g1 h
  clear s1 s2 s3 s4 s5 hd hu hru hf g1
  generalize nrwF css = M at *
  dsimp only [List.length_nil] at ku
  go_upto_region 11 with (go_at_call 7; refine HNr.out.mono ?_; rintro e w4 ⟨u4, rfl, r4, b4⟩; obtain ⟨a4, c4, hu4, _⟩ := r4.form; subst hu4; have H4 : Hid (Rds w4 (.slice a4 css.length c4) css ∧ Below w.heap.size w w4) := ⟨r4, Below.step H3.out.1 b4⟩; clear r4 b4)
  have hb5 := below_box w4 (.cells #[.int .i64 M, .slice a4 css.length c4] 24)
  have hx5 := Bx2.new w4 24 (.int .i64 M) (.slice a4 css.length c4)
  have H5 : Hid (Rds (w4.alloc (.cells #[.int .i64 M, .slice a4 css.length c4] 24)) (.slice a4 css.length c4) css ∧ Below w.heap.size w (w4.alloc (.cells #[.int .i64 M, .slice a4 css.length c4] 24)) ∧ Bx2 (w4.alloc (.cells #[.int .i64 M, .slice a4 css.length c4] 24)) w4.heap.size 24 (.int .i64 M) (.slice a4 css.length c4)) := ⟨H4.out.1.below hb5, Below.step H4.out.2 hb5, hx5⟩
  clear hb5 hx5 f0 f1 y0 y1 kd ku hne
  generalize w4.alloc (.cells #[.int .i64 M, .slice a4 css.length c4] 24) = w5 at *
  generalize w4.heap.size = Z at *
  have z0 := H5.out.2.2.c0
  have z1 := H5.out.2.2.c1
  by_cases h16 : M > 16
  · go_wp2_with fail
    go_ret
    exact ⟨rfl, H5.out.2.1⟩
  · have hno := HNo.out (by omega)
    have hcn := cnfCount_any M _ css w5 H5.out.1 (HW.out w5 H5.out.2.1).2.2.2
    rw [hno.1, hno.2] at hcn
    have HCn : Hid (Calls Tryz.prog 8 #[.agg #[.int .i64 M, .slice a4 css.length c4]] w5 fun e w' => e = .returned (.tuple #[.int .i64 0, .int .i64 0]) ∧ Below w.heap.size w w') := hcn.mono fun e w' hh => ⟨hh.1, Below.step H5.out.2.1 hh.2⟩
    clear hno hcn
    go_wp2_with (go_at_call 8; refine HCn.out.mono ?_; rintro e w6 ⟨rfl, b6⟩; have H6 : Hid (Below w.heap.size w w6) := b6; clear b6)
    go_ret
    exact ⟨rfl, H6.out⟩
end forwardSound
end Go.Proofs.YtnkmkbailifdoaaGreatDoor

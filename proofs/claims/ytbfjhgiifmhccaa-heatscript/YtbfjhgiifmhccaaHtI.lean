/-
  heat: scale, Bump, Cool.
  KEEP: set on app at below new trans refl start kept mono lt add none own nil put len pos other cell ty blt fz box k p r pr a0 a1 a2 c0 c1 c2 hb setK setP setR unique grown step fin bij up q1 q2 pl held mk v1 v2 t1 t2 hs few cut root z kl nl sl d1 d2 row down has holds
-/
import Derived.Test.YtbfjhgiifmhccaaHtE
set_option linter.unusedSimpArgs false
set_option linter.unusedVariables false
namespace Go.Proofs.Ytbfjhgiifmhccaa
open Go Go.RowKit
attribute [local go_sem] run_store_float

section
variable {B b n dec st : Nat} {v : Hv} {K P R : List Nat} {H : Nat → Bool} {W W1 : World}
theorem Hz.stp (h : Hz B W b (v.hs dec st) K P R) (x : Nat) : Hz B (W.setCell ⟨b, 1, none⟩ (.float .f64 x)) b (v.hs dec x) K P R ∧ Mf W (v.own b) (W.setCell ⟨b, 1, none⟩ (.float .f64 x)) (v.own b) := by
  have hg := grown_set W ⟨b, 1, none⟩ (.float .f64 x)
  refine ⟨⟨set_heap h.box 1 _, h.hb, rfl, rfl, rfl, set_oth h.box h.k (Ne.symm h.t1), set_oth h.box h.p (Ne.symm h.t2), set_oth h.box h.r (Ne.symm h.t2), h.pr, h.t1, h.t2⟩, Mf.grown hg fun g e => .inl ?_⟩
  simpa using e.symm
theorem Ht.stp (h : Ht B W b v n dec st K H) {x : Nat} (hx : x ≤ infR) : Ht B (W.setCell ⟨b, 1, none⟩ (.float .f64 x)) b v n dec x K H ∧ Mf W (v.own b) (W.setCell ⟨b, 1, none⟩ (.float .f64 x)) (v.own b) := by
  obtain ⟨P, R, hz, h1⟩ := h.z
  exact ⟨⟨⟨P, R, (hz.stp x).1, h1⟩, h.kl, h.nl, h.fin, hx, h.d1, h.d2⟩, (hz.stp x).2⟩
theorem scale_any (w : World) (h : Ht B w b v n dec st K H) :
    Calls Try.prog 41 #[.pointer (some ⟨b, 0, none⟩)] w fun e w' => e = .returned (.tuple #[]) ∧ Ht B w' b v n dec (scl st) (K.map scl) H ∧ Mf w (v.own b) w' (v.own b) := by
  obtain ⟨P, R, hz, hb, hp, hl⟩ := h.z
  have HC : Hid (Calls Try.prog 53 #[.pointer (some ⟨b, 2, none⟩), .func (.func 52) #[] #[]] w fun e w' => e = .returned (.tuple #[]) ∧ Ht B w' b v n dec st (K.map scl) H ∧ Mf w (v.own b) w' (v.own b)) := by
    refine (change_any w hz h.fin hb h.kl h.nl).mono fun e w' hh => ⟨hh.1, ?_⟩
    obtain ⟨P', R', hzs, hb', hp', _, hl'⟩ := hh.2
    exact ⟨⟨⟨P', R', hzs.1, hb', hp', fun u h1 h2 => (hl' u h1 h2).trans (hl u h1 h2)⟩, by rw [List.length_map]; exact h.kl, h.nl, fin_scl h.fin, h.sl, h.d1, h.d2⟩, hzs.2⟩
  have HM : Hid (∀ W, Calls Try.prog 52 #[.float .f64 st] W fun e w' => e = .returned (.float .f64 (scl st)) ∧ w' = W) := fun W => smaller_any _ W h.sl
  have hsl := scl_le h.sl
  have HSL : Hid (scl st ≤ infR) := hsl
  clear hz hb hp hl h hsl
  generalize scl st = y at *
  go_enter Try.func41, Try.ntmps41
  go_wp2_with (first | (go_at_call 53; refine HC.out.mono ?_; rintro e w5 ⟨rfl, h5⟩; have H5 : Hid _ := h5; clear h5; obtain ⟨_, c1, z1⟩ := H5.out.1.cell) | (go_at_call 52; refine (HM.out _).mono ?_; rintro e w6 ⟨rfl, rfl⟩))
  go_end0
  exact ⟨rfl, (H5.out.1.stp HSL.out).1, H5.out.2.trans (H5.out.1.stp HSL.out).2⟩
/-- what a bump makes of the scores and of the step -/
def bmpK (K : List Nat) (st v : Nat) : List Nat := if top < fadd (gt K v) st then (K.set v (fadd (gt K v) st)).map scl else K.set v (fadd (gt K v) st)
def bmpS (K : List Nat) (st v : Nat) : Nat := if top < fadd (gt K v) st then scl st else st
theorem bump_no (x : Int) (w : World) (h : Ht B w b v n dec st K H) (hx : ¬ (1 ≤ x ∧ x ≤ n)) :
    Calls Try.prog 23 #[.pointer (some ⟨b, 0, none⟩), .int .i64 x] w fun e w' => e = .returned (.int .i64 2) ∧ w' = w := by
  have H1 := h.has x
  rw [hsB_no hx] at H1
  have H1' : Hid (Calls Try.prog 35 #[.pointer (some ⟨b, 2, none⟩), .int .i64 x] w fun e w' => e = .returned (.bool false) ∧ w' = w) := H1
  clear H1 h hx
  go_enter Try.func23, Try.ntmps23
  go_wp2_with (go_at_call 35; refine H1'.out.mono ?_; rintro e w' ⟨rfl, rfl⟩)
  go_ret
  exact ⟨rfl, rfl⟩
set_option maxHeartbeats 1000000 in
theorem bump_yes (m : Nat) (w : World) (h : Ht B w b v n dec st K H) (h1 : 1 ≤ m) (h2 : m ≤ n) :
    Calls Try.prog 23 #[.pointer (some ⟨b, 0, none⟩), .int .i64 (m : Int)] w fun e w' => e = .returned (.int .i64 0) ∧ Ht B w' b v n dec (bmpS K st m) (bmpK K st m) H ∧ Mf w (v.own b) w' (v.own b) := by
  have H1 := h.has m
  rw [hsB_yes h1 h2] at H1
  have H1' : Hid (Calls Try.prog 35 #[.pointer (some ⟨b, 2, none⟩), .int .i64 (m : Int)] w fun e w' => e = .returned (.bool true) ∧ w' = w) := H1
  obtain ⟨P, R, hz, hb, _, hl⟩ := h.z
  obtain ⟨gK, cK, eK, k1, k2, k3⟩ := row_some hz.k (by rw [h.kl]; omega)
  have eK' : v.K = .slice (some ⟨gK, 0, none⟩) K.length cK := eK
  have b0 : w.cell? ⟨b, 2, none⟩ = some v.K := hz.c0
  rw [eK'] at b0
  have rK := hz.k
  rw [eK] at rK
  have hmk : m < K.length := by rw [h.kl]; omega
  have xK := row_cell rK (f64s_at hmk)
  obtain ⟨_, b1, _⟩ := h.cell
  have hnl := h.nl
  obtain ⟨ao1, ao2, ao3⟩ := add_ok (h.fin m) h.sl
  have hadd : ∀ W, (binOp .add 23 (.float .f64 (gt K m)) (.float .f64 st)).run Try.prog W = .ok (.float .f64 (fadd (gt K m) st)) W := fun W => run_float_arith W .add _ .f64 _ _ _ ao1
  have hgt := ord_gtr ao2 (Nat.le_of_lt top_lt)
  have HR : Hid (∀ W, Below w.heap.size w W → Calls Try.prog 40 #[.pointer (some ⟨b, 2, none⟩), .int .i64 (m : Int), .float .f64 (fadd (gt K m) st)] W fun e w' => e = .returned (.tuple #[]) ∧ Ht B w' b v n dec st (K.set m (fadd (gt K m) st)) H ∧ Mf w (v.own b) w' (v.own b)) := fun W hW =>
    (raise_any m _ W (h.below hW) h1 h2 ao3 ao2).mono fun e w' hh => ⟨hh.1, hh.2.1, (Mf.below hW).trans hh.2.2⟩
  by_cases ht : top < fadd (gt K m) st
  · have eK2 : bmpK K st m = (K.set m (fadd (gt K m) st)).map scl := by unfold bmpK; rw [if_pos ht]
    have eS2 : bmpS K st m = scl st := by unfold bmpS; rw [if_pos ht]
    rw [eK2, eS2]
    rw [decide_eq_true ht] at hgt
    generalize K.set m (fadd (gt K m) st) = K2 at *
    clear H1 h hz hb hl rK eK eK' ao1 ao2 ao3 eK2 eS2 ht
    generalize fadd (gt K m) st = x at *
    generalize gt K m = y at *
    generalize K.length = NK at *
    have hgt' : (FloatKind.f64.format.order x 6103021453049119613 == some .gt) = true := hgt
    clear hgt
    go_enter Try.func23, Try.ntmps23
    go_upto_region 3 with (go_at_call 35; refine H1'.out.mono ?_; rintro e w' ⟨rfl, hw'⟩; have hw'' := hw'.symm; clear hw'; subst hw'')
    go_quiet (fail)
    have hWd : Below w.heap.size w (w.drewN nq) := below_drewN _ _
    generalize w.drewN nq = w2 at *
    go_wp2_with (first | (go_at_call 40; refine (HR.out _ hWd).mono ?_; rintro e w5 ⟨rfl, h5⟩; have H5 : Hid _ := h5; clear h5) | (go_at_call 41; refine (scale_any w5 H5.out.1).mono ?_; rintro e w6 ⟨rfl, h6⟩; have H6 : Hid _ := h6; clear h6))
    go_ret
    exact ⟨rfl, H6.out.1, H5.out.2.trans H6.out.2⟩
  · have eK2 : bmpK K st m = K.set m (fadd (gt K m) st) := by unfold bmpK; rw [if_neg ht]
    have eS2 : bmpS K st m = st := by unfold bmpS; rw [if_neg ht]
    rw [eK2, eS2]
    rw [decide_eq_false ht] at hgt
    generalize K.set m (fadd (gt K m) st) = K2 at *
    clear H1 h hz hb hl rK eK eK' ao1 ao2 ao3 eK2 eS2 ht
    generalize fadd (gt K m) st = x at *
    generalize gt K m = y at *
    generalize K.length = NK at *
    have hgt' : (FloatKind.f64.format.order x 6103021453049119613 == some .gt) = false := hgt
    clear hgt
    go_enter Try.func23, Try.ntmps23
    go_upto_region 3 with (go_at_call 35; refine H1'.out.mono ?_; rintro e w' ⟨rfl, hw'⟩; have hw'' := hw'.symm; clear hw'; subst hw'')
    go_quiet (fail)
    have hWd : Below w.heap.size w (w.drewN nq) := below_drewN _ _
    generalize w.drewN nq = w2 at *
    go_wp2_with (go_at_call 40; refine (HR.out _ hWd).mono ?_; rintro e w5 ⟨rfl, h5⟩; have H5 : Hid _ := h5; clear h5)
    go_ret
    exact ⟨rfl, H5.out.1, H5.out.2⟩
/-- what a cooling makes of them -/
def colK (K : List Nat) (dec st : Nat) : List Nat := if top < fdiv st dec then K.map scl else K
def colS (dec st : Nat) : Nat := if top < fdiv st dec then scl (fdiv st dec) else fdiv st dec
theorem dec_ne {dec : Nat} (h1 : 4602678819172646912 ≤ dec) : mg dec ≠ 0 := by
  intro e
  have hv : val 4602678819172646912 ≤ val dec := val_le h1
  have h0 : 0 < val 4602678819172646912 := by decide +kernel
  unfold val at hv h0
  rw [e, Nat.zero_mul] at hv
  omega
set_option maxHeartbeats 1000000 in
theorem cool_any (w : World) (h : Ht B w b v n dec st K H) :
    Calls Try.prog 24 #[.pointer (some ⟨b, 0, none⟩)] w fun e w' => e = .returned (.tuple #[]) ∧ Ht B w' b v n dec (colS dec st) (colK K dec st) H ∧ Mf w (v.own b) w' (v.own b) := by
  obtain ⟨b0, b1, f1⟩ := h.cell
  have hdl : dec < infR := Nat.lt_of_le_of_lt h.d2 (by decide)
  obtain ⟨d1, d2⟩ := div_ok h.sl hdl (dec_ne h.d1)
  have hdiv : ∀ W, (binOp .quo 23 (.float .f64 st) (.float .f64 dec)).run Try.prog W = .ok (.float .f64 (fdiv st dec)) W := fun W => run_float_arith W .quo _ .f64 _ _ _ d1
  have hgt := ord_gtr d2 (Nat.le_of_lt top_lt)
  have HS : Hid (∀ W, Below w.heap.size w W → Ht B (W.setCell ⟨b, 1, none⟩ (.float .f64 (fdiv st dec))) b v n dec (fdiv st dec) K H ∧ Mf w (v.own b) (W.setCell ⟨b, 1, none⟩ (.float .f64 (fdiv st dec))) (v.own b)) := fun W hW => ⟨((h.below hW).stp d2).1, (Mf.below hW).trans ((h.below hW).stp d2).2⟩
  by_cases ht : top < fdiv st dec
  · have eK2 : colK K dec st = K.map scl := by unfold colK; rw [if_pos ht]
    have eS2 : colS dec st = scl (fdiv st dec) := by unfold colS; rw [if_pos ht]
    rw [eK2, eS2]
    rw [decide_eq_true ht] at hgt
    clear h d1 d2 eK2 eS2 ht hdl
    generalize fdiv st dec = x at *
    have hgt' : (FloatKind.f64.format.order x 6103021453049119613 == some .gt) = true := hgt
    clear hgt
    have HS2 : Hid (Ht B (w.setCell ⟨b, 1, none⟩ (.float .f64 x)).drew b v n dec x K H ∧ Mf w (v.own b) (w.setCell ⟨b, 1, none⟩ (.float .f64 x)).drew (v.own b)) := ⟨(HS.out w (Below.refl _ _)).1.below (Below.refl _ _).drew, (HS.out w (Below.refl _ _)).2.trans (Mf.below (Below.refl _ _).drew)⟩
    go_enter Try.func24, Try.ntmps24
    go_upto_region 0 with fail
    go_region_law (fail)
    all_goals
      clear b0 b1 f1
      generalize (w.setCell ⟨b, 1, none⟩ (.float .f64 x)).drew = w5 at *
      obtain ⟨_, c1, z1⟩ := HS2.out.1.cell
      go_wp2_with (go_at_call 41; refine (scale_any w5 HS2.out.1).mono ?_; rintro e w6 ⟨rfl, h6⟩; have H6 : Hid _ := h6; clear h6)
      go_end0
      exact ⟨rfl, H6.out.1, HS2.out.2.trans H6.out.2⟩
  · have eK2 : colK K dec st = K := by unfold colK; rw [if_neg ht]
    have eS2 : colS dec st = fdiv st dec := by unfold colS; rw [if_neg ht]
    rw [eK2, eS2]
    rw [decide_eq_false ht] at hgt
    clear h d1 d2 eK2 eS2 ht hdl
    generalize fdiv st dec = x at *
    have hgt' : (FloatKind.f64.format.order x 6103021453049119613 == some .gt) = false := hgt
    clear hgt
    have HS2 : Hid (Ht B (w.setCell ⟨b, 1, none⟩ (.float .f64 x)).drew b v n dec x K H ∧ Mf w (v.own b) (w.setCell ⟨b, 1, none⟩ (.float .f64 x)).drew (v.own b)) := ⟨(HS.out w (Below.refl _ _)).1.below (Below.refl _ _).drew, (HS.out w (Below.refl _ _)).2.trans (Mf.below (Below.refl _ _).drew)⟩
    go_enter Try.func24, Try.ntmps24
    go_upto_region 0 with fail
    go_region_law (fail)
    all_goals
      clear b0 b1 f1
      generalize (w.setCell ⟨b, 1, none⟩ (.float .f64 x)).drew = w5 at *
      obtain ⟨_, c1, z1⟩ := HS2.out.1.cell
      go_wp2
      go_end0
      exact ⟨rfl, HS2.out.1, HS2.out.2⟩
end
end Go.Proofs.Ytbfjhgiifmhccaa

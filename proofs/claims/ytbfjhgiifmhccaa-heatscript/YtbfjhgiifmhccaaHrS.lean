/-
  heat: the document's scale, Bump, Cool.
  KEEP: set on app at below new trans refl start kept mono lt add none own nil put len pos other cell ty blt fz box k p r pr a0 a1 a2 c0 c1 c2 hb setK setP setR unique grown step fin bij up q1 q2 pl held mk v1 v2 t1 t2 hs few cut root z kl nl sl d1 d2 row down has holds stp bel heat cells sc wi mem srt inn inj out lays ap kind rd rds bump cool weak types foreign rows cong form heat nodup s w
-/
import Derived.Test.YtbfjhgiifmhccaaHrM
set_option linter.unusedSimpArgs false
set_option linter.unusedVariables false
namespace Go.Proofs.Ytbfjhgiifmhccaa
open Go Go.RowKit
attribute [local go_sem] run_store_float

section
variable {B b n dec st : Nat} {s : Rv} {K : List Nat} {H : Nat → Bool} {W W' : World}
def RzS (B b : Nat) (s : Rv) (n dec st : Nat) (K : List Nat) (H : Nat → Bool) (w wx : World) : Prop := Rz B wx b s n dec st K H ∧ Mf w (s.own b) wx (s.own b)
theorem mks_one (K : List Nat) : (mks K 1).drop 1 = K.drop 1 := by
  cases K with
  | nil => rfl
  | cons a t => simp [mks]
theorem Rz.one (h : Rz B W b s n dec st K H) : Rz B W b s n dec st (mks K 1) H :=
  ⟨h.box, h.hb, by rw [mks_one]; exact h.sc, h.wi, by rw [mks_len]; exact h.kl, h.nl, fin_mks h.fin 1, h.sl, h.d1, h.d2⟩
set_option maxHeartbeats 2000000 in
theorem rscale_any (w : World) (h : Rz B w b s n dec st K H) :
    Calls Try.prog 44 #[.pointer (some ⟨b, 0, none⟩)] w fun e w' => e = .returned (.tuple #[]) ∧ RzS B b s n dec (scl st) (K.map scl) H w w' := by
  have HZ0 : Hid (RzS B b s n dec st (mks K 1) H w w) := ⟨h.one, Mf.refl _ _⟩
  have hn := h.nl
  have HKL : Hid (K.length = n + 1) := h.kl
  have HF : Hid (Fin K) := h.fin
  have HSL : Hid (st ≤ infR) := h.sl
  have hsr := fun W => scl_run h.sl 23 W
  clear h
  go_enter Try.func44, Try.ntmps44
  go_wp2
  go_loopg [2] n (fun g x wx => ∃ k : Nat, k + g = n ∧ x = .int .i64 (k : Int) ∧ Hid (RzS B b s n dec st (mks K (k + 1)) H w wx))
  case atStart => exact ⟨0, by omega, rfl, HZ0⟩
  case round =>
    obtain ⟨k, hk, rfl, H1⟩ := hrel
    clear HZ0
    by_cases hlt : k < n
    · have hz := H1.out.1
      obtain ⟨g, c, e, k1, k2, k3⟩ := row_some hz.sc (by omega)
      obtain ⟨c0, _, _, _, _⟩ := hz.cells
      have hs := hz.sc
      rw [e] at c0 hs
      have hkl : k + 1 < (mks K (k + 1)).length := by rw [mks_len, HKL.out]; omega
      have xk := row_cell hs (drop_at (v := k + 1) (by omega) hkl)
      rw [mks_at (by rw [HKL.out]; omega), Nat.add_sub_cancel] at xk
      have zk := row_fz hs k
      have hle := HF.out (k + 1)
      have hmr := fun W => scl_run hle 23 W
      have HS3 : Hid (RzS B b s n dec st (mks K (k + 1 + 1)) H w (wr.setCell ⟨g, k, none⟩ (.float .f64 (scl (gt K (k + 1))))).drew) := by
        obtain ⟨q, m⟩ := hz.setS e (v := k + 1) (by omega) (by omega) (scl_le hle)
        rw [mks_set (by rw [HKL.out]; omega), Nat.add_sub_cancel] at q
        rw [Nat.add_sub_cancel] at m
        exact ⟨q.below (Below.refl _ _).drew, (H1.out.2.trans m).trans (Mf.below (Below.refl _ _).drew)⟩
      clear hz hs hkl hle e H1 hsr
      generalize hy : scl (gt K (k + 1)) = y at *
      generalize hx : gt K (k + 1) = x at *
      clear hx hy
      have hnk2 : n - (k + 1) < gk := by omega
      have HKN : Hid (k + 1 + (n - (k + 1)) = n) := by show _ = _; omega
      go_upto_region 3 with fail
      go_region_law (fail)
      all_goals
        go_wp2
        go_roundg (n - (k + 1))
        case rel => exact ⟨k + 1, HKN.out, by simp, HS3⟩
        case measure => exact hnk2
    · have hke : k = n := by omega
      have HZ1 : Hid (RzS B b s n dec st (K.map scl) H w wr) := by have := H1.out; rw [hke, ← HKL.out, mks_all] at this; exact this
      clear H1
      subst hke
      obtain ⟨a, c, e⟩ := row_form' HZ1.out.1.sc
      obtain ⟨c0, _, c2, _, fz⟩ := HZ1.out.1.cells
      rw [e] at c0
      have f2 := fz 2
      have HS : Hid (RzS B b s k dec (scl st) (K.map scl) H w (wr.setCell ⟨b, 2, none⟩ (.float .f64 (scl st)))) := ⟨(HZ1.out.1.setT (scl_le HSL.out)).1, HZ1.out.2.trans (HZ1.out.1.setT (scl_le HSL.out)).2⟩
      clear fz e
      generalize hy : scl st = y at *
      have HY : Hid (scl st = y) := hy
      clear hy
      go_wp2
      go_end0
      refine ⟨rfl, ?_⟩
      rw [HY.out]
      exact HS.out
theorem rbump_no (x : Int) (w : World) (h : Rz B w b s n dec st K H) (hx : ¬ (1 ≤ x ∧ x ≤ n)) :
    Calls Try.prog 28 #[.pointer (some ⟨b, 0, none⟩), .int .i64 x] w fun e w' => e = .returned (.int .i64 2) ∧ w' = w := by
  obtain ⟨c0, _, _, _, _⟩ := h.cells
  obtain ⟨a, c, e⟩ := row_form' h.sc
  rw [e] at c0
  have hn := h.nl
  clear h e
  by_cases h1 : x < 1
  · clear hx
    go_enter Try.func28, Try.ntmps28
    go_wp2
    go_ret
    exact ⟨rfl, rfl⟩
  · have h2 : (n : Int) < x := by omega
    clear hx
    go_enter Try.func28, Try.ntmps28
    go_wp2
    go_ret
    exact ⟨rfl, rfl⟩
set_option maxHeartbeats 2000000 in
theorem rbump_yes (m : Nat) (w : World) (h : Rz B w b s n dec st K H) (h1 : 1 ≤ m) (h2 : m ≤ n) :
    Calls Try.prog 28 #[.pointer (some ⟨b, 0, none⟩), .int .i64 (m : Int)] w fun e w' => e = .returned (.int .i64 0) ∧ RzS B b s n dec (bmpS K st m) (bmpK K st m) H w w' := by
  obtain ⟨c0, _, c2, _, _⟩ := h.cells
  obtain ⟨g, c, e, k1, k2, k3⟩ := row_some h.sc (by omega)
  have hs := h.sc
  rw [e] at c0 hs
  have xk := row_cell hs (drop_at h1 (by rw [h.kl]; omega))
  have zk := row_fz hs (m - 1)
  have hn := h.nl
  obtain ⟨ao1, ao2, ao3⟩ := add_ok (h.fin m) h.sl
  have hadd : ∀ W, (binOp .add 23 (.float .f64 (gt K m)) (.float .f64 st)).run Try.prog W = .ok (.float .f64 (fadd (gt K m) st)) W := fun W => run_float_arith W .add _ .f64 _ _ _ ao1
  have hgt := ord_gtr ao2 (Nat.le_of_lt top_lt)
  have HS3 : Hid (RzS B b s n dec st (K.set m (fadd (gt K m) st)) H w (w.setCell ⟨g, m - 1, none⟩ (.float .f64 (fadd (gt K m) st))).drew) := by
    obtain ⟨q, mm⟩ := h.setS e h1 h2 ao2
    exact ⟨q.below (Below.refl _ _).drew, mm.trans (Mf.below (Below.refl _ _).drew)⟩
  have HG : Hid (gt (K.set m (fadd (gt K m) st)) m = fadd (gt K m) st) := by show _ = _; rw [gt_set (by rw [h.kl]; omega), if_pos rfl]
  have HE : Hid (s.S = .slice (some ⟨g, 0, none⟩) n c) := e
  have HM1 : Hid (1 ≤ m) := h1
  have HM2 : Hid (m ≤ n) := h2
  obtain ⟨m1, rfl⟩ : ∃ m1, m = m1 + 1 := ⟨m - 1, by omega⟩
  rw [Nat.add_sub_cancel] at xk zk HS3
  have hm1 : ((m1 + 1 : Nat) : Int) - 1 = (m1 : Int) := by omega
  have hml : m1 < n := by omega
  have hwr : IntKind.i64.wrap (m1 : Int) = (m1 : Int) := by rw [IntKind.wrap_i64]; omega
  by_cases ht : top < fadd (gt K (m1 + 1)) st
  · have eK2 : bmpK K st (m1 + 1) = (K.set (m1 + 1) (fadd (gt K (m1 + 1)) st)).map scl := by unfold bmpK; rw [if_pos ht]
    have eS2 : bmpS K st (m1 + 1) = scl st := by unfold bmpS; rw [if_pos ht]
    rw [eK2, eS2]
    rw [decide_eq_true ht] at hgt
    generalize K.set (m1 + 1) (fadd (gt K (m1 + 1)) st) = K2 at *
    clear h hs e ao1 ao2 ao3 eK2 eS2 ht
    generalize fadd (gt K (m1 + 1)) st = x at *
    generalize gt K (m1 + 1) = y at *
    have hgt' : (FloatKind.f64.format.order x 6103021453049119613 == some .gt) = true := hgt
    clear hgt
    go_enter Try.func28, Try.ntmps28
    go_upto_region 3 with fail
    go_region_law (fail)
    all_goals
      clear c0 c2 xk zk
      generalize (w.setCell ⟨g, m1, none⟩ (.float .f64 x)).drew = w5 at *
      obtain ⟨c0, _, c2, _, _⟩ := HS3.out.1.cells
      have hs := HS3.out.1.sc
      rw [HE.out] at c0 hs
      have xk := row_cell hs (drop_at HM1.out (by rw [HS3.out.1.kl]; have := HM2.out; omega))
      rw [HG.out, Nat.add_sub_cancel] at xk
      clear hs
      go_wp2_with (go_at_call 44; refine (rscale_any w5 HS3.out.1).mono ?_; rintro e w6 ⟨rfl, h6⟩; have H6 : Hid _ := h6; clear h6)
      go_ret
      exact ⟨rfl, H6.out.1, HS3.out.2.trans H6.out.2⟩
  · have eK2 : bmpK K st (m1 + 1) = K.set (m1 + 1) (fadd (gt K (m1 + 1)) st) := by unfold bmpK; rw [if_neg ht]
    have eS2 : bmpS K st (m1 + 1) = st := by unfold bmpS; rw [if_neg ht]
    rw [eK2, eS2]
    rw [decide_eq_false ht] at hgt
    generalize K.set (m1 + 1) (fadd (gt K (m1 + 1)) st) = K2 at *
    clear h hs e ao1 ao2 ao3 eK2 eS2 ht
    generalize fadd (gt K (m1 + 1)) st = x at *
    generalize gt K (m1 + 1) = y at *
    have hgt' : (FloatKind.f64.format.order x 6103021453049119613 == some .gt) = false := hgt
    clear hgt
    go_enter Try.func28, Try.ntmps28
    go_upto_region 3 with fail
    go_region_law (fail)
    all_goals
      clear c0 c2 xk zk
      generalize (w.setCell ⟨g, m1, none⟩ (.float .f64 x)).drew = w5 at *
      obtain ⟨c0, _, c2, _, _⟩ := HS3.out.1.cells
      have hs := HS3.out.1.sc
      rw [HE.out] at c0 hs
      have xk := row_cell hs (drop_at HM1.out (by rw [HS3.out.1.kl]; have := HM2.out; omega))
      rw [HG.out, Nat.add_sub_cancel] at xk
      clear hs
      go_wp2
      go_ret
      exact ⟨rfl, HS3.out⟩
set_option maxHeartbeats 1000000 in
theorem rcool_any (w : World) (h : Rz B w b s n dec st K H) :
    Calls Try.prog 29 #[.pointer (some ⟨b, 0, none⟩)] w fun e w' => e = .returned (.tuple #[]) ∧ RzS B b s n dec (colS dec st) (colK K dec st) H w w' := by
  obtain ⟨_, _, c2, c3, fz⟩ := h.cells
  have f2 := fz 2
  have hdl : dec < infR := Nat.lt_of_le_of_lt h.d2 (by decide)
  obtain ⟨d1, d2⟩ := div_ok h.sl hdl (dec_ne h.d1)
  have hdiv : ∀ W, (binOp .quo 23 (.float .f64 st) (.float .f64 dec)).run Try.prog W = .ok (.float .f64 (fdiv st dec)) W := fun W => run_float_arith W .quo _ .f64 _ _ _ d1
  have hgt := ord_gtr d2 (Nat.le_of_lt top_lt)
  have HS2 : Hid (RzS B b s n dec (fdiv st dec) K H w (w.setCell ⟨b, 2, none⟩ (.float .f64 (fdiv st dec))).drew) := ⟨(h.setT d2).1.below (Below.refl _ _).drew, (h.setT d2).2.trans (Mf.below (Below.refl _ _).drew)⟩
  by_cases ht : top < fdiv st dec
  · have eK2 : colK K dec st = K.map scl := by unfold colK; rw [if_pos ht]
    have eS2 : colS dec st = scl (fdiv st dec) := by unfold colS; rw [if_pos ht]
    rw [eK2, eS2]
    rw [decide_eq_true ht] at hgt
    clear h d1 d2 eK2 eS2 ht hdl fz
    generalize fdiv st dec = x at *
    have hgt' : (FloatKind.f64.format.order x 6103021453049119613 == some .gt) = true := hgt
    clear hgt
    go_enter Try.func29, Try.ntmps29
    go_upto_region 0 with fail
    go_region_law (fail)
    all_goals
      clear c2 c3 f2
      generalize (w.setCell ⟨b, 2, none⟩ (.float .f64 x)).drew = w5 at *
      obtain ⟨_, _, c2, _, _⟩ := HS2.out.1.cells
      go_wp2_with (go_at_call 44; refine (rscale_any w5 HS2.out.1).mono ?_; rintro e w6 ⟨rfl, h6⟩; have H6 : Hid _ := h6; clear h6)
      go_end0
      exact ⟨rfl, H6.out.1, HS2.out.2.trans H6.out.2⟩
  · have eK2 : colK K dec st = K := by unfold colK; rw [if_neg ht]
    have eS2 : colS dec st = fdiv st dec := by unfold colS; rw [if_neg ht]
    rw [eK2, eS2]
    rw [decide_eq_false ht] at hgt
    clear h d1 d2 eK2 eS2 ht hdl fz
    generalize fdiv st dec = x at *
    have hgt' : (FloatKind.f64.format.order x 6103021453049119613 == some .gt) = false := hgt
    clear hgt
    go_enter Try.func29, Try.ntmps29
    go_upto_region 0 with fail
    go_region_law (fail)
    all_goals
      clear c2 c3 f2
      generalize (w.setCell ⟨b, 2, none⟩ (.float .f64 x)).drew = w5 at *
      obtain ⟨_, _, c2, _, _⟩ := HS2.out.1.cells
      go_wp2
      go_end0
      exact ⟨rfl, HS2.out⟩
end
end Go.Proofs.Ytbfjhgiifmhccaa

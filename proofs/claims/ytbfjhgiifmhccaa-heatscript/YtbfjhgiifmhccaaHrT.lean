/-
  heat: the document's warmest, Take.
  KEEP: set on app at below new trans refl start kept mono lt add none own nil put len pos other cell ty blt fz box k p r pr a0 a1 a2 c0 c1 c2 hb setK setP setR unique grown step fin bij up q1 q2 pl held mk v1 v2 t1 t2 hs few cut root z kl nl sl d1 d2 row down has holds stp bel heat cells sc wi mem srt inn inj out lays ap kind rd rds bump cool weak types foreign rows cong form heat nodup s w
-/
import Derived.Test.YtbfjhgiifmhccaaHrS
set_option linter.unusedSimpArgs false
set_option linter.unusedVariables false
namespace Go.Proofs.Ytbfjhgiifmhccaa
open Go Go.RowKit
attribute [local go_sem] run_store_float

/-- the warmest of the first so many that are marked; 0: none is -/
def WB (κ : Nat → Nat) (M : Nat → Bool) (k t : Nat) : Prop :=
  (t = 0 ∧ ∀ u, 1 ≤ u → u ≤ k → M u = false) ∨ (1 ≤ t ∧ t ≤ k ∧ M t = true ∧ ∀ u, 1 ≤ u → u ≤ k → M u = true → ahd κ u t = false)
theorem WB.start (κ : Nat → Nat) (M : Nat → Bool) : WB κ M 0 0 := .inl ⟨rfl, fun u h1 h2 => by omega⟩
theorem WB.le {κ : Nat → Nat} {M : Nat → Bool} {k t : Nat} (h : WB κ M k t) : t ≤ k := by rcases h with ⟨h, _⟩ | ⟨_, h, _⟩ <;> omega
theorem WB.skip {κ : Nat → Nat} {M : Nat → Bool} {k t : Nat} (h : WB κ M k t) (hm : M (k + 1) = false) : WB κ M (k + 1) t := by
  rcases h with ⟨h, h'⟩ | ⟨h1, h2, h3, h4⟩
  · refine .inl ⟨h, fun u h1 h2 => ?_⟩
    by_cases e : u = k + 1
    · rw [e]; exact hm
    · exact h' u h1 (by omega)
  · refine .inr ⟨h1, by omega, h3, fun u u1 u2 u3 => ?_⟩
    by_cases e : u = k + 1
    · rw [e, hm] at u3; cases u3
    · exact h4 u u1 (by omega) u3
theorem WB.first {κ : Nat → Nat} {M : Nat → Bool} {k : Nat} (h : WB κ M k 0) (hm : M (k + 1) = true) : WB κ M (k + 1) (k + 1) := by
  rcases h with ⟨_, h'⟩ | ⟨h1, _⟩
  · refine .inr ⟨by omega, by omega, hm, fun u u1 u2 u3 => ?_⟩
    by_cases e : u = k + 1
    · rw [e]; exact ahd_irr _ _
    · rw [h' u u1 (by omega)] at u3; cases u3
  · omega
theorem WB.more {κ : Nat → Nat} {M : Nat → Bool} {k t : Nat} (h : WB κ M k t) (ht : 1 ≤ t) (hm : M (k + 1) = true) (hg : κ t < κ (k + 1)) : WB κ M (k + 1) (k + 1) := by
  rcases h with ⟨h0, h'⟩ | ⟨h1, h2, h3, h4⟩
  · omega
  · refine .inr ⟨by omega, by omega, hm, fun u u1 u2 u3 => ?_⟩
    by_cases e : u = k + 1
    · rw [e]; exact ahd_irr _ _
    · have := h4 u u1 (by omega) u3
      simp [ahd] at *
      omega
theorem WB.keep {κ : Nat → Nat} {M : Nat → Bool} {k t : Nat} (h : WB κ M k t) (ht : 1 ≤ t) (hm : M (k + 1) = true) (hg : ¬ κ t < κ (k + 1)) : WB κ M (k + 1) t := by
  rcases h with ⟨h0, h'⟩ | ⟨h1, h2, h3, h4⟩
  · omega
  · refine .inr ⟨h1, by omega, h3, fun u u1 u2 u3 => ?_⟩
    by_cases e : u = k + 1
    · subst e; simp [ahd]; omega
    · exact h4 u u1 (by omega) u3
section
variable {B b n dec st : Nat} {s : Rv} {K : List Nat} {H M : Nat → Bool} {W W' : World}
set_option maxHeartbeats 2000000 in
theorem rwarm_any (B' : Nat) (u : Value) (w : World) (h : Rz B w b s n dec st K H) (hm : w.ownsRow B' 4 1 u n (hrow n M)) :
    Calls Try.prog 45 #[.pointer (some ⟨b, 0, none⟩), u] w fun e w' => ∃ t : Nat, e = .returned (.int .i64 (t : Int)) ∧ WB (gt K) M n t ∧ Below w.heap.size w w' := by
  have hn := h.nl
  have HH : Hid (Rz B w b s n dec st K H) := h
  have HU : Hid (w.ownsRow B' 4 1 u n (hrow n M)) := hm
  obtain ⟨au, cu, eu⟩ := row_form' hm
  obtain ⟨a, c, e⟩ := row_form' h.sc
  have HE : Hid (s.S = .slice a n c) := e
  subst eu
  clear h hm e
  go_enter Try.func45, Try.ntmps45
  go_wp2
  go_loopg [5, 6] n (fun g x y wx => ∃ k t : Nat, k + g = n ∧ x = .int .i64 (t : Int) ∧ y = .int .i64 ((k + 1 : Nat) : Int) ∧ Hid (WB (gt K) M k t) ∧ Hid (Below w.heap.size w wx))
  case atStart => exact ⟨0, 0, by omega, rfl, rfl, WB.start _ _, Below.refl _ _⟩
  case round =>
    obtain ⟨k, t, hk, rfl, rfl, HB, HW⟩ := hrel
    have HH1 : Hid (Rz B wr b s n dec st K H) := HH.out.below HW.out
    have c0 := HH1.out.cells.1
    rw [HE.out] at c0
    by_cases hlt : k < n
    · have hm1 : ((k + 1 : Nat) : Int) - 1 = (k : Int) := by omega
      have hwr : IntKind.i64.wrap (k : Int) = (k : Int) := by rw [IntKind.wrap_i64]; omega
      have hnk2 : n - (k + 1) < gk := by omega
      have HKN : Hid (k + 1 + (n - (k + 1)) = n) := by show _ = _; omega
      have HU1 : wr.ownsRow B' 4 1 (.slice au n cu) n (hrow n M) := row_kept HU.out fun j ej => HW.out.block j (HU.out.lt j ej.symm).2
      obtain ⟨gu, cu', eu, k1, k2, k3⟩ := row_some HU1 (by omega)
      cases eu
      have xm := row_cell HU1 (hrow_at (i := k) hlt)
      obtain ⟨gs, cs, es, j1, j2, j3⟩ := row_some HH1.out.sc (by omega)
      rw [HE.out] at es
      cases es
      have hs := HH1.out.sc
      rw [HE.out] at hs
      have xk := row_cell hs (drop_at (v := k + 1) (by omega) (by rw [HH1.out.kl]; omega))
      rw [Nat.add_sub_cancel] at xk
      have HF : Hid (Fin K) := HH1.out.fin
      clear hs HU1
      have htk := HB.out.le
      cases hM : M (k + 1) with
      | false =>
        rw [hM] at xm
        have HB2 : Hid (WB (gt K) M (k + 1) t) := HB.out.skip hM
        clear hM HB xk
        go_upto_region 5 with fail
        go_quiet (fail)
        have HW2 : Hid (Below w.heap.size w (wr.drewN nq)) := HW.out.trans ((below_drewN _ _).mono HW.out.size)
        generalize wr.drewN nq = w2 at *
        go_wp2
        go_roundg (n - (k + 1))
        case rel => exact ⟨k + 1, t, HKN.out, rfl, by simp, HB2, HW2⟩
        case measure => exact hnk2
      | true =>
        rw [hM] at xm
        cases t with
        | zero =>
          have HB2 : Hid (WB (gt K) M (k + 1) (k + 1)) := HB.out.first hM
          clear hM HB xk
          go_upto_region 5 with fail
          go_quiet (fail)
          have HW2 : Hid (Below w.heap.size w (wr.drewN nq)) := HW.out.trans ((below_drewN _ _).mono HW.out.size)
          generalize wr.drewN nq = w2 at *
          go_wp2
          go_roundg (n - (k + 1))
          case rel => exact ⟨k + 1, k + 1, HKN.out, by simp, by simp, HB2, HW2⟩
          case measure => exact hnk2
        | succ t1 =>
          have xt := row_cell (xs := f64s (K.drop 1)) (by have hs := HH1.out.sc; rw [HE.out] at hs; exact hs) (drop_at (v := t1 + 1) (by omega) (by rw [HH1.out.kl]; omega))
          rw [Nat.add_sub_cancel] at xt
          have ht1 : ((t1 + 1 : Nat) : Int) - 1 = (t1 : Int) := by omega
          have hwt : IntKind.i64.wrap (t1 : Int) = (t1 : Int) := by rw [IntKind.wrap_i64]; omega
          have htl : t1 < n := by omega
          have hgt := ord_gtr (HF.out (k + 1)) (HF.out (t1 + 1))
          by_cases hc : gt K (t1 + 1) < gt K (k + 1)
          · have HB2 : Hid (WB (gt K) M (k + 1) (k + 1)) := HB.out.more (by omega) hM hc
            rw [decide_eq_true hc] at hgt
            clear hM HB hc
            generalize gt K (k + 1) = x at *
            generalize gt K (t1 + 1) = y at *
            go_upto_region 5 with fail
            go_quiet (fail)
            have HW2 : Hid (Below w.heap.size w (wr.drewN nq)) := HW.out.trans ((below_drewN _ _).mono HW.out.size)
            generalize wr.drewN nq = w2 at *
            go_wp2
            go_roundg (n - (k + 1))
            case rel => exact ⟨k + 1, k + 1, HKN.out, by simp, by simp, HB2, HW2⟩
            case measure => exact hnk2
          · have HB2 : Hid (WB (gt K) M (k + 1) (t1 + 1)) := HB.out.keep (by omega) hM hc
            rw [decide_eq_false hc] at hgt
            clear hM HB hc
            generalize gt K (k + 1) = x at *
            generalize gt K (t1 + 1) = y at *
            go_upto_region 5 with fail
            go_quiet (fail)
            have HW2 : Hid (Below w.heap.size w (wr.drewN nq)) := HW.out.trans ((below_drewN _ _).mono HW.out.size)
            generalize wr.drewN nq = w2 at *
            go_wp2
            go_roundg (n - (k + 1))
            case rel => exact ⟨k + 1, t1 + 1, HKN.out, by simp, by simp, HB2, HW2⟩
            case measure => exact hnk2
    · have hke : k = n := by omega
      have HB2 : Hid (WB (gt K) M n t) := by rw [← hke]; exact HB
      clear HB
      subst hke
      go_wp2
      go_ret
      exact ⟨t, rfl, HB2.out, HW.out⟩
theorem WB.none' {κ : Nat → Nat} {k t : Nat} (h : WB κ M k t) (hn : ∀ u, 1 ≤ u → u ≤ k → M u = false) : t = 0 := by
  rcases h with ⟨h, _⟩ | ⟨h1, h2, h3, _⟩
  · exact h
  · rw [hn t h1 h2] at h3; cases h3
theorem WB.one' {κ : Nat → Nat} {k t t' : Nat} (h : WB κ M k t) (h1 : 1 ≤ t') (h2 : t' ≤ k) (ht : M t' = true) (hm : ∀ u, 1 ≤ u → u ≤ k → M u = true → ahd κ u t' = false) : t = t' := by
  rcases h with ⟨_, h⟩ | ⟨g1, g2, g3, g4⟩
  · rw [h t' h1 h2] at ht; cases ht
  · exact ahd_total (hm t g1 g2 g3) (g4 t' h1 h2 ht)
theorem rtake_no (w : World) (h : Rz B w b s n dec st K H) (hn : ∀ u, 1 ≤ u → u ≤ n → H u = false) :
    Calls Try.prog 30 #[.pointer (some ⟨b, 0, none⟩)] w fun e w' => e = .returned (.tuple #[.int .i64 0, .bool false]) ∧ Below w.heap.size w w' := by
  have H1 : Hid (Calls Try.prog 45 #[.pointer (some ⟨b, 0, none⟩), s.W] w fun e w' => e = .returned (.int .i64 0) ∧ Below w.heap.size w w') := (rwarm_any _ _ w h h.wi).mono fun e w' ⟨t, h1, h2, h3⟩ => ⟨by rw [h1, h2.none' hn]; rfl, h3⟩
  obtain ⟨_, c1, _, _, _⟩ := h.cells
  clear h hn
  generalize s.W = u at *
  go_enter Try.func30, Try.ntmps30
  go_wp2_with (go_at_call 45; refine H1.out.mono ?_; rintro e w' ⟨rfl, hl⟩; have HL : Hid _ := hl; clear hl)
  go_returns
  exact ⟨rfl, HL.out⟩
theorem rtake_yes (t : Nat) (w : World) (h : Rz B w b s n dec st K H) (h1 : 1 ≤ t) (h2 : t ≤ n) (ht : H t = true) (hm : ∀ u, 1 ≤ u → u ≤ n → H u = true → ahd (gt K) u t = false) :
    Calls Try.prog 30 #[.pointer (some ⟨b, 0, none⟩)] w fun e w' => e = .returned (.tuple #[.int .i64 (t : Int), .bool true]) ∧ RzS B b s n dec st K (fun u => if u = t then false else H u) w w' := by
  have H1 : Hid (Calls Try.prog 45 #[.pointer (some ⟨b, 0, none⟩), s.W] w fun e w' => e = .returned (.int .i64 (t : Int)) ∧ Below w.heap.size w w') := (rwarm_any _ _ w h h.wi).mono fun e w' ⟨t', e1, e2, e3⟩ => ⟨by rw [e1, e2.one' h1 h2 ht hm], e3⟩
  obtain ⟨_, c1, _, _, _⟩ := h.cells
  obtain ⟨g, c, e, k1, k2, k3⟩ := row_some h.wi (by omega)
  have HE : Hid (s.W = .slice (some ⟨g, 0, none⟩) n c) := e
  have HH : Hid (Rz B w b s n dec st K H) := h
  have hn := h.nl
  rw [e] at c1 H1
  clear h hm ht e
  obtain ⟨m1, rfl⟩ : ∃ m1, t = m1 + 1 := ⟨t - 1, by omega⟩
  have hml : m1 < n := by omega
  have hm1 : ((m1 + 1 : Nat) : Int) - 1 = (m1 : Int) := by omega
  go_enter Try.func30, Try.ntmps30
  go_wp2_with (go_at_call 45; refine H1.out.mono ?_; rintro e w' ⟨rfl, hl⟩; have HL : Hid _ := hl; clear hl; have H5 : Hid (Rz B w' b s n dec st K H) := HH.out.below HL.out; clear c1; have c1 := H5.out.cells.2.1; rw [HE.out] at c1; have qw := H5.out.wi; rw [HE.out] at qw; have zk := row_fz qw m1; have xk := row_cell qw (hrow_at hml); clear qw)
  go_returns
  refine ⟨rfl, ?_⟩
  have := H5.out.setW HE.out (v := m1 + 1) (by omega) (by omega) false
  rw [Nat.add_sub_cancel] at this
  exact ⟨this.1, (Mf.below HL.out).trans this.2⟩
end
end Go.Proofs.Ytbfjhgiifmhccaa

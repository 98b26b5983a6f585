/-
  The statement's step, walked.
  KEEP: putObj alloc same block size os tape output mono lt own new keep conf rest clr below grown step no yes done
-/
import Derived.Test.YthcbpdnaocpleaaPcZ
import Derived.Deep.CutRange
import Derived.Deep.Cut
set_option linter.unusedSimpArgs false
set_option linter.unusedVariables false
namespace Go.Proofs.Ythcbpdnaocpleaa
open Go Go.RowKit

set_option maxHeartbeats 6400000 in
theorem step_any (W : World) (C s r : Nat) (b f g : Int) (d : Nat) (p u : Int) (x : Ps) (k : Int) (h : Tw W C s r b f g d p u x) (hk : x.k + 3000 ≤ 1152921504606846976) :
    Calls Try.prog 17 #[.agg #[.func (.func 22) #[] #[.pointer (some ⟨s, 0, none⟩)], .func (.func 21) #[] #[.pointer (some ⟨s, 0, none⟩), .pointer (some ⟨s + 3, 0, none⟩), .pointer (some ⟨s + 1, 0, none⟩), .pointer (some ⟨s + 2, 0, none⟩)], .func (.func 21) #[] #[.pointer (some ⟨s, 0, none⟩), .pointer (some ⟨s + 6, 0, none⟩), .pointer (some ⟨s + 4, 0, none⟩), .pointer (some ⟨s + 5, 0, none⟩)]], .pointer (some ⟨r, 0, none⟩), .int .i64 k] W fun e w' => e = .returned (.bool true) ∧ TwS W C s r b f g d p u (x.k + 3000) w' := by
  have hk0 : 0 ≤ x.k := by have := h.pn.l1; have := h.pn.l1k; omega
  have HB : Hid (Below W.heap.size W (W.alloc (.cells #[.func (.func 22) #[] #[.pointer (some ⟨s, 0, none⟩)], .func (.func 21) #[] #[.pointer (some ⟨s, 0, none⟩), .pointer (some ⟨s + 3, 0, none⟩), .pointer (some ⟨s + 1, 0, none⟩), .pointer (some ⟨s + 2, 0, none⟩)], .func (.func 21) #[] #[.pointer (some ⟨s, 0, none⟩), .pointer (some ⟨s + 6, 0, none⟩), .pointer (some ⟨s + 4, 0, none⟩), .pointer (some ⟨s + 5, 0, none⟩)]] 27))) := below_new _ _
  have HT : Hid (Tw (W.alloc (.cells #[.func (.func 22) #[] #[.pointer (some ⟨s, 0, none⟩)], .func (.func 21) #[] #[.pointer (some ⟨s, 0, none⟩), .pointer (some ⟨s + 3, 0, none⟩), .pointer (some ⟨s + 1, 0, none⟩), .pointer (some ⟨s + 2, 0, none⟩)], .func (.func 21) #[] #[.pointer (some ⟨s, 0, none⟩), .pointer (some ⟨s + 6, 0, none⟩), .pointer (some ⟨s + 4, 0, none⟩), .pointer (some ⟨s + 5, 0, none⟩)]] 27)) C s r b f g d p u x) := h.below (below_new _ _)
  have HR : Hid (Rb (W.alloc (.cells #[.func (.func 22) #[] #[.pointer (some ⟨s, 0, none⟩)], .func (.func 21) #[] #[.pointer (some ⟨s, 0, none⟩), .pointer (some ⟨s + 3, 0, none⟩), .pointer (some ⟨s + 1, 0, none⟩), .pointer (some ⟨s + 2, 0, none⟩)], .func (.func 21) #[] #[.pointer (some ⟨s, 0, none⟩), .pointer (some ⟨s + 6, 0, none⟩), .pointer (some ⟨s + 4, 0, none⟩), .pointer (some ⟨s + 5, 0, none⟩)]] 27)) W.heap.size (fConf s) (fRest s) (fClr s)) := Rb.new _ _ _ _
  have hWr := h.rz.lt
  have hWs := h.pz.size
  have hap := h.ap
  clear h
  by_cases hneg : k < 0
  · go_enter Try.func17, Try.ntmps17
    go_wp2
    go_ret
    exact ⟨rfl, x, HT.out, by omega, Mt.below HB.out⟩
  by_cases hbig : 30 ≤ k
  · obtain ⟨K3, hK3⟩ : ∃ K3, K3 = x.k + 3000 := ⟨_, rfl⟩
    rw [← hK3] at hk ⊢
    have HK3 : Hid (K3 = x.k + 3000) := hK3
    have hx3 : x.k + 3000 ≤ 1152921504606846976 := by omega
    clear hK3
    by_cases hvb : 3000 < k
    · go_enter Try.func17, Try.ntmps17
      go_wp2
      obtain ⟨M3, hM3⟩ : ∃ M3 : Nat, M3 = 3000 := ⟨_, rfl⟩
      rw [show (3000 : Int) = (M3 : Int) by omega]
      have hM3l : M3 ≤ 3000 := by omega
      clear hM3 hvb hbig hneg
      generalize W.alloc (.cells #[.func (.func 22) #[] #[.pointer (some ⟨s, 0, none⟩)], .func (.func 21) #[] #[.pointer (some ⟨s, 0, none⟩), .pointer (some ⟨s + 3, 0, none⟩), .pointer (some ⟨s + 1, 0, none⟩), .pointer (some ⟨s + 2, 0, none⟩)], .func (.func 21) #[] #[.pointer (some ⟨s, 0, none⟩), .pointer (some ⟨s + 6, 0, none⟩), .pointer (some ⟨s + 4, 0, none⟩), .pointer (some ⟨s + 5, 0, none⟩)]] 27) = W1 at *
      go_loopg [7] M3 (fun gk c wr => ∃ (j : Nat) (y : Ps), j + gk = M3 ∧ c = .int .i64 j ∧ y.k = x.k + j ∧ Hid (Tw wr C s r b f g d p u y) ∧ Mt s r W1 wr)
      case atStart => exact ⟨0, x, by omega, rfl, by simp, HT, Mt.refl _ _ _⟩
      case round =>
        obtain ⟨j, y, hj, rfl, hyk, HY, hm⟩ := hrel
        have HJ : Hid (j + gk = M3) := hj
        have HYK : Hid (y.k = x.k + j) := hyk
        have HM : Hid (Mt s r W1 wr) := hm
        have r0 : wr.cell? ⟨W.heap.size, 0, none⟩ = some (.func (.func 22) #[] #[.pointer (some ⟨s, 0, none⟩)]) := (show Rb wr W.heap.size (fConf s) (fRest s) (fClr s) from (hm.block _ HR.out.lt (by omega) (by omega)).trans HR.out).cells.1
        by_cases hjl : j < M3
        · have hy := HY.out
          have HC1 : Hid (Calls Try.prog 22 #[.pointer (some ⟨s, 0, none⟩)] wr fun e w' => e = .returned (.tuple #[]) ∧ Hid (Pz w' C s b f g y.conf ∧ Mp s 7 wr w')) := conf_any wr C s b f g y hy.pz (by omega) (by omega)
          have HC2 : Hid (∀ w', Pz w' C s b f g y.conf ∧ Mp s 7 wr w' → Calls Try.prog 28 #[.pointer (some ⟨r, 0, none⟩)] w' fun e w'' => e = .returned (.tuple #[]) ∧ Hid (Tw w'' C s r b f g d p u y.conf ∧ Mt s r W1 w'')) := fun w' h1 => by
            refine (rConf_any w' r b f g d p u y (hy.rz1 h1.2) hy.pn (by omega)).mono ?_
            rintro e w'' ⟨h2, h3, h4⟩
            have h5 := hy.two h1.1 h1.2 h3 h4 (hy.pn.conf (by omega))
            exact ⟨h2, h5.1, HM.out.trans h5.2⟩
          clear hj hyk hm hy
          go_wp2_with (first
            | (go_at_call 22; refine HC1.out.mono ?_; rintro e w5 ⟨rfl, H5⟩)
            | (go_at_call 28; refine (HC2.out _ H5.out).mono ?_; rintro e w6 ⟨rfl, H6⟩))
          go_roundg (gk - 1)
          case measure => have := HJ.out; omega
          case rel => exact ⟨j + 1, y.conf, by have := HJ.out; omega, by go_num, by show y.k + 1 = _; have := HYK.out; omega, H6.out.1, H6.out.2⟩
        · clear hj hyk hm
          go_wp2
          go_ret
          exact ⟨rfl, y, HY.out, by have := HYK.out; have := HJ.out; have := HK3.out; omega, (Mt.below HB.out).trans HM.out⟩
    · obtain ⟨m, rfl⟩ : ∃ m : Nat, k = m := ⟨k.toNat, by omega⟩
      have hm3 : m ≤ 3000 := by omega
      go_enter Try.func17, Try.ntmps17
      go_wp2
      clear hvb hbig hneg
      generalize W.alloc (.cells #[.func (.func 22) #[] #[.pointer (some ⟨s, 0, none⟩)], .func (.func 21) #[] #[.pointer (some ⟨s, 0, none⟩), .pointer (some ⟨s + 3, 0, none⟩), .pointer (some ⟨s + 1, 0, none⟩), .pointer (some ⟨s + 2, 0, none⟩)], .func (.func 21) #[] #[.pointer (some ⟨s, 0, none⟩), .pointer (some ⟨s + 6, 0, none⟩), .pointer (some ⟨s + 4, 0, none⟩), .pointer (some ⟨s + 5, 0, none⟩)]] 27) = W1 at *
      go_loopg [7] m (fun gk c wr => ∃ (j : Nat) (y : Ps), j + gk = m ∧ c = .int .i64 j ∧ y.k = x.k + j ∧ Hid (Tw wr C s r b f g d p u y) ∧ Mt s r W1 wr)
      case atStart => exact ⟨0, x, by omega, rfl, by simp, HT, Mt.refl _ _ _⟩
      case round =>
        obtain ⟨j, y, hj, rfl, hyk, HY, hm⟩ := hrel
        have HJ : Hid (j + gk = m) := hj
        have HYK : Hid (y.k = x.k + j) := hyk
        have HM : Hid (Mt s r W1 wr) := hm
        have r0 : wr.cell? ⟨W.heap.size, 0, none⟩ = some (.func (.func 22) #[] #[.pointer (some ⟨s, 0, none⟩)]) := (show Rb wr W.heap.size (fConf s) (fRest s) (fClr s) from (hm.block _ HR.out.lt (by omega) (by omega)).trans HR.out).cells.1
        by_cases hjl : j < m
        · have hy := HY.out
          have HC1 : Hid (Calls Try.prog 22 #[.pointer (some ⟨s, 0, none⟩)] wr fun e w' => e = .returned (.tuple #[]) ∧ Hid (Pz w' C s b f g y.conf ∧ Mp s 7 wr w')) := conf_any wr C s b f g y hy.pz (by omega) (by omega)
          have HC2 : Hid (∀ w', Pz w' C s b f g y.conf ∧ Mp s 7 wr w' → Calls Try.prog 28 #[.pointer (some ⟨r, 0, none⟩)] w' fun e w'' => e = .returned (.tuple #[]) ∧ Hid (Tw w'' C s r b f g d p u y.conf ∧ Mt s r W1 w'')) := fun w' h1 => by
            refine (rConf_any w' r b f g d p u y (hy.rz1 h1.2) hy.pn (by omega)).mono ?_
            rintro e w'' ⟨h2, h3, h4⟩
            have h5 := hy.two h1.1 h1.2 h3 h4 (hy.pn.conf (by omega))
            exact ⟨h2, h5.1, HM.out.trans h5.2⟩
          clear hj hyk hm hy
          go_wp2_with (first
            | (go_at_call 22; refine HC1.out.mono ?_; rintro e w5 ⟨rfl, H5⟩)
            | (go_at_call 28; refine (HC2.out _ H5.out).mono ?_; rintro e w6 ⟨rfl, H6⟩))
          go_roundg (gk - 1)
          case measure => have := HJ.out; omega
          case rel => exact ⟨j + 1, y.conf, by have := HJ.out; omega, by go_num, by show y.k + 1 = _; have := HYK.out; omega, H6.out.1, H6.out.2⟩
        · clear hj hyk hm
          go_wp2
          go_ret
          exact ⟨rfl, y, HY.out, by have := HYK.out; have := HJ.out; have := HK3.out; omega, (Mt.below HB.out).trans HM.out⟩
  have hc1 : Hid (∀ W1, Tw W1 C s r b f g d p u x → Mt s r W W1 → Calls Try.prog 22 #[.pointer (some ⟨s, 0, none⟩)] W1 fun e w' => e = .returned (.tuple #[]) ∧ Hid (Pz w' C s b f g x.conf ∧ Mp s 7 W1 w' ∧ Tw W1 C s r b f g d p u x ∧ Mt s r W W1)) := fun W1 h1 hm => (conf_any W1 C s b f g x h1.pz (by omega) (by omega)).mono fun e w' ⟨a1, a2, a3⟩ => ⟨a1, a2, a3, h1, hm⟩
  have hc2 : Hid (∀ w' W1, Pz w' C s b f g x.conf ∧ Mp s 7 W1 w' ∧ Tw W1 C s r b f g d p u x ∧ Mt s r W W1 → Calls Try.prog 28 #[.pointer (some ⟨r, 0, none⟩)] w' fun e w'' => e = .returned (.tuple #[]) ∧ Hid (TwS W C s r b f g d p u (x.k + 3000) w'')) := fun w' W1 ⟨a1, a2, a3, a4⟩ => by
    refine (rConf_any w' r b f g d p u x (a3.rz1 a2) a3.pn (by omega)).mono ?_
    rintro e w'' ⟨h2, h3, h4⟩
    have h5 := a3.two a1 a2 h3 h4 (a3.pn.conf (by omega))
    exact ⟨h2, x.conf, h5.1, by show x.k + 1 ≤ _; omega, a4.trans h5.2⟩
  have hr1 : Hid (∀ W1, Tw W1 C s r b f g d p u x → Mt s r W W1 → Calls Try.prog 21 #[.pointer (some ⟨s, 0, none⟩), .pointer (some ⟨s + 3, 0, none⟩), .pointer (some ⟨s + 1, 0, none⟩), .pointer (some ⟨s + 2, 0, none⟩)] W1 fun e w' => e = .returned (.bool (x.r b)) ∧ Hid (Pz w' C s b f g (x.rest b) ∧ Mp s 7 W1 w' ∧ Tw W1 C s r b f g d p u x ∧ Mt s r W W1)) := fun W1 h1 hm => (rest_any W1 C s b f g x h1.pz h1.pn).mono fun e w' ⟨a1, a2, a3⟩ => ⟨a1, a2, a3, h1, hm⟩
  have hkr : (x.rest b).k = x.k := by unfold Ps.rest; split <;> rfl
  have hkc : (x.clr f g).k = x.k := by unfold Ps.clr; split <;> rfl
  have hr2 : Hid (∀ w' W1, Pz w' C s b f g (x.rest b) ∧ Mp s 7 W1 w' ∧ Tw W1 C s r b f g d p u x ∧ Mt s r W W1 → Calls Try.prog 29 #[.pointer (some ⟨r, 0, none⟩)] w' fun e w'' => e = .returned (.bool (x.r b)) ∧ Hid (TwS W C s r b f g d p u (x.k + 3000) w'')) := fun w' W1 ⟨a1, a2, a3, a4⟩ => by
    refine (rRest_any w' r b f g d p u x (a3.rz1 a2) a3.pn).mono ?_
    rintro e w'' ⟨h2, h3, h4⟩
    have h5 := a3.two a1 a2 h3 h4 a3.pn.rest
    exact ⟨h2, x.rest b, h5.1, by rw [hkr]; omega, a4.trans h5.2⟩
  have hl1 : Hid (∀ W1, Tw W1 C s r b f g d p u x → Mt s r W W1 → Calls Try.prog 21 #[.pointer (some ⟨s, 0, none⟩), .pointer (some ⟨s + 6, 0, none⟩), .pointer (some ⟨s + 4, 0, none⟩), .pointer (some ⟨s + 5, 0, none⟩)] W1 fun e w' => e = .returned (.bool (x.c f g)) ∧ Hid (Pz w' C s b f g (x.clr f g) ∧ Mp s 7 W1 w' ∧ Tw W1 C s r b f g d p u x ∧ Mt s r W W1)) := fun W1 h1 hm => (clr_any W1 C s b f g x h1.pz h1.pn).mono fun e w' ⟨a1, a2, a3⟩ => ⟨a1, a2, a3, h1, hm⟩
  have hl2 : Hid (∀ w' W1, Pz w' C s b f g (x.clr f g) ∧ Mp s 7 W1 w' ∧ Tw W1 C s r b f g d p u x ∧ Mt s r W W1 → Calls Try.prog 30 #[.pointer (some ⟨r, 0, none⟩)] w' fun e w'' => e = .returned (.bool (x.c f g)) ∧ Hid (TwS W C s r b f g d p u (x.k + 3000) w'')) := fun w' W1 ⟨a1, a2, a3, a4⟩ => by
    refine (rClr_any w' r b f g d p u x (a3.rz1 a2) a3.pn).mono ?_
    rintro e w'' ⟨h2, h3, h4⟩
    have h5 := a3.two a1 a2 h3 h4 a3.pn.clr
    exact ⟨h2, x.clr f g, h5.1, by rw [hkc]; omega, a4.trans h5.2⟩
  have HM0 : Hid (Mt s r W (W.alloc (.cells #[.func (.func 22) #[] #[.pointer (some ⟨s, 0, none⟩)], .func (.func 21) #[] #[.pointer (some ⟨s, 0, none⟩), .pointer (some ⟨s + 3, 0, none⟩), .pointer (some ⟨s + 1, 0, none⟩), .pointer (some ⟨s + 2, 0, none⟩)], .func (.func 21) #[] #[.pointer (some ⟨s, 0, none⟩), .pointer (some ⟨s + 6, 0, none⟩), .pointer (some ⟨s + 4, 0, none⟩), .pointer (some ⟨s + 5, 0, none⟩)]] 27))) := Mt.below HB.out
  obtain ⟨q0, q1, q2⟩ := HR.out.cells
  have r0 : (W.alloc (.cells #[.func (.func 22) #[] #[.pointer (some ⟨s, 0, none⟩)], .func (.func 21) #[] #[.pointer (some ⟨s, 0, none⟩), .pointer (some ⟨s + 3, 0, none⟩), .pointer (some ⟨s + 1, 0, none⟩), .pointer (some ⟨s + 2, 0, none⟩)], .func (.func 21) #[] #[.pointer (some ⟨s, 0, none⟩), .pointer (some ⟨s + 6, 0, none⟩), .pointer (some ⟨s + 4, 0, none⟩), .pointer (some ⟨s + 5, 0, none⟩)]] 27)).cell? ⟨W.heap.size, 0, none⟩ = some (.func (.func 22) #[] #[.pointer (some ⟨s, 0, none⟩)]) := q0
  have r1 : (W.alloc (.cells #[.func (.func 22) #[] #[.pointer (some ⟨s, 0, none⟩)], .func (.func 21) #[] #[.pointer (some ⟨s, 0, none⟩), .pointer (some ⟨s + 3, 0, none⟩), .pointer (some ⟨s + 1, 0, none⟩), .pointer (some ⟨s + 2, 0, none⟩)], .func (.func 21) #[] #[.pointer (some ⟨s, 0, none⟩), .pointer (some ⟨s + 6, 0, none⟩), .pointer (some ⟨s + 4, 0, none⟩), .pointer (some ⟨s + 5, 0, none⟩)]] 27)).cell? ⟨W.heap.size, 1, none⟩ = some (.func (.func 21) #[] #[.pointer (some ⟨s, 0, none⟩), .pointer (some ⟨s + 3, 0, none⟩), .pointer (some ⟨s + 1, 0, none⟩), .pointer (some ⟨s + 2, 0, none⟩)]) := q1
  have r2 : (W.alloc (.cells #[.func (.func 22) #[] #[.pointer (some ⟨s, 0, none⟩)], .func (.func 21) #[] #[.pointer (some ⟨s, 0, none⟩), .pointer (some ⟨s + 3, 0, none⟩), .pointer (some ⟨s + 1, 0, none⟩), .pointer (some ⟨s + 2, 0, none⟩)], .func (.func 21) #[] #[.pointer (some ⟨s, 0, none⟩), .pointer (some ⟨s + 6, 0, none⟩), .pointer (some ⟨s + 4, 0, none⟩), .pointer (some ⟨s + 5, 0, none⟩)]] 27)).cell? ⟨W.heap.size, 2, none⟩ = some (.func (.func 21) #[] #[.pointer (some ⟨s, 0, none⟩), .pointer (some ⟨s + 6, 0, none⟩), .pointer (some ⟨s + 4, 0, none⟩), .pointer (some ⟨s + 5, 0, none⟩)]) := q2
  clear q0 q1 q2 hkr hkc
  rcases (by omega : k % 3 = 0 ∨ k % 3 = 1 ∨ k % 3 = 2) with hm | hm | hm
  · have z0 : (k % 3 == 0) = true := by simp [hm]
    clear hm
    go_enter Try.func17, Try.ntmps17
    go_upto_region 12 with fail
    generalize W.alloc (.cells #[.func (.func 22) #[] #[.pointer (some ⟨s, 0, none⟩)], .func (.func 21) #[] #[.pointer (some ⟨s, 0, none⟩), .pointer (some ⟨s + 3, 0, none⟩), .pointer (some ⟨s + 1, 0, none⟩), .pointer (some ⟨s + 2, 0, none⟩)], .func (.func 21) #[] #[.pointer (some ⟨s, 0, none⟩), .pointer (some ⟨s + 6, 0, none⟩), .pointer (some ⟨s + 4, 0, none⟩), .pointer (some ⟨s + 5, 0, none⟩)]] 27) = W1 at *
    go_wp2_with (first
      | (go_at_call 22; refine (hc1.out _ HT.out HM0.out).mono ?_; rintro e w5 ⟨rfl, H5⟩)
      | (go_at_call 28; refine (hc2.out _ _ H5.out).mono ?_; rintro e w6 ⟨rfl, H6⟩))
    go_ret
    exact ⟨rfl, H6.out⟩
  · have z0 : (k % 3 == 0) = false := by simp [hm]
    have z1 : (k % 3 == 1) = true := by simp [hm]
    clear hm
    go_enter Try.func17, Try.ntmps17
    go_upto_region 12 with fail
    generalize W.alloc (.cells #[.func (.func 22) #[] #[.pointer (some ⟨s, 0, none⟩)], .func (.func 21) #[] #[.pointer (some ⟨s, 0, none⟩), .pointer (some ⟨s + 3, 0, none⟩), .pointer (some ⟨s + 1, 0, none⟩), .pointer (some ⟨s + 2, 0, none⟩)], .func (.func 21) #[] #[.pointer (some ⟨s, 0, none⟩), .pointer (some ⟨s + 6, 0, none⟩), .pointer (some ⟨s + 4, 0, none⟩), .pointer (some ⟨s + 5, 0, none⟩)]] 27) = W1 at *
    generalize x.r b = qq at *
    go_wp2_with (first
      | (go_at_call 21; refine (hr1.out _ HT.out HM0.out).mono ?_; rintro e w5 ⟨rfl, H5⟩)
      | (go_at_call 29; refine (hr2.out _ _ H5.out).mono ?_; rintro e w6 ⟨rfl, H6⟩))
    go_ret
    exact ⟨ret_bool13 (by simp), H6.out⟩
  · have z0 : (k % 3 == 0) = false := by simp [hm]
    have z1 : (k % 3 == 1) = false := by simp [hm]
    have z2 : (k % 3 == 2) = true := by simp [hm]
    clear hm
    go_enter Try.func17, Try.ntmps17
    go_upto_region 12 with fail
    generalize W.alloc (.cells #[.func (.func 22) #[] #[.pointer (some ⟨s, 0, none⟩)], .func (.func 21) #[] #[.pointer (some ⟨s, 0, none⟩), .pointer (some ⟨s + 3, 0, none⟩), .pointer (some ⟨s + 1, 0, none⟩), .pointer (some ⟨s + 2, 0, none⟩)], .func (.func 21) #[] #[.pointer (some ⟨s, 0, none⟩), .pointer (some ⟨s + 6, 0, none⟩), .pointer (some ⟨s + 4, 0, none⟩), .pointer (some ⟨s + 5, 0, none⟩)]] 27) = W1 at *
    generalize x.c f g = qq at *
    go_wp2_with (first
      | (go_at_call 21; refine (hl1.out _ HT.out HM0.out).mono ?_; rintro e w5 ⟨rfl, H5⟩)
      | (go_at_call 30; refine (hl2.out _ _ H5.out).mono ?_; rintro e w6 ⟨rfl, H6⟩))
    go_ret
    exact ⟨ret_bool13 (by simp), H6.out⟩
end Go.Proofs.Ythcbpdnaocpleaa

/-
  The document's Plan, walked whole; Plan of the program and of the document for any arguments.
  KEEP: putObj alloc same block size os tape output mono lt own new keep conf rest clr below grown step no yes done
-/
import Derived.Test.YthcbpdnaocpleaaPcW
set_option linter.unusedSimpArgs false
set_option linter.unusedVariables false
namespace Go.Proofs.Ythcbpdnaocpleaa
open Go Go.RowKit

theorem fmC_bounds {b f g : Int} {d : Nat} {p : Int} (hf : fmC b f g d p = true) : (1 ≤ b ∧ b ≤ 1048576) ∧ (1 ≤ f ∧ f ≤ 1048576) ∧ (1 ≤ g ∧ g ≤ 1048576) := by
  unfold fmC at hf
  simp only [Bool.and_eq_true] at hf
  exact ⟨cnB_true.1 hf.1.1.1.1, cnB_true.1 hf.1.1.1.2, cnB_true.1 hf.1.1.2⟩

attribute [local go_sem ↓] append_alias
set_option maxRecDepth 100000 in
set_option maxHeartbeats 3200000 in
theorem rPlan_yes (b f g : Int) (d : Nat) (p u n : Int) (w : World) (hf : fmC b f g d p = true) (hn0 : 0 ≤ n) (hn : n ≤ 1048576) :
    Calls Try.prog 18 #[.agg #[.int .i64 b, .int .i64 f, .int .i64 g, .float .f64 d, .int .i64 p, .int .i64 u], .int .i64 n] w fun e w' => ∃ v, e = .returned (.tuple #[v, .int .i64 0]) ∧ OwnB w.heap.size w' v (plF b f g n) ∧ Below w.heap.size w w' := by
  have HM : Hid (∀ W, Calls Try.prog 16 #[.agg #[.int .i64 b, .int .i64 f, .int .i64 g, .float .f64 d, .int .i64 p, .int .i64 u]] W fun e w' => ∃ r, e = .returned (.tuple #[.pointer (some ⟨r, 0, none⟩), .int .i64 0]) ∧ Rz w' r b f g d p u ps0 ∧ W.heap.size ≤ r ∧ Below W.heap.size W w') := fun W => rMake_yes b f g d p u W hf
  obtain ⟨⟨hb1, hb2⟩, ⟨hf1, hf2⟩, hg1, hg2⟩ := fmC_bounds hf
  clear hf
  obtain ⟨C, rfl⟩ : ∃ C : Nat, n = C := ⟨n.toNat, by omega⟩
  go_enter Try.func18, Try.ntmps18
  go_wp2_with (go_at_call 16; refine (HM.out _).mono ?_; rintro e w2 ⟨r, rfl, hr, hr0, bel⟩)
  have hbl := lub_b (b := b) (i := 0) hb1 hb2 (by omega)
  have H0 : Hid (Rp w w2.heap.size r b f g d p u C ps0 (.slice none 0 0) [] w2) := by
    rw [World.size_alloc] at hr0
    exact ⟨hr, ⟨by omega, hr.lt, Nat.le_refl _⟩, OwnB.nil _ _, (below_new _ _).next bel (Nat.le_refl _), Pn.zero hb1 hb2 hf1 hf2 hg1 hg2, rfl, rfl, by show (0 : Int) - 0 < b * (lub (0 + 1) : Int); omega, hn0⟩
  clear hr hr0 bel HM hbl
  generalize w2.heap.size = N at *
  go_loopg [8, 9] C (fun gk o c wr => ∃ (m : Nat) (x : Ps) (v : Value) (L : List (Int × Bool)), m + gk = C ∧ c = .int .i64 ((m : Int) + 1) ∧ v = o ∧ x.k = m ∧ Hid (Rp w N r b f g d p u C x v L wr))
  case atStart => exact ⟨0, ps0, _, [], by omega, rfl, rfl, rfl, H0⟩
  case round =>
    obtain ⟨m, x, v, L, hm, rfl, hvo, hxm, HR⟩ := hrel
    subst hvo
    have HJ : Hid (m + gk = C) := hm
    obtain ⟨av, cv, hv⟩ := HR.out.ow.form
    have HX : Hid (x.k = m) := hxm
    by_cases hlt : m < C
    · have hx1 : x.conf.k = (m : Int) + 1 := by show x.k + 1 = _; omega
      have hcn : Pn b f g x.conf := HR.out.pn.conf (by omega)
      have HC1 : Hid (Calls Try.prog 28 #[.pointer (some ⟨r, 0, none⟩)] wr fun e w' => e = .returned (.tuple #[]) ∧ Hid (Rz w' r b f g d p u x.conf ∧ Mp r 1 wr w')) := rConf_any wr r b f g d p u x HR.out.rz HR.out.pn (by omega)
      have HC2 : Hid (∀ w', Rz w' r b f g d p u x.conf ∧ Mp r 1 wr w' → Calls Try.prog 29 #[.pointer (some ⟨r, 0, none⟩)] w' fun e w'' => e = .returned (.bool (x.conf.r b)) ∧ Hid (Rz w'' r b f g d p u (x.conf.rest b) ∧ Mp r 1 wr w'')) := fun w' h =>
        (rRest_any w' r b f g d p u x.conf h.1 hcn).mono fun e w'' ⟨h1, h2, h3⟩ => ⟨h1, h2, h.2.trans h3⟩
      cases hq : x.conf.r b
      · rw [hq] at HC2
        have HQ : Hid (x.conf.r b = false) := hq
        clear hm hq hxm hx1 hcn
        subst hv
        go_wp2_with (first
          | (go_at_call 28; refine HC1.out.mono ?_; rintro e w5 ⟨rfl, H5⟩)
          | (go_at_call 29; refine (HC2.out _ H5.out).mono ?_; rintro e w6 ⟨rfl, H6⟩))
        go_roundg (gk - 1)
        case measure => have := HJ.out; omega
        case rel =>
          have h6 := H6.out
          rw [Ps.rest_no HQ.out] at h6
          exact ⟨m + 1, x.conf, _, L, by have := HJ.out; omega, by go_num, rfl, by show x.k + 1 = _; have := HX.out; omega, HR.out.no (by have := HX.out; omega) hn HQ.out h6.1 h6.2⟩
      · rw [hq] at HC2
        have HQ : Hid (x.conf.r b = true) := hq
        obtain ⟨c, hc⟩ : ∃ c, c = (x.conf.rest b).c f g := ⟨_, rfl⟩
        have HC : Hid (c = (x.conf.rest b).c f g) := hc
        have hrn : Pn b f g (x.conf.rest b) := hcn.rest
        have hLn : L.length ≤ 1099511627776 := by
          have h1 : 1 * x.t1 ≤ b * x.t1 := Int.mul_le_mul_of_nonneg_right HR.out.pn.b1 HR.out.pn.t1
          have := HR.out.pn.i1; have := HR.out.pn.l1k; have := HR.out.len; omega
        have HC3 : Hid (∀ w', Rz w' r b f g d p u (x.conf.rest b) ∧ Mp r 1 wr w' → Calls Try.prog 30 #[.pointer (some ⟨r, 0, none⟩)] w' fun e w6 => e = .returned (.bool c) ∧ Hid (Rz w6 r b f g d p u ((x.conf.rest b).clr f g) ∧ Mp r 1 wr w6) ∧ ∃ a' c' w7, (appAct #[.slice av L.length cv, .slice (some ⟨w6.heap.size, 0, none⟩) 1 1]).run Try.prog (w6.alloc (.cells #[.int .i64 ((m : Int) + 1), .bool c] 50)) = .ok (.slice a' (L.length + 1) c') w7 ∧
            Hid (OwnB N w7 (.slice a' (L.length + 1) c') (L ++ [((m : Int) + 1, c)]) ∧ (w6.alloc (.cells #[.int .i64 ((m : Int) + 1), .bool c] 50)).grownBy w7 v.ownBlock)) := fun w' h => by
          refine (rClr_any w' r b f g d p u _ h.1 hrn).mono fun e w6 ⟨h1, h2, h3⟩ => ?_
          have hs := HR.out.step h2 (h.2.trans h3)
          refine ⟨by rw [hc]; exact h1, ⟨h2, h.2.trans h3⟩, ?_⟩
          rw [← hv]
          exact beat_run hs.1 hs.2.2 hLn
        have HV : Hid (v = .slice av L.length cv) := hv
        clear hm hq hxm hx1 hcn hc hrn hLn
        subst hv
        go_wp2_with (first
          | (go_at_call 28; refine HC1.out.mono ?_; rintro e w5 ⟨rfl, H5⟩)
          | (go_at_call 29; refine (HC2.out _ H5.out).mono ?_; rintro e w6 ⟨rfl, H6⟩)
          | (go_at_call 30; refine (HC3.out _ H6.out).mono ?_; rintro e w7 ⟨rfl, H7, a8, c8, w8, hrun, H8⟩))
        go_roundg (gk - 1)
        case measure => have := HJ.out; omega
        case rel =>
          have h8 := H8.out
          have h7 := H7.out
          have hN := HR.out.rN
          have hxk := HX.out
          have hs := HR.out.step h7.1 h7.2
          have hlt7 := h7.1.lt
          rw [HC.out] at h8
          have hz8 : Rz w8 r b f g d p u ((x.conf.rest b).clr f g) := (h8.2.block r (by rw [World.size_alloc]; omega) (fun e => by have := (hs.1.lt r e.symm).1; omega)).trans ((Below.heap_alloc _ _ _ hlt7).trans h7.1)
          have hb8 : Below w.heap.size w w8 := by
            have h6 : Below w.heap.size w (w7.alloc (.cells #[.int .i64 ((m : Int) + 1), .bool ((x.conf.rest b).c f g)] 50)) := hs.2.1.next (below_new _ _) (Nat.le_refl _)
            exact h6.grown h8.2 h6.size (fun q e => by have := (hs.1.lt q e).1; omega)
          have ho := h8.1
          rw [← hxk] at ho
          refine ⟨m + 1, _, _, _, by have := HJ.out; omega, by go_num, rfl, ?_, HR.out.yes (by omega) hn HQ.out hz8 ho hb8 (by have := h8.2.size; rw [World.size_alloc] at this; omega)⟩
          have : ((x.conf.rest b).clr f g).k = x.k + 1 := by
            rw [Ps.rest_yes HQ.out]
            unfold Ps.clr
            split <;> rfl
          rw [this]; omega
    · have hmC : m = C := by omega
      clear hm hxm
      subst hv
      go_wp2
      go_returns
      have hL := HR.out.done (by have := HX.out; omega)
      refine ⟨_, rfl, ?_, HR.out.bel⟩
      subst hL
      subst hmC
      have hrN := HR.out.rN
      exact OwnB.mono (base := N) (base' := w.heap.size) HR.out.ow (by omega)

/-- what Plan says: its error, and its Beats -/
def plE (b f g : Int) (d : Nat) (p n : Int) : Int := if fmC b f g d p = false then 1 else if n < 0 ∨ 1048576 < n then 2 else 0
def plL (b f g : Int) (d : Nat) (p n : Int) : List (Int × Bool) := if fmC b f g d p = false then [] else if n < 0 ∨ 1048576 < n then [] else plF b f g n
theorem plan_any (b f g : Int) (d : Nat) (p u n : Int) (w : World) :
    Calls Try.prog 10 #[.agg #[.int .i64 b, .int .i64 f, .int .i64 g, .float .f64 d, .int .i64 p, .int .i64 u], .int .i64 n] w fun e w' => ∃ v, e = .returned (.tuple #[v, .int .i64 (plE b f g d p n)]) ∧ OwnB w.heap.size w' v (plL b f g d p n) ∧ Below w.heap.size w w' := by
  cases hf : fmC b f g d p
  · have e1 : plE b f g d p n = 1 := by unfold plE; rw [if_pos hf]
    have e2 : plL b f g d p n = [] := by unfold plL; rw [if_pos hf]
    rw [e1, e2]
    exact (plan_bad b f g d p u n w hf).mono fun e w' ⟨h1, h2⟩ => ⟨_, h1, OwnB.nil _ _, h2⟩
  · by_cases hn : n < 0 ∨ 1048576 < n
    · have e1 : plE b f g d p n = 2 := by unfold plE; rw [if_neg (by rw [hf]; simp), if_pos hn]
      have e2 : plL b f g d p n = [] := by unfold plL; rw [if_neg (by rw [hf]; simp), if_pos hn]
      rw [e1, e2]
      exact (plan_far b f g d p u n w hf hn).mono fun e w' ⟨h1, h2⟩ => ⟨_, h1, OwnB.nil _ _, h2⟩
    · have e1 : plE b f g d p n = 0 := by unfold plE; rw [if_neg (by rw [hf]; simp), if_neg hn]
      have e2 : plL b f g d p n = plF b f g n := by unfold plL; rw [if_neg (by rw [hf]; simp), if_neg hn]
      rw [e1, e2]
      exact plan_yes b f g d p u n w hf (by omega) (by omega)
theorem rPlan_any (b f g : Int) (d : Nat) (p u n : Int) (w : World) :
    Calls Try.prog 18 #[.agg #[.int .i64 b, .int .i64 f, .int .i64 g, .float .f64 d, .int .i64 p, .int .i64 u], .int .i64 n] w fun e w' => ∃ v, e = .returned (.tuple #[v, .int .i64 (plE b f g d p n)]) ∧ OwnB w.heap.size w' v (plL b f g d p n) ∧ Below w.heap.size w w' := by
  cases hf : fmC b f g d p
  · have e1 : plE b f g d p n = 1 := by unfold plE; rw [if_pos hf]
    have e2 : plL b f g d p n = [] := by unfold plL; rw [if_pos hf]
    rw [e1, e2]
    exact (rPlan_bad b f g d p u n w hf).mono fun e w' ⟨h1, h2⟩ => ⟨_, h1, OwnB.nil _ _, h2⟩
  · by_cases hn : n < 0 ∨ 1048576 < n
    · have e1 : plE b f g d p n = 2 := by unfold plE; rw [if_neg (by rw [hf]; simp), if_pos hn]
      have e2 : plL b f g d p n = [] := by unfold plL; rw [if_neg (by rw [hf]; simp), if_pos hn]
      rw [e1, e2]
      exact (rPlan_far b f g d p u n w hf hn).mono fun e w' ⟨h1, h2⟩ => ⟨_, h1, OwnB.nil _ _, h2⟩
    · have e1 : plE b f g d p n = 0 := by unfold plE; rw [if_neg (by rw [hf]; simp), if_neg hn]
      have e2 : plL b f g d p n = plF b f g n := by unfold plL; rw [if_neg (by rw [hf]; simp), if_neg hn]
      rw [e1, e2]
      exact rPlan_yes b f g d p u n w hf (by omega) (by omega)
end Go.Proofs.Ythcbpdnaocpleaa

/-
  PaceKeeps, walked.
  KEEP: cells fz mp set2 formed_any beat_run walk putObj alloc same block size os tape output mono lt own new keep conf rest clr below grown step no yes done rd nil form on add start rows
-/
import Derived.Test.YthmejmnbbbiemaaPcKp
import Derived.Test.YthmejmnbbbiemaaAparEW
import Derived.Test.YthmejmnbbbiemaaPcSp
import Derived.Deep.CutRange
import Derived.Deep.Cut
set_option linter.unusedSimpArgs false
set_option linter.unusedVariables false
namespace Go.Proofs.Ythmejmnbbbiemaa.paceKeeps
open Go Go.RowKit

theorem plL_len {b f g : Int} {d : Nat} {p : Int} {N : Nat} (hN : N ≤ 3000) : (plL b f g d p (N : Int)).length ≤ 3000 := by
  unfold plL
  cases hf : fmC b f g d p
  · simp
  · have n1 : ¬ ((N : Int) < 0 ∨ 1048576 < (N : Int)) := by omega
    have hb : 1 ≤ b := by
      unfold fmC at hf
      simp only [Bool.and_eq_true] at hf
      exact (cnB_true.1 hf.1.1.1.1).1
    have h4 := plF_len (f := f) (g := g) (C := (N : Int)) hb (by omega)
    simp only [Bool.true_eq_false, if_false, if_neg n1]
    omega
theorem lub7 : lubI 7 = 4 := by decide +kernel
theorem apart4 {w W0 w2 w3 w4 w5 w6 wq w11 g4 : World} {b f g : Int} {d : Nat} {p u b1 f1 g1 : Int} {d1 : Nat} {p1 u1 : Int} {L M : List (Int × Bool)} {a2 a3 a4 a5 a6 a7 : Option Addr} {c2 c3 c4 c5 c6 c7 : Nat}
    (h : Kp w b f g d p u b1 f1 g1 d1 p1 u1 [(W0.heap.size, w2.heap.size, .slice a2 L.length c2, L), (w2.heap.size, w3.heap.size, .slice a3 L.length c3, L), (w3.heap.size, w4.heap.size, .slice a4 L.length c4, L), (w4.heap.size, w5.heap.size, .slice a5 M.length c5, M), (w5.heap.size, w6.heap.size, .slice a6 M.length c6, M), (wq.heap.size, w11.heap.size, .slice a7 L.length c7, L)] g4)
    (z2 : W0.heap.size ≤ w2.heap.size) (z3 : w2.heap.size ≤ w3.heap.size) (z4 : w3.heap.size ≤ w4.heap.size) (z5 : w4.heap.size ≤ w5.heap.size) (z6 : w5.heap.size ≤ w6.heap.size) (z7 : w6.heap.size ≤ wq.heap.size) (z8 : wq.heap.size ≤ w11.heap.size) (hL : L.length ≤ 3000) (hM : M.length ≤ 3000) :
    Calls Try.prog 7 #[.slice (some ⟨g4.heap.size, 0, none⟩) 4 4] (g4.alloc (.cells #[.slice a2 L.length c2, .slice a3 L.length c3, .slice a7 L.length c7, .slice a5 M.length c5] 25)) fun e w' => e = .returned (.bool true) ∧ Below W0.heap.size g4 w' ∧ ∀ k, some k = (Value.slice a4 L.length c4).ownBlock → w'.heap[k]? = g4.heap[k]? := by
  have r2 := h.rows (W0.heap.size, w2.heap.size, .slice a2 L.length c2, L) (by simp)
  have r3 := h.rows (w2.heap.size, w3.heap.size, .slice a3 L.length c3, L) (by simp)
  have r4 := h.rows (w3.heap.size, w4.heap.size, .slice a4 L.length c4, L) (by simp)
  have r5 := h.rows (w4.heap.size, w5.heap.size, .slice a5 M.length c5, M) (by simp)
  have r7 := h.rows (wq.heap.size, w11.heap.size, .slice a7 L.length c7, L) (by simp)
  simp only at r2 r3 r4 r5 r7
  have hb := below_new g4 (.cells #[.slice a2 L.length c2, .slice a3 L.length c3, .slice a7 L.length c7, .slice a5 M.length c5] 25)
  have hB : W0.heap.size ≤ g4.heap.size := by have := r2.2.2.1; omega
  let v : Nat → Value := fun j => [Value.slice a2 L.length c2, .slice a3 L.length c3, .slice a7 L.length c7, .slice a5 M.length c5].getD j (.slice none 0 0)
  let lo : Nat → Nat := fun j => [W0.heap.size, w2.heap.size, wq.heap.size, w4.heap.size].getD j 0
  let hi : Nat → Nat := fun j => [w2.heap.size, w3.heap.size, w11.heap.size, w5.heap.size].getD j 0
  have four : ∀ (C : Nat → Prop), C 0 → C 1 → C 2 → C 3 → ∀ j, j < 4 → C j := fun C a b c d j hj => by
    match j, hj with
    | 0, _ => exact a
    | 1, _ => exact b
    | 2, _ => exact c
    | 3, _ => exact d
  have hin : ∀ j, j < 4 → ∀ q, (v j).ownBlock = some q → lo j ≤ q ∧ q < hi j := four _
    (fun q hq => ⟨(r2.1.lt q hq).1, r2.2.1 q hq⟩) (fun q hq => ⟨(r3.1.lt q hq).1, r3.2.1 q hq⟩) (fun q hq => ⟨(r7.1.lt q hq).1, r7.2.1 q hq⟩) (fun q hq => ⟨(r5.1.lt q hq).1, r5.2.1 q hq⟩)
  have hdis : ∀ i, i < 4 → ∀ j, j < 4 → i ≠ j → hi i ≤ lo j ∨ hi j ≤ lo i := four _
    (four _ (fun h => absurd rfl h) (fun _ => .inl (Nat.le_refl _)) (fun _ => .inl (show w2.heap.size ≤ wq.heap.size by omega)) (fun _ => .inl (show w2.heap.size ≤ w4.heap.size by omega)))
    (four _ (fun _ => .inr (Nat.le_refl _)) (fun h => absurd rfl h) (fun _ => .inl (show w3.heap.size ≤ wq.heap.size by omega)) (fun _ => .inl (show w3.heap.size ≤ w4.heap.size by omega)))
    (four _ (fun _ => .inr (show w2.heap.size ≤ wq.heap.size by omega)) (fun _ => .inr (show w3.heap.size ≤ wq.heap.size by omega)) (fun h => absurd rfl h) (fun _ => .inr (show w5.heap.size ≤ wq.heap.size by omega)))
    (four _ (fun _ => .inr (show w2.heap.size ≤ w4.heap.size by omega)) (fun _ => .inr (show w3.heap.size ≤ w4.heap.size by omega)) (fun _ => .inl (show w5.heap.size ≤ wq.heap.size by omega)) (fun h => absurd rfl h))
  have hq4 : ∀ q, (Value.slice a4 L.length c4).ownBlock = some q → w3.heap.size ≤ q ∧ q < w4.heap.size := fun q hq => ⟨(r4.1.lt q hq).1, r4.2.1 q hq⟩
  have h4d : ∀ j, j < 4 → hi j ≤ w3.heap.size ∨ w4.heap.size ≤ lo j := four _ (.inl (show w2.heap.size ≤ w3.heap.size by omega)) (.inl (Nat.le_refl _)) (.inr (show w4.heap.size ≤ wq.heap.size by omega)) (.inr (Nat.le_refl _))
  refine (apart_e (fun k => some k = (Value.slice a4 L.length c4).ownBlock) W0.heap.size _ 4 v (fun j => [L.length, L.length, L.length, M.length].getD j 0) _ (Nat.le_trans hB hb.size)
    ⟨by simp, .inr ⟨g4.heap.size, 4, _, rfl, hB, World.alloc_heap_new g4 _, Nat.le_refl _, by unfold maxLen; omega, by simp, rfl⟩⟩
    (four _ ⟨L, (r2.1.below hb), rfl⟩ ⟨L, (r3.1.mono z2).below hb, rfl⟩ ⟨L, (r7.1.mono (by omega)).below hb, rfl⟩ ⟨M, (r5.1.mono (by omega)).below hb, rfl⟩)
    (fun i j hi' hj hne => ?_) (by omega) (four _ (show L.length * 16 ≤ _ by omega) (show L.length * 16 ≤ _ by omega) (show L.length * 16 ≤ _ by omega) (show M.length * 16 ≤ _ by omega)) (fun j hj q hq hQ => ?_) (fun k hk => ?_)).mono fun e w' ⟨q1, q2, q3⟩ => ⟨q1, (hb.mono hB).trans q2, fun k hk => (q3 k hk).trans (hb.block k ((r4.1.lt k hk.symm).2))⟩
  · cases e : (v i).ownBlock with
    | none => exact .inl rfl
    | some q =>
      right
      intro e2
      have x1 := hin i hi' q e
      have x2 := hin j hj q e2.symm
      rcases hdis i hi' j hj hne with x | x <;> omega
  · have x1 := hin j hj q hq
    have x2 := hq4 q hQ.symm
    rcases h4d j hj with x | x <;> omega
  · have := (r4.1.lt k hk.symm).2
    have := hb.size
    omega
theorem fun0 (k : Nat) (lb : Array Value) (w : World) : (binOp BinOp.eql 1 (.func (.func k) #[] lb) .nilFunc).run Try.prog w = .ok (.bool false) w := by rfl
theorem fun1 (k : Nat) (lb : Array Value) (w : World) : (binOp BinOp.eql 29 (.func (.func k) #[] lb) .nilFunc).run Try.prog w = .ok (.bool false) w := by rfl
attribute [local go_sem ↓] append_alias
set_option maxRecDepth 100000 in
set_option maxHeartbeats 6400000 in
theorem walk (b f g : Int) (d : Nat) (p u b1 f1 g1 : Int) (d1 : Nat) (p1 u1 n : Int) (w : World) (h1 : -9223372036854775808 ≤ n) (h2 : n ≤ 9223372036854775807) :
    Calls Try.prog 3 #[.agg #[.int .i64 b, .int .i64 f, .int .i64 g, .float .f64 d, .int .i64 p, .int .i64 u], .agg #[.int .i64 b1, .int .i64 f1, .int .i64 g1, .float .f64 d1, .int .i64 p1, .int .i64 u1], .int .i64 n] w fun e w' => e = .returned (.bool true) ∧ Below w.heap.size w w' := by
  go_enter Try.func3, Try.ntmps3
  go_upto_region 1 with fail
  have H1 : Hid (Kp w b f g d p u b1 f1 g1 d1 p1 u1 [] ((w.alloc (.cells #[.int .i64 b, .int .i64 f, .int .i64 g, .float .f64 d, .int .i64 p, .int .i64 u] 24)).alloc (.cells #[.int .i64 b1, .int .i64 f1, .int .i64 g1, .float .f64 d1, .int .i64 p1, .int .i64 u1] 24))) := Kp.start
  generalize (w.alloc (.cells #[.int .i64 b, .int .i64 f, .int .i64 g, .float .f64 d, .int .i64 p, .int .i64 u] 24)).alloc (.cells #[.int .i64 b1, .int .i64 f1, .int .i64 g1, .float .f64 d1, .int .i64 p1, .int .i64 u1] 24) = W1 at *
  go_cut [27] from 22 to 27 (fun u27 wx => u27 = .bool (decide (n < 0 ∨ 3000 < n)) ∧ wx = W1)
  case first =>
    rcases (by omega : n < 0 ∨ (3000 < n ∧ 0 ≤ n) ∨ (0 ≤ n ∧ n ≤ 3000)) with hn | ⟨hn2, hn⟩ | ⟨hn, hn2⟩
    · go_wp2_with fail
      go_meet
      exact ⟨by simp [hn], rfl⟩
    · go_wp2_with fail
      go_meet
      exact ⟨by simp [hn2], rfl⟩
    · go_wp2_with fail
      go_meet
      exact ⟨by congr 1; rw [Bool.eq_iff_iff]; simp; try omega, rfl⟩
  case rest =>
  obtain ⟨rfl, rfl⟩ := hcut
  obtain ⟨q, hq⟩ : ∃ q, decide (n < 0 ∨ 3000 < n) = q := ⟨_, rfl⟩
  rw [hq]
  have HNq : Hid (q = false → 0 ≤ n ∧ n ≤ 3000) := fun e => by rw [e] at hq; have := of_decide_eq_false hq; omega
  clear hq
  go_upto_if 27 with fail
  go_cut [2] from 27 to 27 (fun u2 wx => ∃ N : Nat, N ≤ 3000 ∧ u2 = .int .i64 N ∧ wx = wc)
  case first =>
    cases q
    · have h := HNq.out rfl
      go_wp2_with fail
      go_meet
      exact ⟨n.toNat, by omega, by rw [Int.toNat_of_nonneg h.1], rfl⟩
    · go_wp2_with fail
      go_meet
      exact ⟨300, by omega, rfl, rfl⟩
  case rest =>
  obtain ⟨N, hN, rfl, rfl⟩ := hcut
  have hLl := plL_len (b := b) (f := f) (g := g) (d := d) (p := p) hN
  have hMl := plL_len (b := b1) (f := f1) (g := g1) (d := d1) (p := p1) hN
  obtain ⟨L, hL⟩ : ∃ L, L = plL b f g d p (N : Int) := ⟨_, rfl⟩
  obtain ⟨M, hM⟩ : ∃ M, M = plL b1 f1 g1 d1 p1 (N : Int) := ⟨_, rfl⟩
  have HP0 : Hid (∀ W, Calls Try.prog 4 #[.agg #[.int .i64 b, .int .i64 f, .int .i64 g, .float .f64 d, .int .i64 p, .int .i64 u], .int .i64 N] W fun e w' => ∃ a c, e = .returned (.tuple #[.slice a L.length c, .int .i64 (plE b f g d p (N : Int))]) ∧ OwnB W.heap.size w' (.slice a L.length c) L ∧ Below W.heap.size W w') := fun W =>
    (plan_any b f g d p u (N : Int) W).mono fun e w' ⟨v, h1, h2, h3⟩ => by
      rw [← hL] at h2
      obtain ⟨a, c, rfl⟩ := h2.form
      exact ⟨a, c, h1, h2, h3⟩
  have HP1 : Hid (∀ W, Calls Try.prog 4 #[.agg #[.int .i64 b1, .int .i64 f1, .int .i64 g1, .float .f64 d1, .int .i64 p1, .int .i64 u1], .int .i64 N] W fun e w' => ∃ a c, e = .returned (.tuple #[.slice a M.length c, .int .i64 (plE b1 f1 g1 d1 p1 (N : Int))]) ∧ OwnB W.heap.size w' (.slice a M.length c) M ∧ Below W.heap.size W w') := fun W =>
    (plan_any b1 f1 g1 d1 p1 u1 (N : Int) W).mono fun e w' ⟨v, h1, h2, h3⟩ => by
      rw [← hM] at h2
      obtain ⟨a, c, rfl⟩ := h2.form
      exact ⟨a, c, h1, h2, h3⟩
  rw [← hL] at hLl
  rw [← hM] at hMl
  clear hL hM
  generalize hW0 : wc = W0 at *
  clear hW0
  obtain ⟨k0, k1, k2, k3, k4, k5⟩ := H1.out.c0.cells
  go_upto_region 4 with (go_at_call 4; refine (HP0.out _).mono ?_; rintro e w2 ⟨a2, c2, rfl, ho2, bel2⟩)
  have H2 : Hid (Kp w b f g d p u b1 f1 g1 d1 p1 u1 [(W0.heap.size, w2.heap.size, .slice a2 L.length c2, L)] w2) := H1.out.add bel2 ho2
  have Z2 : Hid (W0.heap.size ≤ w2.heap.size) := bel2.size
  clear k0 k1 k2 k3 k4 k5 ho2 bel2 H1
  obtain ⟨k0, k1, k2, k3, k4, k5⟩ := H2.out.c0.cells
  go_upto_region 5 with (go_at_call 4; refine (HP0.out _).mono ?_; rintro e w3 ⟨a3, c3, rfl, ho3, bel3⟩)
  have H3 : Hid (Kp w b f g d p u b1 f1 g1 d1 p1 u1 [(W0.heap.size, w2.heap.size, .slice a2 L.length c2, L), (w2.heap.size, w3.heap.size, .slice a3 L.length c3, L)] w3) := H2.out.add bel3 ho3
  have Z3 : Hid (w2.heap.size ≤ w3.heap.size) := bel3.size
  clear k0 k1 k2 k3 k4 k5 ho3 bel3 H2
  obtain ⟨a4, c4, w4, hrun, HF4⟩ := beat_copy (H3.out.rows _ (List.mem_cons_self)).1 (by show L.length ≤ _; omega)
  go_upto_region 6 with fail
  have H4 : Hid (Kp w b f g d p u b1 f1 g1 d1 p1 u1 [(W0.heap.size, w2.heap.size, .slice a2 L.length c2, L), (w2.heap.size, w3.heap.size, .slice a3 L.length c3, L), (w3.heap.size, w4.heap.size, .slice a4 L.length c4, L)] w4) := H3.out.add HF4.out.2 HF4.out.1
  have Z4 : Hid (w3.heap.size ≤ w4.heap.size) := HF4.out.2.size
  clear hrun HF4 H3
  obtain ⟨k0, k1, k2, k3, k4, k5⟩ := H4.out.c1.cells
  go_upto_region 7 with (go_at_call 4; refine (HP1.out _).mono ?_; rintro e w5 ⟨a5, c5, rfl, ho5, bel5⟩)
  have H5 : Hid (Kp w b f g d p u b1 f1 g1 d1 p1 u1 [(W0.heap.size, w2.heap.size, .slice a2 L.length c2, L), (w2.heap.size, w3.heap.size, .slice a3 L.length c3, L), (w3.heap.size, w4.heap.size, .slice a4 L.length c4, L), (w4.heap.size, w5.heap.size, .slice a5 M.length c5, M)] w5) := H4.out.add bel5 ho5
  have Z5 : Hid (w4.heap.size ≤ w5.heap.size) := bel5.size
  clear k0 k1 k2 k3 k4 k5 ho5 bel5 H4
  obtain ⟨a6, c6, w6, hrun, HF6⟩ := beat_copy (H5.out.rows (w4.heap.size, w5.heap.size, .slice a5 M.length c5, M) (by simp)).1 (by show M.length ≤ _; omega)
  go_upto_region 8 with fail
  have H6 : Hid (Kp w b f g d p u b1 f1 g1 d1 p1 u1 [(W0.heap.size, w2.heap.size, .slice a2 L.length c2, L), (w2.heap.size, w3.heap.size, .slice a3 L.length c3, L), (w3.heap.size, w4.heap.size, .slice a4 L.length c4, L), (w4.heap.size, w5.heap.size, .slice a5 M.length c5, M), (w5.heap.size, w6.heap.size, .slice a6 M.length c6, M)] w6) := H5.out.add HF6.out.2 HF6.out.1
  have Z6 : Hid (w5.heap.size ≤ w6.heap.size) := HF6.out.2.size
  clear hrun HF6 H5
  obtain ⟨k0, k1, k2, k3, k4, k5⟩ := H6.out.c0.cells
  have hE : plE b f g d p (N : Int) = (if fmC b f g d p = true then 0 else 1) := by
    unfold plE
    cases fmC b f g d p
    · simp
    · have n1 : ¬ ((N : Int) < 0 ∨ 1048576 < (N : Int)) := by omega
      simp [if_neg n1]
  have HP0' : Hid (∀ E, E = plE b f g d p (N : Int) → ∀ W, Calls Try.prog 4 #[.agg #[.int .i64 b, .int .i64 f, .int .i64 g, .float .f64 d, .int .i64 p, .int .i64 u], .int .i64 N] W fun e w' => ∃ a c, e = .returned (.tuple #[.slice a L.length c, .int .i64 E]) ∧ OwnB W.heap.size w' (.slice a L.length c) L ∧ Below W.heap.size W w') := fun E e W => by rw [e]; exact HP0.out W
  clear HP0 HP1
  obtain ⟨E, hEE⟩ : ∃ E, E = plE b f g d p (N : Int) := ⟨_, rfl⟩
  rw [← hEE] at hE
  have HP0 := HP0'.out E hEE
  have HP0 : Hid (∀ W, Calls Try.prog 4 #[.agg #[.int .i64 b, .int .i64 f, .int .i64 g, .float .f64 d, .int .i64 p, .int .i64 u], .int .i64 N] W fun e w' => ∃ a c, e = .returned (.tuple #[.slice a L.length c, .int .i64 E]) ∧ OwnB W.heap.size w' (.slice a L.length c) L ∧ Below W.heap.size W w') := HP0
  simp only [← hEE]
  have HE : Hid (E = (if fmC b f g d p = true then 0 else 1)) := hE
  clear hE HP0' hEE
  focus
    have hf0' := fun0
    have hf1' := fun1
    cases hf : fmC b f g d p
    · have e1 := HE.out
      rw [hf] at e1
      simp only [Bool.false_eq_true, if_false] at e1
      subst e1
      have HM : Hid (∀ W, Calls Try.prog 5 #[.agg #[.int .i64 b, .int .i64 f, .int .i64 g, .float .f64 d, .int .i64 p, .int .i64 u]] W fun e w' => e = .returned (.tuple #[.agg #[.nilFunc, .nilFunc, .nilFunc], .int .i64 1]) ∧ Below W.heap.size W w') := fun W => make_no b f g d p u W hf
      have HFf : Hid (fmC b f g d p = false) := hf
      clear hf
      go_upto_region 9 with (go_at_call 5; refine (HM.out _).mono ?_; rintro e w7 ⟨rfl, bel7⟩)
      have H7 : Hid (Kp w b f g d p u b1 f1 g1 d1 p1 u1 [(W0.heap.size, w2.heap.size, .slice a2 L.length c2, L), (w2.heap.size, w3.heap.size, .slice a3 L.length c3, L), (w3.heap.size, w4.heap.size, .slice a4 L.length c4, L), (w4.heap.size, w5.heap.size, .slice a5 M.length c5, M), (w5.heap.size, w6.heap.size, .slice a6 M.length c6, M)] (w7.alloc (.cells #[.nilFunc, .nilFunc, .nilFunc] 31))) := (H6.out.on bel7).on (below_new _ _)
      clear bel7
      generalize w7.alloc (.cells #[.nilFunc, .nilFunc, .nilFunc] 31) = W7 at *
      clear k0 k1 k2 k3 k4 k5
      go_upto_region 20 with fail
      have HK := H7
      obtain ⟨k0, k1, k2, k3, k4, k5⟩ := HK.out.c0.cells
      go_upto_region 21 with (go_at_call 4; refine (HP0.out _).mono ?_; rintro e w11 ⟨a7, c7, rfl, ho7, bel7⟩)
      have HK2 : Hid (Kp w b f g d p u b1 f1 g1 d1 p1 u1 [(W0.heap.size, w2.heap.size, .slice a2 L.length c2, L), (w2.heap.size, w3.heap.size, .slice a3 L.length c3, L), (w3.heap.size, w4.heap.size, .slice a4 L.length c4, L), (w4.heap.size, w5.heap.size, .slice a5 M.length c5, M), (w5.heap.size, w6.heap.size, .slice a6 M.length c6, M), (W7.heap.size, w11.heap.size, .slice a7 L.length c7, L)] w11) := HK.out.add bel7 ho7
      have Z7 : Hid (w6.heap.size ≤ W7.heap.size ∧ W7.heap.size ≤ w11.heap.size) := ⟨(HK.out.rows (w5.heap.size, w6.heap.size, .slice a6 M.length c6, M) (by simp)).2.2.1, bel7.size⟩
      clear k0 k1 k2 k3 k4 k5 ho7 bel7 HK
      have HSm : Hid (∀ W, Below w11.heap.size w11 W → (Calls Try.prog 6 #[.slice a2 L.length c2, .slice a4 L.length c4] W fun e w' => e = .returned (.bool true) ∧ Below w11.heap.size w11 w') ∧ (Calls Try.prog 6 #[.slice a3 L.length c3, .slice a4 L.length c4] W fun e w' => e = .returned (.bool true) ∧ Below w11.heap.size w11 w') ∧ (Calls Try.prog 6 #[.slice a7 L.length c7, .slice a4 L.length c4] W fun e w' => e = .returned (.bool true) ∧ Below w11.heap.size w11 w') ∧ (Calls Try.prog 6 #[.slice a5 M.length c5, .slice a6 M.length c6] W fun e w' => e = .returned (.bool true) ∧ Below w11.heap.size w11 w')) := fun W hW => ⟨(same_any _ _ L L W ((HK2.out.on hW).rows (W0.heap.size, w2.heap.size, .slice a2 L.length c2, L) (by simp)).1.rd ((HK2.out.on hW).rows (w3.heap.size, w4.heap.size, .slice a4 L.length c4, L) (by simp)).1.rd).mono (fun e w' h => ⟨by rw [h.1]; simp [smB], hW.next h.2 (Nat.le_refl _)⟩), (same_any _ _ L L W ((HK2.out.on hW).rows (w2.heap.size, w3.heap.size, .slice a3 L.length c3, L) (by simp)).1.rd ((HK2.out.on hW).rows (w3.heap.size, w4.heap.size, .slice a4 L.length c4, L) (by simp)).1.rd).mono (fun e w' h => ⟨by rw [h.1]; simp [smB], hW.next h.2 (Nat.le_refl _)⟩), (same_any _ _ L L W ((HK2.out.on hW).rows (W7.heap.size, w11.heap.size, .slice a7 L.length c7, L) (by simp)).1.rd ((HK2.out.on hW).rows (w3.heap.size, w4.heap.size, .slice a4 L.length c4, L) (by simp)).1.rd).mono (fun e w' h => ⟨by rw [h.1]; simp [smB], hW.next h.2 (Nat.le_refl _)⟩), (same_any _ _ M M W ((HK2.out.on hW).rows (w4.heap.size, w5.heap.size, .slice a5 M.length c5, M) (by simp)).1.rd ((HK2.out.on hW).rows (w5.heap.size, w6.heap.size, .slice a6 M.length c6, M) (by simp)).1.rd).mono (fun e w' h => ⟨by rw [h.1]; simp [smB], hW.next h.2 (Nat.le_refl _)⟩)⟩
      go_upto_region 23 with (first
        | (have qq := G3.out; go_at_call 6; refine ((HSm.out _ G3.out).2.2.2).mono ?_; rintro e v4 ⟨rfl, hb9⟩; have G4 : Hid (Below w11.heap.size w11 v4) := hb9; clear hb9 qq)
        | (have qq := G2.out; go_at_call 6; refine ((HSm.out _ G2.out).2.2.1).mono ?_; rintro e v3 ⟨rfl, hb9⟩; have G3 : Hid (Below w11.heap.size w11 v3) := hb9; clear hb9 qq)
        | (have qq := G1.out; go_at_call 6; refine ((HSm.out _ G1.out).2.1).mono ?_; rintro e v2 ⟨rfl, hb9⟩; have G2 : Hid (Below w11.heap.size w11 v2) := hb9; clear hb9 qq)
        | (go_at_call 6; refine ((HSm.out _ (Below.refl _ _)).1).mono ?_; rintro e v1 ⟨rfl, hb9⟩; have G1 : Hid (Below w11.heap.size w11 v1) := hb9; clear hb9))
      have HK3 : Hid (Kp w b f g d p u b1 f1 g1 d1 p1 u1 [(W0.heap.size, w2.heap.size, .slice a2 L.length c2, L), (w2.heap.size, w3.heap.size, .slice a3 L.length c3, L), (w3.heap.size, w4.heap.size, .slice a4 L.length c4, L), (w4.heap.size, w5.heap.size, .slice a5 M.length c5, M), (w5.heap.size, w6.heap.size, .slice a6 M.length c6, M), (W7.heap.size, w11.heap.size, .slice a7 L.length c7, L)] v4) := HK2.out.on G4.out
      clear HSm G1 G2 G3
      have HAp : Hid (Calls Try.prog 7 #[.slice (some ⟨v4.heap.size, 0, none⟩) 4 4] (v4.alloc (.cells #[.slice a2 L.length c2, .slice a3 L.length c3, .slice a7 L.length c7, .slice a5 M.length c5] 25)) fun e w' => e = .returned (.bool true) ∧ Below W0.heap.size v4 w' ∧ ∀ k, some k = (Value.slice a4 L.length c4).ownBlock → w'.heap[k]? = v4.heap[k]?) := apart4 (HK3.out) Z2.out Z3.out Z4.out Z5.out Z6.out Z7.out.1 Z7.out.2 hLl hMl
      go_upto_region 25 with (go_at_call 7; refine HAp.out.mono ?_; rintro e v5 ⟨rfl, hb9, hq9⟩; have G5 : Hid (Below W0.heap.size v4 v5 ∧ ∀ k, some k = (Value.slice a4 L.length c4).ownBlock → v5.heap[k]? = v4.heap[k]?) := ⟨hb9, hq9⟩; clear hb9 hq9)
      have HC5 : Hid (Cb v5 w.heap.size b f g d p u ∧ OwnB w3.heap.size v5 (.slice a4 L.length c4) L ∧ Below w.heap.size w v5) := by
        have q0 := (HK3.out.rows (W0.heap.size, w2.heap.size, .slice a2 L.length c2, L) (by simp)).2.2.2
        have q1 := (HK3.out.rows (w3.heap.size, w4.heap.size, .slice a4 L.length c4, L) (by simp)).1
        have q0 : w.heap.size + 2 ≤ W0.heap.size := q0
        exact ⟨HK3.out.c0.on G5.out.1 (by omega), q1.keep fun k hk => G5.out.2 k hk.symm, HK3.out.bel.trans (G5.out.1.mono (by omega))⟩
      clear HAp HK3 HK2
      obtain ⟨k0, k1, k2, k3, k4, k5⟩ := HC5.out.1.cells
      go_upto_region 26 with (go_at_call 4; refine (HP0.out _).mono ?_; rintro e v6 ⟨a8, c8, rfl, ho8, bel8⟩)
      have HC6 : Hid (∀ W, Below v6.heap.size v6 W → Cb W w.heap.size b f g d p u ∧ OwnB w3.heap.size W (.slice a4 L.length c4) L ∧ Below w.heap.size w W ∧ OwnB v5.heap.size W (.slice a8 L.length c8) L) := fun W hW => by
        have hb9 := bel8.next hW (Nat.le_refl _)
        exact ⟨HC5.out.1.on hb9 HC5.out.1.lt, HC5.out.2.1.below hb9, HC5.out.2.2.next hb9 (Nat.le_refl _), ho8.below hW⟩
      clear k0 k1 k2 k3 k4 k5 ho8 bel8 HC5
      have HSm : Hid (Calls Try.prog 6 #[.slice a8 L.length c8, .slice a4 L.length c4] v6 fun e w' => e = .returned (.bool true) ∧ Below v6.heap.size v6 w' ∧ ∀ (j : Nat), w'.cell? ⟨w.heap.size, j, none⟩ = v6.cell? ⟨w.heap.size, j, none⟩) := (same_any _ _ L L v6 (HC6.out v6 (Below.refl _ _)).2.2.2.rd (HC6.out v6 (Below.refl _ _)).2.1.rd).mono (fun e w' h => ⟨by rw [h.1]; simp [smB], h.2, fun j => h.2.cell (p := ⟨w.heap.size, j, none⟩) (HC6.out v6 (Below.refl _ _)).1.lt⟩)
      have HFm : Hid (∀ W, Calls Try.prog 8 #[.agg #[.int .i64 b, .int .i64 f, .int .i64 g, .float .f64 d, .int .i64 p, .int .i64 u]] W fun e w' => e = .returned (.bool false) ∧ Below W.heap.size W w') := fun W => (formed_any b f g d p u W).mono fun e w' h => ⟨by rw [h.1, HFf.out], h.2⟩
      have HLu : Hid (∀ W, Calls Try.prog 9 #[.int .i64 7] W fun e w' => e = .returned (.int .i64 4) ∧ w' = W) := fun W => (luby_any 7 W (by omega) (by omega)).mono fun e w' h => ⟨by rw [h.1, lub7], h.2⟩
      obtain ⟨k0, k1, k2, k3, k4, k5⟩ := (HC6.out v6 (Below.refl _ _)).1.cells
      go_wp2_with (first
        | (go_at_call 6; refine HSm.out.mono ?_; rintro e h1' ⟨rfl, hb9, hq9⟩; have I1 : Hid (Below v6.heap.size v6 h1') := hb9; obtain ⟨j0, j1, j2, j3, j4, j5⟩ := (HC6.out _ hb9).1.cells; clear hb9 hq9)
        | (go_at_call 8; refine (HFm.out _).mono ?_; rintro e h2' ⟨rfl, hb9⟩; have I2 : Hid (Below v6.heap.size v6 h2') := I1.out.next hb9 (Nat.le_refl _); clear hb9)
        | (go_at_call 9; refine (HLu.out _).mono ?_; rintro e h3' ⟨rfl, hw9⟩; obtain rfl := hw9.symm; clear hw9))
      go_ret
      exact ⟨rfl, (HC6.out _ I2.out).2.2.1⟩
    · have e1 := HE.out
      rw [hf] at e1
      simp only [if_true] at e1
      subst e1
      have HM : Hid (∀ W, Calls Try.prog 5 #[.agg #[.int .i64 b, .int .i64 f, .int .i64 g, .float .f64 d, .int .i64 p, .int .i64 u]] W fun e w' => ∃ s, e = .returned (.tuple #[.agg #[.func (.func 13) #[] #[.pointer (some ⟨s, 0, none⟩)], .func (.func 12) #[] #[.pointer (some ⟨s, 0, none⟩), .pointer (some ⟨s + 3, 0, none⟩), .pointer (some ⟨s + 1, 0, none⟩), .pointer (some ⟨s + 2, 0, none⟩)], .func (.func 12) #[] #[.pointer (some ⟨s, 0, none⟩), .pointer (some ⟨s + 6, 0, none⟩), .pointer (some ⟨s + 4, 0, none⟩), .pointer (some ⟨s + 5, 0, none⟩)]], .int .i64 0]) ∧ Pz w' W.heap.size s b f g ps0 ∧ Below W.heap.size W w') := fun W => make_yes b f g d p u W hf
      obtain ⟨⟨x1, x2⟩, ⟨x3, x4⟩, x5, x6⟩ := fmC_bounds hf
      have HN0 : Hid (Pn b f g ps0) := Pn.zero x1 x2 x3 x4 x5 x6
      have HFf : Hid (fmC b f g d p = true) := hf
      clear hf x1 x2 x3 x4 x5 x6
      go_upto_region 9 with (go_at_call 5; refine (HM.out _).mono ?_; rintro e w7 ⟨s, rfl, hp7, bel7⟩)
      have H7 : Hid (Kp w b f g d p u b1 f1 g1 d1 p1 u1 [(W0.heap.size, w2.heap.size, .slice a2 L.length c2, L), (w2.heap.size, w3.heap.size, .slice a3 L.length c3, L), (w3.heap.size, w4.heap.size, .slice a4 L.length c4, L), (w4.heap.size, w5.heap.size, .slice a5 M.length c5, M), (w5.heap.size, w6.heap.size, .slice a6 M.length c6, M)] (w7.alloc (.cells #[.func (.func 13) #[] #[.pointer (some ⟨s, 0, none⟩)], .func (.func 12) #[] #[.pointer (some ⟨s, 0, none⟩), .pointer (some ⟨s + 3, 0, none⟩), .pointer (some ⟨s + 1, 0, none⟩), .pointer (some ⟨s + 2, 0, none⟩)], .func (.func 12) #[] #[.pointer (some ⟨s, 0, none⟩), .pointer (some ⟨s + 6, 0, none⟩), .pointer (some ⟨s + 4, 0, none⟩), .pointer (some ⟨s + 5, 0, none⟩)]] 31)) ∧ Pz (w7.alloc (.cells #[.func (.func 13) #[] #[.pointer (some ⟨s, 0, none⟩)], .func (.func 12) #[] #[.pointer (some ⟨s, 0, none⟩), .pointer (some ⟨s + 3, 0, none⟩), .pointer (some ⟨s + 1, 0, none⟩), .pointer (some ⟨s + 2, 0, none⟩)], .func (.func 12) #[] #[.pointer (some ⟨s, 0, none⟩), .pointer (some ⟨s + 6, 0, none⟩), .pointer (some ⟨s + 4, 0, none⟩), .pointer (some ⟨s + 5, 0, none⟩)]] 31)) w6.heap.size s b f g ps0 ∧ Rb (w7.alloc (.cells #[.func (.func 13) #[] #[.pointer (some ⟨s, 0, none⟩)], .func (.func 12) #[] #[.pointer (some ⟨s, 0, none⟩), .pointer (some ⟨s + 3, 0, none⟩), .pointer (some ⟨s + 1, 0, none⟩), .pointer (some ⟨s + 2, 0, none⟩)], .func (.func 12) #[] #[.pointer (some ⟨s, 0, none⟩), .pointer (some ⟨s + 6, 0, none⟩), .pointer (some ⟨s + 4, 0, none⟩), .pointer (some ⟨s + 5, 0, none⟩)]] 31)) w7.heap.size (.func (.func 13) #[] #[.pointer (some ⟨s, 0, none⟩)]) (.func (.func 12) #[] #[.pointer (some ⟨s, 0, none⟩), .pointer (some ⟨s + 3, 0, none⟩), .pointer (some ⟨s + 1, 0, none⟩), .pointer (some ⟨s + 2, 0, none⟩)]) (.func (.func 12) #[] #[.pointer (some ⟨s, 0, none⟩), .pointer (some ⟨s + 6, 0, none⟩), .pointer (some ⟨s + 4, 0, none⟩), .pointer (some ⟨s + 5, 0, none⟩)])) := ⟨(H6.out.on bel7).on (below_new _ _), hp7.below (below_new _ _), Rb.new _ _ _ _⟩
      have hs7 := hp7.size
      have hlt7 := hp7.lt
      clear bel7 hp7 HM
      generalize w7.alloc (.cells #[.func (.func 13) #[] #[.pointer (some ⟨s, 0, none⟩)], .func (.func 12) #[] #[.pointer (some ⟨s, 0, none⟩), .pointer (some ⟨s + 3, 0, none⟩), .pointer (some ⟨s + 1, 0, none⟩), .pointer (some ⟨s + 2, 0, none⟩)], .func (.func 12) #[] #[.pointer (some ⟨s, 0, none⟩), .pointer (some ⟨s + 6, 0, none⟩), .pointer (some ⟨s + 4, 0, none⟩), .pointer (some ⟨s + 5, 0, none⟩)]] 31) = W7 at *
      generalize w7.heap.size = D at *
      have HS : Hid (∀ W W' y, (Kp w b f g d p u b1 f1 g1 d1 p1 u1 [(W0.heap.size, w2.heap.size, .slice a2 L.length c2, L), (w2.heap.size, w3.heap.size, .slice a3 L.length c3, L), (w3.heap.size, w4.heap.size, .slice a4 L.length c4, L), (w4.heap.size, w5.heap.size, .slice a5 M.length c5, M), (w5.heap.size, w6.heap.size, .slice a6 M.length c6, M)] W ∧ Rb W D (.func (.func 13) #[] #[.pointer (some ⟨s, 0, none⟩)]) (.func (.func 12) #[] #[.pointer (some ⟨s, 0, none⟩), .pointer (some ⟨s + 3, 0, none⟩), .pointer (some ⟨s + 1, 0, none⟩), .pointer (some ⟨s + 2, 0, none⟩)]) (.func (.func 12) #[] #[.pointer (some ⟨s, 0, none⟩), .pointer (some ⟨s + 6, 0, none⟩), .pointer (some ⟨s + 4, 0, none⟩), .pointer (some ⟨s + 5, 0, none⟩)])) → Pz W' w6.heap.size s b f g y → Mp s 7 W W' → (Kp w b f g d p u b1 f1 g1 d1 p1 u1 [(W0.heap.size, w2.heap.size, .slice a2 L.length c2, L), (w2.heap.size, w3.heap.size, .slice a3 L.length c3, L), (w3.heap.size, w4.heap.size, .slice a4 L.length c4, L), (w4.heap.size, w5.heap.size, .slice a5 M.length c5, M), (w5.heap.size, w6.heap.size, .slice a6 M.length c6, M)] W' ∧ Rb W' D (.func (.func 13) #[] #[.pointer (some ⟨s, 0, none⟩)]) (.func (.func 12) #[] #[.pointer (some ⟨s, 0, none⟩), .pointer (some ⟨s + 3, 0, none⟩), .pointer (some ⟨s + 1, 0, none⟩), .pointer (some ⟨s + 2, 0, none⟩)]) (.func (.func 12) #[] #[.pointer (some ⟨s, 0, none⟩), .pointer (some ⟨s + 6, 0, none⟩), .pointer (some ⟨s + 4, 0, none⟩), .pointer (some ⟨s + 5, 0, none⟩)])) ∧ Pz W' w6.heap.size s b f g y) := fun W W' y h hz hm =>
        ⟨⟨h.1.mp (N := 0) hm (fun r hr => by have := (H6.out.rows r hr).2.2.1; omega) (by have := H6.out.c1.lt; omega), h.2.mp hm (by omega)⟩, hz⟩
      obtain ⟨r0, r1, r2⟩ := H7.out.2.2.cells
      go_wp2
      clear r0 r1 r2
      go_loopg [17] N (fun gk s17 wr => ∃ (i : Nat) (y : Ps), i + gk = N ∧ s17 = .int .i64 i ∧ y.k = i ∧ Pn b f g y ∧ Hid ((Kp w b f g d p u b1 f1 g1 d1 p1 u1 [(W0.heap.size, w2.heap.size, .slice a2 L.length c2, L), (w2.heap.size, w3.heap.size, .slice a3 L.length c3, L), (w3.heap.size, w4.heap.size, .slice a4 L.length c4, L), (w4.heap.size, w5.heap.size, .slice a5 M.length c5, M), (w5.heap.size, w6.heap.size, .slice a6 M.length c6, M)] wr ∧ Rb wr D (.func (.func 13) #[] #[.pointer (some ⟨s, 0, none⟩)]) (.func (.func 12) #[] #[.pointer (some ⟨s, 0, none⟩), .pointer (some ⟨s + 3, 0, none⟩), .pointer (some ⟨s + 1, 0, none⟩), .pointer (some ⟨s + 2, 0, none⟩)]) (.func (.func 12) #[] #[.pointer (some ⟨s, 0, none⟩), .pointer (some ⟨s + 6, 0, none⟩), .pointer (some ⟨s + 4, 0, none⟩), .pointer (some ⟨s + 5, 0, none⟩)])) ∧ Pz wr w6.heap.size s b f g y))
      case atStart => exact ⟨0, ps0, by omega, rfl, rfl, HN0.out, ⟨⟨H7.out.1, H7.out.2.2⟩, H7.out.2.1⟩⟩
      case round =>
        obtain ⟨i, y, hi, rfl, hyk, hpn, HT⟩ := hrel
        have HI : Hid (i + gk = N) := hi
        have HY : Hid (y.k = i) := hyk
        have HP : Hid (Pn b f g y) := hpn
        by_cases hil : i < N
        · obtain ⟨r0, r1, r2⟩ := HT.out.1.2.cells
          have hc : Pn b f g y.conf := hpn.conf (by omega)
          have HC1 : Hid (Calls Try.prog 13 #[.pointer (some ⟨s, 0, none⟩)] wr fun e w' => e = .returned (.tuple #[]) ∧ w'.cell? ⟨D, 1, none⟩ = some (.func (.func 12) #[] #[.pointer (some ⟨s, 0, none⟩), .pointer (some ⟨s + 3, 0, none⟩), .pointer (some ⟨s + 1, 0, none⟩), .pointer (some ⟨s + 2, 0, none⟩)]) ∧ Hid ((Kp w b f g d p u b1 f1 g1 d1 p1 u1 [(W0.heap.size, w2.heap.size, .slice a2 L.length c2, L), (w2.heap.size, w3.heap.size, .slice a3 L.length c3, L), (w3.heap.size, w4.heap.size, .slice a4 L.length c4, L), (w4.heap.size, w5.heap.size, .slice a5 M.length c5, M), (w5.heap.size, w6.heap.size, .slice a6 M.length c6, M)] w' ∧ Rb w' D (.func (.func 13) #[] #[.pointer (some ⟨s, 0, none⟩)]) (.func (.func 12) #[] #[.pointer (some ⟨s, 0, none⟩), .pointer (some ⟨s + 3, 0, none⟩), .pointer (some ⟨s + 1, 0, none⟩), .pointer (some ⟨s + 2, 0, none⟩)]) (.func (.func 12) #[] #[.pointer (some ⟨s, 0, none⟩), .pointer (some ⟨s + 6, 0, none⟩), .pointer (some ⟨s + 4, 0, none⟩), .pointer (some ⟨s + 5, 0, none⟩)])) ∧ Pz w' w6.heap.size s b f g y.conf)) :=
            (conf_any wr w6.heap.size s b f g y HT.out.2 (by omega) (by omega)).mono fun e w' ⟨h1, h2, h3⟩ => by
              have h4 := HS.out _ _ _ HT.out.1 h2 h3
              exact ⟨h1, h4.1.2.cells.2.1, h4⟩
          have HC2 : Hid (∀ W, ((Kp w b f g d p u b1 f1 g1 d1 p1 u1 [(W0.heap.size, w2.heap.size, .slice a2 L.length c2, L), (w2.heap.size, w3.heap.size, .slice a3 L.length c3, L), (w3.heap.size, w4.heap.size, .slice a4 L.length c4, L), (w4.heap.size, w5.heap.size, .slice a5 M.length c5, M), (w5.heap.size, w6.heap.size, .slice a6 M.length c6, M)] W ∧ Rb W D (.func (.func 13) #[] #[.pointer (some ⟨s, 0, none⟩)]) (.func (.func 12) #[] #[.pointer (some ⟨s, 0, none⟩), .pointer (some ⟨s + 3, 0, none⟩), .pointer (some ⟨s + 1, 0, none⟩), .pointer (some ⟨s + 2, 0, none⟩)]) (.func (.func 12) #[] #[.pointer (some ⟨s, 0, none⟩), .pointer (some ⟨s + 6, 0, none⟩), .pointer (some ⟨s + 4, 0, none⟩), .pointer (some ⟨s + 5, 0, none⟩)])) ∧ Pz W w6.heap.size s b f g y.conf) → Calls Try.prog 12 #[.pointer (some ⟨s, 0, none⟩), .pointer (some ⟨s + 3, 0, none⟩), .pointer (some ⟨s + 1, 0, none⟩), .pointer (some ⟨s + 2, 0, none⟩)] W fun e w' => e = .returned (.bool (y.conf.r b)) ∧ w'.cell? ⟨D, 2, none⟩ = some (.func (.func 12) #[] #[.pointer (some ⟨s, 0, none⟩), .pointer (some ⟨s + 6, 0, none⟩), .pointer (some ⟨s + 4, 0, none⟩), .pointer (some ⟨s + 5, 0, none⟩)]) ∧ Hid ((Kp w b f g d p u b1 f1 g1 d1 p1 u1 [(W0.heap.size, w2.heap.size, .slice a2 L.length c2, L), (w2.heap.size, w3.heap.size, .slice a3 L.length c3, L), (w3.heap.size, w4.heap.size, .slice a4 L.length c4, L), (w4.heap.size, w5.heap.size, .slice a5 M.length c5, M), (w5.heap.size, w6.heap.size, .slice a6 M.length c6, M)] w' ∧ Rb w' D (.func (.func 13) #[] #[.pointer (some ⟨s, 0, none⟩)]) (.func (.func 12) #[] #[.pointer (some ⟨s, 0, none⟩), .pointer (some ⟨s + 3, 0, none⟩), .pointer (some ⟨s + 1, 0, none⟩), .pointer (some ⟨s + 2, 0, none⟩)]) (.func (.func 12) #[] #[.pointer (some ⟨s, 0, none⟩), .pointer (some ⟨s + 6, 0, none⟩), .pointer (some ⟨s + 4, 0, none⟩), .pointer (some ⟨s + 5, 0, none⟩)])) ∧ Pz w' w6.heap.size s b f g (y.conf.rest b))) := fun W h =>
            (rest_any W w6.heap.size s b f g y.conf h.2 hc).mono fun e w' ⟨h1, h2, h3⟩ => by
              have h4 := HS.out _ _ _ h.1 h2 h3
              exact ⟨h1, h4.1.2.cells.2.2, h4⟩
          have HC3 : Hid (∀ W, ((Kp w b f g d p u b1 f1 g1 d1 p1 u1 [(W0.heap.size, w2.heap.size, .slice a2 L.length c2, L), (w2.heap.size, w3.heap.size, .slice a3 L.length c3, L), (w3.heap.size, w4.heap.size, .slice a4 L.length c4, L), (w4.heap.size, w5.heap.size, .slice a5 M.length c5, M), (w5.heap.size, w6.heap.size, .slice a6 M.length c6, M)] W ∧ Rb W D (.func (.func 13) #[] #[.pointer (some ⟨s, 0, none⟩)]) (.func (.func 12) #[] #[.pointer (some ⟨s, 0, none⟩), .pointer (some ⟨s + 3, 0, none⟩), .pointer (some ⟨s + 1, 0, none⟩), .pointer (some ⟨s + 2, 0, none⟩)]) (.func (.func 12) #[] #[.pointer (some ⟨s, 0, none⟩), .pointer (some ⟨s + 6, 0, none⟩), .pointer (some ⟨s + 4, 0, none⟩), .pointer (some ⟨s + 5, 0, none⟩)])) ∧ Pz W w6.heap.size s b f g (y.conf.rest b)) → Calls Try.prog 12 #[.pointer (some ⟨s, 0, none⟩), .pointer (some ⟨s + 6, 0, none⟩), .pointer (some ⟨s + 4, 0, none⟩), .pointer (some ⟨s + 5, 0, none⟩)] W fun e w' => e = .returned (.bool ((y.conf.rest b).c f g)) ∧ Hid ((Kp w b f g d p u b1 f1 g1 d1 p1 u1 [(W0.heap.size, w2.heap.size, .slice a2 L.length c2, L), (w2.heap.size, w3.heap.size, .slice a3 L.length c3, L), (w3.heap.size, w4.heap.size, .slice a4 L.length c4, L), (w4.heap.size, w5.heap.size, .slice a5 M.length c5, M), (w5.heap.size, w6.heap.size, .slice a6 M.length c6, M)] w' ∧ Rb w' D (.func (.func 13) #[] #[.pointer (some ⟨s, 0, none⟩)]) (.func (.func 12) #[] #[.pointer (some ⟨s, 0, none⟩), .pointer (some ⟨s + 3, 0, none⟩), .pointer (some ⟨s + 1, 0, none⟩), .pointer (some ⟨s + 2, 0, none⟩)]) (.func (.func 12) #[] #[.pointer (some ⟨s, 0, none⟩), .pointer (some ⟨s + 6, 0, none⟩), .pointer (some ⟨s + 4, 0, none⟩), .pointer (some ⟨s + 5, 0, none⟩)])) ∧ Pz w' w6.heap.size s b f g ((y.conf.rest b).clr f g))) := fun W h =>
            (clr_any W w6.heap.size s b f g (y.conf.rest b) h.2 hc.rest).mono fun e w' ⟨h1, h2, h3⟩ => ⟨h1, HS.out _ _ _ h.1 h2 h3⟩
          have HPn : Hid (Pn b f g ((y.conf.rest b).clr f g) ∧ ((y.conf.rest b).clr f g).k = (i : Int) + 1) := ⟨hc.rest.clr, by
            have e1 : ((y.conf.rest b).clr f g).k = (y.conf.rest b).k := by unfold Ps.clr; split <;> rfl
            have e2 : (y.conf.rest b).k = y.conf.k := by unfold Ps.rest; split <;> rfl
            rw [e1, e2]; show y.k + 1 = _; omega⟩
          generalize y.conf.r b = q1 at *
          generalize (y.conf.rest b).c f g = q2 at *
          clear hi hyk hpn hc r1 r2
          go_wp2_with fail
          refine HC1.out.mono ?_
          rintro e w8 ⟨rfl, d1', H8⟩
          clear HC1
          go_wp2_with fail
          refine (HC2.out _ H8.out).mono ?_
          rintro e w9 ⟨rfl, d2', H9⟩
          clear HC2 d1'
          go_wp2_with fail
          refine (HC3.out _ H9.out).mono ?_
          rintro e w10 ⟨rfl, H10⟩
          clear HC3 d2'
          go_wp2
          go_roundg (gk - 1)
          case measure => have := HI.out; omega
          case rel => exact ⟨i + 1, _, by have := HI.out; omega, by go_num, by rw [HPn.out.2]; omega, HPn.out.1, H10⟩
        · clear hi hyk hpn
          have HK : Hid (Kp w b f g d p u b1 f1 g1 d1 p1 u1 [(W0.heap.size, w2.heap.size, .slice a2 L.length c2, L), (w2.heap.size, w3.heap.size, .slice a3 L.length c3, L), (w3.heap.size, w4.heap.size, .slice a4 L.length c4, L), (w4.heap.size, w5.heap.size, .slice a5 M.length c5, M), (w5.heap.size, w6.heap.size, .slice a6 M.length c6, M)] wr) := HT.out.1.1
          generalize wr = WR at *
          go_upto_region 20 with fail
          obtain ⟨k0, k1, k2, k3, k4, k5⟩ := HK.out.c0.cells
          go_upto_region 21 with (go_at_call 4; refine (HP0.out _).mono ?_; rintro e w11 ⟨a7, c7, rfl, ho7, bel7⟩)
          have HK2 : Hid (Kp w b f g d p u b1 f1 g1 d1 p1 u1 [(W0.heap.size, w2.heap.size, .slice a2 L.length c2, L), (w2.heap.size, w3.heap.size, .slice a3 L.length c3, L), (w3.heap.size, w4.heap.size, .slice a4 L.length c4, L), (w4.heap.size, w5.heap.size, .slice a5 M.length c5, M), (w5.heap.size, w6.heap.size, .slice a6 M.length c6, M), (WR.heap.size, w11.heap.size, .slice a7 L.length c7, L)] w11) := HK.out.add bel7 ho7
          have Z7 : Hid (w6.heap.size ≤ WR.heap.size ∧ WR.heap.size ≤ w11.heap.size) := ⟨(HK.out.rows (w5.heap.size, w6.heap.size, .slice a6 M.length c6, M) (by simp)).2.2.1, bel7.size⟩
          clear k0 k1 k2 k3 k4 k5 ho7 bel7 HK
          have HSm : Hid (∀ W, Below w11.heap.size w11 W → (Calls Try.prog 6 #[.slice a2 L.length c2, .slice a4 L.length c4] W fun e w' => e = .returned (.bool true) ∧ Below w11.heap.size w11 w') ∧ (Calls Try.prog 6 #[.slice a3 L.length c3, .slice a4 L.length c4] W fun e w' => e = .returned (.bool true) ∧ Below w11.heap.size w11 w') ∧ (Calls Try.prog 6 #[.slice a7 L.length c7, .slice a4 L.length c4] W fun e w' => e = .returned (.bool true) ∧ Below w11.heap.size w11 w') ∧ (Calls Try.prog 6 #[.slice a5 M.length c5, .slice a6 M.length c6] W fun e w' => e = .returned (.bool true) ∧ Below w11.heap.size w11 w')) := fun W hW => ⟨(same_any _ _ L L W ((HK2.out.on hW).rows (W0.heap.size, w2.heap.size, .slice a2 L.length c2, L) (by simp)).1.rd ((HK2.out.on hW).rows (w3.heap.size, w4.heap.size, .slice a4 L.length c4, L) (by simp)).1.rd).mono (fun e w' h => ⟨by rw [h.1]; simp [smB], hW.next h.2 (Nat.le_refl _)⟩), (same_any _ _ L L W ((HK2.out.on hW).rows (w2.heap.size, w3.heap.size, .slice a3 L.length c3, L) (by simp)).1.rd ((HK2.out.on hW).rows (w3.heap.size, w4.heap.size, .slice a4 L.length c4, L) (by simp)).1.rd).mono (fun e w' h => ⟨by rw [h.1]; simp [smB], hW.next h.2 (Nat.le_refl _)⟩), (same_any _ _ L L W ((HK2.out.on hW).rows (WR.heap.size, w11.heap.size, .slice a7 L.length c7, L) (by simp)).1.rd ((HK2.out.on hW).rows (w3.heap.size, w4.heap.size, .slice a4 L.length c4, L) (by simp)).1.rd).mono (fun e w' h => ⟨by rw [h.1]; simp [smB], hW.next h.2 (Nat.le_refl _)⟩), (same_any _ _ M M W ((HK2.out.on hW).rows (w4.heap.size, w5.heap.size, .slice a5 M.length c5, M) (by simp)).1.rd ((HK2.out.on hW).rows (w5.heap.size, w6.heap.size, .slice a6 M.length c6, M) (by simp)).1.rd).mono (fun e w' h => ⟨by rw [h.1]; simp [smB], hW.next h.2 (Nat.le_refl _)⟩)⟩
          go_upto_region 23 with (first
            | (have qq := G3.out; go_at_call 6; refine ((HSm.out _ G3.out).2.2.2).mono ?_; rintro e v4 ⟨rfl, hb9⟩; have G4 : Hid (Below w11.heap.size w11 v4) := hb9; clear hb9 qq)
            | (have qq := G2.out; go_at_call 6; refine ((HSm.out _ G2.out).2.2.1).mono ?_; rintro e v3 ⟨rfl, hb9⟩; have G3 : Hid (Below w11.heap.size w11 v3) := hb9; clear hb9 qq)
            | (have qq := G1.out; go_at_call 6; refine ((HSm.out _ G1.out).2.1).mono ?_; rintro e v2 ⟨rfl, hb9⟩; have G2 : Hid (Below w11.heap.size w11 v2) := hb9; clear hb9 qq)
            | (go_at_call 6; refine ((HSm.out _ (Below.refl _ _)).1).mono ?_; rintro e v1 ⟨rfl, hb9⟩; have G1 : Hid (Below w11.heap.size w11 v1) := hb9; clear hb9))
          have HK3 : Hid (Kp w b f g d p u b1 f1 g1 d1 p1 u1 [(W0.heap.size, w2.heap.size, .slice a2 L.length c2, L), (w2.heap.size, w3.heap.size, .slice a3 L.length c3, L), (w3.heap.size, w4.heap.size, .slice a4 L.length c4, L), (w4.heap.size, w5.heap.size, .slice a5 M.length c5, M), (w5.heap.size, w6.heap.size, .slice a6 M.length c6, M), (WR.heap.size, w11.heap.size, .slice a7 L.length c7, L)] v4) := HK2.out.on G4.out
          clear HSm G1 G2 G3
          have HAp : Hid (Calls Try.prog 7 #[.slice (some ⟨v4.heap.size, 0, none⟩) 4 4] (v4.alloc (.cells #[.slice a2 L.length c2, .slice a3 L.length c3, .slice a7 L.length c7, .slice a5 M.length c5] 25)) fun e w' => e = .returned (.bool true) ∧ Below W0.heap.size v4 w' ∧ ∀ k, some k = (Value.slice a4 L.length c4).ownBlock → w'.heap[k]? = v4.heap[k]?) := apart4 (HK3.out) Z2.out Z3.out Z4.out Z5.out Z6.out Z7.out.1 Z7.out.2 hLl hMl
          go_upto_region 25 with (go_at_call 7; refine HAp.out.mono ?_; rintro e v5 ⟨rfl, hb9, hq9⟩; have G5 : Hid (Below W0.heap.size v4 v5 ∧ ∀ k, some k = (Value.slice a4 L.length c4).ownBlock → v5.heap[k]? = v4.heap[k]?) := ⟨hb9, hq9⟩; clear hb9 hq9)
          have HC5 : Hid (Cb v5 w.heap.size b f g d p u ∧ OwnB w3.heap.size v5 (.slice a4 L.length c4) L ∧ Below w.heap.size w v5) := by
            have q0 := (HK3.out.rows (W0.heap.size, w2.heap.size, .slice a2 L.length c2, L) (by simp)).2.2.2
            have q1 := (HK3.out.rows (w3.heap.size, w4.heap.size, .slice a4 L.length c4, L) (by simp)).1
            have q0 : w.heap.size + 2 ≤ W0.heap.size := q0
            exact ⟨HK3.out.c0.on G5.out.1 (by omega), q1.keep fun k hk => G5.out.2 k hk.symm, HK3.out.bel.trans (G5.out.1.mono (by omega))⟩
          clear HAp HK3 HK2
          obtain ⟨k0, k1, k2, k3, k4, k5⟩ := HC5.out.1.cells
          go_upto_region 26 with (go_at_call 4; refine (HP0.out _).mono ?_; rintro e v6 ⟨a8, c8, rfl, ho8, bel8⟩)
          have HC6 : Hid (∀ W, Below v6.heap.size v6 W → Cb W w.heap.size b f g d p u ∧ OwnB w3.heap.size W (.slice a4 L.length c4) L ∧ Below w.heap.size w W ∧ OwnB v5.heap.size W (.slice a8 L.length c8) L) := fun W hW => by
            have hb9 := bel8.next hW (Nat.le_refl _)
            exact ⟨HC5.out.1.on hb9 HC5.out.1.lt, HC5.out.2.1.below hb9, HC5.out.2.2.next hb9 (Nat.le_refl _), ho8.below hW⟩
          clear k0 k1 k2 k3 k4 k5 ho8 bel8 HC5
          have HSm : Hid (Calls Try.prog 6 #[.slice a8 L.length c8, .slice a4 L.length c4] v6 fun e w' => e = .returned (.bool true) ∧ Below v6.heap.size v6 w' ∧ ∀ (j : Nat), w'.cell? ⟨w.heap.size, j, none⟩ = v6.cell? ⟨w.heap.size, j, none⟩) := (same_any _ _ L L v6 (HC6.out v6 (Below.refl _ _)).2.2.2.rd (HC6.out v6 (Below.refl _ _)).2.1.rd).mono (fun e w' h => ⟨by rw [h.1]; simp [smB], h.2, fun j => h.2.cell (p := ⟨w.heap.size, j, none⟩) (HC6.out v6 (Below.refl _ _)).1.lt⟩)
          have HFm : Hid (∀ W, Calls Try.prog 8 #[.agg #[.int .i64 b, .int .i64 f, .int .i64 g, .float .f64 d, .int .i64 p, .int .i64 u]] W fun e w' => e = .returned (.bool true) ∧ Below W.heap.size W w') := fun W => (formed_any b f g d p u W).mono fun e w' h => ⟨by rw [h.1, HFf.out], h.2⟩
          have HLu : Hid (∀ W, Calls Try.prog 9 #[.int .i64 7] W fun e w' => e = .returned (.int .i64 4) ∧ w' = W) := fun W => (luby_any 7 W (by omega) (by omega)).mono fun e w' h => ⟨by rw [h.1, lub7], h.2⟩
          obtain ⟨k0, k1, k2, k3, k4, k5⟩ := (HC6.out v6 (Below.refl _ _)).1.cells
          go_wp2_with (first
            | (go_at_call 6; refine HSm.out.mono ?_; rintro e h1' ⟨rfl, hb9, hq9⟩; have I1 : Hid (Below v6.heap.size v6 h1') := hb9; obtain ⟨j0, j1, j2, j3, j4, j5⟩ := (HC6.out _ hb9).1.cells; clear hb9 hq9)
            | (go_at_call 8; refine (HFm.out _).mono ?_; rintro e h2' ⟨rfl, hb9⟩; have I2 : Hid (Below v6.heap.size v6 h2') := I1.out.next hb9 (Nat.le_refl _); clear hb9)
            | (go_at_call 9; refine (HLu.out _).mono ?_; rintro e h3' ⟨rfl, hw9⟩; obtain rfl := hw9.symm; clear hw9))
          go_ret
          exact ⟨rfl, (HC6.out _ I2.out).2.2.1⟩
end Go.Proofs.Ythmejmnbbbiemaa.paceKeeps

/-
  PaceBegins, walked.
  KEEP: cells fz mp set2 formed_any beat_run walk putObj alloc same block size os tape output mono lt own new keep conf rest clr below grown step no yes done rd
-/
import Derived.Test.YthcbpdnaocpleabPcX
import Derived.Test.YthcbpdnaocpleabPcY
import Derived.Test.YthcbpdnaocpleabPcSp
import Derived.Deep.CutRange
import Derived.Deep.Cut
set_option linter.unusedSimpArgs false
set_option linter.unusedVariables false
namespace Go.Proofs.Ythcbpdnaocpleab.paceBegins
open Go Go.RowKit

theorem lub3 : lubI 3 = 2 := by
  have h := lub_last 1
  have e : lubI ((3 : Nat) : Int) = (lub 3 : Int) := lubI_nat (by omega)
  have e2 : lub 3 = 2 := h
  rw [e2] at e
  exact e
/-- of any list of plans -/
theorem begins_any {b f g : Int} {d : Nat} {p C C' : Int} (hC : 0 ≤ C) (hC1 : C ≤ C') (hC2 : C' ≤ 1048576) : plE b f g d p C = plE b f g d p C' ∧ decide (plE b f g d p C = 0) = fmC b f g d p ∧ (plL b f g d p C).length ≤ (plL b f g d p C').length ∧ (plL b f g d p C').take (plL b f g d p C).length = plL b f g d p C ∧
    (∀ q, q < (plL b f g d p C').length → (q < (plL b f g d p C).length ↔ ((plL b f g d p C').getD q (0, false)).1 ≤ C)) ∧ ((plL b f g d p C').length : Int) ≤ 1048576 := by
  unfold plE plL
  cases hf : fmC b f g d p
  · simp
  · have n1 : ¬ (C < 0 ∨ 1048576 < C) := by omega
    have n2 : ¬ (C' < 0 ∨ 1048576 < C') := by omega
    have hb : 1 ≤ b := by
      unfold fmC at hf
      simp only [Bool.and_eq_true] at hf
      exact (cnB_true.1 hf.1.1.1.1).1
    obtain ⟨h1, h2, h3⟩ := begins (f := f) (g := g) hb hC hC1
    have h4 := plF_len (f := f) (g := g) (C := C') hb (by omega)
    simp only [Bool.true_eq_false, if_false, if_neg n1, if_neg n2]
    exact ⟨by simp, by simp, h1, h2, h3, by omega⟩
theorem RdT.take {W : World} {a : Option Addr} {c : Nat} {L : List (Int × Bool)} (h : RdT W (.slice a L.length c) L) {m : Nat} (hm : m ≤ L.length) (c' : Nat) (hc : c' = c) : RdT W (.slice a m c') (L.take m) := by
  obtain ⟨a', c2, h1, h2, h3, h4⟩ := h
  injection h1 with e1 _ e2
  subst e1 e2 hc
  have hl : (L.take m).length = m := by simp; omega
  refine ⟨a, c', by rw [hl], by rw [hl]; omega, h3, fun j hj => ?_⟩
  rw [hl] at hj
  obtain ⟨g, e, hg, c0, c1⟩ := h4 j (by omega)
  have eq : (L.take m).getD j (0, false) = L.getD j (0, false) := by simp [List.getD_eq_getElem?_getD, List.getElem?_take, hj]
  exact ⟨g, e, hg, by rw [eq]; exact c0, by rw [eq]; exact c1⟩

set_option maxRecDepth 100000 in
set_option maxHeartbeats 6400000 in
theorem walk (b f g : Int) (d : Nat) (p u n m : Int) (w : World) (h1 : -9223372036854775808 ≤ n) (h2 : n ≤ 9223372036854775807) (h3 : -9223372036854775808 ≤ m) (h4 : m ≤ 9223372036854775807) :
    Calls Try.prog 5 #[.agg #[.int .i64 b, .int .i64 f, .int .i64 g, .float .f64 d, .int .i64 p, .int .i64 u], .int .i64 n, .int .i64 m] w fun e w' => e = .returned (.bool true) ∧ Below w.heap.size w w' := by
  have HC : Hid (Cb (w.alloc (.cells #[.int .i64 b, .int .i64 f, .int .i64 g, .float .f64 d, .int .i64 p, .int .i64 u] 26)) w.heap.size b f g d p u) := Cb.new _ _ _ _ _ _ _
  have HB : Hid (Below w.heap.size w (w.alloc (.cells #[.int .i64 b, .int .i64 f, .int .i64 g, .float .f64 d, .int .i64 p, .int .i64 u] 26))) := below_new _ _
  go_enter Try.func5, Try.ntmps5
  go_upto_region 1 with fail
  generalize w.alloc (.cells #[.int .i64 b, .int .i64 f, .int .i64 g, .float .f64 d, .int .i64 p, .int .i64 u] 26) = W1 at *
  go_cut [17] from 12 to 17 (fun u17 wx => u17 = .bool (decide (n < 0 ∨ 5000 < n)) ∧ wx = W1)
  case first =>
    rcases (by omega : n < 0 ∨ (5000 < n ∧ 0 ≤ n) ∨ (0 ≤ n ∧ n ≤ 5000)) with hn | ⟨hn2, hn⟩ | ⟨hn, hn2⟩
    · go_wp2_with fail
      go_meet
      exact ⟨by simp [hn], rfl⟩
    · go_wp2_with fail
      go_meet
      exact ⟨by simp [hn2], rfl⟩
    · go_wp2_with fail
      go_meet
      exact ⟨by congr 1; rw [Bool.eq_iff_iff]; simp; try omega, rfl⟩
  case rest =>
  obtain ⟨rfl, rfl⟩ := hcut
  obtain ⟨q, hq⟩ : ∃ q, decide (n < 0 ∨ 5000 < n) = q := ⟨_, rfl⟩
  rw [hq]
  have HNq : Hid (q = false → 0 ≤ n ∧ n ≤ 5000) := fun e => by rw [e] at hq; have := of_decide_eq_false hq; omega
  clear hq
  go_upto_if 17 with fail
  go_cut [1] from 17 to 17 (fun u1 wx => ∃ N : Nat, N ≤ 5000 ∧ u1 = .int .i64 N ∧ wx = wc)
  case first =>
    cases q
    · have h := HNq.out rfl
      go_wp2_with fail
      go_meet
      exact ⟨n.toNat, by omega, by rw [Int.toNat_of_nonneg h.1], rfl⟩
    · go_wp2_with fail
      go_meet
      exact ⟨5000, by omega, rfl, rfl⟩
  case rest =>
  obtain ⟨N, hN, rfl, rfl⟩ := hcut
  go_upto_region 3 with fail
  go_cut [23] from 18 to 23 (fun u23 wx => u23 = .bool (decide (m < 0 ∨ 5000 < m)) ∧ wx = wc)
  case first =>
    rcases (by omega : m < 0 ∨ (5000 < m ∧ 0 ≤ m) ∨ (0 ≤ m ∧ m ≤ 5000)) with hn | ⟨hn2, hn⟩ | ⟨hn, hn2⟩
    · go_wp2_with fail
      go_meet
      exact ⟨by simp [hn], rfl⟩
    · go_wp2_with fail
      go_meet
      exact ⟨by simp [hn2], rfl⟩
    · go_wp2_with fail
      go_meet
      exact ⟨by congr 1; rw [Bool.eq_iff_iff]; simp; try omega, rfl⟩
  case rest =>
  obtain ⟨rfl, rfl⟩ := hcut
  obtain ⟨q2, hq2⟩ : ∃ q, decide (m < 0 ∨ 5000 < m) = q := ⟨_, rfl⟩
  rw [hq2]
  have HNq2 : Hid (q2 = false → 0 ≤ m ∧ m ≤ 5000) := fun e => by rw [e] at hq2; have := of_decide_eq_false hq2; omega
  clear hq2
  go_upto_if 23 with fail
  go_cut [2] from 23 to 23 (fun u2 wx => ∃ M : Nat, M ≤ 5000 ∧ u2 = .int .i64 M ∧ wx = wc)
  case first =>
    cases q2
    · have h := HNq2.out rfl
      go_wp2_with fail
      go_meet
      exact ⟨m.toNat, by omega, by rw [Int.toNat_of_nonneg h.1], rfl⟩
    · go_wp2_with fail
      go_meet
      exact ⟨100, by omega, rfl, rfl⟩
  case rest =>
  obtain ⟨M, hM, rfl, rfl⟩ := hcut
  obtain ⟨j0, j1, j2, j3, j4, j5⟩ := HC.out.cells
  go_upto_region 6 with (go_at_call 8; refine (plan_any _ _ _ _ _ _ _ _).mono ?_; rintro e w2 ⟨v2, rfl, ho2, bel2⟩)
  have HC2 : Hid (Cb w2 w.heap.size b f g d p u) := HC.out.on bel2 HC.out.lt
  have HB2 : Hid (Below w.heap.size w w2) := HB.out.next bel2 (Nat.le_refl _)
  have HO2 : Hid (OwnB wc.heap.size w2 v2 (plL b f g d p (N : Int))) := ho2
  clear j0 j1 j2 j3 j4 j5 HC HB bel2 ho2
  obtain ⟨j0, j1, j2, j3, j4, j5⟩ := HC2.out.cells
  go_upto_region 7 with (go_at_call 8; refine (plan_any _ _ _ _ _ _ _ _).mono ?_; rintro e w3 ⟨v3, rfl, ho3, bel3⟩)
  have HC3 : Hid (Cb w3 w.heap.size b f g d p u) := HC2.out.on bel3 HC2.out.lt
  have HB3 : Hid (Below w.heap.size w w3) := HB2.out.next bel3 (Nat.le_refl _)
  have HO3 : Hid (OwnB w2.heap.size w3 v3 (plL b f g d p ((N : Int) + (M : Int)))) := ho3
  have HO2' : Hid (OwnB wc.heap.size w3 v2 (plL b f g d p (N : Int))) := HO2.out.below bel3
  clear j0 j1 j2 j3 j4 j5 HC2 HB2 bel3 ho3 HO2
  obtain ⟨j0, j1, j2, j3, j4, j5⟩ := HC3.out.cells
  obtain ⟨y1, y2, y3, y4, y5, y6⟩ := begins_any (b := b) (f := f) (g := g) (d := d) (p := p) (C := (N : Int)) (C' := (N : Int) + (M : Int)) (by omega) (by omega) (by omega)
  obtain ⟨A, hA⟩ : ∃ A, A = plL b f g d p (N : Int) := ⟨_, rfl⟩
  obtain ⟨B, hB⟩ : ∃ B, B = plL b f g d p ((N : Int) + (M : Int)) := ⟨_, rfl⟩
  obtain ⟨E, hE⟩ : ∃ E, E = plE b f g d p (N : Int) := ⟨_, rfl⟩
  obtain ⟨fm, hfm⟩ : ∃ fm, fm = fmC b f g d p := ⟨_, rfl⟩
  have HFm : Hid (∀ W, Calls Try.prog 9 #[.agg #[.int .i64 b, .int .i64 f, .int .i64 g, .float .f64 d, .int .i64 p, .int .i64 u]] W fun e w' => e = .returned (.bool fm) ∧ Below W.heap.size W w') := fun W => by rw [hfm]; exact formed_any b f g d p u W
  rw [← hA] at HO2' y3 y4 y5
  rw [← hB] at HO3 y3 y4 y5 y6
  rw [← hE] at y1 y2
  rw [← hfm] at y2
  rw [← y1, ← hE]
  have hE0 : (E == 0) = fm := by rw [← y2]; rw [Bool.eq_iff_iff]; simp
  obtain ⟨a2, c2, hv2⟩ := HO2'.out.form
  obtain ⟨a3, c3, hv3⟩ := HO3.out.form
  subst hv2
  subst hv3
  have HIff : Hid (∀ i, i < B.length → (i < A.length ↔ (B.getD i (0, false)).1 ≤ (N : Int))) := y5
  have HTk : Hid (B.take A.length = A) := y4
  have HD : Hid (∀ W, Below w3.heap.size w3 W → RdT W (.slice a2 A.length c2) A ∧ RdT W (.slice a3 B.length c3) B ∧ Below w.heap.size w W) := fun W h => ⟨(HO2'.out.below h).rd, (HO3.out.below h).rd, HB3.out.next h (Nat.le_refl _)⟩
  have hcap : A.length ≤ c2 ∧ c2 ≤ 9223372036854775807 ∧ B.length ≤ c3 ∧ c3 ≤ 9223372036854775807 := by
    obtain ⟨h2, h3, _⟩ := HD.out w3 (Below.refl _ _)
    obtain ⟨x1, x2, e1, e2, e3, _⟩ := h2
    obtain ⟨x3, x4, e4, e5, e6, _⟩ := h3
    injection e1 with _ _ e7
    injection e4 with _ _ e8
    unfold maxLen at e3 e6
    omega
  obtain ⟨hc2a, hc2b, hc3a, hc3b⟩ := hcap
  clear y1 y2 y4 y5 hA hB hE hfm HO2' HO3 HB3 HC3
  go_upto_region 9 with (go_at_call 9; refine (HFm.out _).mono ?_; rintro e w4 ⟨rfl, bel4⟩)
  have HB4 : Hid (Below w3.heap.size w3 w4) := bel4
  have HY3 : Hid (A.length ≤ B.length) := y3
  clear j0 j1 j2 j3 j4 j5 bel4 hE0 HFm
  go_wp2
  go_loopg [11] B.length (fun gk s11 wr => ∃ (i : Nat), i + gk = B.length ∧ s11 = .int .i64 i ∧ Below w3.heap.size w3 wr)
  case atStart => exact ⟨0, by omega, rfl, HB4.out⟩
  case round =>
    obtain ⟨i, hi, rfl, hbel⟩ := hrel
    have HI : Hid (i + gk = B.length) := hi
    have HBl : Hid (Below w3.heap.size w3 wr) := hbel
    by_cases hlt : i < B.length
    · obtain ⟨aa, cc, ea, -, -, hrow⟩ := (HD.out wr hbel).2.1
      obtain ⟨gg, eg, -, d0, d1⟩ := hrow i hlt
      have ea2 : a3 = aa := by injection ea
      clear ea
      subst ea2
      subst eg
      have hif := HIff.out i hlt
      obtain ⟨x, hx⟩ : ∃ x, x = (B.getD i (0, false)).1 := ⟨_, rfl⟩
      rw [← hx] at d0 hif
      clear hx d1 hrow hi hbel
      by_cases hil : i < A.length
      · have hxN : x ≤ (N : Int) := hif.1 hil
        clear hif
        go_wp2
        go_roundg (gk - 1)
        case measure => have := HI.out; omega
        case rel => exact ⟨i + 1, by have := HI.out; omega, by go_num, HBl.out⟩
      · have hxN : (N : Int) < x := by
          rcases Int.lt_or_le (N : Int) x with h | h
          · exact h
          · exact absurd (hif.2 h) hil
        clear hif
        go_wp2
        go_roundg (gk - 1)
        case measure => have := HI.out; omega
        case rel => exact ⟨i + 1, by have := HI.out; omega, by go_num, HBl.out⟩
    · have HSm : Hid (Calls Try.prog 11 #[.slice a2 A.length c2, .slice a3 A.length c3] wr fun e w' => e = .returned (.bool true) ∧ Below wr.heap.size wr w') := by
        obtain ⟨r2, r3, _⟩ := HD.out wr hbel
        have := same_any _ _ _ _ wr r2 (RdT.take r3 HY3.out c3 rfl)
        rw [HTk.out, show smB A A = true by simp [smB]] at this
        exact this
      have HLu : Hid (∀ W, Calls Try.prog 7 #[.int .i64 3] W fun e w' => e = .returned (.int .i64 2) ∧ w' = W) := fun W => by
        have := luby_any 3 W (by omega) (by omega)
        rwa [lub3] at this
      have hac3 : A.length ≤ c3 := by have := HY3.out; omega
      clear hi hbel
      go_wp2_with (first
        | (go_at_call 11; refine HSm.out.mono ?_; rintro e w5 ⟨rfl, bel5⟩)
        | (go_at_call 7; refine (HLu.out _).mono ?_; rintro e w6 ⟨rfl, rfl⟩))
      go_ret
      exact ⟨rfl, (HD.out _ (HBl.out.next bel5 (Nat.le_refl _))).2.2⟩
end Go.Proofs.Ythcbpdnaocpleab.paceBegins

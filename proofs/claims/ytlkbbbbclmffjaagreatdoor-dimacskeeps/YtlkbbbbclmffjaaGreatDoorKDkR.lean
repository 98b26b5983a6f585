/-
  DimacsKeeps: readsApart, walked.
  KEEP: set on app at below new trans refl start ap kept rd rds mono own row cells lt box from cell of nil len ans call add none vars cls err line keep
-/
import Derived.Test.YtlkbbbbclmffjaaGreatDoorJClW
import Derived.Test.YtlkbbbbclmffjaaGreatDoorJDmR
import Derived.Test.YtlkbbbbclmffjaaGreatDoorKSameF
import Derived.Test.YtlkbbbbclmffjaaGreatDoorJAparQW
set_option linter.unusedSimpArgs false
set_option linter.unusedVariables false
namespace Go.Proofs.YtlkbbbbclmffjaaGreatDoor
open Go Go.RowKit Go.Shelf

attribute [local go_sem] Oper.semAt_some
/-- what a Read answers, in plain words -/
def Rda (w : World) (n : Int) (cls : List (List Int)) (er ln : Int) (e : Ending) (w' : World) : Prop :=
  ∃ a c, e = .returned (.tuple #[.agg #[.int .i64 n, .slice a cls.length c], .int .i64 er, .int .i64 ln]) ∧ OwnF w.heap.size w' (.slice a cls.length c) cls ∧ Below w.heap.size w w'
theorem Rda.of {w w' : World} {A : RdA} {e : Ending} (h : RdS w A e w') : Rda w A.vars A.cls A.err (A.line : Int) e w' := by
  obtain ⟨v, he, ho, hb⟩ := h
  obtain ⟨a, c, hv⟩ := ownf_form ho
  subst hv
  exact ⟨a, c, he, ho, hb⟩
theorem four_row (W : World) {B : Nat} (hB : B ≤ W.heap.size) (f1 f2 f3 f4 : Int × Value × List Cls) : (W.alloc (.cells #[.int .i64 f1.1, f1.2.1, .int .i64 f2.1, f2.2.1, .int .i64 f3.1, f3.2.1, .int .i64 f4.1, f4.2.1] 24)).ownsRow B 24 2 (.slice (some ⟨W.heap.size, 0, none⟩) 4 4) 4 (fcells [f1, f2, f3, f4]) :=
  ⟨rfl, .inr ⟨W.heap.size, 4, _, rfl, hB, World.alloc_heap_new W _, Nat.le_refl _, by unfold maxLen; omega, rfl, rfl⟩⟩
/-- the blocks of a formula -/
def Fbk (s : Value) (L : List Cls) (k : Nat) : Prop := s.ownBlock = some k ∨ ∃ y ∈ L, y.1.ownBlock = some k
theorem OwnR.keep {B : Nat} {W W' : World} {s : Value} {L : List Cls} (h : OwnR B W s L) (hk : ∀ k, Fbk s L k → W'.heap[k]? = W.heap[k]?) : OwnR B W' s L :=
  ⟨row_kept h.row fun k e => hk k (.inl e.symm), fun x hx => row_kept (h.own x hx) fun k e => hk k (.inr ⟨x, hx, e.symm⟩), h.ap⟩
theorem ne_of_ap {x y : Value} {b : Nat} (h : x.ownBlock = none ∨ x.ownBlock ≠ y.ownBlock) (hx : x.ownBlock = some b) (hy : y.ownBlock = some b) : False := by
  rcases h with h | h
  · rw [hx] at h; cases h
  · exact h (hx.trans hy.symm)

set_option maxRecDepth 100000 in
set_option maxHeartbeats 6400000 in
theorem readsApart_any (s t : ByteArray) (w : World) (hs : s.data.toList.length ≤ 1048576) (ht : t.data.toList.length ≤ 1048576) :
    Calls Tryz.prog 15 #[.string s, .string t] w fun e w' => e = .returned (.bool true) ∧ Below w.heap.size w w' := by
  obtain ⟨A, hA⟩ : ∃ A, rdF s.data.toList = A := ⟨_, rfl⟩
  obtain ⟨C, hC⟩ : ∃ C, rdF t.data.toList = C := ⟨_, rfl⟩
  have HLa : Hid ((A.cls.length ≤ 1048576 ∧ ∀ x ∈ A.cls, x.length ≤ 1048576) ∧ C.cls.length ≤ 1048576 ∧ ∀ x ∈ C.cls, x.length ≤ 1048576) := by
    have h1 := rdF_len s.data.toList
    have h2 := rdF_len t.data.toList
    rw [hA] at h1
    rw [hC] at h2
    exact ⟨⟨by omega, fun x hx => Nat.le_trans (h1.2 x hx) hs⟩, by omega, fun x hx => Nat.le_trans (h2.2 x hx) ht⟩
  have HP : Hid (∀ W, Calls Tryz.prog 27 #[.string s] W (Rda W A.vars A.cls A.err (A.line : Int))) := fun W => (dimRead_any s W (by omega) (fun x _ => x.toNat_lt)).mono fun e w' h => by rw [hA] at h; exact Rda.of h
  have HPt : Hid (∀ W, Calls Tryz.prog 27 #[.string t] W (Rda W C.vars C.cls C.err (C.line : Int))) := fun W => (dimRead_any t W (by omega) (fun x _ => x.toNat_lt)).mono fun e w' h => by rw [hC] at h; exact Rda.of h
  have hs2 : s.size ≤ 1099511627776 := by have h5 := ba_len s; omega
  have ht2 : t.size ≤ 1099511627776 := by have h5 := ba_len t; omega
  have HR : Hid (∀ W, Calls Tryz.prog 28 #[.string s] W (Rda W A.vars A.cls A.err (A.line : Int))) := fun W => (rDimRead_any s W hs2).mono fun e w' h => by rw [hA] at h; exact Rda.of h
  have HRt : Hid (∀ W, Calls Tryz.prog 28 #[.string t] W (Rda W C.vars C.cls C.err (C.line : Int))) := fun W => (rDimRead_any t W ht2).mono fun e w' h => by rw [hC] at h; exact Rda.of h
  clear hA hC hs ht hs2 ht2
  obtain ⟨n, css, er, ln⟩ := A
  obtain ⟨m, dss, es, lm⟩ := C
  dsimp only at HLa HP HPt HR HRt
  generalize (ln : Int) = li at *
  generalize (lm : Int) = lj at *
  have HK0 : Hid (Kx w w.heap.size w w [] []) := Kx.start (Below.refl _ _) (Nat.le_refl _) (Nat.le_refl _)
  go_enter Tryz.func15, Tryz.ntmps15
  go_wp2_with fail
  refine Calls.mono (HP.out _) ?_
  rintro e w1 ⟨a1, c1, rfl, o1, b1⟩
  obtain ⟨L1, e1, k1⟩ := HK0.out.ans b1 o1 n
  have HK1 : Hid (Kx w w.heap.size w (w1.alloc (.cells #[.int .i64 n, .slice a1 css.length c1] 24)) _ _) := k1
  clear o1 b1 k1
  go_wp2_with fail
  generalize w1.alloc (.cells #[.int .i64 n, .slice a1 css.length c1] 24) = x1 at *
  refine Calls.mono (HP.out _) ?_
  rintro e w2 ⟨a2, c2, rfl, o1, b1⟩
  obtain ⟨L2, e2, k1⟩ := HK1.out.ans b1 o1 n
  have HK2 : Hid (Kx w w.heap.size w (w2.alloc (.cells #[.int .i64 n, .slice a2 css.length c2] 24)) _ _) := k1
  clear o1 b1 k1
  go_wp2_with fail
  generalize w2.alloc (.cells #[.int .i64 n, .slice a2 css.length c2] 24) = x2 at *
  refine Calls.mono (HPt.out _) ?_
  rintro e w3 ⟨a3, c3, rfl, o1, b1⟩
  obtain ⟨L3, e3, k1⟩ := HK2.out.ans b1 o1 m
  have HK3 : Hid (Kx w w.heap.size w (w3.alloc (.cells #[.int .i64 m, .slice a3 dss.length c3] 24)) _ _) := k1
  clear o1 b1 k1
  go_wp2_with fail
  generalize w3.alloc (.cells #[.int .i64 m, .slice a3 dss.length c3] 24) = x3 at *
  refine Calls.mono (HP.out _) ?_
  rintro e w4 ⟨a4, c4, rfl, o1, b1⟩
  obtain ⟨L4, e4, k1⟩ := HK3.out.ans b1 o1 n
  have HK4 : Hid (Kx w w.heap.size w (w4.alloc (.cells #[.int .i64 n, .slice a4 css.length c4] 24)) _ _) := k1
  clear o1 b1 k1
  go_wp2_with fail
  generalize w4.alloc (.cells #[.int .i64 n, .slice a4 css.length c4] 24) = x4 at *
  refine Calls.mono (HR.out _) ?_
  rintro e w5 ⟨a5, c5, rfl, o1, b1⟩
  obtain ⟨L5, e5, k1⟩ := HK4.out.ans b1 o1 n
  have HK5 : Hid (Kx w w.heap.size w (w5.alloc (.cells #[.int .i64 n, .slice a5 css.length c5] 24)) _ _) := k1
  clear o1 b1 k1
  go_wp2_with fail
  generalize w5.alloc (.cells #[.int .i64 n, .slice a5 css.length c5] 24) = x5 at *
  refine Calls.mono (HRt.out _) ?_
  rintro e w6 ⟨a6, c6, rfl, o1, b1⟩
  obtain ⟨L6, e6, k1⟩ := HK5.out.ans b1 o1 m
  have HK6 : Hid (Kx w w.heap.size w (w6.alloc (.cells #[.int .i64 m, .slice a6 dss.length c6] 24)) [(w1.heap.size, .int .i64 n, .slice a1 css.length c1), (w2.heap.size, .int .i64 n, .slice a2 css.length c2), (w3.heap.size, .int .i64 m, .slice a3 dss.length c3), (w4.heap.size, .int .i64 n, .slice a4 css.length c4), (w5.heap.size, .int .i64 n, .slice a5 css.length c5), (w6.heap.size, .int .i64 m, .slice a6 dss.length c6)] [(n, .slice a1 css.length c1, L1), (n, .slice a2 css.length c2, L2), (m, .slice a3 dss.length c3, L3), (n, .slice a4 css.length c4, L4), (n, .slice a5 css.length c5, L5), (m, .slice a6 dss.length c6, L6)]) := k1
  clear o1 b1 k1
  clear HK0 HK1 HK2 HK3 HK4 HK5
  have HKw : Hid (∀ W, Below (w6.alloc (.cells #[.int .i64 m, .slice a6 dss.length c6] 24)).heap.size (w6.alloc (.cells #[.int .i64 m, .slice a6 dss.length c6] 24)) W → Kx w w.heap.size w W [(w1.heap.size, .int .i64 n, .slice a1 css.length c1), (w2.heap.size, .int .i64 n, .slice a2 css.length c2), (w3.heap.size, .int .i64 m, .slice a3 dss.length c3), (w4.heap.size, .int .i64 n, .slice a4 css.length c4), (w5.heap.size, .int .i64 n, .slice a5 css.length c5), (w6.heap.size, .int .i64 m, .slice a6 dss.length c6)] [(n, .slice a1 css.length c1, L1), (n, .slice a2 css.length c2, L2), (m, .slice a3 dss.length c3, L3), (n, .slice a4 css.length c4, L4), (n, .slice a5 css.length c5, L5), (m, .slice a6 dss.length c6, L6)]) := fun W h => HK6.out.below h
  have HEs : Hid (L1.map Prod.snd = css ∧ L2.map Prod.snd = css ∧ L3.map Prod.snd = dss ∧ L4.map Prod.snd = css ∧ L5.map Prod.snd = css ∧ L6.map Prod.snd = dss) := ⟨e1, e2, e3, e4, e5, e6⟩
  have HQz : Hid ((css.length * 24 ≤ 140737488351232 ∧ ∀ z ∈ css, z.length * 8 ≤ 140737488351232) ∧ dss.length * 24 ≤ 140737488351232 ∧ ∀ z ∈ dss, z.length * 8 ≤ 140737488351232) := by
    have hl := HLa.out
    exact ⟨⟨by omega, fun z hz => by have := hl.1.2 z hz; omega⟩, by omega, fun z hz => by have := hl.2.2 z hz; omega⟩
  have HRd : Hid (∀ W, Kx w w.heap.size w W [(w1.heap.size, .int .i64 n, .slice a1 css.length c1), (w2.heap.size, .int .i64 n, .slice a2 css.length c2), (w3.heap.size, .int .i64 m, .slice a3 dss.length c3), (w4.heap.size, .int .i64 n, .slice a4 css.length c4), (w5.heap.size, .int .i64 n, .slice a5 css.length c5), (w6.heap.size, .int .i64 m, .slice a6 dss.length c6)] [(n, .slice a1 css.length c1, L1), (n, .slice a2 css.length c2, L2), (m, .slice a3 dss.length c3, L3), (n, .slice a4 css.length c4, L4), (n, .slice a5 css.length c5, L5), (m, .slice a6 dss.length c6, L6)] → Rds W (.slice a1 css.length c1) css ∧ Rds W (.slice a2 css.length c2) css ∧ Rds W (.slice a3 dss.length c3) dss ∧ Rds W (.slice a4 css.length c4) css ∧ Rds W (.slice a5 css.length c5) css ∧ Rds W (.slice a6 dss.length c6) dss) := fun W h => by
    obtain ⟨⟨q1, q3⟩, q2, q4⟩ := HQz.out
    exact ⟨h.rds (n := n) (L := L1) (by simp) HEs.out.1 q1 q3, h.rds (n := n) (L := L2) (by simp) HEs.out.2.1 q1 q3, h.rds (n := m) (L := L3) (by simp) HEs.out.2.2.1 q2 q4, h.rds (n := n) (L := L4) (by simp) HEs.out.2.2.2.1 q1 q3, h.rds (n := n) (L := L5) (by simp) HEs.out.2.2.2.2.1 q1 q3, h.rds (n := m) (L := L6) (by simp) HEs.out.2.2.2.2.2 q2 q4⟩
  clear e1 e2 e3 e4 e5 e6
  have hee : (er != er) = false := by simp
  have p10 := (HK6.out.bx (w1.heap.size, .int .i64 n, .slice a1 css.length c1) (by simp)).1.c0
  have p11 := (HK6.out.bx (w1.heap.size, .int .i64 n, .slice a1 css.length c1) (by simp)).1.c1
  have p50 := (HK6.out.bx (w5.heap.size, .int .i64 n, .slice a5 css.length c5) (by simp)).1.c0
  have p51 := (HK6.out.bx (w5.heap.size, .int .i64 n, .slice a5 css.length c5) (by simp)).1.c1
  go_wp2_with fail
  generalize w6.alloc (.cells #[.int .i64 m, .slice a6 dss.length c6] 24) = x6 at *
  refine Calls.mono (sameFormula_self n _ _ css x6 (HRd.out _ HK6.out).1 (HRd.out _ HK6.out).2.2.2.2.1) ?_
  rintro e y1 ⟨rfl, b1⟩
  have HB1 : Hid (Below x6.heap.size x6 y1) := b1
  clear b1
  clear p10 p11 p50 p51
  have HKy := HKw.out y1 HB1.out
  have p20 := (HKy.bx (w2.heap.size, .int .i64 n, .slice a2 css.length c2) (by simp)).1.c0
  have p21 := (HKy.bx (w2.heap.size, .int .i64 n, .slice a2 css.length c2) (by simp)).1.c1
  have p50 := (HKy.bx (w5.heap.size, .int .i64 n, .slice a5 css.length c5) (by simp)).1.c0
  have p51 := (HKy.bx (w5.heap.size, .int .i64 n, .slice a5 css.length c5) (by simp)).1.c1
  clear HKy
  go_wp2_with fail
  refine Calls.mono (sameFormula_self n _ _ css y1 (HRd.out _ (HKw.out y1 HB1.out)).2.1 (HRd.out _ (HKw.out y1 HB1.out)).2.2.2.2.1) ?_
  rintro e y2 ⟨rfl, b1⟩
  have HB2 : Hid (Below x6.heap.size x6 y2) := Below.step HB1.out b1
  clear b1
  clear p20 p21 p50 p51
  have HKy := HKw.out y2 HB2.out
  have p30 := (HKy.bx (w3.heap.size, .int .i64 m, .slice a3 dss.length c3) (by simp)).1.c0
  have p31 := (HKy.bx (w3.heap.size, .int .i64 m, .slice a3 dss.length c3) (by simp)).1.c1
  have p60 := (HKy.bx (w6.heap.size, .int .i64 m, .slice a6 dss.length c6) (by simp)).1.c0
  have p61 := (HKy.bx (w6.heap.size, .int .i64 m, .slice a6 dss.length c6) (by simp)).1.c1
  clear HKy
  go_wp2_with fail
  refine Calls.mono (sameFormula_self m _ _ dss y2 (HRd.out _ (HKw.out y2 HB2.out)).2.2.1 (HRd.out _ (HKw.out y2 HB2.out)).2.2.2.2.2) ?_
  rintro e y3 ⟨rfl, b1⟩
  have HB3 : Hid (Below x6.heap.size x6 y3) := Below.step HB2.out b1
  clear b1
  clear p30 p31 p60 p61
  have HKy := HKw.out y3 HB3.out
  have p40 := (HKy.bx (w4.heap.size, .int .i64 n, .slice a4 css.length c4) (by simp)).1.c0
  have p41 := (HKy.bx (w4.heap.size, .int .i64 n, .slice a4 css.length c4) (by simp)).1.c1
  have p50 := (HKy.bx (w5.heap.size, .int .i64 n, .slice a5 css.length c5) (by simp)).1.c0
  have p51 := (HKy.bx (w5.heap.size, .int .i64 n, .slice a5 css.length c5) (by simp)).1.c1
  clear HKy
  go_wp2_with fail
  refine Calls.mono (sameFormula_self n _ _ css y3 (HRd.out _ (HKw.out y3 HB3.out)).2.2.2.1 (HRd.out _ (HKw.out y3 HB3.out)).2.2.2.2.1) ?_
  rintro e y4 ⟨rfl, b1⟩
  have HB4 : Hid (Below x6.heap.size x6 y4) := Below.step HB3.out b1
  clear b1
  clear p40 p41 p50 p51
  have HKy := HKw.out y4 HB4.out
  have p10 := (HKy.bx (w1.heap.size, .int .i64 n, .slice a1 css.length c1) (by simp)).1.c0
  have p11 := (HKy.bx (w1.heap.size, .int .i64 n, .slice a1 css.length c1) (by simp)).1.c1
  have p20 := (HKy.bx (w2.heap.size, .int .i64 n, .slice a2 css.length c2) (by simp)).1.c0
  have p21 := (HKy.bx (w2.heap.size, .int .i64 n, .slice a2 css.length c2) (by simp)).1.c1
  have p30 := (HKy.bx (w3.heap.size, .int .i64 m, .slice a3 dss.length c3) (by simp)).1.c0
  have p31 := (HKy.bx (w3.heap.size, .int .i64 m, .slice a3 dss.length c3) (by simp)).1.c1
  have p40 := (HKy.bx (w4.heap.size, .int .i64 n, .slice a4 css.length c4) (by simp)).1.c0
  have p41 := (HKy.bx (w4.heap.size, .int .i64 n, .slice a4 css.length c4) (by simp)).1.c1
  clear HKy
  have HRow : Hid ((y4.alloc (.cells #[.int .i64 n, .slice a1 css.length c1, .int .i64 n, .slice a2 css.length c2, .int .i64 m, .slice a3 dss.length c3, .int .i64 n, .slice a4 css.length c4] 24)).ownsRow w.heap.size 24 2 (.slice (some ⟨y4.heap.size, 0, none⟩) 4 4) 4 (fcells [(n, .slice a1 css.length c1, L1), (n, .slice a2 css.length c2, L2), (m, .slice a3 dss.length c3, L3), (n, .slice a4 css.length c4, L4)])) := four_row y4 (HKw.out y4 HB4.out).sz (n, .slice a1 css.length c1, L1) (n, .slice a2 css.length c2, L2) (m, .slice a3 dss.length c3, L3) (n, .slice a4 css.length c4, L4)
  have HBX : Hid (Below x6.heap.size x6 (y4.alloc (.cells #[.int .i64 n, .slice a1 css.length c1, .int .i64 n, .slice a2 css.length c2, .int .i64 m, .slice a3 dss.length c3, .int .i64 n, .slice a4 css.length c4] 24))) := Below.step HB4.out (below_box _ _)
  go_wp2_with fail
  generalize y4.alloc (.cells #[.int .i64 n, .slice a1 css.length c1, .int .i64 n, .slice a2 css.length c2, .int .i64 m, .slice a3 dss.length c3, .int .i64 n, .slice a4 css.length c4] 24) = yX at *
  clear p10 p11 p20 p21 p30 p31 p40 p41
  have HKX : Hid (Kx w w.heap.size w yX [(w1.heap.size, .int .i64 n, .slice a1 css.length c1), (w2.heap.size, .int .i64 n, .slice a2 css.length c2), (w3.heap.size, .int .i64 m, .slice a3 dss.length c3), (w4.heap.size, .int .i64 n, .slice a4 css.length c4), (w5.heap.size, .int .i64 n, .slice a5 css.length c5), (w6.heap.size, .int .i64 m, .slice a6 dss.length c6)] [(n, .slice a1 css.length c1, L1), (n, .slice a2 css.length c2, L2), (m, .slice a3 dss.length c3, L3), (n, .slice a4 css.length c4, L4), (n, .slice a5 css.length c5, L5), (m, .slice a6 dss.length c6, L6)]) := HKw.out yX HBX.out
  have HAp : Hid ((List.map Prod.snd ([(n, .slice a1 css.length c1, L1), (n, .slice a2 css.length c2, L2), (m, .slice a3 dss.length c3, L3), (n, .slice a4 css.length c4, L4)] : List (Int × Value × List Cls))).Pairwise (fun x y => x.1.ownBlock = none ∨ x.1.ownBlock ≠ y.1.ownBlock) ∧ (∀ x ∈ List.map Prod.snd ([(n, .slice a1 css.length c1, L1), (n, .slice a2 css.length c2, L2), (m, .slice a3 dss.length c3, L3), (n, .slice a4 css.length c4, L4)] : List (Int × Value × List Cls)), x.1.ownBlock = none ∨ x.1.ownBlock ≠ (Value.slice a5 css.length c5).ownBlock) ∧ ApartC ((List.map Prod.snd ([(n, .slice a1 css.length c1, L1), (n, .slice a2 css.length c2, L2), (m, .slice a3 dss.length c3, L3), (n, .slice a4 css.length c4, L4)] : List (Int × Value × List Cls))).flatMap Prod.snd) ∧ (∀ x ∈ (List.map Prod.snd ([(n, .slice a1 css.length c1, L1), (n, .slice a2 css.length c2, L2), (m, .slice a3 dss.length c3, L3), (n, .slice a4 css.length c4, L4)] : List (Int × Value × List Cls))).flatMap Prod.snd, ∀ y ∈ L5, x.1.ownBlock = none ∨ x.1.ownBlock ≠ y.1.ownBlock)) := by
    have h1 := HKX.out.apR
    have h2 := HKX.out.apL
    have f1 : List.map Prod.snd ([(n, .slice a1 css.length c1, L1), (n, .slice a2 css.length c2, L2), (m, .slice a3 dss.length c3, L3), (n, .slice a4 css.length c4, L4), (n, .slice a5 css.length c5, L5), (m, .slice a6 dss.length c6, L6)] : List (Int × Value × List Cls)) = List.map Prod.snd ([(n, .slice a1 css.length c1, L1), (n, .slice a2 css.length c2, L2), (m, .slice a3 dss.length c3, L3), (n, .slice a4 css.length c4, L4)] : List (Int × Value × List Cls)) ++ [(.slice a5 css.length c5, L5), (.slice a6 dss.length c6, L6)] := rfl
    rw [f1] at h1 h2
    rw [List.flatMap_append] at h2
    have g1 := List.pairwise_append.1 h1
    have g2 := List.pairwise_append.1 h2
    exact ⟨g1.1, fun x hx => g1.2.2 x hx (Value.slice a5 css.length c5, L5) (List.mem_cons_self ..), g2.1, fun x hx y hy => g2.2.2 x hx y (List.mem_flatMap.2 ⟨(Value.slice a5 css.length c5, L5), List.mem_cons_self .., hy⟩)⟩
  have HOw : Hid ((∀ x ∈ ([(n, .slice a1 css.length c1, L1), (n, .slice a2 css.length c2, L2), (m, .slice a3 dss.length c3, L3), (n, .slice a4 css.length c4, L4)] : List (Int × Value × List Cls)), OwnR w.heap.size yX x.2.1 x.2.2) ∧ OwnR w.heap.size yX (.slice a5 css.length c5) L5 ∧ Bx2 yX w5.heap.size 24 (.int .i64 n) (.slice a5 css.length c5)) :=
    ⟨fun x hx => HKX.out.own x (by simp only [List.mem_cons, List.not_mem_nil, or_false] at hx ⊢; rcases hx with h | h | h | h <;> simp [h]), HKX.out.own (n, .slice a5 css.length c5, L5) (by simp), (HKX.out.bx (w5.heap.size, .int .i64 n, .slice a5 css.length c5) (by simp)).1⟩
  have HLs : Hid (∀ x ∈ (List.map Prod.snd ([(n, .slice a1 css.length c1, L1), (n, .slice a2 css.length c2, L2), (m, .slice a3 dss.length c3, L3), (n, .slice a4 css.length c4, L4)] : List (Int × Value × List Cls))).flatMap Prod.snd, ∃ y ∈ ([(n, .slice a1 css.length c1, L1), (n, .slice a2 css.length c2, L2), (m, .slice a3 dss.length c3, L3), (n, .slice a4 css.length c4, L4)] : List (Int × Value × List Cls)), x ∈ y.2.2) := fun x hx => by
    obtain ⟨y, hy, h5⟩ := List.mem_flatMap.1 hx
    obtain ⟨z, hz, rfl⟩ := List.mem_map.1 hy
    exact ⟨z, hz, h5⟩
  have HLn : Hid (L1.length = css.length ∧ L2.length = css.length ∧ L3.length = dss.length ∧ L4.length = css.length ∧ L5.length = css.length) := by
    obtain ⟨q1, q2, q3, q4, q5, q6⟩ := HEs.out
    exact ⟨by rw [← q1, List.length_map], by rw [← q2, List.length_map], by rw [← q3, List.length_map], by rw [← q4, List.length_map], by rw [← q5, List.length_map]⟩
  refine Calls.mono (apartFormulas_q (fun k => Fbk (.slice a5 css.length c5) L5 k ∨ k = w5.heap.size) w.heap.size _ ([(n, .slice a1 css.length c1, L1), (n, .slice a2 css.length c2, L2), (m, .slice a3 dss.length c3, L3), (n, .slice a4 css.length c4, L4)] : List (Int × Value × List Cls)) yX HKX.out.sz HRow.out HOw.out.1 HAp.out.1 HAp.out.2.2.1 (by simp)
    (by
      obtain ⟨q1, q2, q3, q4, q5⟩ := HLn.out
      have hl := HLa.out
      simp only [List.map_cons, List.map_nil, List.flatMap_cons, List.flatMap_nil, List.length_append, List.length_nil]
      omega)
    (fun x hx => by
      obtain ⟨q1, q2, q3, q4, q5, q6⟩ := HEs.out
      obtain ⟨⟨_, z1⟩, _, z2⟩ := HQz.out
      obtain ⟨y, hy, h5⟩ := HLs.out x hx
      have key : ∀ {L : List Cls} {cs : List (List Int)}, L.map Prod.snd = cs → (∀ z ∈ cs, z.length * 8 ≤ 140737488351232) → x ∈ L → x.2.length * 8 ≤ 140737488353280 := fun {L cs} e h hm => by
        have := h x.2 (by rw [← e]; exact List.mem_map.2 ⟨x, hm, rfl⟩)
        omega
      simp only [List.mem_cons, List.not_mem_nil, or_false] at hy
      rcases hy with rfl | rfl | rfl | rfl
      · exact key q1 z1 h5
      · exact key q2 z1 h5
      · exact key q3 z2 h5
      · exact key q4 z1 h5)
    (fun k hk => by
      rcases hk with (hk | ⟨y, hy, hk⟩) | hk
      · exact (HOw.out.2.1.row.lt k hk).2
      · exact (World.ownsRow.lt (HOw.out.2.1.own y hy) k hk).2
      · rw [hk]; exact HOw.out.2.2.lt)
    (fun x hx b hb hq => by
      obtain ⟨y, hy, h5⟩ := List.mem_map.1 hx
      have hrow := (HOw.out.1 y hy).row
      rw [h5] at hrow
      rcases hq with (hq | ⟨z, hz, hq⟩) | hq
      · exact ne_of_ap (HAp.out.2.1 x hx) hb hq
      · exact block_apart (by decide) hrow (HOw.out.2.1.own z hz) hq hb
      · subst hq; exact HOw.out.2.2.not_row (by decide) hrow hb.symm)
    (fun x hx b hb hq => by
      obtain ⟨y, hy, h5⟩ := HLs.out x hx
      have hlist := (HOw.out.1 y hy).own x h5
      rcases hq with (hq | ⟨z, hz, hq⟩) | hq
      · exact block_apart (by decide) HOw.out.2.1.row hlist hb hq
      · exact ne_of_ap (HAp.out.2.2.2 x hx z hz) hb hq
      · subst hq; exact HOw.out.2.2.not_row (by decide) hlist hb.symm)) ?_
  rintro e yY ⟨rfl, bY, qY⟩
  have HY : Hid (OwnR w.heap.size yY (.slice a5 css.length c5) L5 ∧ Bx2 yY w5.heap.size 24 (.int .i64 n) (.slice a5 css.length c5) ∧ Below w.heap.size w yY) :=
    ⟨OwnR.keep HOw.out.2.1 (fun k hk => qY k (.inl hk)), (qY _ (.inr rfl)).trans HOw.out.2.2, HKX.out.bel.trans bY⟩
  clear bY qY HRow HAp HOw HLs HKX
  go_wp2_with fail
  refine Calls.mono (HP.out _) ?_
  rintro e yZ ⟨a9, c9, rfl, o9, b9⟩
  have HZ : Hid (OwnF yY.heap.size (yZ.alloc (.cells #[.int .i64 n, .slice a9 css.length c9] 24)) (.slice a9 css.length c9) css ∧ Bx2 (yZ.alloc (.cells #[.int .i64 n, .slice a9 css.length c9] 24)) yZ.heap.size 24 (.int .i64 n) (.slice a9 css.length c9) ∧ OwnR w.heap.size (yZ.alloc (.cells #[.int .i64 n, .slice a9 css.length c9] 24)) (.slice a5 css.length c5) L5 ∧ Bx2 (yZ.alloc (.cells #[.int .i64 n, .slice a9 css.length c9] 24)) w5.heap.size 24 (.int .i64 n) (.slice a5 css.length c5) ∧ Below w.heap.size w (yZ.alloc (.cells #[.int .i64 n, .slice a9 css.length c9] 24))) :=
    ⟨o9.below (below_box _ _), Bx2.new _ _ _ _, (HY.out.1.below b9).below (below_box _ _), (HY.out.2.1.below b9).below (below_box _ _), Below.step (Below.step HY.out.2.2 b9) (below_box _ _)⟩
  have z0 := HZ.out.2.1.c0
  have z1 := HZ.out.2.1.c1
  have z2 := HZ.out.2.2.2.1.c0
  have z3 := HZ.out.2.2.2.1.c1
  clear o9 b9
  go_wp2_with fail
  generalize yZ.alloc (.cells #[.int .i64 n, .slice a9 css.length c9] 24) = yW at *
  refine Calls.mono (sameFormula_self n _ _ css yW (HZ.out.1.rds HQz.out.1.1 HQz.out.1.2) (OwnF.rds ⟨L5, HZ.out.2.2.1, HEs.out.2.2.2.2.1⟩ HQz.out.1.1 HQz.out.1.2)) ?_
  rintro e yF ⟨rfl, bF⟩
  have HBF : Hid (Below w.heap.size w yF) := Below.step HZ.out.2.2.2.2 bF
  clear bF
  go_wp2
  go_ret
  exact ⟨rfl, HBF.out⟩
end Go.Proofs.YtlkbbbbclmffjaaGreatDoor

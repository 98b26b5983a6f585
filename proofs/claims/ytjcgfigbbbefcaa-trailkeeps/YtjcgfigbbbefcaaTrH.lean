/-
  trail: the document's answers that change it, or make lists, walked.
  KEEP: set on app at below new trans refl start ap kept rd rds mono
-/
import Derived.Test.YtjcgfigbbbefcaaTrG
set_option linter.unusedSimpArgs false
set_option linter.unusedVariables false
namespace Go.Proofs.Ytjcgfigbbbefcaa
open Go Go.RowKit

theorem cell3_new (w : World) (x y z : Value) (t : TypeId) : ∀ j u, [x, y, z][j]? = some u → (w.alloc (.cells #[x, y, z] t)).cell? ((⟨w.heap.size, 0, none⟩ : Addr).add j) = some u := by
  intro j u hj
  have hh := World.alloc_heap_new w (.cells #[x, y, z] t)
  rw [Addr.add_lit]
  show (match (w.alloc (.cells #[x, y, z] t)).heap[w.heap.size]? with | some (Obj.cells c elem frozen) => c[0 + j]? | x => none) = _
  rw [hh, Nat.zero_add, ← hj]
  simp

set_option maxHeartbeats 3200000 in
theorem rDecide_any (b : Nat) (u : Value) (n : Nat) (R : List Pl) (l : Int) (w : World) (h : Rf w b u n R) :
    Calls Try.prog 30 #[.pointer (some ⟨b, 0, none⟩), .int .i64 l] w fun e w' => e = .returned (.int .i64 (refL n R l)) ∧ ∃ u', Rf w' b u' n (decF n R l) ∧ Mg w (rown b u) w' (rown b u') := by
  have HR : Hid (Rf w b u n R) := h
  have hlen := h.ok.len
  have hnow := now_le R
  have hN := h.n
  obtain ⟨i0, hi, hz0, hz1, hz2⟩ := info_parts infoPl
  obtain ⟨a, c, rfl⟩ := row_form' h.row
  cases hl : litN n l with
  | false =>
    have e0 : refL n R l = 1 := by unfold refL; rw [if_neg (by simp [hl])]
    rw [e0, show decF n R l = R by unfold decF; rw [if_neg (by rw [e0]; decide)]]
    clear h e0
    go_enter Try.func30, Try.ntmps30
    go_wp2_with fail
    refine (rOwn_any b _ n R l w HR.out).mono ?_
    rw [hl]
    rintro e w1 ⟨rfl, rfl⟩
    go_wp2
    go_ret
    exact ⟨rfl, _, HR.out, Mg.refl _ _⟩
  | true =>
    have hrf := refL_at (R := R) hl
    clear h
    cases hf : fnd R l.natAbs with
    | some p =>
      have e0 : refL n R l = 50 := by rw [hrf, hf]; simp
      rw [e0, show decF n R l = R by unfold decF; rw [if_neg (by rw [e0]; decide)]]
      clear e0 hrf
      have HFs : Hid (fnd R l.natAbs = some p) := hf
      clear hf
      go_enter Try.func30, Try.ntmps30
      go_wp2_with fail
      refine (rOwn_any b _ n R l w HR.out).mono ?_
      rw [hl]
      rintro e w1 ⟨rfl, rfl⟩
      go_wp2_with fail
      refine (rAt_any b _ n R l w1 HR.out hl).mono ?_
      rintro e w2 ⟨z, rfl, hz, rfl⟩
      rcases hz with ⟨rfl, hf⟩ | ⟨i, hi2, rfl, hf⟩
      · rw [HFs.out] at hf; cases hf
      · clear hf
        go_wp2
        go_ret
        exact ⟨rfl, _, HR.out, Mg.refl _ _⟩
    | none =>
      have e0 : refL n R l = 0 := by rw [hrf, hf]; simp
      clear hrf
      have HFs : Hid (fnd R l.natAbs = none) := hf
      have H0 : Hid (refL n R l = 0) := e0
      clear hf
      rw [e0, show decF n R l = R ++ [(⟨l, now R + 1, -1⟩ : Pl)] by unfold decF; rw [if_pos e0]]
      clear e0
      have HOk : Hid (okT n (R ++ [(⟨l, now R + 1, -1⟩ : Pl)])) := by
        have := decF_ok (l := l) HR.out.ok
        unfold decF at this
        rwa [if_pos H0.out] at this
      have HNw : Hid (now (R ++ [(⟨l, now R + 1, -1⟩ : Pl)]) = now R + 1) := by show _ = _; rw [now_snoc]; simp [dcs]
      have hq1 := HR.out.q.setN ((now R : Int) + 1)
      have c2 := HR.out.box.c.2.2
      have z2 := HR.out.box.fz 2
      have HQ1 : Hid (_ ∧ _) := hq1
      clear hq1
      generalize hNR : now R = N at *
      have HNR : Hid (now R = N) := hNR
      clear hNR
      go_enter Try.func30, Try.ntmps30
      go_wp2_with fail
      refine (rOwn_any b _ n R l w HR.out).mono ?_
      rw [hl]
      rintro e w1 ⟨rfl, rfl⟩
      go_wp2_with fail
      refine (rAt_any b _ n R l w1 HR.out hl).mono ?_
      rintro e w2 ⟨z, rfl, hz, rfl⟩
      rcases hz with ⟨rfl, hf⟩ | ⟨i, hi2, rfl, hf⟩
      case inr => rw [HFs.out] at hf; cases hf
      clear hf
      go_upto_region 6 with fail
      generalize hW1 : w2.setCell ⟨b, 2, none⟩ (.int .i64 ((N : Int) + 1)) = W1 at *
      clear hW1
      have hbel : Below W1.heap.size W1 (W1.drew.alloc (.cells #[.int .i64 l, .int .i64 ((N : Int) + 1), .int .i64 (-1)] 90)) := Below.step (Below.refl _ _).drew (below_box _ _)
      have HQ : Hid (Rq (W1.drew.alloc (.cells #[.int .i64 l, .int .i64 ((N : Int) + 1), .int .i64 (-1)] 90)) b (.slice a R.length c) n ((N : Int) + 1) R) := HQ1.out.1.below hbel
      have HMB : Hid (Mg w2 (rown b (.slice a R.length c)) (W1.drew.alloc (.cells #[.int .i64 l, .int .i64 ((N : Int) + 1), .int .i64 (-1)] 90)) (rown b (.slice a R.length c))) := HQ1.out.2.trans (Mg.below hbel)
      have HNC : Hid (∀ j u, [Value.int .i64 l, .int .i64 ((N : Int) + 1), .int .i64 (-1)][j]? = some u → (W1.drew.alloc (.cells #[.int .i64 l, .int .i64 ((N : Int) + 1), .int .i64 (-1)] 90)).cell? ((⟨W1.heap.size, 0, none⟩ : Addr).add j) = some u) := cell3_new W1.drew _ _ _ _
      have m1 := HQ1.out.1.box.c.2.1
      have m2 := HQ1.out.1.box.c.2.2
      have n1 : (W1.alloc (.cells #[.int .i64 l, .int .i64 ((N : Int) + 1), .int .i64 (-1)] 90)).cell? ⟨b, 1, none⟩ = some (.slice a R.length c) := HQ.out.box.c.2.1
      have n2 : (W1.alloc (.cells #[.int .i64 l, .int .i64 ((N : Int) + 1), .int .i64 (-1)] 90)).cell? ⟨b, 2, none⟩ = some (.int .i64 ((N : Int) + 1)) := HQ.out.box.c.2.2
      have HTh : Hid (thr (R ++ [(⟨l, N + 1, -1⟩ : Pl)]) = thr R ++ [.int .i64 l, .int .i64 ((N : Int) + 1), .int .i64 (-1)]) := by show _ = _; rw [thr_append]; simp [thr]
      go_region_law (refine step_append_apk rfl (.tmp 25) (.tmp 32) 78 rfl 0 90 i0 (.agg #[.int .i64 0, .int .i64 0, .int .i64 0]) 3 24 Try.underlying78 hi hz0 hz1 hz2 rfl (by decide) (.slice a R.length c) R.length (thr R) (by simp [Act.eval, Act.put]) HQ.out.row ⟨W1.heap.size, 0, none⟩ 1 1 [.int .i64 l, .int .i64 ((N : Int) + 1), .int .i64 (-1)] (by simp [Act.eval, Act.put]) rfl HNC.out (by simp [Value.oneCell']) (by unfold maxLen; omega) (by omega) (Nat.zero_le _) ?_; intro v7 w7 own7 ap7; obtain ⟨a7, c7, hv7⟩ := row_form' own7; subst hv7; have b7 := HQ.out.box.kept ap7.grown (HQ.out.box.not_row (by decide) HQ.out.row); have F7 : Hid (Rq (w7.setCell ⟨b, 1, none⟩ (.slice a7 (R.length + 1) c7)) b (.slice a7 (R.length + 1) c7) n ((N : Int) + 1) (R ++ [(⟨l, N + 1, -1⟩ : Pl)]) ∧ Mg w2 (rown b (.slice a R.length c)) (w7.setCell ⟨b, 1, none⟩ (.slice a7 (R.length + 1) c7)) (rown b (.slice a7 (R.length + 1) c7))) := by { obtain ⟨r1, r2⟩ := HQ.out.putR ap7.grown ap7.new (S := R ++ [(⟨l, N + 1, -1⟩ : Pl)]) (by rw [List.length_append, HTh.out]; exact own7); exact ⟨r1, HMB.out.trans r2⟩ }; have q0 := b7.c.2.1; have q1 := b7.fz 1; clear own7 ap7 b7)
      all_goals
        clear q0 q1 m1 m2 n1 n2
        go_wp2
        go_ret
        refine ⟨rfl, _, ⟨?_, F7.out.1.row, HOk.out, hN⟩, F7.out.2⟩
        have hb9 := F7.out.1.box
        rw [HNw.out]
        exact hb9

set_option maxHeartbeats 3200000 in
theorem rImply_any (b : Nat) (u : Value) (n : Nat) (R : List Pl) (l r : Int) (w : World) (h : Rf w b u n R) :
    Calls Try.prog 31 #[.pointer (some ⟨b, 0, none⟩), .int .i64 l, .int .i64 r] w fun e w' => e = .returned (.int .i64 (impE n R l r)) ∧ ∃ u', Rf w' b u' n (impF n R l r) ∧ Mg w (rown b u) w' (rown b u') := by
  have HR : Hid (Rf w b u n R) := h
  have hlen := h.ok.len
  have hnow := now_le R
  have hN := h.n
  obtain ⟨i0, hi, hz0, hz1, hz2⟩ := info_parts infoPl
  obtain ⟨a, c, rfl⟩ := row_form' h.row
  cases hl : litN n l with
  | false =>
    have e0 : refL n R l = 1 := by unfold refL; rw [if_neg (by simp [hl])]
    have e1 : impE n R l r = 1 := by unfold impE; rw [e0]; simp
    rw [e1, show impF n R l r = R by unfold impF; rw [if_neg (by rw [e1]; decide)]]
    clear e1
    clear h e0
    go_enter Try.func31, Try.ntmps31
    go_wp2_with fail
    refine (rOwn_any b _ n R l w HR.out).mono ?_
    rw [hl]
    rintro e w1 ⟨rfl, rfl⟩
    go_wp2
    go_ret
    exact ⟨rfl, _, HR.out, Mg.refl _ _⟩
  | true =>
    have hrf := refL_at (R := R) hl
    clear h
    cases hf : fnd R l.natAbs with
    | some p =>
      have e0 : refL n R l = 50 := by rw [hrf, hf]; simp
      have e1 : impE n R l r = 50 := by unfold impE; rw [e0]; simp
      rw [e1, show impF n R l r = R by unfold impF; rw [if_neg (by rw [e1]; decide)]]
      clear e1
      clear e0 hrf
      have HFs : Hid (fnd R l.natAbs = some p) := hf
      clear hf
      go_enter Try.func31, Try.ntmps31
      go_wp2_with fail
      refine (rOwn_any b _ n R l w HR.out).mono ?_
      rw [hl]
      rintro e w1 ⟨rfl, rfl⟩
      go_wp2_with fail
      refine (rAt_any b _ n R l w1 HR.out hl).mono ?_
      rintro e w2 ⟨z, rfl, hz, rfl⟩
      rcases hz with ⟨rfl, hf⟩ | ⟨i, hi2, rfl, hf⟩
      · rw [HFs.out] at hf; cases hf
      · clear hf
        go_wp2
        go_ret
        exact ⟨rfl, _, HR.out, Mg.refl _ _⟩
    | none =>
      have e0 : refL n R l = 0 := by rw [hrf, hf]; simp
      clear hrf
      have HFs : Hid (fnd R l.natAbs = none) := hf
      have H0 : Hid (refL n R l = 0) := e0
      clear hf
      by_cases hr : r < 0
      · have e1 : impE n R l r = 2 := by unfold impE; rw [if_neg (by simpa using e0), if_pos hr]
        have e2 : impF n R l r = R := by unfold impF; rw [e1, if_neg (by decide)]
        rw [e1, e2]
        clear e1 e2 e0
        go_enter Try.func31, Try.ntmps31
        go_wp2_with fail
        refine (rOwn_any b _ n R l w HR.out).mono ?_
        rw [hl]
        rintro e w1 ⟨rfl, rfl⟩
        go_wp2_with fail
        refine (rAt_any b _ n R l w1 HR.out hl).mono ?_
        rintro e w2 ⟨z, rfl, hz, rfl⟩
        rcases hz with ⟨rfl, hf⟩ | ⟨i, hi2, rfl, hf⟩
        case inr => rw [HFs.out] at hf; cases hf
        clear hf
        go_wp2
        go_ret
        exact ⟨rfl, _, HR.out, Mg.refl _ _⟩
      have e1 : impE n R l r = 0 := by unfold impE; rw [if_neg (by simpa using e0), if_neg hr]
      have HOk : Hid (okT n (R ++ [(⟨l, now R, r⟩ : Pl)])) := by
        have := impF_ok (l := l) (r := r) HR.out.ok
        unfold impF at this
        rwa [if_pos e1] at this
      have HNw : Hid (now (R ++ [(⟨l, now R, r⟩ : Pl)]) = now R) := by
        have hnd : dcs ⟨l, now R, r⟩ = false := by simp [dcs]; omega
        show _ = _; rw [now_snoc, hnd]; simp
      rw [e1, show impF n R l r = R ++ [(⟨l, now R, r⟩ : Pl)] by unfold impF; rw [if_pos e1]]
      clear e0 e1
      have HQ1 : Hid (Rq w b (.slice a R.length c) n (now R) R ∧ Mg w (rown b (.slice a R.length c)) w (rown b (.slice a R.length c))) := ⟨HR.out.q, Mg.refl _ _⟩
      generalize hNR : now R = N at *
      have HNR : Hid (now R = N) := hNR
      clear hNR
      go_enter Try.func31, Try.ntmps31
      go_wp2_with fail
      refine (rOwn_any b _ n R l w HR.out).mono ?_
      rw [hl]
      rintro e w1 ⟨rfl, rfl⟩
      go_wp2_with fail
      refine (rAt_any b _ n R l w1 HR.out hl).mono ?_
      rintro e w2 ⟨z, rfl, hz, rfl⟩
      rcases hz with ⟨rfl, hf⟩ | ⟨i, hi2, rfl, hf⟩
      case inr => rw [HFs.out] at hf; cases hf
      clear hf
      go_upto_region 7 with fail
      have hbel : Below w2.heap.size w2 (w2.drew.alloc (.cells #[.int .i64 l, .int .i64 (N : Int), .int .i64 r] 90)) := Below.step (Below.refl _ _).drew (below_box _ _)
      have HQ : Hid (Rq (w2.drew.alloc (.cells #[.int .i64 l, .int .i64 (N : Int), .int .i64 r] 90)) b (.slice a R.length c) n (N : Int) R) := HQ1.out.1.below hbel
      have HMB : Hid (Mg w2 (rown b (.slice a R.length c)) (w2.drew.alloc (.cells #[.int .i64 l, .int .i64 (N : Int), .int .i64 r] 90)) (rown b (.slice a R.length c))) := HQ1.out.2.trans (Mg.below hbel)
      have HNC : Hid (∀ j u, [Value.int .i64 l, .int .i64 (N : Int), .int .i64 r][j]? = some u → (w2.drew.alloc (.cells #[.int .i64 l, .int .i64 (N : Int), .int .i64 r] 90)).cell? ((⟨w2.heap.size, 0, none⟩ : Addr).add j) = some u) := cell3_new w2.drew _ _ _ _
      have m1 := HQ1.out.1.box.c.2.1
      have m2 := HQ1.out.1.box.c.2.2
      have n1 : (w2.alloc (.cells #[.int .i64 l, .int .i64 (N : Int), .int .i64 r] 90)).cell? ⟨b, 1, none⟩ = some (.slice a R.length c) := HQ.out.box.c.2.1
      have n2 : (w2.alloc (.cells #[.int .i64 l, .int .i64 (N : Int), .int .i64 r] 90)).cell? ⟨b, 2, none⟩ = some (.int .i64 (N : Int)) := HQ.out.box.c.2.2
      have HTh : Hid (thr (R ++ [(⟨l, N, r⟩ : Pl)]) = thr R ++ [.int .i64 l, .int .i64 (N : Int), .int .i64 r]) := by show _ = _; rw [thr_append]; simp [thr]
      go_region_law (refine step_append_apk rfl (.tmp 21) (.tmp 29) 78 rfl 0 90 i0 (.agg #[.int .i64 0, .int .i64 0, .int .i64 0]) 3 24 Try.underlying78 hi hz0 hz1 hz2 rfl (by decide) (.slice a R.length c) R.length (thr R) (by simp [Act.eval, Act.put]) HQ.out.row ⟨w2.heap.size, 0, none⟩ 1 1 [.int .i64 l, .int .i64 (N : Int), .int .i64 r] (by simp [Act.eval, Act.put]) rfl HNC.out (by simp [Value.oneCell']) (by unfold maxLen; omega) (by omega) (Nat.zero_le _) ?_; intro v7 w7 own7 ap7; obtain ⟨a7, c7, hv7⟩ := row_form' own7; subst hv7; have b7 := HQ.out.box.kept ap7.grown (HQ.out.box.not_row (by decide) HQ.out.row); have F7 : Hid (Rq (w7.setCell ⟨b, 1, none⟩ (.slice a7 (R.length + 1) c7)) b (.slice a7 (R.length + 1) c7) n (N : Int) (R ++ [(⟨l, N, r⟩ : Pl)]) ∧ Mg w2 (rown b (.slice a R.length c)) (w7.setCell ⟨b, 1, none⟩ (.slice a7 (R.length + 1) c7)) (rown b (.slice a7 (R.length + 1) c7))) := by { obtain ⟨r1, r2⟩ := HQ.out.putR ap7.grown ap7.new (S := R ++ [(⟨l, N, r⟩ : Pl)]) (by rw [List.length_append, HTh.out]; exact own7); exact ⟨r1, HMB.out.trans r2⟩ }; have q0 := b7.c.2.1; have q1 := b7.fz 1; clear own7 ap7 b7)
      all_goals
        clear q0 q1 m1 m2 n1 n2
        go_wp2
        go_ret
        refine ⟨rfl, _, ⟨?_, F7.out.1.row, HOk.out, hN⟩, F7.out.2⟩
        have hb9 := F7.out.1.box
        rw [HNw.out]
        exact hb9
end Go.Proofs.Ytjcgfigbbbefcaa

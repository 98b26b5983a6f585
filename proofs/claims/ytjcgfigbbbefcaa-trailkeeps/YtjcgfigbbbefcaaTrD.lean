/-
  trail: Decide, Imply.
  KEEP: set on app at below new trans refl start ap kept rd rds mono
-/
import Derived.Test.YtjcgfigbbbefcaaTrS
set_option linter.unusedSimpArgs false
set_option linter.unusedVariables false
namespace Go.Proofs.Ytjcgfigbbbefcaa
open Go Go.RowKit

theorem infoLv : (Try.prog.info? 74).map (fun i => (i.zero, i.size, i.bytes)) = some (some (.agg #[.int .i64 0, .int .i64 0]), 2, 16) := by kernel_rfl
def decF (n : Nat) (R : List Pl) (l : Int) : List Pl := if refL n R l = 0 then R ++ [⟨l, now R + 1, -1⟩] else R
def impE (n : Nat) (R : List Pl) (l r : Int) : Int := if refL n R l ≠ 0 then refL n R l else if r < 0 then 2 else 0
def impF (n : Nat) (R : List Pl) (l r : Int) : List Pl := if impE n R l r = 0 then R ++ [⟨l, now R, r⟩] else R
theorem refL_zero {n : Nat} {R : List Pl} {l : Int} (h : refL n R l = 0) : litN n l = true ∧ fnd R l.natAbs = none := by
  unfold refL at h
  by_cases hl : litN n l = true
  · refine ⟨hl, ?_⟩
    rw [if_pos hl] at h
    by_cases hv : valL n R l = 0
    · unfold valL at hv
      rw [if_pos hl] at hv
      rw [← valL_zero (n := n)]
      split at hv <;> omega
    · rw [if_pos hv] at h; omega
  · rw [if_neg hl] at h; omega

theorem Tr.imply {W : World} {b : Nat} {s : Sl} {n : Nat} {R : List Pl} {l r : Int} (hok : okT n R) (hn : n ≤ 1048576) (h0 : refL n R l = 0) (hr : 0 ≤ r)
    (h : Tq W b s n ((vals n R).set (l.natAbs - 1) (sg l)) (((facts n R).set ((l.natAbs - 1) * 2) (((lvs R).length : Int) - 1)).set ((l.natAbs - 1) * 2 + 1) r) (R.map Pl.lit ++ [l]) (lvs R)) :
    Tr W b s n (R ++ [⟨l, now R, r⟩]) := by
  obtain ⟨h1, h2⟩ := refL_zero h0
  have h3 := of_decide_eq_true h1
  have hnd : dcs ⟨l, now R, r⟩ = false := by simp [dcs]; omega
  refine ⟨?_, hok.snoc h3.1 h3.2 h2 (by simp; omega) (by rw [hnd]; simp), hn⟩
  rw [vals_snoc (p := ⟨l, now R, r⟩) h2 h3.1, facts_snoc (p := ⟨l, now R, r⟩) h2 h3.1, lvs_snoc, hnd]
  have e1 : rea0 ⟨l, now R, r⟩ = r := by unfold rea0; rw [if_neg (by simp; omega)]
  have e2 : ((lvs R).length : Int) - 1 = (now R : Int) := by rw [lvs_len]; omega
  rw [e2] at h
  rw [e1]
  simpa [vr] using h
theorem Tr.decide {W : World} {b : Nat} {s : Sl} {n : Nat} {R : List Pl} {l : Int} (hok : okT n R) (hn : n ≤ 1048576) (h0 : refL n R l = 0)
    (h : Tq W b s n ((vals n R).set (l.natAbs - 1) (sg l)) (((facts n R).set ((l.natAbs - 1) * 2) (((lvs R ++ [((R.length : Nat), l)]).length : Int) - 1)).set ((l.natAbs - 1) * 2 + 1) 0) (R.map Pl.lit ++ [l]) (lvs R ++ [(R.length, l)])) :
    Tr W b s n (R ++ [⟨l, now R + 1, -1⟩]) := by
  obtain ⟨h1, h2⟩ := refL_zero h0
  have h3 := of_decide_eq_true h1
  have hnd : dcs ⟨l, now R + 1, -1⟩ = true := by simp [dcs]
  refine ⟨?_, hok.snoc h3.1 h3.2 h2 (by simp) (by rw [hnd]; simp), hn⟩
  rw [vals_snoc (p := ⟨l, now R + 1, -1⟩) h2 h3.1, facts_snoc (p := ⟨l, now R + 1, -1⟩) h2 h3.1, lvs_snoc, hnd]
  have e1 : rea0 ⟨l, now R + 1, -1⟩ = 0 := by unfold rea0; rw [if_pos rfl]
  have e2 : ((lvs R ++ [((R.length : Nat), l)]).length : Int) - 1 = ((now R + 1 : Nat) : Int) := by rw [List.length_append, lvs_len]; simp
  rw [e2] at h
  rw [e1]
  simpa [vr] using h

theorem trImply_any (b : Nat) (s : Sl) (n : Nat) (R : List Pl) (l r : Int) (w : World) (h : Tr w b s n R) :
    Calls Try.prog 29 #[.pointer (some ⟨b, 0, none⟩), .int .i64 l, .int .i64 r] w fun e w' => e = .returned (.int .i64 (impE n R l r)) ∧ ∃ s', Tr w' b s' n (impF n R l r) ∧ Mv w b s w' s' := by
  have HT : Hid (Tr w b s n R) := h
  by_cases h0 : refL n R l = 0
  · by_cases hr : r < 0
    · have e1 : impE n R l r = 2 := by unfold impE; rw [if_neg (by simpa using h0), if_pos hr]
      have e2 : impF n R l r = R := by unfold impF; rw [e1, if_neg (by decide)]
      rw [e1, e2]
      clear e1 e2 h
      have H0 : Hid (refL n R l = 0) := h0
      clear h0
      go_enter Try.func29, Try.ntmps29
      go_wp2_with fail
      refine (trRefusal_any b s n R l w HT.out).mono ?_
      rw [H0.out]
      rintro e w' ⟨rfl, rfl⟩
      go_wp2
      go_ret
      exact ⟨rfl, s, HT.out, Mv.refl _ _ _⟩
    · have e1 : impE n R l r = 0 := by unfold impE; rw [if_neg (by simpa using h0), if_neg hr]
      have e2 : impF n R l r = R ++ [⟨l, now R, r⟩] := by unfold impF; rw [e1, if_pos rfl]
      rw [e1, e2]
      clear e1 e2 h
      have H0 : Hid (refL n R l = 0) := h0
      clear h0
      have hr' : 0 ≤ r := by omega
      go_enter Try.func29, Try.ntmps29
      go_wp2_with fail
      refine (trRefusal_any b s n R l w HT.out).mono ?_
      rw [H0.out]
      rintro e w' ⟨rfl, rfl⟩
      go_wp2_with fail
      refine (trLay_any b s n _ _ _ _ l r w' HT.out.q (refL_zero H0.out).1 HT.out.n (by have := HT.out.ok.len; have := HT.out.n; simp; omega) (by rw [lvs_len]; omega) (by have := HT.out.ok.len; have := HT.out.n; have := now_le R; rw [lvs_len]; omega)).mono ?_
      rintro e w2 ⟨rfl, s', hq, hm⟩
      have HF : Hid (_ ∧ _) := ⟨Tr.imply HT.out.ok HT.out.n H0.out hr' hq, hm⟩
      clear hq hm
      go_wp2
      go_ret
      exact ⟨rfl, s', HF.out.1, HF.out.2⟩
  · have e1 : impE n R l r = refL n R l := by unfold impE; rw [if_pos h0]
    have e2 : impF n R l r = R := by unfold impF; rw [e1, if_neg h0]
    rw [e1, e2]
    clear e1 e2 h
    have h1 : (refL n R l == 0) = false := by simp [h0]
    generalize hz : refL n R l = z at *
    have HZ : Hid (refL n R l = z) := hz
    clear hz
    go_enter Try.func29, Try.ntmps29
    go_wp2_with fail
    refine (trRefusal_any b s n R l w HT.out).mono ?_
    rw [HZ.out]
    rintro e w' ⟨rfl, rfl⟩
    go_wp2
    go_ret
    exact ⟨rfl, s, HT.out, Mv.refl _ _ _⟩

theorem trDecide_any (b : Nat) (s : Sl) (n : Nat) (R : List Pl) (l : Int) (w : World) (h : Tr w b s n R) :
    Calls Try.prog 22 #[.pointer (some ⟨b, 0, none⟩), .int .i64 l] w fun e w' => e = .returned (.int .i64 (refL n R l)) ∧ ∃ s', Tr w' b s' n (decF n R l) ∧ Mv w b s w' s' := by
  have HT : Hid (Tr w b s n R) := h
  by_cases h0 : refL n R l = 0
  · have e2 : decF n R l = R ++ [⟨l, now R + 1, -1⟩] := by unfold decF; rw [if_pos h0]
    have H0 : Hid (refL n R l = 0) := h0
    rw [h0, e2]
    have hlen := h.ok.len
    have hN := h.n
    have hnow := now_le R
    obtain ⟨i0, hi, hz0, hz1, hz2⟩ := info_parts infoLv
    obtain ⟨ra, rc, er⟩ := own_form h.q.r
    simp only [List.length_map] at er
    obtain ⟨g3, c3, el, hc5, hc6, hg3⟩ := row_some h.q.l (by rw [lvs_len]; omega)
    have k2 := h.q.box.c2
    have k3 := h.q.box.c3
    have HLL : Hid ((lvs R).length = now R + 1) := lvs_len R
    rw [er] at k2
    rw [el] at k3
    have HEL : Hid (s.L = .slice (some ⟨g3, 0, none⟩) (lvs R).length c3) := el
    clear e2 h h0 er el hg3 hc5
    generalize hRL : R.length = m at *
    generalize hLL : (lvs R).length = M at *
    have HRL : Hid (R.length = m) := hRL
    have HLM : Hid ((lvs R).length = M) := hLL
    clear hRL hLL
    go_enter Try.func22, Try.ntmps22
    go_wp2_with fail
    refine (trRefusal_any b s n R l w HT.out).mono ?_
    rw [H0.out]
    rintro e w' ⟨rfl, rfl⟩
    go_wp2_with fail
    have hM : M ≤ 1048577 := by have := HLL.out; omega
    have hbel : Below w'.heap.size w' (w'.drew.alloc (.cells #[.int .i64 m, .int .i64 l] 74)) := Below.step (Below.refl _ _).drew (below_box _ _)
    have HQ : Hid (Tq (w'.drew.alloc (.cells #[.int .i64 m, .int .i64 l] 74)) b s n (vals n R) (facts n R) (R.map Pl.lit) (lvs R)) := HT.out.q.below hbel
    have HMB : Hid (Mv w' b s (w'.drew.alloc (.cells #[.int .i64 m, .int .i64 l] 74)) s) := Mv.below hbel
    have HOW : Hid ((w'.drew.alloc (.cells #[.int .i64 m, .int .i64 l] 74)).ownsRow 0 74 2 (.slice (some ⟨g3, 0, none⟩) M c3) M (two (lvs R))) := by
      have := HQ.out.l
      rw [HEL.out, HLM.out] at this
      exact this
    have HNW : Hid (∀ j u, [Value.int .i64 m, .int .i64 l][j]? = some u → (w'.drew.alloc (.cells #[.int .i64 m, .int .i64 l] 74)).cell? ((⟨w'.heap.size, 0, none⟩ : Addr).add j) = some u) := by
      intro j u hj
      have hh := World.alloc_heap_new w'.drew (.cells #[.int .i64 m, .int .i64 l] 74)
      rw [Addr.add_lit]
      show (match (w'.drew.alloc (.cells #[.int .i64 m, .int .i64 l] 74)).heap[w'.heap.size]? with | some (Obj.cells c elem frozen) => c[0 + j]? | x => none) = _
      rw [show w'.heap.size = w'.drew.heap.size from rfl, hh]
      rw [Nat.zero_add]
      rw [← hj]
      simp
    have n2 := k2
    have n3 := k3
    have n3a : (w'.alloc (.cells #[.int .i64 m, .int .i64 l] 74)).cell? ⟨b, 3, none⟩ = some (.slice (some ⟨g3, 0, none⟩) M c3) := by have := HQ.out.box.c3; rw [HEL.out] at this; exact this
    have n2a : (w'.alloc (.cells #[.int .i64 m, .int .i64 l] 74)).cell? ⟨b, 2, none⟩ = some (.slice ra m rc) := by rw [← n2]; exact (HQ.out.box.c2).trans (HT.out.q.box.c2).symm
    go_region_law (refine step_append_apk rfl (.tmp 16) (.tmp 25) 75 rfl 0 74 i0 (.agg #[.int .i64 0, .int .i64 0]) 2 16 Try.underlying75 hi hz0 hz1 hz2 rfl (by decide) (.slice (some ⟨g3, 0, none⟩) M c3) M (two (lvs R)) (by simp [Act.eval, Act.put]) HOW.out ⟨w'.heap.size, 0, none⟩ 1 1 [.int .i64 m, .int .i64 l] (by simp [Act.eval, Act.put]) rfl HNW.out (by simp [Value.oneCell']) (by unfold maxLen; omega) (by omega) (Nat.zero_le _) ?_; intro v7 w7 own7 ap7; obtain ⟨a7, c7, hv7⟩ := row_form' own7; subst hv7; have b7 := HQ.out.box.kept ap7.grown (by have := HQ.out.box.not_row (e := 74) (by decide) HOW.out; exact this); have F7 : Hid (_ ∧ _) := HQ.out.putL (u := .slice a7 (M + 1) c7) (D' := lvs R ++ [(m, l)]) (by rw [HEL.out]; exact ap7.grown) (by rw [HEL.out]; exact ap7.new) (by rw [List.length_append, HLM.out, two_append]; exact own7); have q0 := b7.c3; have q1 := b7.fz 3; have q2 := b7.fz 2; clear own7 ap7 b7)
    all_goals
      clear q0 q1 q2 n2 n3 n2a n3a k2 k3 HOW HNW HQ
      have HM7 : Hid (Mv w' b s (w7.setCell ⟨b, 3, none⟩ (.slice a7 (M + 1) c7)) { s with L := .slice a7 (M + 1) c7 }) := HMB.out.trans F7.out.2
      have HQ7 : Hid (Tq (w7.setCell ⟨b, 3, none⟩ (.slice a7 (M + 1) c7)) b { s with L := .slice a7 (M + 1) c7 } n (vals n R) (facts n R) (R.map Pl.lit) (lvs R ++ [(m, l)])) := F7.out.1
      clear F7 HMB hbel
      generalize w7.setCell ⟨b, 3, none⟩ (.slice a7 (M + 1) c7) = W7 at *
      go_wp2_with fail
      refine (trLay_any b _ n _ _ _ _ l 0 W7 HQ7.out (refL_zero H0.out).1 hN (by rw [List.length_map, HRL.out]; omega) (by rw [List.length_append, HLM.out]; simp) (by have := HLL.out; rw [List.length_append, HLM.out]; simp; omega)).mono ?_
      rintro e w2 ⟨rfl, s', hq, hm⟩
      rw [← HRL.out] at hq
      have HF : Hid (_ ∧ _) := ⟨Tr.decide HT.out.ok hN H0.out hq, HM7.out.trans hm⟩
      clear hq hm
      go_wp2
      go_ret
      exact ⟨rfl, s', HF.out.1, HF.out.2⟩
  · have e2 : decF n R l = R := by unfold decF; rw [if_neg h0]
    rw [e2]
    clear e2 h
    have h1 : (refL n R l == 0) = false := by simp [h0]
    generalize hz : refL n R l = z at *
    have HZ : Hid (refL n R l = z) := hz
    clear hz
    go_enter Try.func22, Try.ntmps22
    go_wp2_with fail
    refine (trRefusal_any b s n R l w HT.out).mono ?_
    rw [HZ.out]
    rintro e w' ⟨rfl, rfl⟩
    go_wp2
    go_ret
    exact ⟨rfl, s, HT.out, Mv.refl _ _ _⟩
end Go.Proofs.Ytjcgfigbbbefcaa

/-
  trail: the document's answers, walked.
  KEEP: set on app at below new trans refl start ap kept rd rds mono
-/
import Derived.Test.YtjcgfigbbbefcaaTrF
set_option linter.unusedSimpArgs false
set_option linter.unusedVariables false
namespace Go.Proofs.Ytjcgfigbbbefcaa
open Go Go.RowKit

structure Rq (W : World) (b : Nat) (u : Value) (n : Nat) (m : Int) (R : List Pl) : Prop where
  box : Bx3 W b 80 (.int .i64 n) u (.int .i64 m)
  row : W.ownsRow 0 90 3 u R.length (thr R)
theorem Rf.q {W : World} {b : Nat} {u : Value} {n : Nat} {R : List Pl} (h : Rf W b u n R) : Rq W b u n (now R) R := ⟨h.box, h.row⟩
section
variable {W W' : World} {b : Nat} {u : Value} {n : Nat} {m : Int} {R : List Pl}
theorem Rq.lt (h : Rq W b u n m R) : ∀ k, rown b u k → k < W.heap.size := by
  rintro k (rfl | hk)
  · exact h.box.lt
  · exact (h.row.lt k hk.symm).2
theorem Rq.below (h : Rq W b u n m R) (hb : Below W.heap.size W W') : Rq W' b u n m R := ⟨h.box.below hb, row_kept h.row fun k e => hb.block k (h.lt k (.inr e))⟩
theorem Rq.setN (h : Rq W b u n m R) (m' : Int) : Rq (W.setCell ⟨b, 2, none⟩ (.int .i64 m')) b u n m' R ∧ Mg W (rown b u) (W.setCell ⟨b, 2, none⟩ (.int .i64 m')) (rown b u) := by
  have g := grown_set W ⟨b, 2, none⟩ (.int .i64 m')
  have hne : some b ≠ u.ownBlock := h.box.not_row (by decide) h.row
  exact ⟨⟨set_heap h.box 2 _, row_kept h.row fun k hk => g.block k (h.lt k (.inr hk)) (fun e => hne (by rw [← hk, e]))⟩, ⟨g.os, g.tape, g.output, g.size, fun i hi h1 => g.block i hi (fun e => h1 (.inl (by simpa using e))), fun _ h => .inl h⟩⟩
theorem Rq.putR {W1 : World} {v : Value} {S : List Pl} (h : Rq W b u n m R) (hg : W.grownBy W1 u.ownBlock) (hn : v.ownBlock = u.ownBlock ∨ ∀ g, v.ownBlock = some g → W.heap.size ≤ g) (ho : W1.ownsRow 0 90 3 v S.length (thr S)) :
    Rq (W1.setCell ⟨b, 1, none⟩ v) b v n m S ∧ Mg W (rown b u) (W1.setCell ⟨b, 1, none⟩ v) (rown b v) := by
  have hb : Bx3 W1 b 80 (.int .i64 n) u (.int .i64 m) := h.box.kept hg (h.box.not_row (by decide) h.row)
  have g1 := grown_set W1 ⟨b, 1, none⟩ v
  have hne : some b ≠ v.ownBlock := hb.not_row (by decide) ho
  refine ⟨⟨set_heap hb 1 v, row_kept ho fun k hk => g1.block k ((ho.lt k hk.symm).2) (fun e => hne (by rw [← hk, e]))⟩, ⟨g1.os.trans hg.os, g1.tape.trans hg.tape, g1.output.trans hg.output, Nat.le_trans hg.size g1.size, fun i hi h1 => ?_, ?_⟩⟩
  · exact (g1.block i (Nat.lt_of_lt_of_le hi hg.size) (fun e => h1 (.inl (by simpa using e)))).trans (hg.block i hi (fun e1 => h1 (.inr e1)))
  · rintro k (rfl | hk)
    · exact .inl (.inl rfl)
    · rcases hn with e | e
      · exact .inl (.inr (by rw [← e]; exact hk))
      · exact .inr (e k hk.symm)
end
theorem valL_at {n : Nat} {R : List Pl} {l : Int} (hl : litN n l = true) {p : Pl} (hf : fnd R l.natAbs = some p) : valL n R l = if p.lit = l then 1 else -1 := by
  have h0 := of_decide_eq_true hl
  have h1 := (fnd_some hf).2
  unfold vr at h1
  unfold valL valV
  rw [if_pos hl, hf]
  simp only [sg]
  by_cases e : p.lit = l
  · rw [e]; by_cases hs : l < 0 <;> simp [hs]
  · have : p.lit = -l := by omega
    rw [if_neg e, this]
    by_cases hs : l < 0
    · rw [if_pos hs, if_neg (by omega)]
    · rw [if_neg hs, if_pos (by omega)]
theorem rf_cell {w : World} {b : Nat} {a : Option Addr} {c n : Nat} {R : List Pl} (h : w.ownsRow 0 90 3 (.slice a R.length c) R.length (thr R)) {k : Nat} (hk : k < R.length) : ∃ g, a = some ⟨g, 0, none⟩ ∧ w.cell? ⟨g, k * 3, none⟩ = some (.int .i64 R[k].lit) ∧ w.cell? ⟨g, k * 3 + 1, none⟩ = some (.int .i64 R[k].lev) ∧ w.cell? ⟨g, k * 3 + 2, none⟩ = some (.int .i64 R[k].rea) := by
  obtain ⟨g, c', e, _⟩ := row_some h (by omega)
  injection e with e1 _ _
  subst e1
  have := thr_get hk
  exact ⟨g, rfl, row_cell h this.1, row_cell h this.2.1, row_cell h this.2.2⟩

theorem rValue_any (b : Nat) (u : Value) (n : Nat) (R : List Pl) (l : Int) (w : World) (h : Rf w b u n R) :
    Calls Try.prog 37 #[.pointer (some ⟨b, 0, none⟩), .int .i64 l] w fun e w' => e = .returned (.int .i8 (valL n R l)) ∧ w' = w := by
  have HR : Hid (Rf w b u n R) := h
  obtain ⟨a, c, rfl⟩ := row_form' h.row
  have c1 := h.box.c.2.1
  have hlen := h.ok.len
  have hn := h.n
  clear h
  cases hl : litN n l with
  | false =>
    have HE : Hid (valL n R l = 0) := by show _ = _; unfold valL; rw [if_neg (by simp [hl])]
    go_enter Try.func37, Try.ntmps37
    go_wp2_with fail
    refine (rOwn_any b _ n R l w HR.out).mono ?_
    rw [hl]
    rintro e w1 ⟨rfl, rfl⟩
    go_wp2
    go_ret
    exact ⟨by rw [HE.out]; rfl, rfl⟩
  | true =>
    go_enter Try.func37, Try.ntmps37
    go_wp2_with fail
    refine (rOwn_any b _ n R l w HR.out).mono ?_
    rw [hl]
    rintro e w1 ⟨rfl, rfl⟩
    go_wp2_with fail
    refine (rAt_any b _ n R l w1 HR.out hl).mono ?_
    rintro e w2 ⟨z, rfl, hz, rfl⟩
    rcases hz with ⟨rfl, hf⟩ | ⟨i, hi, rfl, hf⟩
    · have HE : Hid (valL n R l = 0) := by show _ = _; unfold valL; rw [if_pos hl, (valL_zero (n := n)).2 hf]; simp
      clear hf
      go_wp2
      go_ret
      exact ⟨by rw [HE.out]; rfl, rfl⟩
    · have HE : Hid (valL n R l = if R[i].lit = l then 1 else -1) := valL_at hl hf
      obtain ⟨g, rfl, d0, -⟩ := rf_cell (b := b) (n := n) HR.out.row hi
      clear hf
      generalize R[i].lit = y at *
      by_cases hy : y = l
      · rw [if_pos hy] at HE
        subst hy
        go_wp2
        go_ret
        exact ⟨by rw [HE.out]; rfl, rfl⟩
      · rw [if_neg hy] at HE
        have hy2 : (y == l) = false := by simp [hy]
        go_wp2
        go_ret
        exact ⟨by rw [HE.out]; rfl, rfl⟩

theorem rLevelOf_any (b : Nat) (u : Value) (n : Nat) (R : List Pl) (l : Int) (w : World) (h : Rf w b u n R) :
    Calls Try.prog 38 #[.pointer (some ⟨b, 0, none⟩), .int .i64 l] w fun e w' => e = .returned (.int .i64 (levL n R l)) ∧ w' = w := by
  have HR : Hid (Rf w b u n R) := h
  obtain ⟨a, c, rfl⟩ := row_form' h.row
  have c1 := h.box.c.2.1
  have hlen := h.ok.len
  have hn := h.n
  clear h
  by_cases h1 : l < 1
  · have HE : Hid (levL n R l = -1) := by show _ = _; unfold levL; rw [if_neg (by omega)]
    go_enter Try.func38, Try.ntmps38
    go_wp2
    go_ret
    exact ⟨by rw [HE.out]; rfl, rfl⟩
  · cases hl : litN n l with
    | false =>
      have HE : Hid (levL n R l = -1) := by
        have h0 := of_decide_eq_false hl
        show _ = _; unfold levL; rw [if_neg (by omega)]
      go_enter Try.func38, Try.ntmps38
      go_wp2_with fail
      refine (rOwn_any b _ n R l w HR.out).mono ?_
      rw [hl]
      rintro e w1 ⟨rfl, rfl⟩
      go_wp2
      go_ret
      exact ⟨by rw [HE.out]; rfl, rfl⟩
    | true =>
      have h0 := of_decide_eq_true hl
      have HP : Hid (levL n R l = (match fnd R l.natAbs with | none => -1 | some p => (p.lev : Int))) := by
        show _ = _
        unfold levL
        rw [if_pos (by omega), show l.toNat = l.natAbs by omega]
        cases fnd R l.natAbs <;> rfl
      clear h0
      go_enter Try.func38, Try.ntmps38
      go_wp2_with fail
      refine (rOwn_any b _ n R l w HR.out).mono ?_
      rw [hl]
      rintro e w1 ⟨rfl, rfl⟩
      go_wp2_with fail
      refine (rAt_any b _ n R l w1 HR.out hl).mono ?_
      rintro e w2 ⟨z, rfl, hz, rfl⟩
      rcases hz with ⟨rfl, hf⟩ | ⟨i, hi, rfl, hf⟩
      · have HE : Hid (levL n R l = -1) := by show _ = _; rw [HP.out, hf]
        clear hf
        go_wp2
        go_ret
        exact ⟨by rw [HE.out]; rfl, rfl⟩
      · have HE : Hid (levL n R l = (R[i].lev : Int)) := by show _ = _; rw [HP.out, hf]
        obtain ⟨g, rfl, d0, d1, d2⟩ := rf_cell (b := b) (n := n) HR.out.row hi
        clear hf
        go_wp2
        go_ret
        exact ⟨by rw [HE.out]; rfl, rfl⟩

theorem rReason_any (b : Nat) (u : Value) (n : Nat) (R : List Pl) (l : Int) (w : World) (h : Rf w b u n R) :
    Calls Try.prog 39 #[.pointer (some ⟨b, 0, none⟩), .int .i64 l] w fun e w' => e = .returned (.int .i64 (reaL n R l)) ∧ w' = w := by
  have HR : Hid (Rf w b u n R) := h
  obtain ⟨a, c, rfl⟩ := row_form' h.row
  have c1 := h.box.c.2.1
  have hlen := h.ok.len
  have hn := h.n
  clear h
  by_cases h1 : l < 1
  · have HE : Hid (reaL n R l = -1) := by show _ = _; unfold reaL; rw [if_neg (by omega)]
    go_enter Try.func39, Try.ntmps39
    go_wp2
    go_ret
    exact ⟨by rw [HE.out]; rfl, rfl⟩
  · cases hl : litN n l with
    | false =>
      have HE : Hid (reaL n R l = -1) := by
        have h0 := of_decide_eq_false hl
        show _ = _; unfold reaL; rw [if_neg (by omega)]
      go_enter Try.func39, Try.ntmps39
      go_wp2_with fail
      refine (rOwn_any b _ n R l w HR.out).mono ?_
      rw [hl]
      rintro e w1 ⟨rfl, rfl⟩
      go_wp2
      go_ret
      exact ⟨by rw [HE.out]; rfl, rfl⟩
    | true =>
      have h0 := of_decide_eq_true hl
      have HP : Hid (reaL n R l = (match fnd R l.natAbs with | none => -1 | some p => p.rea)) := by
        show _ = _
        unfold reaL
        rw [if_pos (by omega), show l.toNat = l.natAbs by omega]
        cases fnd R l.natAbs <;> rfl
      clear h0
      go_enter Try.func39, Try.ntmps39
      go_wp2_with fail
      refine (rOwn_any b _ n R l w HR.out).mono ?_
      rw [hl]
      rintro e w1 ⟨rfl, rfl⟩
      go_wp2_with fail
      refine (rAt_any b _ n R l w1 HR.out hl).mono ?_
      rintro e w2 ⟨z, rfl, hz, rfl⟩
      rcases hz with ⟨rfl, hf⟩ | ⟨i, hi, rfl, hf⟩
      · have HE : Hid (reaL n R l = -1) := by show _ = _; rw [HP.out, hf]
        clear hf
        go_wp2
        go_ret
        exact ⟨by rw [HE.out]; rfl, rfl⟩
      · have HE : Hid (reaL n R l = R[i].rea) := by show _ = _; rw [HP.out, hf]
        obtain ⟨g, rfl, d0, d1, d2⟩ := rf_cell (b := b) (n := n) HR.out.row hi
        clear hf
        go_wp2
        go_ret
        exact ⟨by rw [HE.out]; rfl, rfl⟩

theorem refL_at {n : Nat} {R : List Pl} {l : Int} (hl : litN n l = true) : refL n R l = if fnd R l.natAbs = none then 0 else 50 := by
  unfold refL
  rw [if_pos hl]
  cases hf : fnd R l.natAbs with
  | none => have : valL n R l = 0 := by unfold valL; rw [if_pos hl, (valL_zero (n := n)).2 hf]; simp
            simp [this]
  | some p => have := valL_at hl hf
              rw [this]; split <;> simp
theorem infoPl : (Try.prog.info? 90).map (fun i => (i.zero, i.size, i.bytes)) = some (some (.agg #[.int .i64 0, .int .i64 0, .int .i64 0]), 3, 24) := by kernel_rfl
theorem rLevel_any (b : Nat) (u : Value) (n : Nat) (R : List Pl) (w : World) (h : Rf w b u n R) :
    Calls Try.prog 41 #[.pointer (some ⟨b, 0, none⟩)] w fun e w' => e = .returned (.int .i64 (now R)) ∧ w' = w := by
  have c2 := h.box.c.2.2
  clear h
  go_enter Try.func41, Try.ntmps41
  go_wp2
  go_ret
  exact ⟨rfl, rfl⟩
end Go.Proofs.Ytjcgfigbbbefcaa

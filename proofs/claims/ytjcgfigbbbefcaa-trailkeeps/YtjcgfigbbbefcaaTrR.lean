/-
  trail: has, Value, Level, LevelOf, Reason, Lits, Marks, refusal.
  KEEP: set on app at below new trans refl start ap kept rd rds mono
-/
import Derived.Test.YtjcgfigbbbefcaaTrW
import Derived.Test.YtjcgfigbbbefcaaNum
import Derived.Handy
set_option linter.unusedSimpArgs false
set_option linter.unusedVariables false
namespace Go.Proofs.Ytjcgfigbbbefcaa
open Go Go.RowKit

def litN (n : Nat) (l : Int) : Bool := decide (l ≠ 0 ∧ l.natAbs ≤ n)
def valL (n : Nat) (R : List Pl) (l : Int) : Int := if litN n l then (if l < 0 then - valV R l.natAbs else valV R l.natAbs) else 0
def levL (n : Nat) (R : List Pl) (v : Int) : Int := if 1 ≤ v ∧ v ≤ n then (match fnd R v.toNat with | none => -1 | some p => (p.lev : Int)) else -1
def reaL (n : Nat) (R : List Pl) (v : Int) : Int := if 1 ≤ v ∧ v ≤ n then (match fnd R v.toNat with | none => -1 | some p => p.rea) else -1
theorem valV_cases (R : List Pl) (v : Nat) : valV R v = -1 ∨ valV R v = 0 ∨ valV R v = 1 := by
  unfold valV; split
  · simp
  · unfold sg; split <;> simp
theorem varOf_lit {n : Nat} {l : Int} (hn : n ≤ 1048576) : litN n l = decide (1 ≤ varOf l ∧ varOf l ≤ n) := by
  unfold litN
  rcases fmd_cases l with ⟨hf, h0, h1, h2⟩ | ⟨hf, h0⟩
  · simp only [varOf, hf, if_true]
    rw [decide_eq_decide]
    split <;> omega
  · simp only [varOf, hf]
    rw [decide_eq_decide]
    simp; omega
theorem varOf_abs {n : Nat} {l : Int} (hn : n ≤ 1048576) (h : litN n l = true) : varOf l = (l.natAbs : Int) ∧ 1 ≤ l.natAbs ∧ l.natAbs ≤ n := by
  have h' := of_decide_eq_true h
  have hf : fmd l = true := fmd_true h'.1 (by omega) (by omega)
  refine ⟨?_, by omega, h'.2⟩
  simp only [varOf, hf, if_true]
  split <;> omega

theorem trHas_any (b n : Nat) (a : Option Addr) (c : Nat) (F R L : Value) (v : Int) (w : World) (h : Bx4 w b 77 (.slice a n c) F R L) :
    Calls Try.prog 48 #[.pointer (some ⟨b, 0, none⟩), .int .i64 v] w fun e w' => e = .returned (.bool (decide (1 ≤ v ∧ v ≤ n))) ∧ w' = w := by
  have c0 := h.c0
  by_cases h1 : 1 ≤ v
  · rw [show decide (1 ≤ v ∧ v ≤ n) = decide (v ≤ n) by simp [h1]]
    clear h
    go_enter Try.func48, Try.ntmps48
    go_wp2
    go_ret
    exact ⟨rfl, rfl⟩
  · rw [show decide (1 ≤ v ∧ v ≤ n) = false by simp [h1]]
    clear h
    go_enter Try.func48, Try.ntmps48
    go_wp2
    go_ret
    exact ⟨rfl, rfl⟩

theorem trLevel_any (b : Nat) (s : Sl) (n : Nat) (A B C : List Int) (D : List (Nat × Int)) (w : World) (h : Tq w b s n A B C D) (hd : 0 < D.length) (hm : D.length ≤ 2000000) :
    Calls Try.prog 17 #[.pointer (some ⟨b, 0, none⟩)] w fun e w' => e = .returned (.int .i64 ((D.length : Int) - 1)) ∧ w' = w := by
  have c3 := h.box.c3
  obtain ⟨a, c, e⟩ := row_form' h.l
  rw [e] at c3
  clear h
  generalize D.length = d at *
  go_enter Try.func17, Try.ntmps17
  go_wp2
  go_ret
  exact ⟨rfl, rfl⟩

theorem trValue_any (b : Nat) (s : Sl) (n : Nat) (R : List Pl) (l : Int) (w : World) (h : Tr w b s n R) :
    Calls Try.prog 18 #[.pointer (some ⟨b, 0, none⟩), .int .i64 l] w fun e w' => e = .returned (.int .i8 (valL n R l)) ∧ w' = w := by
  have hb := h.q.box
  have hL := varOf_lit (l := l) h.n
  by_cases hl : litN n l = true
  · obtain ⟨e1, e2, e3⟩ := varOf_abs h.n hl
    obtain ⟨g, c, e, hc1, hc2, hg⟩ := row_some h.q.v (by omega)
    have hv := h.q.v
    rw [e] at hb hv
    have hcell := row_cell hv (j := l.natAbs - 1) (x := .int .i8 (valV R l.natAbs)) (by
      rw [List.getElem?_map, vals_get (by omega)]; simp; congr 1; omega)
    have c0 := hb.c0
    have hcs : -1 ≤ valV R l.natAbs ∧ valV R l.natAbs ≤ 1 := by rcases valV_cases R l.natAbs with h | h | h <;> omega
    obtain ⟨hcs1, hcs2⟩ := hcs
    have HE : Hid (valL n R l = if l < 0 then - valV R l.natAbs else valV R l.natAbs) := by show _ = _; unfold valL; rw [if_pos hl]
    have HD : Hid (decide (1 ≤ varOf l ∧ varOf l ≤ n) = true) := by show _ = _; rw [← hL, hl]
    have HB : Hid (Bx4 w b 77 (.slice (some ⟨g, 0, none⟩) n c) s.F s.R s.L) := hb
    have hN := h.n
    clear h hb hv hL hl
    obtain ⟨k, hk⟩ : ∃ k : Nat, varOf l = (k : Int) + 1 := ⟨l.natAbs - 1, by omega⟩
    have e4 : l.natAbs - 1 = k := by omega
    have hkn : k < n := by omega
    rw [e4] at hcell
    have HV : Hid (varOf l = (k : Int) + 1) := hk
    clear e4 e1 e2 e3 hk
    generalize valV R l.natAbs = z at *
    go_enter Try.func18, Try.ntmps18
    go_wp2_with fail
    refine (var_any _ _).mono ?_
    rintro e w' ⟨rfl, rfl⟩
    go_wp2_with fail
    refine (trHas_any b n _ c s.F s.R s.L _ w' HB.out).mono ?_
    rw [HD.out]
    rintro e w' ⟨rfl, rfl⟩
    rw [HV.out]
    go_wp2
    all_goals (go_ret; refine ⟨?_, rfl⟩; rw [HE.out])
    · rw [if_pos (by first | assumption | omega)]; rfl
    · rw [if_neg (by first | assumption | omega)]; rfl
  · obtain ⟨a, c, e⟩ := row_form' h.q.v
    rw [e] at hb
    have HE : Hid (valL n R l = 0) := by show _ = _; unfold valL; rw [if_neg hl]
    have HD : Hid (decide (1 ≤ varOf l ∧ varOf l ≤ n) = false) := by show _ = _; rw [← hL]; simpa using hl
    have HB : Hid (Bx4 w b 77 (.slice a n c) s.F s.R s.L) := hb
    clear h hb hL hl
    go_enter Try.func18, Try.ntmps18
    go_wp2_with fail
    refine (var_any _ _).mono ?_
    rintro e w' ⟨rfl, rfl⟩
    go_wp2_with fail
    refine (trHas_any b n _ c s.F s.R s.L _ w' HB.out).mono ?_
    rw [HD.out]
    rintro e w' ⟨rfl, rfl⟩
    go_wp2
    go_ret
    exact ⟨by rw [HE.out]; rfl, rfl⟩

theorem valL_zero {n : Nat} {R : List Pl} {v : Nat} : valV R v = 0 ↔ fnd R v = none := by
  unfold valV
  cases h : fnd R v with
  | none => simp
  | some p => simp [sg]; split <;> simp
theorem trLevelOf_any (b : Nat) (s : Sl) (n : Nat) (R : List Pl) (v : Int) (w : World) (h : Tr w b s n R) :
    Calls Try.prog 19 #[.pointer (some ⟨b, 0, none⟩), .int .i64 v] w fun e w' => e = .returned (.int .i64 (levL n R v)) ∧ w' = w := by
  have hb := h.q.box
  by_cases hl : 1 ≤ v ∧ v ≤ n
  · obtain ⟨k, rfl⟩ : ∃ k : Nat, v = (k : Int) + 1 := ⟨(v - 1).toNat, by omega⟩
    have hkn : k < n := by omega
    obtain ⟨g, c, e, hc1, hc2, hg⟩ := row_some h.q.v (by omega)
    obtain ⟨g2, c2, e2, hc3, hc4, hg2⟩ := row_some h.q.f (by omega)
    have hv := h.q.v
    have hf := h.q.f
    rw [e, e2] at hb
    rw [e] at hv
    rw [e2] at hf
    have hcell := row_cell hv (j := k) (x := .int .i8 (valV R (k + 1))) (by rw [List.getElem?_map, vals_get hkn]; rfl)
    have hcell2 := row_cell hf (j := k * 2) (x := .int .i64 (levV R (k + 1))) (by rw [List.getElem?_map, facts_get0 hkn]; rfl)
    have c0 := hb.c0
    have c1 := hb.c1
    have HD : Hid (decide (1 ≤ (k : Int) + 1 ∧ (k : Int) + 1 ≤ n) = true) := by show _ = _; simpa using hl
    have HB : Hid (Bx4 w b 77 (.slice (some ⟨g, 0, none⟩) n c) (.slice (some ⟨g2, 0, none⟩) n c2) s.R s.L) := hb
    have hN := h.n
    have ht : ((k : Int) + 1).toNat = k + 1 := by omega
    cases hx : fnd R (k + 1) with
    | none =>
      have HE : Hid (levL n R ((k : Int) + 1) = -1) := by show _ = _; unfold levL; rw [if_pos hl, ht, hx]
      rw [valL_zero (n := n) |>.2 hx] at hcell
      clear h hb hv hf hl ht hx e e2 hcell2 c1
      go_enter Try.func19, Try.ntmps19
      go_wp2_with fail
      refine (trHas_any b n _ c _ s.R s.L _ w HB.out).mono ?_
      rw [HD.out]
      rintro e w' ⟨rfl, rfl⟩
      go_wp2
      go_ret
      exact ⟨by rw [HE.out]; rfl, rfl⟩
    | some p =>
      have HE : Hid (levL n R ((k : Int) + 1) = levV R (k + 1)) := by show _ = _; unfold levL levV; rw [if_pos hl, ht, hx]
      have hz : valV R (k + 1) ≠ 0 := fun h0 => by rw [valL_zero (n := n)] at h0; rw [hx] at h0; cases h0
      have hz2 : valV R (k + 1) = -1 ∨ valV R (k + 1) = 1 := by rcases valV_cases R (k + 1) with h | h | h <;> simp_all
      clear h hb hv hf hl ht hx e e2
      generalize valV R (k + 1) = z at *
      generalize levV R (k + 1) = y at *
      go_enter Try.func19, Try.ntmps19
      go_wp2_with fail
      refine (trHas_any b n _ c _ s.R s.L _ w HB.out).mono ?_
      rw [HD.out]
      rintro e w' ⟨rfl, rfl⟩
      have hz3 : (z == 0) = false := by simp [hz]
      clear hz2
      go_wp2
      go_ret
      exact ⟨by rw [HE.out]; rfl, rfl⟩
  · obtain ⟨a, c, e⟩ := row_form' h.q.v
    rw [e] at hb
    have HE : Hid (levL n R v = -1) := by show _ = _; unfold levL; rw [if_neg hl]
    have HD : Hid (decide (1 ≤ v ∧ v ≤ n) = false) := by show _ = _; simpa using hl
    have HB : Hid (Bx4 w b 77 (.slice a n c) s.F s.R s.L) := hb
    clear h hb hl
    go_enter Try.func19, Try.ntmps19
    go_wp2_with fail
    refine (trHas_any b n _ c s.F s.R s.L _ w HB.out).mono ?_
    rw [HD.out]
    rintro e w' ⟨rfl, rfl⟩
    go_wp2
    go_ret
    exact ⟨by rw [HE.out]; rfl, rfl⟩

theorem trDecides_any (a d v : Int) (w : World) :
    Calls Try.prog 49 #[.agg #[.int .i64 a, .int .i64 d], .int .i64 v] w fun e w' => e = .returned (.bool (varOf d == v)) ∧ Below w.heap.size w w' := by
  have hb := below_box w (.cells #[.int .i64 a, .int .i64 d] 74)
  go_enter Try.func49, Try.ntmps49
  go_wp2_with fail
  refine (var_any _ _).mono ?_
  rintro e w' ⟨rfl, rfl⟩
  go_wp2
  go_ret
  exact ⟨rfl, hb⟩

theorem dec_uniq {R : List Pl} {i j : Nat} (hi : i < R.length) (hj : j < R.length) (h1 : dcs R[i] = true) (h2 : dcs R[j] = true) (h : now (R.take i) = now (R.take j)) : i = j := by
  have s1 : now (R.take (i + 1)) = now (R.take i) + 1 := by rw [List.take_succ_eq_append_getElem hi, now_snoc, h1]; simp
  have s2 : now (R.take (j + 1)) = now (R.take j) + 1 := by rw [List.take_succ_eq_append_getElem hj, now_snoc, h2]; simp
  rcases Nat.lt_trichotomy i j with h3 | h3 | h3
  · have := now_take_le (R := R) (i + 1) j (by omega); omega
  · exact h3
  · have := now_take_le (R := R) (j + 1) i (by omega); omega
/-- the decision of a literal's level -/
theorem lvs_of {n : Nat} {R : List Pl} (h : okT n R) (hn : n ≤ 1048576) {v : Nat} {p : Pl} (hf : fnd R v = some p) : ∃ (a : Nat) (d : Int), (lvs R)[p.lev]? = some (a, d) ∧ p.lev < (lvs R).length ∧ (varOf d == (v : Int)) = dcs p := by
  obtain ⟨hm, hv⟩ := fnd_some hf
  obtain ⟨i, hi, rfl⟩ := List.getElem_of_mem hm
  have hlev := h.lev i hi
  have hle : now (R.take (i + 1)) ≤ now R := (List.take_sublist _ _).countP_le
  have hl : R[i].lev < (lvs R).length := by rw [lvs_len]; omega
  have hvar : ∀ j, (hj : j < R.length) → varOf R[j].lit = (vr R[j] : Int) := fun j hj => by
    have := h.fit R[j] (List.getElem_mem hj)
    exact (varOf_abs (n := n) hn (decide_eq_true ⟨this.1, this.2⟩)).1
  have hsplit : now (R.take (i + 1)) = now (R.take i) + (if dcs R[i] then 1 else 0) := by rw [List.take_succ_eq_append_getElem hi, now_snoc]
  rcases Nat.eq_zero_or_pos R[i].lev with hk | hk
  · have hd : dcs R[i] = false := by
      cases hd : dcs R[i] with
      | false => rfl
      | true => rw [hd] at hsplit; simp at hsplit; omega
    rw [hd]
    have h0 : 0 < vr R[i] := by have := h.fit R[i] hm; unfold vr; omega
    have e0 : varOf 0 = 0 := by simp [varOf, fmd]
    refine ⟨0, 0, by rw [hk]; rfl, hl, ?_⟩
    rw [e0]
    simp; omega
  · obtain ⟨k, hk1⟩ : ∃ k, R[i].lev = k + 1 := ⟨R[i].lev - 1, by omega⟩
    obtain ⟨j, hj, h1, h2, h3⟩ := decs_at (k := 0) (R := R) (j := k) (by rw [decs_len]; omega)
    refine ⟨j, R[j].lit, ?_, hl, ?_⟩
    · rw [hk1]
      have h5 : k < (decs 0 R).length := by rw [decs_len]; omega
      show ((0, 0) :: decs 0 R)[k + 1]? = _
      rw [List.getElem?_cons_succ, List.getElem?_eq_getElem h5, h1]; simp
    rw [hvar j hj]
    cases hd : dcs R[i] with
    | true =>
      have : i = j := dec_uniq hi hj hd h2 (by rw [hd] at hsplit; simp at hsplit; omega)
      subst this
      simp [hv]
    | false =>
      have hne : vr R[j] ≠ v := by
        intro e
        have hij : i = j := by
          have hp := List.pairwise_iff_getElem.1 (List.nodup_iff_pairwise_ne.1 h.nodup)
          rcases Nat.lt_trichotomy i j with h4 | h4 | h4
          · have h6 := hp i j (by simpa using hi) (by simpa using hj) h4
            rw [List.getElem_map, List.getElem_map] at h6
            exact absurd (hv.trans e.symm) h6
          · exact h4
          · have h6 := hp j i (by simpa using hj) (by simpa using hi) h4
            rw [List.getElem_map, List.getElem_map] at h6
            exact absurd (e.trans hv.symm) h6
        subst hij
        rw [hd] at h2; cases h2
      simp; omega

theorem trReason_any (b : Nat) (s : Sl) (n : Nat) (R : List Pl) (v : Int) (w : World) (h : Tr w b s n R) :
    Calls Try.prog 20 #[.pointer (some ⟨b, 0, none⟩), .int .i64 v] w fun e w' => e = .returned (.int .i64 (reaL n R v)) ∧ Below w.heap.size w w' := by
  have H := h
  have hb := h.q.box
  have HT : Hid (Tr w b s n R) := h
  by_cases hl : 1 ≤ v ∧ v ≤ n
  · obtain ⟨k, rfl⟩ : ∃ k : Nat, v = (k : Int) + 1 := ⟨(v - 1).toNat, by omega⟩
    have ht : ((k : Int) + 1).toNat = k + 1 := by omega
    have hkn : k < n := by omega
    have hN := h.n
    cases hx : fnd R (k + 1) with
    | none =>
      have HE : Hid (reaL n R ((k : Int) + 1) = -1) := by show _ = _; unfold reaL; rw [if_pos hl, ht, hx]
      have HL : Hid (levL n R ((k : Int) + 1) = -1) := by show _ = _; unfold levL; rw [if_pos hl, ht, hx]
      clear h H hb hl ht hx
      go_enter Try.func20, Try.ntmps20
      go_wp2_with fail
      refine (trLevelOf_any b s n R _ w HT.out).mono ?_
      rw [HL.out]
      rintro e w' ⟨rfl, rfl⟩
      go_wp2
      go_ret
      exact ⟨by rw [HE.out]; rfl, Below.refl _ _⟩
    | some p =>
      obtain ⟨at0, d0, hat, hl2, hd⟩ := lvs_of h.ok h.n hx
      have HL : Hid (levL n R ((k : Int) + 1) = (p.lev : Int)) := by show _ = _; unfold levL; rw [if_pos hl, ht, hx]
      have hp := h.ok.rea p (fnd_some hx).1
      have HE : Hid (reaL n R ((k : Int) + 1) = p.rea) := by show _ = _; unfold reaL; rw [if_pos hl, ht, hx]
      have HV : Hid (reaV R (k + 1) = rea0 p) := by show _ = _; unfold reaV; rw [hx]
      have hll := lvs_len R
      have hnl := now_le R
      have hlen := h.ok.len
      obtain ⟨g2, c2, e2, hc3, hc4, hg2⟩ := row_some h.q.f (by omega)
      obtain ⟨g3, c3, e3, hc5, hc6, hg3⟩ := row_some h.q.l (by omega)
      have hf := h.q.f
      have hlv := h.q.l
      rw [e2, e3] at hb
      rw [e2] at hf
      rw [e3] at hlv
      have hcell := row_cell hf (j := k * 2 + 1) (x := .int .i64 (reaV R (k + 1))) (by rw [List.getElem?_map, facts_get1 hkn]; rfl)
      have hcell0 := row_cell hlv (two_at0 hat)
      have hcell1 := row_cell hlv (two_at1 hat)
      have k1 := hb.c1
      have k3 := hb.c3
      have hd' : (varOf d0 == (k : Int) + 1) = dcs p := by simpa using hd
      have HD : Hid ((varOf d0 == (k : Int) + 1) = dcs p) := hd'
      rw [HV.out] at hcell
      have hb1 := fun (w1 : World) (hw : Below w.heap.size w w1) => (show w1.cell? ⟨b, 1, none⟩ = _ from ((show Bx4 w1 b 77 _ _ _ _ from (hw.block b hb.lt).trans hb)).c1)
      have hb2 := fun (w1 : World) (hw : Below w.heap.size w w1) => row_cell (xs := (facts n R).map (Value.int .i64)) (row_kept hf (w' := w1) fun k hk => hw.block k ((hf.lt k hk.symm).2)) (j := k * 2 + 1) (x := .int .i64 (reaV R (k + 1))) (by rw [List.getElem?_map, facts_get1 hkn]; rfl)
      have HB1 : Hid (∀ w1 : World, Below w.heap.size w w1 → w1.cell? ⟨b, 1, none⟩ = some (.slice (some ⟨g2, 0, none⟩) n c2)) := hb1
      have HB2 : Hid (∀ w1 : World, Below w.heap.size w w1 → w1.cell? ⟨g2, k * 2 + 1, none⟩ = some (.int .i64 (rea0 p))) := by rw [← HV.out]; exact hb2
      have hlev : p.lev < (lvs R).length := hl2
      have hlev2 : p.lev ≤ 1048576 := by omega
      generalize (lvs R).length = LL at *
      clear h H hb hf hlv hl ht hx e2 e3 hd hd' hb1 hb2 hl2 hll hnl hlen hat
      cases hdc : dcs p with
      | true =>
        have HE2 : Hid (p.rea = -1) := by show _ = _; simpa [dcs] using hdc
        go_enter Try.func20, Try.ntmps20
        go_wp2_with fail
        refine (trLevelOf_any b s n R _ w HT.out).mono ?_
        rw [HL.out]
        rintro e w' ⟨rfl, rfl⟩
        go_wp2_with fail
        refine (trDecides_any _ _ _ _).mono ?_
        rw [HD.out, hdc]
        rintro e w1 ⟨rfl, hw⟩
        go_wp2
        go_ret
        exact ⟨by rw [HE.out, HE2.out]; rfl, hw⟩
      | false =>
        have HE2 : Hid (rea0 p = p.rea) := by show _ = _; unfold rea0; rw [if_neg (by simpa [dcs] using hdc)]
        go_enter Try.func20, Try.ntmps20
        go_wp2_with fail
        refine (trLevelOf_any b s n R _ w HT.out).mono ?_
        rw [HL.out]
        rintro e w' ⟨rfl, rfl⟩
        go_wp2_with fail
        refine (trDecides_any _ _ _ _).mono ?_
        rw [HD.out, hdc]
        rintro e w1 ⟨rfl, hw⟩
        have j1 := HB1.out w1 hw
        have j2 := HB2.out w1 hw
        clear hcell hcell0 hcell1 k1 k3
        go_wp2
        go_ret
        exact ⟨by rw [HE.out, ← HE2.out]; rfl, hw⟩
  · have HL : Hid (levL n R v = -1) := by show _ = _; unfold levL; rw [if_neg hl]
    have HE : Hid (reaL n R v = -1) := by show _ = _; unfold reaL; rw [if_neg hl]
    clear h H hb hl
    go_enter Try.func20, Try.ntmps20
    go_wp2_with fail
    refine (trLevelOf_any b s n R _ w HT.out).mono ?_
    rw [HL.out]
    rintro e w' ⟨rfl, rfl⟩
    go_wp2
    go_ret
    exact ⟨by rw [HE.out]; rfl, Below.refl _ _⟩

/-- why a literal can't be laid -/
def refL (n : Nat) (R : List Pl) (l : Int) : Int := if litN n l then (if valL n R l ≠ 0 then 50 else 0) else 1
theorem trRefusal_any (b : Nat) (s : Sl) (n : Nat) (R : List Pl) (l : Int) (w : World) (h : Tr w b s n R) :
    Calls Try.prog 50 #[.pointer (some ⟨b, 0, none⟩), .int .i64 l] w fun e w' => e = .returned (.int .i64 (refL n R l)) ∧ w' = w := by
  have hb := h.q.box
  have HT : Hid (Tr w b s n R) := h
  obtain ⟨a, c, e⟩ := row_form' h.q.v
  rw [e] at hb
  have HB : Hid (Bx4 w b 77 (.slice a n c) s.F s.R s.L) := hb
  have HL : Hid (decide (1 ≤ varOf l ∧ varOf l ≤ n) = litN n l) := (varOf_lit (l := l) h.n).symm
  clear h hb e
  cases hl : litN n l with
  | true =>
    rw [show refL n R l = if valL n R l ≠ 0 then 50 else 0 by unfold refL; rw [if_pos hl]]
    by_cases hv : valL n R l = 0
    · rw [if_neg (by simpa using hv)]
      go_enter Try.func50, Try.ntmps50
      go_wp2_with fail
      refine (var_any _ _).mono ?_
      rintro e w' ⟨rfl, rfl⟩
      go_wp2_with fail
      refine (trHas_any b n a c s.F s.R s.L _ w' HB.out).mono ?_
      rw [HL.out, hl]
      rintro e w' ⟨rfl, rfl⟩
      go_wp2_with fail
      refine (trValue_any b s n R l w' HT.out).mono ?_
      rw [hv]
      rintro e w' ⟨rfl, rfl⟩
      go_wp2
      go_ret
      exact ⟨rfl, rfl⟩
    · rw [if_pos hv]
      go_enter Try.func50, Try.ntmps50
      go_wp2_with fail
      refine (var_any _ _).mono ?_
      rintro e w' ⟨rfl, rfl⟩
      go_wp2_with fail
      refine (trHas_any b n a c s.F s.R s.L _ w' HB.out).mono ?_
      rw [HL.out, hl]
      rintro e w' ⟨rfl, rfl⟩
      go_wp2_with fail
      refine (trValue_any b s n R l w' HT.out).mono ?_
      rintro e w' ⟨rfl, rfl⟩
      have hv2 : (valL n R l == 0) = false := by simp [hv]
      generalize valL n R l = z at *
      go_wp2
      go_ret
      exact ⟨rfl, rfl⟩
  | false =>
    have HE : Hid (refL n R l = 1) := by show _ = _; unfold refL; rw [if_neg (by simp [hl])]
    go_enter Try.func50, Try.ntmps50
    go_wp2_with fail
    refine (var_any _ _).mono ?_
    rintro e w' ⟨rfl, rfl⟩
    go_wp2_with fail
    refine (trHas_any b n a c s.F s.R s.L _ w' HB.out).mono ?_
    rw [HL.out, hl]
    rintro e w' ⟨rfl, rfl⟩
    go_wp2
    go_ret
    exact ⟨by rw [HE.out]; rfl, rfl⟩

theorem trLits_any (b : Nat) (s : Sl) (n : Nat) (R : List Pl) (w : World) (h : Tr w b s n R) :
    Calls Try.prog 14 #[.pointer (some ⟨b, 0, none⟩)] w fun e w' => ∃ u, e = .returned u ∧ Own w.heap.size w' u (R.map Pl.lit) ∧ Below w.heap.size w w' := by
  have c2 := h.q.box.c2
  have HR : Hid (Rd w s.R (R.map Pl.lit)) := h.rd
  clear h
  generalize s.R = u at *
  go_enter Try.func14, Try.ntmps14
  go_wp2_with fail
  refine (clone_any u _ w HR.out).mono ?_
  rintro e w' ⟨v, rfl, ho, hb⟩
  go_wp2
  go_ret
  exact ⟨v, rfl, ho, hb⟩
end Go.Proofs.Ytjcgfigbbbefcaa

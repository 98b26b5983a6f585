/-
  unit, the document's answer: Stands, Values, given, first, Why.
  KEEP: set on app at below new trans refl start ap kept rd rds mono lt add none own nil put len pos setF setV putL putR other neV same_any
-/
import Derived.Test.YtijhabhbeambeaaDoorJUnS
set_option linter.unusedSimpArgs false
set_option linter.unusedVariables false
namespace Go.Proofs.YtijhabhbeambeaaDoor
open Go Go.RowKit

/-- how Stands says it -/
def StOk (L c : List Int) (k o : Int) : Prop := (kd L c = some 0 ∧ k = 2 ∧ o = 0) ∨ (∃ l, l ≠ 0 ∧ kd L c = some l ∧ k = 3 ∧ o = l) ∨ (kd L c = none ∧ (k = 0 ∨ k = 1) ∧ o = 0)
/-- a clause, as far as it was looked at -/
def Sd (L c : List Int) (j : Nat) (o : Int) : Prop := (∀ m ∈ c.take j, m ∉ L) ∧ ((o = 0 ∧ ∀ m ∈ c.take j, -m ∈ L) ∨ (o ≠ 0 ∧ o ∈ c.take j ∧ -o ∉ L ∧ ∀ m ∈ c.take j, m ≠ o → -m ∈ L))
theorem Sd.start (L c : List Int) : Sd L c 0 0 := ⟨by simp, .inl ⟨rfl, by simp⟩⟩
theorem Sd.no {L c : List Int} {j : Nat} {o : Int} (h : Sd L c j o) (hj : j < c.length) (h1 : c.getD j 0 ∉ L) (h2 : -(c.getD j 0) ∈ L) : Sd L c (j + 1) o := by
  refine ⟨fun m hm => ?_, ?_⟩
  · rcases (mem_take_more hj).1 hm with a | a
    · exact h.1 m a
    · rw [a]; exact h1
  · rcases h.2 with ⟨a, b⟩ | ⟨a, b, d, f⟩
    · refine .inl ⟨a, fun m hm => ?_⟩
      rcases (mem_take_more hj).1 hm with e | e
      · exact b m e
      · rw [e]; exact h2
    · refine .inr ⟨a, (mem_take_more hj).2 (.inl b), d, fun m hm hne => ?_⟩
      rcases (mem_take_more hj).1 hm with e | e
      · exact f m e hne
      · rw [e]; exact h2
theorem Sd.yes {L c : List Int} {j : Nat} {o : Int} (h : Sd L c j o) (hj : j < c.length) (h0 : c.getD j 0 ≠ 0) (h1 : c.getD j 0 ∉ L) (h2 : -(c.getD j 0) ∉ L) (ho : o = 0 ∨ o = c.getD j 0) : Sd L c (j + 1) (c.getD j 0) := by
  refine ⟨fun m hm => ?_, .inr ⟨h0, (mem_take_more hj).2 (.inr rfl), h2, fun m hm hne => ?_⟩⟩
  · rcases (mem_take_more hj).1 hm with a | a
    · exact h.1 m a
    · rw [a]; exact h1
  · rcases (mem_take_more hj).1 hm with e | e
    · rcases h.2 with ⟨_, b⟩ | ⟨a, _, _, f⟩
      · exact b m e
      · rcases ho with q | q
        · exact absurd q a
        · exact f m e (by rw [q]; exact hne)
    · exact absurd e hne
set_option maxRecDepth 100000 in
set_option maxHeartbeats 1000000 in
theorem rStands_any (vc v : Value) (c : List Int) (t : Nat) (L : List Int) (w : World) (hr : Rd w vc c) (hv : Rd w v (vsL t L)) (ht : t ≤ 1048576) (hf : ∀ l ∈ c, fmd l = true ∧ l.natAbs ≤ t) (hc : Con L) :
    Calls Tryd.prog 66 #[vc, v] w fun e w' => ∃ k o, e = .returned (.tuple #[.int .i64 k, .int .i64 o]) ∧ StOk L c k o ∧ w' = w := by
  have hl := hr.len
  have HV : Hid (Rd w v (vsL t L) ∧ t ≤ 1048576 ∧ Con L) := ⟨hv, ht, hc⟩
  have HF : Hid (∀ l ∈ c, fmd l = true ∧ l.natAbs ≤ t) := hf
  obtain ⟨ad, cp, rfl, hcc, hm, hcell⟩ := hr.form
  have HC : Hid (∀ k, k < c.length → ∃ b off, ad = some ⟨b, off, none⟩ ∧ w.cell? ⟨b, off + k, none⟩ = some (.int .i64 (c.getD k 0))) := hcell
  clear hcell hr hf hv hc
  go_enter Tryd.func66, Tryd.ntmps66
  go_wp2
  go_loopg [6, 7] c.length (fun g o' i' wr => ∃ (k : Nat) (o : Int), k + g = c.length ∧ o' = .int .i64 o ∧ i' = .int .i64 k ∧ Sd L c k o ∧ wr = w)
  case atStart => exact ⟨0, 0, by omega, rfl, rfl, Sd.start _ _, rfl⟩
  case round =>
    obtain ⟨k, o, hk, rfl, rfl, hsd, hwr⟩ := hrel
    obtain rfl : w = wr := hwr.symm
    have HK : Hid (k + gk = c.length) := hk
    have HSd : Hid (Sd L c k o) := hsd
    clear hwr hsd
    by_cases hlt : k < c.length
    · obtain ⟨b, off, rfl, kc⟩ := HC.out k hlt
      have hfl := HF.out _ (getD_mem' (d := 0) hlt)
      have HMem : Hid (c.getD k 0 ∈ c) := getD_mem' hlt
      have HLT : Hid (k < c.length) := hlt
      have hl0 := (fmd_range hfl.1).1
      generalize hle : c.getD k 0 = l at *
      have HLE : Hid (c.getD k 0 = l) := hle
      have HFl : Hid (fmd l = true ∧ l.natAbs ≤ t) := hfl
      clear hk hle hfl
      go_wp2_with fail
      refine (rValue_any v t L l w HV.out.1 HV.out.2.1 HFl.out.1 HV.out.2.2 (.inl HFl.out.2)).mono ?_
      rintro e w9 ⟨rfl, hw9⟩
      obtain rfl : w = w9 := hw9.symm
      clear hw9
      rcases vl_range L l with hx | hx | hx
      · have HS : Hid (StOk L c 1 0) := .inr (.inr ⟨kd_true HMem.out (vl_one.1 hx), .inr rfl, rfl⟩)
        rw [hx]
        clear hx
        go_wp2
        go_ret2
        exact ⟨_, _, rfl, HS.out, rfl⟩
      · obtain ⟨h1, h2⟩ := vl_m1 hx
        have HS : Hid (Sd L c (k + 1) o) := HSd.out.no HLT.out (by rw [HLE.out]; exact h2) (by rw [HLE.out]; exact h1)
        rw [hx]
        clear hx h1 h2
        go_wp2
        go_roundg (gk - 1)
        case measure => have := HK.out; have := HLT.out; omega
        case rel => exact ⟨k + 1, o, by have := HK.out; have := HLT.out; omega, rfl, by go_num, HS.out, rfl⟩
      · obtain ⟨h1, h2⟩ := vl_zero.1 hx
        rw [hx]
        clear hx
        by_cases ho : o = 0 ∨ o = l
        · have HS : Hid (Sd L c (k + 1) l) := by
            have := HSd.out.yes HLT.out (by rw [HLE.out]; exact hl0) (by rw [HLE.out]; exact h1) (by rw [HLE.out]; exact h2) (by rw [HLE.out]; exact ho)
            rw [HLE.out] at this
            exact this
          clear h1 h2
          rcases ho with rfl | rfl
          · go_wp2
            go_roundg (gk - 1)
            case measure => have := HK.out; have := HLT.out; omega
            case rel => exact ⟨k + 1, l, by have := HK.out; have := HLT.out; omega, rfl, by go_num, HS.out, rfl⟩
          · have hoo : (o != o) = false := by simp
            have ho1 : (o == 0) = false := by simpa using hl0
            go_wp2
            go_roundg (gk - 1)
            case measure => have := HK.out; have := HLT.out; omega
            case rel => exact ⟨k + 1, o, by have := HK.out; have := HLT.out; omega, rfl, by go_num, HS.out, rfl⟩
        · have ho1 : o ≠ 0 ∧ o ≠ l := ⟨fun e => ho (.inl e), fun e => ho (.inr e)⟩
          have HS : Hid (StOk L c 0 0) := by
            rcases HSd.out.2 with ⟨a, _⟩ | ⟨_, b, d, _⟩
            · exact absurd a ho1.1
            · exact .inr (.inr ⟨kd_two (List.mem_of_mem_take b) HMem.out ho1.2 d h2, .inl rfl, rfl⟩)
          have hb1 : (o == 0) = false := by simpa using ho1.1
          have hb2 : (o == l) = false := by simpa using ho1.2
          obtain ⟨hn0, hnl⟩ := ho1
          have hb3 : (o != 0) = true := by simpa using hn0
          have hb4 : (o != l) = true := by simpa using hnl
          clear h1 h2 ho hn0 hnl hb1 hb2
          go_wp2
          go_ret2
          exact ⟨_, _, rfl, HS.out, rfl⟩
    · have hke : k = c.length := by omega
      have hsd := HSd.out
      unfold Sd at hsd
      rw [hke, List.take_length] at hsd
      clear hke
      obtain ⟨hno, ho⟩ := hsd
      rcases ho with ⟨rfl, hall⟩ | ⟨ho0, hoc, hon, hoth⟩
      · have HS : Hid (StOk L c 2 0) := .inl ⟨kd_false hall hno, rfl, rfl⟩
        clear hno hall
        go_wp2
        go_ret2
        exact ⟨_, _, rfl, HS.out, rfl⟩
      · have HS : Hid (StOk L c 3 o) := .inr (.inl ⟨o, ho0, kd_unit hoc hon hoth hno, rfl, rfl⟩)
        have hb1 : (o == 0) = false := by simpa using ho0
        clear hno hoc hon hoth
        go_wp2
        go_ret2
        exact ⟨_, _, rfl, HS.out, rfl⟩
/-- the greatest variable of a formula and some literals -/
def topL (css : List (List Int)) (facts : List Int) : Int := css.foldl mx (mx 0 facts)
theorem top_take (css : List (List Int)) (a : Int) {j : Nat} (h : j < css.length) : (css.take (j + 1)).foldl mx a = mx ((css.take j).foldl mx a) (css.getD j []) := by
  rw [List.take_succ_eq_append_getElem h, List.foldl_append, List.getD_eq_getElem?_getD, List.getElem?_eq_getElem h]; rfl
theorem fold_range (css : List (List Int)) : ∀ a : Int, 0 ≤ a → a ≤ 1048576 → 0 ≤ css.foldl mx a ∧ css.foldl mx a ≤ 1048576 ∧ a ≤ css.foldl mx a ∧ ∀ c ∈ css, ∀ l ∈ c, varOf l ≤ css.foldl mx a := by
  induction css with
  | nil => intro a h0 h1; exact ⟨h0, h1, Int.le_refl _, by simp⟩
  | cons x r ih =>
    intro a h0 h1
    obtain ⟨b1, b2, b3, b4⟩ := mx_range x a h0 h1
    obtain ⟨a1, a2, a3, a4⟩ := ih (mx a x) b1 b2
    refine ⟨a1, a2, by simp only [List.foldl_cons]; omega, fun c hc l hl => ?_⟩
    rcases List.mem_cons.1 hc with e | e
    · subst e; have := b4 l hl; simp only [List.foldl_cons]; omega
    · exact a4 c e l hl
theorem top_range (css : List (List Int)) (facts : List Int) : 0 ≤ topL css facts ∧ topL css facts ≤ 1048576 ∧ (∀ c ∈ css, ∀ l ∈ c, varOf l ≤ topL css facts) ∧ ∀ l ∈ facts, varOf l ≤ topL css facts := by
  obtain ⟨b1, b2, b3, b4⟩ := mx_range facts 0 (by omega) (by omega)
  obtain ⟨a1, a2, a3, a4⟩ := fold_range css (mx 0 facts) b1 b2
  exact ⟨a1, a2, a4, fun l hl => by have := b4 l hl; unfold topL; omega⟩
theorem var_abs {l : Int} (h : fmd l = true) : varOf l = l.natAbs := by
  have := fmd_range h
  unfold varOf; rw [if_pos h]; split <;> omega

set_option maxRecDepth 100000 in
theorem rValues_any (n : Int) (s vf : Value) (css : List (List Int)) (facts : List Int) (w : World) (hr : Rds w s css) (hf : Rd w vf facts) (h1 : ∀ c ∈ css, ∀ l ∈ c, fmd l = true) (h2 : ∀ l ∈ facts, fmd l = true) :
    Calls Tryd.prog 65 #[.agg #[.int .i64 n, s], vf] w fun e w' => ∃ g, e = .returned (.slice (some ⟨g, 0, none⟩) ((topL css facts).toNat + 1) ((topL css facts).toNat + 1)) ∧ Vz w.heap.size w' g ((topL css facts).toNat + 1) (topL css facts).toNat [] ∧ Below w.heap.size w w' := by
  have hl := hr.len
  have HX : Hid (Bx w n s css (w.alloc (.cells #[.int .i64 n, s] 24))) := Bx.new hr _
  have HRf : Hid (Rd w vf facts) := hf
  have HF1 : Hid (∀ c ∈ css, ∀ l ∈ c, fmd l = true) := h1
  have HF2 : Hid (∀ l ∈ facts, fmd l = true) := h2
  have HT : Hid (∀ k, 0 ≤ (css.take k).foldl mx (mx 0 facts) ∧ (css.take k).foldl mx (mx 0 facts) ≤ 1048576) := fun k => by
    obtain ⟨b1, b2, _, _⟩ := mx_range facts 0 (by omega) (by omega)
    obtain ⟨a1, a2, _, _⟩ := fold_range (css.take k) _ b1 b2
    exact ⟨a1, a2⟩
  obtain ⟨a, c, rfl, h3, h4, -⟩ := hr.form
  have HB : Hid (Below w.heap.size w (w.alloc (.cells #[.int .i64 n, .slice a css.length c] 24))) := below_box _ _
  clear hr hf h1 h2
  go_enter Tryd.func65, Tryd.ntmps65
  go_wp2_with fail
  refine (rGreatest_any vf facts 0 _ (HRf.out.below HB.out) HF2.out (by omega) (by omega)).mono ?_
  rintro e w1 ⟨rfl, hw1⟩
  obtain rfl := hw1
  generalize w.alloc (.cells #[.int .i64 n, .slice a css.length c] 24) = W0 at *
  go_wp2
  go_loopg [5, 6] css.length (fun g m' i' wr => ∃ k : Nat, k + g = css.length ∧ m' = .int .i64 ((css.take k).foldl mx (mx 0 facts)) ∧ i' = .int .i64 k ∧ wr = W0)
  case atStart => exact ⟨0, by omega, by simp, rfl, rfl⟩
  case round =>
    obtain ⟨k, hk, rfl, rfl, hwr⟩ := hrel
    obtain rfl : W0 = wr := hwr.symm
    have HK : Hid (k + gk = css.length) := hk
    have c0 := HX.out.c0
    have c1 := HX.out.c1
    have ht := HT.out k
    clear hwr hk
    by_cases hlt : k < css.length
    · obtain ⟨a', c', e', -, -, hAT⟩ := HX.out.rd.form
      injection e' with e1 _ e3
      subst e1
      subst e3
      obtain ⟨bb, off, u, rfl, kc, hrd⟩ := hAT k hlt
      have HRd : Hid (Rd W0 u (css.getD k []) ∧ ∀ l ∈ css.getD k [], fmd l = true) := ⟨hrd, HF1.out _ (getD_in hlt)⟩
      obtain ⟨au, cu, rfl, -, -, -⟩ := hrd.form
      have HTk : Hid ((css.take (k + 1)).foldl mx (mx 0 facts) = mx ((css.take k).foldl mx (mx 0 facts)) (css.getD k [])) := top_take css _ hlt
      have HLT : Hid (k < css.length) := hlt
      clear hrd hAT
      generalize css.getD k [] = ck at *
      generalize (css.take k).foldl mx (mx 0 facts) = m0 at *
      go_wp2_with fail
      refine (rGreatest_any _ ck m0 W0 HRd.out.1 HRd.out.2 ht.1 ht.2).mono ?_
      rintro e w9 ⟨rfl, hw9⟩
      obtain rfl : W0 = w9 := hw9.symm
      clear hw9
      go_wp2
      go_roundg (gk - 1)
      case measure => have := HK.out; have := HLT.out; omega
      case rel => exact ⟨k + 1, by have := HK.out; have := HLT.out; omega, by rw [HTk.out], by go_num, rfl⟩
    · have hje : k = css.length := by have := HK.out; omega
      rw [hje, List.take_length] at ht ⊢
      clear hje
      have HTop : Hid (css.foldl mx (mx 0 facts) = topL css facts) := rfl
      obtain ⟨T, hT⟩ : ∃ T : Nat, css.foldl mx (mx 0 facts) = (T : Int) := ⟨(css.foldl mx (mx 0 facts)).toNat, by omega⟩
      have HTT : Hid ((topL css facts).toNat = T) := by show _ = _; unfold topL; rw [hT]; simp
      rw [hT] at ht ⊢
      have hmk := run_make_row' (P := Tryd.prog) 25 3 (.int .i64 0) 8 Tryd.underlying25 Tryd.info3 rfl .i64 .i64 (T + 1) (by omega) (by omega)
      have e1 : ((T + 1 : Nat) : Int) = (T : Int) + 1 := by omega
      rw [e1] at hmk
      have hw1 : IntKind.i64.wrap ((T : Int) + 1) = (T : Int) + 1 := by rw [IntKind.wrap_i64]; omega
      have HF : Hid (Vz w.heap.size (W0.alloc (.cells (madeCells #[.int .i64 0] (T + 1)) 3)) W0.heap.size (T + 1) T [] ∧ Below w.heap.size w (W0.alloc (.cells (madeCells #[.int .i64 0] (T + 1)) 3))) := by
        refine ⟨⟨by simp [vsL_len], .inr ⟨W0.heap.size, T + 1, _, rfl, HB.out.size, World.alloc_heap_new W0 _, Nat.le_refl _, by unfold maxLen; omega, by rw [made_zero6]; simp, ?_⟩⟩, Below.step HB.out (below_box _ _)⟩
        rw [made_zero6]
        apply List.ext_getElem (by simp [vsL_len])
        intro i h5 h6
        simp [vsL, vl]
      clear hT
      go_wp2
      go_ret
      exact ⟨W0.heap.size, by rw [HTT.out]; rfl, by rw [HTT.out]; exact HF.out.1, HF.out.2⟩
end Go.Proofs.YtijhabhbeambeaaDoor

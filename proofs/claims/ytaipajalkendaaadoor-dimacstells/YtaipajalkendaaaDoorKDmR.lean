/-
  The document's Read of formulas, walked.
  KEEP: box own below mono lt set kept new trans refl app on grown cell out block size os tape output c f c0 c1 f0 f1 len nil form rd rds low set0 set1 not_row at row ap bel bx ge lit fin tx or rdz be
-/
import Derived.Test.YtaipajalkendaaaDoorKDmM
import Derived.Test.YtaipajalkendaaaDoorKDmH
import Derived.Test.YtaipajalkendaaaDoorKReadW
import Derived.Test.YtaipajalkendaaaDoorRdBack
import Derived.Lib.ItoaLen
set_option linter.unusedSimpArgs false
set_option linter.unusedVariables false
namespace Go.Proofs.YtaipajalkendaaaDoor
open Go Go.RowKit

theorem retR {w wr W3 : World} (hb : Below (w.heap.size + 1) (w.alloc (.cells #[.int .i64 0, .slice none 0 0] 24)) wr) (x y : Value) (h1 : W3.heap = ((wr.setCell ⟨w.heap.size, 0, none⟩ x).setCell ⟨w.heap.size, 1, none⟩ y).heap) (h2 : W3.os = wr.os) (h3 : W3.tape = wr.tape) (h4 : W3.output = wr.output) :
    Bx2 W3 w.heap.size 24 x y ∧ Below w.heap.size w W3 := by
  have b0 : Bx2 wr w.heap.size 24 (.int .i64 0) (.slice none 0 0) := (hb.block _ (by omega)).trans (Bx2.new w 24 (.int .i64 0) (.slice none 0 0))
  have bb : Below w.heap.size w wr := Below.trans (below_box w _) (hb.mono (by omega))
  have b2 := (bb.setCell (p := ⟨w.heap.size, 0, none⟩) (Nat.le_refl _) x).setCell (p := ⟨w.heap.size, 1, none⟩) (Nat.le_refl _) y
  refine ⟨by unfold Bx2; rw [h1]; exact (b0.set0 x).set1 y, ⟨h2.trans bb.os, h3.trans bb.tape, h4.trans bb.output, by rw [h1]; exact b2.size, fun k hk => by rw [h1]; exact b2.block k hk⟩⟩
/-- what is answered of a text whose head is one -/
def finF (v c : Int) (n : Nat) : List (List Int) × List Int × Option (Int × Nat) → RdA
  | (_, _, some (e, j)) => ⟨0, [], e, j⟩
  | (all, op, none) => if op ≠ [] then ⟨0, [], 33, n + 1⟩ else if (all.length : Int) ≠ c then ⟨0, [], 34, n + 1⟩ else ⟨v, all, 0, 0⟩
theorem rdF_head {s l : List UInt8} {k : Nat} {r : List (List UInt8)} {v c : Int} (h : nxt 1 (linesOf s) = some (l, k, r)) (h2 : headW (wordsOf l) = some (v, c)) :
    rdF s = finF v c (linesOf s).length (eat v (spoken (k + 1) r) [] []) := by
  unfold rdF; rw [h]; simp only [h2]
  generalize eat v (spoken (k + 1) r) [] [] = E
  obtain ⟨a, b, o⟩ := E
  cases o <;> rfl
theorem clN_range {B z : Int} (hB : 0 ≤ B) : -B ≤ clN B z ∧ clN B z ≤ B := by
  unfold clN
  split
  · omega
  · split <;> omega
theorem clN_zero {B z : Int} (hB : 0 < B) : clN B z = 0 ↔ z = 0 := by
  unfold clN
  split
  · constructor <;> intro h <;> omega
  · split
    · constructor <;> intro h <;> omega
    · exact Iff.rfl
theorem nxt_idle : ∀ {ls : List (List UInt8)} {k k' : Nat} {l : List UInt8} {r : List (List UInt8)}, nxt k ls = some (l, k', r) → idleL l = false ∧ l ∈ ls
  | [], _, _, _, _, h => by cases h
  | x :: t, k, k', l, r, h => by
    rw [nxt] at h
    split at h
    · have := nxt_idle h; exact ⟨this.1, List.mem_cons_of_mem _ this.2⟩
    · rename_i hx
      cases h
      exact ⟨by simpa using hx, by simp⟩

set_option maxHeartbeats 6400000 in
set_option maxRecDepth 100000 in
theorem rDimRead_any (s : ByteArray) (w : World) (hs : s.size ≤ 1099511627776) :
    Calls Tryd.prog 9 #[.string s] w (RdS w (rdF s.data.toList)) := by
  obtain ⟨i0, hi, hz0', hz1, hz2⟩ := info_parts Tryd.info3
  obtain ⟨il, hil, hzl0, hzl1, hzl2⟩ := info_parts infoR
  have HLn : Hid (∀ W : World, Calls Tryd.prog 26 #[.string s] W fun e w' => ∃ v, e = .returned v ∧ OwnL W.heap.size w' v (linesOf s.data.toList) ∧ Below W.heap.size W w') := fun W => by
    have := rLines_any s W hs
    rwa [lns_lines _ _ (Nat.le_refl _)] at this
  have h1 := lns_len s.data.toList []
  have h2 := lns_sum s.data.toList []
  rw [List.length_nil, Nat.add_zero, ba_len, lns_lines _ _ (Nat.le_refl _)] at h1 h2
  have hlen : (linesOf s.data.toList).length ≤ 1099511627776 := by omega
  have hsum : lenS (linesOf s.data.toList) ≤ 1099511627776 := by omega
  have HEach : Hid (∀ x ∈ linesOf s.data.toList, x.length ≤ 1099511627776) := fun x hx => by have := lenS_each _ x hx; omega
  clear h1 h2
  cases hnx : nxt 1 (linesOf s.data.toList) with
  | none =>
    have HA : Hid (rdF s.data.toList = ⟨0, [], 30, (linesOf s.data.toList).length + 1⟩) := rdF_bad1 hnx
    have HSp : Hid (spk 1 (linesOf s.data.toList) = []) := by show _ = _; rw [spk_spoken, nxt_none hnx]
    generalize rdF s.data.toList = A at *
    generalize linesOf s.data.toList = ls at *
    clear hnx
    go_enter Tryd.func9, Tryd.ntmps9
    go_wp2_with fail
    refine (HLn.out _).mono ?_
    rintro e w1 ⟨lv, rfl, ol, bel1⟩
    have HSk : Hid (Calls Tryd.prog 27 #[lv] w1 fun e w' => ∃ v, e = .returned v ∧ OwnW w1.heap.size w' v [] ∧ Below w1.heap.size w1 w') := by
      have := rSpoken_any _ lv ls w1 ol hsum hlen
      rw [HSp.out] at this
      exact this.mono fun e w' ⟨v, q1, q2, _, q4⟩ => ⟨v, q1, q2, q4⟩
    obtain ⟨la, lc, rfl, _, _, _⟩ := ol.form
    have HB1 : Hid (Below (w.heap.size + 1) (w.alloc (.cells #[.int .i64 0, .slice none 0 0] 24)) w1) := by show Below _ _ _; simpa using bel1
    clear ol bel1 HLn
    go_wp2_with fail
    refine HSk.out.mono ?_
    rintro e w2 ⟨v2, rfl, ow, bel2⟩
    obtain ⟨wa, wc, hv2, _, _, _⟩ := ow.form
    simp only [List.length_nil] at hv2
    subst hv2
    have HB2 : Hid (Below (w.heap.size + 1) (w.alloc (.cells #[.int .i64 0, .slice none 0 0] 24)) w2) := HB1.out.trans (bel2.mono (by have := HB1.out.size; simp at this; exact this))
    have bR : Bx2 w2 w.heap.size 24 (.int .i64 0) (.slice none 0 0) := (HB2.out.block _ (by omega)).trans (Bx2.new w 24 (.int .i64 0) (.slice none 0 0))
    have r0 := bR.c0
    have r1 := bR.c1
    have s0 := bR.f0
    have s1 := bR.f1
    clear ow bel2 HSk HB1 bR
    go_wp2
    have q := retR (W3 := (w2.setCell ⟨w.heap.size, 0, none⟩ (.int .i64 0)).setCell ⟨w.heap.size, 1, none⟩ (.slice none 0 0)) HB2.out (.int .i64 0) (.slice none 0 0) rfl rfl rfl rfl
    refine bodyPost_ret (ret_form3 rfl rfl q.1) rfl ?_
    rw [HA.out]
    exact ⟨_, by first | rfl | simp, OwnF.nil _ _, q.2⟩
  | some x =>
    obtain ⟨ln, k, r⟩ := x
    obtain ⟨hsp, hkr, _⟩ := nxt_some hnx
    obtain ⟨hidl, hmem⟩ := nxt_idle hnx
    have hwne : wordsOf ln ≠ [] := idle_words hidl
    have HSp : Hid (spk 1 (linesOf s.data.toList) = (wordsOf ln).map (fun w => (w, k)) ++ spoken (k + 1) r) := by show _ = _; rw [spk_spoken, hsp]
    have HTl : Hid (∀ x ∈ spoken (k + 1) r, x.2 ≠ k) := fun x hx => by have := spoken_ge r (k + 1) x hx; omega
    have HWe : Hid (∀ x ∈ wordsOf ln, x.length ≤ 1099511627776) := fun x hx => by
      rw [← wds_words] at hx
      have h1 := wds_each ln [] x hx
      have h2 := HEach.out ln hmem
      simp at h1; omega
    have HSkA : Hid (∀ (W : World) (lv : Value), OwnL (w.heap.size + 1) W lv (linesOf s.data.toList) → Calls Tryd.prog 27 #[lv] W fun e w' => ∃ v, e = .returned v ∧ OwnW W.heap.size w' v ((wordsOf ln).map (fun w => (w, k)) ++ spoken (k + 1) r) ∧ ((wordsOf ln).map (fun w => (w, k)) ++ spoken (k + 1) r).length ≤ 1099511627776 ∧ Below W.heap.size W w') := fun W lv ho => by
      have := rSpoken_any _ lv _ W ho hsum hlen
      rwa [HSp.out] at this
    have HLn2 : Hid (∀ W : World, Calls Tryd.prog 26 #[.string s] W fun e w' => ∃ v, e = .returned v ∧ OwnL W.heap.size w' v (linesOf s.data.toList) ∧ Below W.heap.size W w') := HLn.out
    cases hh : headW (wordsOf ln) with
    | none =>
      have HA : Hid (rdF s.data.toList = ⟨0, [], 30, k⟩) := by show _ = _; unfold rdF; rw [hnx]; simp only [hh]
      have HHd : Hid (∀ (W : World) (v : Value) (B : Nat), OwnW B W v ((wordsOf ln).map (fun w => (w, k)) ++ spoken (k + 1) r) → ((wordsOf ln).map (fun w => (w, k)) ++ spoken (k + 1) r).length ≤ 1099511627776 → Calls Tryd.prog 28 #[v] W fun e w' => e = .returned (.bool false) ∧ Below W.heap.size W w') := fun W v B h1 h2 => by
        have := rHead_any B v (wordsOf ln) k _ W h1 hwne HTl.out h2 HWe.out
        rwa [hh] at this
      have HL0 : Hid (0 < ((wordsOf ln).map (fun w => (w, k)) ++ spoken (k + 1) r).length ∧ (((wordsOf ln).map (fun w => (w, k)) ++ spoken (k + 1) r).getD 0 ([], 0)).2 = k) := by
        cases hw : wordsOf ln with
        | nil => exact absurd hw hwne
        | cons a b => exact ⟨by simp, rfl⟩
      generalize rdF s.data.toList = A at *
      generalize linesOf s.data.toList = ls at *
      generalize (wordsOf ln).map (fun w => (w, k)) ++ spoken (k + 1) r = l at *
      clear hnx hsp hh HLn HSp hwne
      go_enter Tryd.func9, Tryd.ntmps9
      go_wp2_with fail
      refine (HLn2.out _).mono ?_
      rintro e w1 ⟨lv, rfl, ol, bel1⟩
      have HSk := HSkA.out w1 lv (by simpa using ol)
      have HSk : Hid (Calls Tryd.prog 27 #[lv] w1 fun e w' => ∃ v, e = .returned v ∧ OwnW w1.heap.size w' v l ∧ l.length ≤ 1099511627776 ∧ Below w1.heap.size w1 w') := HSk
      obtain ⟨la, lc, rfl, _, _, _⟩ := ol.form
      have HB1 : Hid (Below (w.heap.size + 1) (w.alloc (.cells #[.int .i64 0, .slice none 0 0] 24)) w1) := by show Below _ _ _; simpa using bel1
      clear ol bel1 HLn2 HSkA
      go_wp2_with fail
      refine HSk.out.mono ?_
      rintro e w2 ⟨v2, rfl, ow, hll, bel2⟩
      have HHx := HHd.out w2 v2 _ ow hll
      have HHx : Hid (Calls Tryd.prog 28 #[v2] w2 fun e w' => e = .returned (.bool false) ∧ Below w2.heap.size w2 w') := HHx
      obtain ⟨wa, wc, rfl, hwc, hwm, hcell⟩ := ow.form
      obtain ⟨g, rfl, hgl, _, hc1⟩ := hcell 0 HL0.out.1
      rw [HL0.out.2] at hc1
      have hl0 : l.length ≠ 0 := by have := HL0.out.1; omega
      have hlb : ((l.length : Int) == 0) = false := beq_eq_false_iff_ne.2 (by omega)
      have HB2 : Hid (Below (w.heap.size + 1) (w.alloc (.cells #[.int .i64 0, .slice none 0 0] 24)) w2) := HB1.out.trans (bel2.mono (by have := HB1.out.size; simp at this; exact this))
      have hl1 : 0 < l.length := HL0.out.1
      clear ow bel2 HSk HB1 hcell HHd HL0
      go_wp2_with fail
      refine HHx.out.mono ?_
      rintro e w3 ⟨rfl, bel3⟩
      have HB3 : Hid (Below (w.heap.size + 1) (w.alloc (.cells #[.int .i64 0, .slice none 0 0] 24)) w3) := HB2.out.trans (bel3.mono (by have := HB2.out.size; simp at this; exact this))
      have bR : Bx2 w3 w.heap.size 24 (.int .i64 0) (.slice none 0 0) := (HB3.out.block _ (by omega)).trans (Bx2.new w 24 (.int .i64 0) (.slice none 0 0))
      have r0 := bR.c0
      have r1 := bR.c1
      have s0 := bR.f0
      have s1 := bR.f1
      have d1 : w3.cell? ⟨g, 1, none⟩ = some (.int .i64 (k : Int)) := (bel3.cell (p := ⟨g, 1, none⟩) hgl).trans (by simpa using hc1)
      have hne : g ≠ w.heap.size := fun e => by
        have := hc1
        rw [e] at d1
        rw [r1] at d1
        cases d1
      clear bel3 HHx HB2 bR hc1 hgl
      go_upto_region 6 with fail
      go_region_with (fail)
      all_goals
        go_wp2_with fail
        have q := retR (W3 := ((w3.setCell ⟨w.heap.size, 0, none⟩ (.int .i64 0)).setCell ⟨w.heap.size, 1, none⟩ (.slice none 0 0)).drew) HB3.out (.int .i64 0) (.slice none 0 0) rfl rfl rfl rfl
        refine bodyPost_ret (ret_form3 rfl rfl q.1) rfl ?_
        rw [HA.out]
        exact ⟨_, by first | rfl | simp, OwnF.nil _ _, q.2⟩
    | some vc =>
      obtain ⟨v, c⟩ := vc
      obtain ⟨p, q, hws, hv0, hv1, hc0, hc1⟩ := headW_some hh
      have HA := rdF_head hnx hh
      obtain ⟨EE, hEE⟩ : ∃ EE, EE = eat v (spoken (k + 1) r) [] [] := ⟨_, rfl⟩
      rw [← hEE] at HA
      have HA : Hid (rdF s.data.toList = finF v c (linesOf s.data.toList).length EE) := HA
      have HHd : Hid (∀ (W : World) (v : Value) (B : Nat), OwnW B W v ((wordsOf ln).map (fun w => (w, k)) ++ spoken (k + 1) r) → ((wordsOf ln).map (fun w => (w, k)) ++ spoken (k + 1) r).length ≤ 1099511627776 → Calls Tryd.prog 28 #[v] W fun e w' => e = .returned (.bool true) ∧ Below W.heap.size W w') := fun W v B h1 h2 => by
        have := rHead_any B v (wordsOf ln) k _ W h1 hwne HTl.out h2 HWe.out
        rwa [hh] at this
      have HL0 : Hid (4 ≤ ((wordsOf ln).map (fun w => (w, k)) ++ spoken (k + 1) r).length ∧ (((wordsOf ln).map (fun w => (w, k)) ++ spoken (k + 1) r).getD 2 ([], 0)).1 = Lib.itoa v ∧ (((wordsOf ln).map (fun w => (w, k)) ++ spoken (k + 1) r).getD 3 ([], 0)).1 = Lib.itoa c ∧ ((wordsOf ln).map (fun w => (w, k)) ++ spoken (k + 1) r).drop 4 = spoken (k + 1) r) := by
        rw [hws]; exact ⟨by simp, rfl, rfl, rfl⟩
      have HWl : Hid (∀ x ∈ (wordsOf ln).map (fun w => (w, k)) ++ spoken (k + 1) r, x.1.length ≤ 1099511627776) := by
        rw [← hsp]
        intro x hx
        have key : ∀ (ls : List (List UInt8)) (j : Nat), (∀ y ∈ ls, y.length ≤ 1099511627776) → ∀ x ∈ spoken j ls, x.1.length ≤ 1099511627776 := by
          intro ls
          induction ls with
          | nil => intro j _ x hx; cases hx
          | cons a b ih =>
            intro j hy x hx
            rw [spoken] at hx
            rcases List.mem_append.1 hx with h | h
            · split at h
              · cases h
              · obtain ⟨u, hu, rfl⟩ := List.mem_map.1 h
                rw [← wds_words] at hu
                have h1 := wds_each a [] u hu
                have h2 := hy a (by simp)
                simp at h1; show u.length ≤ _; omega
            · exact ih (j + 1) (fun y hy' => hy y (List.mem_cons_of_mem _ hy')) x h
        exact key _ 1 HEach.out x hx
      have HEq : Hid (eat v (((wordsOf ln).map (fun w => (w, k)) ++ spoken (k + 1) r).drop 4) [] [] = EE) := by show _ = _; rw [HL0.out.2.2.2, hEE]
      generalize rdF s.data.toList = A at *
      generalize linesOf s.data.toList = ls at *
      generalize (wordsOf ln).map (fun w => (w, k)) ++ spoken (k + 1) r = l at *
      clear hnx hsp hh HLn HSp hwne hEE HTl HWe hws
      go_enter Tryd.func9, Tryd.ntmps9
      go_wp2_with fail
      refine (HLn2.out _).mono ?_
      rintro e w1 ⟨lv, rfl, ol, bel1⟩
      have HSk := HSkA.out w1 lv (by simpa using ol)
      have HSk : Hid (Calls Tryd.prog 27 #[lv] w1 fun e w' => ∃ v, e = .returned v ∧ OwnW w1.heap.size w' v l ∧ l.length ≤ 1099511627776 ∧ Below w1.heap.size w1 w') := HSk
      obtain ⟨la, lc, rfl, _, _, _⟩ := ol.form
      have HB1 : Hid (Below (w.heap.size + 1) (w.alloc (.cells #[.int .i64 0, .slice none 0 0] 24)) w1) := by show Below _ _ _; simpa using bel1
      clear ol bel1 HLn2 HSkA
      go_wp2_with fail
      refine HSk.out.mono ?_
      rintro e w2 ⟨v2, rfl, ow, hll, bel2⟩
      have HHx := HHd.out w2 v2 _ ow hll
      have HHx : Hid (Calls Tryd.prog 28 #[v2] w2 fun e w' => e = .returned (.bool true) ∧ Below w2.heap.size w2 w') := HHx
      have s1 : w.heap.size + 1 ≤ w1.heap.size := by have := HB1.out.size; simpa using this
      have HOW : Hid (OwnW (w.alloc (.cells #[.int .i64 0, .slice none 0 0] 24)).heap.size w2 v2 l) := row_mono ow (by simpa using s1)
      obtain ⟨wa, wc, rfl, hwc, hwm, hcell⟩ := ow.form
      obtain ⟨g, rfl, hgl, hcA, _⟩ := hcell 2 (by have := HL0.out.1; omega)
      obtain ⟨g', hg', _, hcB, _⟩ := hcell 3 (by have := HL0.out.1; omega)
      have e4 : g' = g := by injection hg' with q; injection q with q; exact q.symm
      subst e4
      rw [HL0.out.2.1] at hcA
      rw [HL0.out.2.2.1] at hcB
      have hl4 : 4 ≤ l.length := HL0.out.1
      have HC3 : Hid ((l.getD 3 ([], 0)).1 = Lib.itoa c) := HL0.out.2.2.1
      have hlb : ((l.length : Int) == 0) = false := beq_eq_false_iff_ne.2 (by omega)
      have HB2 : Hid (Below (w.heap.size + 1) (w.alloc (.cells #[.int .i64 0, .slice none 0 0] 24)) w2) := HB1.out.trans (bel2.mono (by simpa using s1))
      clear ow bel2 HSk HB1 hcell HHd HL0 hg'
      obtain ⟨bv, hbv⟩ : ∃ b : ByteArray, b = ⟨(Lib.itoa v).toArray⟩ := ⟨_, rfl⟩
      obtain ⟨bc, hbc⟩ : ∃ b : ByteArray, b = ⟨(Lib.itoa c).toArray⟩ := ⟨_, rfl⟩
      have hvs : bv.size ≤ 1099511627776 := by
        rw [hbv, show (⟨(Lib.itoa v).toArray⟩ : ByteArray).size = (Lib.itoa v).length by simp [ByteArray.size]]
        have := Lib.itoa_length_le v (by omega) (by omega); omega
      have hcs : bc.size ≤ 1099511627776 := by
        rw [hbc, show (⟨(Lib.itoa c).toArray⟩ : ByteArray).size = (Lib.itoa c).length by simp [ByteArray.size]]
        have := Lib.itoa_length_le c (by omega) (by omega); omega
      have HVv : Hid (∀ W : World, Calls Tryd.prog 29 #[.string bv] W fun e w' => e = .returned (.int .i64 v) ∧ Below W.heap.size W w') := fun W => by
        have := rVal_any bv v W (by rw [hbv]) hvs
        rwa [clN_id (by omega) (by omega)] at this
      have HVc : Hid (∀ W : World, Calls Tryd.prog 29 #[.string bc] W fun e w' => e = .returned (.int .i64 c) ∧ Below W.heap.size W w') := fun W => by
        have := rVal_any bc c W (by rw [hbc]) hcs
        rwa [clN_id (by omega) (by omega)] at this
      have hcA2 : w2.cell? ⟨g', 4, none⟩ = some (.string bv) := by rw [hbv]; exact hcA
      have hcB2 : w2.cell? ⟨g', 6, none⟩ = some (.string bc) := by rw [hbc]; exact hcB
      have HBc : Hid (bc = ⟨(Lib.itoa c).toArray⟩) := hbc
      clear hbv hbc hcA hcB hvs hcs
      go_wp2_with fail
      refine HHx.out.mono ?_
      rintro e w3 ⟨rfl, bel3⟩
      have hcA3 := (bel3.cell (p := ⟨g', 4, none⟩) hgl).trans hcA2
      have hcB3 := (bel3.cell (p := ⟨g', 6, none⟩) hgl).trans hcB2
      have HB3 : Hid (Below (w.heap.size + 1) (w.alloc (.cells #[.int .i64 0, .slice none 0 0] 24)) w3) := HB2.out.trans (bel3.mono (by have := HB2.out.size; simpa using this))
      have HOW3 : Hid (OwnW (w.alloc (.cells #[.int .i64 0, .slice none 0 0] 24)).heap.size w3 _ l) := HOW.out.below bel3
      have hgl3 : g' < w3.heap.size := Nat.lt_of_lt_of_le hgl bel3.size
      clear bel3 HHx HB2 HOW hcA2 hcB2 hgl
      go_wp2_with (go_at_call 29; refine (HVv.out _).mono ?_; rintro e w4 ⟨rfl, bel4⟩)
      have HB4 : Hid (Below (w.heap.size + 1) (w.alloc (.cells #[.int .i64 0, .slice none 0 0] 24)) w4) := HB3.out.trans (bel4.mono (by have := HB3.out.size; simpa using this))
      have s4 : w.heap.size + 1 ≤ w4.heap.size := by have := HB4.out.size; simpa using this
      have FZ0 : Hid (Fz (w.alloc (.cells #[.int .i64 0, .slice none 0 0] 24)) w4.heap.size (.slice (some ⟨g', 0, none⟩) l.length wc) l v (w4.alloc (.cells #[.int .i64 v, .slice none 0 0] 24)) (.slice none 0 0) [] (.slice none 0 0) []) :=
        ⟨OwnR.nil _ _, Bx2.new _ _ _ _, World.ownsRow_nil _ _ _ _, (fun x hx => by cases hx), by rw [show (w.alloc (.cells #[.int .i64 0, .slice none 0 0] 24)).heap.size = w.heap.size + 1 by simp]; exact HB4.out.alloc (by simpa using s4) _, by rw [show (w.alloc (.cells #[.int .i64 0, .slice none 0 0] 24)).heap.size = w.heap.size + 1 by simp]; exact s4, (HOW3.out.below bel4).below (below_box _ _)⟩
      have HBf : Hid (∀ {wr : World} {rv cv : Value} {L : List Cls} {cl : List Int}, Fz (w.alloc (.cells #[.int .i64 0, .slice none 0 0] 24)) w4.heap.size (.slice (some ⟨g', 0, none⟩) l.length wc) l v wr rv L cv cl → Below (w.heap.size + 1) (w.alloc (.cells #[.int .i64 0, .slice none 0 0] 24)) wr) := fun h => by have := h.bel; rwa [show (w.alloc (.cells #[.int .i64 0, .slice none 0 0] 24)).heap.size = w.heap.size + 1 by simp] at this
      have hbase : w.heap.size + 1 ≤ w4.heap.size := s4
      generalize w4.alloc (.cells #[.int .i64 v, .slice none 0 0] 24) = w5 at *
      generalize w4.heap.size = E at *
      clear bel4 HB3 HB4 HOW3 hcA3 hcB3 HVv hgl3 s4
      go_loopg [8, 9] l.length (fun gq u i wr => ∃ (m : Nat) (L : List Cls) (rv : Value) (cl : List Int), m + gq = l.length + 4 ∧ m ≤ l.length ∧ 4 ≤ m ∧ i = .int .i64 m ∧ L.length + cl.length + 4 ≤ m ∧ Hid (eat v (l.drop m) cl (L.map Prod.snd) = EE) ∧ Hid (Fz (w.alloc (.cells #[.int .i64 0, .slice none 0 0] 24)) E (.slice (some ⟨g', 0, none⟩) l.length wc) l v wr rv L u cl))
      case atStart => exact ⟨4, [], _, [], by omega, by omega, by omega, rfl, by simp, HEq.out, FZ0.out⟩
      case round =>
        clear HEq FZ0
        obtain ⟨m, L, rv, cl, hmg, hml, hm4, rfl, hsz, HEq, FZ⟩ := hrel
        have HM : Hid (m + gk = l.length + 4) := hmg
        obtain ⟨ca, cc, hu⟩ := own_form FZ.out.own
        subst hu
        obtain ⟨ra, rc, hr⟩ := row_form FZ.out.or.row
        subst hr
        have HBr := HBf.out FZ.out
        have HBr : Hid (Below (w.heap.size + 1) (w.alloc (.cells #[.int .i64 0, .slice none 0 0] 24)) wr) := HBr
        have bR : Bx2 wr w.heap.size 24 (.int .i64 0) (.slice none 0 0) := (HBr.out.block _ (by omega)).trans (Bx2.new w 24 (.int .i64 0) (.slice none 0 0))
        have r0 := bR.c0
        have r1 := bR.c1
        have s0 := bR.f0
        have s1 := bR.f1
        have e0 := FZ.out.bx.c0
        have e1 := FZ.out.bx.c1
        have hcl1 : cl.length ≤ 1099511627776 := by omega
        have hLl : L.length ≤ 1099511627776 := by omega
        by_cases hlt : m < l.length
        · obtain ⟨_, _, e', _, _, hcell⟩ := FZ.out.tx.form
          obtain ⟨g, hg, hgl, hc0, hc1⟩ := hcell m hlt
          have e3 : g = g' := by injection e' with q1 q2 q3; rw [hg] at q1; injection q1 with q; injection q with q; exact q.symm
          subst e3
          clear hcell e' hg
          have HD : Hid (l.drop m = l.getD m ([], 0) :: l.drop (m + 1)) := getD_drop l ([], 0) hlt
          have HLe : Hid ((l.getD m ([], 0)).1.length ≤ 1099511627776) := HWl.out _ (by rw [List.getD_eq_getElem?_getD, List.getElem?_eq_getElem hlt]; exact List.getElem_mem hlt)
          have hne : g ≠ w.heap.size := fun e => by
            rw [e] at hc1
            have h2 : wr.heap[w.heap.size]? = some (.cells #[.int .i64 0, .slice none 0 0] 24 (0, 0)) := bR
            rcases FZ.out.tx.2 with ⟨q, _⟩ | ⟨g2, cap, cur, q, _, hh, _⟩
            · cases q
            · injection q with q1 q2 q3
              injection q1 with q1
              injection q1 with q1
              rw [← q1, e, h2] at hh
              cases hh
          rw [HD.out] at HEq
          generalize l.getD m ([], 0) = xx at *
          obtain ⟨xt, xn⟩ := xx
          dsimp only at *
          obtain ⟨y, hy⟩ : ∃ y : ByteArray, y = ⟨xt.toArray⟩ := ⟨_, rfl⟩
          have HYd : Hid (y.data.toList = xt) := by show _ = _; rw [hy]
          have hcy : wr.cell? ⟨g, m * 2, none⟩ = some (.string y) := by rw [hc0, hy]; rfl
          have hys : y.size ≤ 1099511627776 := by rw [← ba_len, HYd.out]; exact HLe.out
          have HT := fun W => rTens_any y W hys
          rw [HYd.out] at HT
          clear hc0 hy hmg HD HLe bR
          cases ht : tensB xt
          · have HE2 : Hid (A = ⟨0, [], 31, xn⟩) := by show _ = _; rw [HA.out, ← HEq.out, eat, tens_num ht]; rfl
            rw [ht] at HT
            have HT : Hid (∀ W : World, Calls Tryd.prog 30 #[.string y] W fun e w' => e = .returned (.bool false) ∧ w' = W) := HT
            clear ht HEq
            go_upto_region 13 with (go_at_call 30; refine (HT.out _).mono ?_; rintro e w6 ⟨rfl, rfl⟩)
            go_region_with (fail)
            all_goals
              go_wp2_with fail
              have q := retR (W3 := ((w6.setCell ⟨w.heap.size, 0, none⟩ (.int .i64 0)).setCell ⟨w.heap.size, 1, none⟩ (.slice none 0 0)).drew) HBr.out (.int .i64 0) (.slice none 0 0) rfl rfl rfl rfl
              refine bodyPost_ret (ret_form3 rfl rfl q.1) rfl ?_
              rw [HE2.out]
              exact ⟨_, by first | rfl | simp, OwnF.nil _ _, q.2⟩
          · obtain ⟨z, hz⟩ := tens_itoa ht
            rw [ht] at HT
            have HT : Hid (∀ W : World, Calls Tryd.prog 30 #[.string y] W fun e w' => e = .returned (.bool true) ∧ w' = W) := HT
            have HV : Hid (∀ W : World, Calls Tryd.prog 29 #[.string y] W fun e w' => e = .returned (.int .i64 (clN 10000000000 z)) ∧ Below W.heap.size W w') := fun W => rVal_any y z W (by rw [HYd.out]; exact hz) hys
            have hnum : numW xt = some (clN 2147483648 z) := by rw [hz]; exact numW_it z
            have hr10 : -10000000000 ≤ clN 10000000000 z ∧ clN 10000000000 z ≤ 10000000000 := clN_range (by omega)
            clear ht hz HYd hys
            by_cases hbad : v < clN 10000000000 z ∨ clN 10000000000 z < -v
            · have hz31 : clN 2147483648 z ≠ 0 := fun e => by
                have hz0 := (clN_zero (by omega)).1 e
                have : clN 10000000000 z = 0 := (clN_zero (by omega)).2 hz0
                omega
              have HE2 : Hid (A = ⟨0, [], 32, xn⟩) := by
                show _ = _
                rw [HA.out, ← HEq.out, eat_bad hnum hz31 (by rw [lit_bad hv0 hv1 hz31]; simpa using hbad)]; rfl
              clear HEq hnum hz31
              generalize clN 10000000000 z = n at *
              by_cases hb1 : v < n
              all_goals
                first | have hb2 : n < -v := by omega
                      | skip
                go_upto_region 16 with (first
                  | (go_at_call 30; refine (HT.out _).mono ?_; rintro e w6 ⟨rfl, rfl⟩)
                  | (go_at_call 29; refine (HV.out _).mono ?_; rintro e w7 ⟨rfl, bel7⟩; have t0 := (FZ.out.below bel7).bx.c0; have hBr7 := HBf.out (FZ.out.below bel7); have bR7 : Bx2 w7 w.heap.size 24 (.int .i64 0) (.slice none 0 0) := (hBr7.block _ (by omega)).trans (Bx2.new w 24 (.int .i64 0) (.slice none 0 0)); have t1 := bR7.c0; have t2 := bR7.c1; have t3 := bR7.f0; have t4 := bR7.f1; have t5 := (bel7.cell (p := ⟨g, m * 2 + 1, none⟩) hgl).trans hc1; have HBr7 : Hid (Below (w.heap.size + 1) (w.alloc (.cells #[.int .i64 0, .slice none 0 0] 24)) w7) := hBr7; clear bR7 hBr7))
                clear r0 r1 s0 s1 e0 e1 hcy hc1
                go_region_with (fail)
                all_goals
                  go_wp2_with fail
                  have q := retR (W3 := ((w7.setCell ⟨w.heap.size, 0, none⟩ (.int .i64 0)).setCell ⟨w.heap.size, 1, none⟩ (.slice none 0 0)).drew) HBr7.out (.int .i64 0) (.slice none 0 0) rfl rfl rfl rfl
                  refine bodyPost_ret (ret_form3 rfl rfl q.1) rfl ?_
                  rw [HE2.out]
                  exact ⟨_, by first | rfl | simp, OwnF.nil _ _, q.2⟩
            · have hg1 : ¬ v < clN 10000000000 z := fun h => hbad (.inl h)
              have hg2 : ¬ clN 10000000000 z < -v := fun h => hbad (.inr h)
              have hz10 : clN 10000000000 z = z := by
                have h1 := hg1; have h2 := hg2
                unfold clN at h1 h2 ⊢
                split at h1
                · omega
                · rename_i ha
                  rw [if_neg ha]
                  split at h1
                  · rename_i hb; rw [if_neg ha, if_pos hb] at h2; omega
                  · rename_i hb; rw [if_neg hb]
              rw [hz10] at HV hg1 hg2 hr10
              have hnum2 : numW xt = some z := by rw [hnum, clN_id (by omega) (by omega)]
              clear hbad hnum hz10
              by_cases hz0 : z = 0
              · have HE2 : Hid (eat v (l.drop (m + 1)) [] ((L ++ [((.slice ca cl.length cc : Value), cl)]).map Prod.snd) = EE) := by
                  show _ = _
                  rw [← HEq.out, eat_zero (by rw [hnum2, hz0])]; simp
                subst hz0
                clear HEq hnum2 hg1 hg2 hr10
                have FZ7 := fun w7 (b : Below wr.heap.size wr w7) => FZ.out.below b
                generalize hcn : cl.length = n at *
                have HCN : Hid (cl.length = n) := hcn
                clear hcn
                have hsw := FZ.out.bel.size
                go_wp2_with (first
                  | (go_at_call 30; refine (HT.out _).mono ?_; rintro e w6 ⟨rfl, rfl⟩)
                  | (go_at_call 29; refine (HV.out _).mono ?_; rintro e w7 ⟨rfl, bel7⟩; have F7 := FZ7 w7 bel7; have t0 := F7.bx.c0; have t1 := F7.bx.c1; have hsw7 := F7.bel.size; have F7 : Hid (Fz (w.alloc (.cells #[.int .i64 0, .slice none 0 0] 24)) E (.slice (some ⟨g, 0, none⟩) l.length wc) l v w7 (.slice ra L.length rc) L (.slice ca n cc) cl) := F7)
                  | (at_builtin; refine wpList_append_apk rfl _ _ 22 rfl (w.alloc (.cells #[.int .i64 0, .slice none 0 0] 24)).heap.size 39 il (.slice none 0 0) 1 24 Tryd.underlying22 hil hzl0 hzl1 hzl2 rfl (by decide) _ L.length (L.map Prod.fst) rfl (World.ownsRow.alloc F7.out.or.row _) _ 1 1 [.slice ca n cc] rfl rfl (cell_one_new _ _ _) (by simp [Value.oneCell']) (by unfold maxLen; omega) (by omega) (by simp only [World.size_alloc] at hsw7 ⊢; omega) ?_; intro v8 w8 own8 ap8; obtain ⟨a8, c8, hv8⟩ := row_form own8; subst hv8; have A8 := F7.out.fin own8 ap8; have m1 := A8.1.c1; have n1 := A8.1.f1; have F8 := A8.2; have F8 : Hid (Fz (w.alloc (.cells #[.int .i64 0, .slice none 0 0] 24)) E (.slice (some ⟨g, 0, none⟩) l.length wc) l v (w8.setCell ⟨E, 1, none⟩ (.slice a8 (L.length + 1) c8)) (.slice a8 (L.length + 1) c8) (L ++ [((.slice ca n cc : Value), cl)]) (.slice none 0 0) []) := F8; clear A8 own8 ap8))
                go_roundg (gk - 1)
                case measure => have := HM.out; omega
                case rel => exact ⟨m + 1, L ++ [((.slice ca n cc : Value), cl)], _, [], by have := HM.out; omega, by omega, by omega, by go_num, by simp; omega, HE2.out, F8.out⟩
              · have hz31 : (z == 0) = false := by simpa using hz0
                have HE2 : Hid (eat v (l.drop (m + 1)) (cl ++ [z]) (L.map Prod.snd) = EE) := by
                  show _ = _
                  have hcl : clN 2147483648 z = z := clN_id (by omega) (by omega)
                  have hcl2 : clN 10000000000 z = z := clN_id (by omega) (by omega)
                  have hlb := lit_bad hv0 hv1 (z := z) (by rw [hcl]; exact hz0)
                  rw [hcl, hcl2, decide_eq_false hg1, decide_eq_false hg2] at hlb
                  rw [← HEq.out, eat_lit hnum2 hz0 hlb]
                clear HEq hnum2 hz0
                have FZ7 := fun w7 (b : Below wr.heap.size wr w7) => FZ.out.below b
                have hsw := FZ.out.bel.size
                go_wp2_with (first
                  | (go_at_call 30; refine (HT.out _).mono ?_; rintro e w6 ⟨rfl, rfl⟩)
                  | (go_at_call 29; refine (HV.out _).mono ?_; rintro e w7 ⟨rfl, bel7⟩; have F7 := FZ7 w7 bel7; have t0 := F7.bx.c0; have t1 := F7.bx.c1; have hsw7 := F7.bel.size; have F7 : Hid (Fz (w.alloc (.cells #[.int .i64 0, .slice none 0 0] 24)) E (.slice (some ⟨g, 0, none⟩) l.length wc) l v w7 (.slice ra L.length rc) L (.slice ca cl.length cc) cl) := F7)
                  | (at_builtin; refine wpList_append_apk rfl _ _ 39 rfl (w.alloc (.cells #[.int .i64 0, .slice none 0 0] 24)).heap.size 3 i0 (.int .i64 0) 1 8 Tryd.underlying39 hi hz0' hz1 hz2 rfl (by decide) _ cl.length (cl.map (Value.int .i64)) rfl (World.ownsRow.alloc F7.out.own _) _ 1 1 [.int .i64 z] rfl rfl (cell_one_new _ _ _) (by simp [Value.oneCell']) (by unfold maxLen; omega) (by omega) (by simp only [World.size_alloc] at hsw7 ⊢; omega) ?_; intro v8 w8 own8 ap8; obtain ⟨a8, c8, hv8⟩ := row_form own8; subst hv8; have F8 := F7.out.lit own8 ap8; have F8 : Hid (Fz (w.alloc (.cells #[.int .i64 0, .slice none 0 0] 24)) E (.slice (some ⟨g, 0, none⟩) l.length wc) l v w8 (.slice ra L.length rc) L (.slice a8 (cl.length + 1) c8) (cl ++ [z])) := F8; clear own8 ap8))
                go_roundg (gk - 1)
                case measure => have := HM.out; omega
                case rel => exact ⟨m + 1, L, _, cl ++ [z], by have := HM.out; omega, by omega, by omega, by go_num, by simp; omega, HE2.out, F8.out⟩
        · obtain rfl : m = l.length := by omega
          have HE1 : Hid (EE = (L.map Prod.snd, cl, none)) := by show _ = _; rw [← HEq.out, List.drop_length, eat]
          clear hmg HEq
          by_cases hcl0 : cl = []
          case neg =>
            have hpos : 0 < cl.length := List.length_pos_iff.2 hcl0
            have HE2 : Hid (A = ⟨0, [], 33, ls.length + 1⟩) := by show _ = _; rw [HA.out, HE1.out]; simp only [finF]; rw [if_pos hcl0]
            clear HE1 hcl0
            go_wp2
            have q := retR (W3 := (wr.setCell ⟨w.heap.size, 0, none⟩ (.int .i64 0)).setCell ⟨w.heap.size, 1, none⟩ (.slice none 0 0)) HBr.out (.int .i64 0) (.slice none 0 0) rfl rfl rfl rfl
            refine bodyPost_ret (ret_form3 rfl rfl q.1) rfl ?_
            rw [HE2.out]
            exact ⟨_, by first | rfl | simp, OwnF.nil _ _, q.2⟩
          case pos =>
            subst hcl0
            obtain ⟨_, _, e', _, _, hcell⟩ := FZ.out.tx.form
            obtain ⟨g, hg, hgl, hc3, _⟩ := hcell 3 (by omega)
            have e3 : g = g' := by injection e' with q1 q2 q3; rw [hg] at q1; injection q1 with q; injection q with q; exact q.symm
            subst e3
            rw [HC3.out] at hc3
            have hb6 : wr.cell? ⟨g, 6, none⟩ = some (.string bc) := by rw [HBc.out]; exact hc3
            clear hcell e' hg hc3
            haveI hne := xt_ne wr
            have y2 := Wx.cell hb6
            have y3 := Wx.cell e1
            have n3 : 3 < l.length := by omega
            have m3i : (3 : Int) < (l.length : Int) := by omega
            have HQx : Hid (∀ x, Calls Tryd.prog 29 #[.string bc] (Wx wr x) fun e w'' => e = .returned (.int .i64 c) ∧ ∃ y, w'' = Wx wr y) := fun x => (HVc.out (Wx wr x)).mono fun e w' ⟨q1, q2⟩ => ⟨q1, ⟨w', Below.step x.be q2⟩, rfl⟩
            clear HVc
            go_upto_region 23 with fail
            clear hb6 e0 e1 r0 r1 s0 s1
            refine (wpIn_wide (n := 1)).1 ?_
            refine region_quietX (by kernel_rfl) (by kernel_rfl) (by kernel_rfl) ?_
            repeat (refine wpQuietIn_step (fun _ _ _ _ => trivial) (fun Kqz hKqz => ?_); go_simp; first | (refine hKqz _ ?_; clear hKqz Kqz) | (apply Exists.intro; refine ⟨fun _ => ?_, hKqz _ ?_⟩; (first | (gi_at_call 29; with_reducible exact callsIn_wide.2 (HQx.out _))); clear hKqz Kqz))
            refine wpQuietIn_nil ?_
            intro _ hwq1
            obtain ⟨xq, hwq2⟩ := hwq1
            subst hwq2
            have F9 := FZ.out.below xq.be
            have F9 : Hid (Fz (w.alloc (.cells #[.int .i64 0, .slice none 0 0] 24)) E (.slice (some ⟨g, 0, none⟩) l.length wc) l v (Wx wr xq) (.slice ra L.length rc) L (.slice ca 0 cc) []) := F9
            clear y2 y3 HQx
            generalize Wx wr xq = w9 at *
            have HB9 := HBf.out F9.out
            have HB9 : Hid (Below (w.heap.size + 1) (w.alloc (.cells #[.int .i64 0, .slice none 0 0] 24)) w9) := HB9
            have bR9 : Bx2 w9 w.heap.size 24 (.int .i64 0) (.slice none 0 0) := (HB9.out.block _ (by omega)).trans (Bx2.new w 24 (.int .i64 0) (.slice none 0 0))
            have t0 := bR9.c0
            have t1 := bR9.c1
            have t2 := bR9.f0
            have t3 := bR9.f1
            have t4 := F9.out.bx.c0
            have t5 := F9.out.bx.c1
            have HbR9 : Hid (Bx2 w9 w.heap.size 24 (.int .i64 0) (.slice none 0 0)) := bR9
            clear bR9
            by_cases hnc : (L.length : Int) = c
            · have HE2 : Hid (A = ⟨v, L.map Prod.snd, 0, 0⟩) := by show _ = _; rw [HA.out, HE1.out]; simp only [finF]; rw [if_neg (by simp), if_neg (by simp [hnc])]
              have hq : ((L.length : Int) != c) = false := by rw [bne, beq_iff_eq.2 hnc]; rfl
              have hEne : E ≠ w.heap.size := by omega
              clear HE1 hnc
              go_wp2
              have q := retR (W3 := (w9.setCell ⟨w.heap.size, 0, none⟩ (.int .i64 v)).setCell ⟨w.heap.size, 1, none⟩ (.slice ra L.length rc)) HB9.out (.int .i64 v) (.slice ra L.length rc) rfl rfl rfl rfl
              refine bodyPost_ret (ret_form3 rfl rfl q.1) rfl ?_
              rw [HE2.out]
              refine ⟨_, by first | rfl | simp, ⟨L, ?_, rfl⟩, q.2⟩
              have o1 := F9.out.or.set HbR9.out (by decide) (by decide) 0 (.int .i64 v)
              have o2 := o1.set (HbR9.out.set0 (.int .i64 v)) (by decide) (by decide) 1 (.slice ra L.length rc)
              exact o2.mono (by simp)
            · have HE2 : Hid (A = ⟨0, [], 34, ls.length + 1⟩) := by show _ = _; rw [HA.out, HE1.out]; simp only [finF]; rw [if_neg (by simp), if_pos (by simpa using hnc)]
              have hq : ((L.length : Int) != c) = true := by rw [bne, beq_eq_false_iff_ne.2 hnc]; rfl
              clear HE1 hnc
              go_wp2
              have q := retR (W3 := (w9.setCell ⟨w.heap.size, 0, none⟩ (.int .i64 0)).setCell ⟨w.heap.size, 1, none⟩ (.slice none 0 0)) HB9.out (.int .i64 0) (.slice none 0 0) rfl rfl rfl rfl
              refine bodyPost_ret (ret_form3 rfl rfl q.1) rfl ?_
              rw [HE2.out]
              exact ⟨_, by first | rfl | simp, OwnF.nil _ _, q.2⟩

end Go.Proofs.YtaipajalkendaaaDoor

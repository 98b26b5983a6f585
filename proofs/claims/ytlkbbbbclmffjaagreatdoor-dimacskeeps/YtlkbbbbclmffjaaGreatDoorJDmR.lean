/-
  joined: DmR AnR RdL
-/
import Derived.Test.YtlkbbbbclmffjaaGreatDoorKDmM
import Derived.Test.YtlkbbbbclmffjaaGreatDoorJDmH
import Derived.Test.YtlkbbbbclmffjaaGreatDoorJClW
import Derived.Test.YtlkbbbbclmffjaaGreatDoorJText
import Derived.Lib.ItoaLen
import Derived.Test.YtlkbbbbclmffjaaGreatDoorKAnB
import Derived.Test.YtlkbbbbclmffjaaGreatDoorJRdV
set_option linter.unusedSimpArgs false
set_option linter.unusedVariables false
namespace Go.Proofs.YtlkbbbbclmffjaaGreatDoor
open Go Go.RowKit

theorem retR {w wr W3 : World} (hb : Below (w.heap.size + 1) (w.alloc (.cells #[.int .i64 0, .slice none 0 0] 24)) wr) (x y : Value) (h1 : W3.heap = ((wr.setCell ⟨w.heap.size, 0, none⟩ x).setCell ⟨w.heap.size, 1, none⟩ y).heap) (h2 : W3.os = wr.os) (h3 : W3.tape = wr.tape) (h4 : W3.output = wr.output) :
    Bx2 W3 w.heap.size 24 x y ∧ Below w.heap.size w W3 := by
  have b0 : Bx2 wr w.heap.size 24 (.int .i64 0) (.slice none 0 0) := (hb.block _ (by omega)).trans (Bx2.new w 24 (.int .i64 0) (.slice none 0 0))
  have bb : Below w.heap.size w wr := Below.trans (below_box w _) (hb.mono (by omega))
  have b2 := (bb.setCell (p := ⟨w.heap.size, 0, none⟩) (Nat.le_refl _) x).setCell (p := ⟨w.heap.size, 1, none⟩) (Nat.le_refl _) y
  refine ⟨by unfold Bx2; rw [h1]; exact (b0.set0 x).set1 y, ⟨h2.trans bb.os, h3.trans bb.tape, h4.trans bb.output, by rw [h1]; exact b2.size, fun k hk => by rw [h1]; exact b2.block k hk⟩⟩
/-- what is answered of a text whose head is one -/
def finF (v c : Int) (n : Nat) : List (List Int) × List Int × Option (Int × Nat) → RdA
  | (_, _, some (e, j)) => ⟨0, [], e, j⟩
  | (all, op, none) => if op ≠ [] then ⟨0, [], 33, n + 1⟩ else if (all.length : Int) ≠ c then ⟨0, [], 34, n + 1⟩ else ⟨v, all, 0, 0⟩
theorem rdF_head {s l : List UInt8} {k : Nat} {r : List (List UInt8)} {v c : Int} (h : nxt 1 (linesOf s) = some (l, k, r)) (h2 : headW (wordsOf l) = some (v, c)) :
    rdF s = finF v c (linesOf s).length (eat v (spoken (k + 1) r) [] []) := by
  unfold rdF; rw [h]; simp only [h2]
  generalize eat v (spoken (k + 1) r) [] [] = E
  obtain ⟨a, b, o⟩ := E
  cases o <;> rfl
theorem clN_range {B z : Int} (hB : 0 ≤ B) : -B ≤ clN B z ∧ clN B z ≤ B := by
  unfold clN
  split
  · omega
  · split <;> omega
theorem clN_zero {B z : Int} (hB : 0 < B) : clN B z = 0 ↔ z = 0 := by
  unfold clN
  split
  · constructor <;> intro h <;> omega
  · split
    · constructor <;> intro h <;> omega
    · exact Iff.rfl
theorem nxt_idle : ∀ {ls : List (List UInt8)} {k k' : Nat} {l : List UInt8} {r : List (List UInt8)}, nxt k ls = some (l, k', r) → idleL l = false ∧ l ∈ ls
  | [], _, _, _, _, h => by cases h
  | x :: t, k, k', l, r, h => by
    rw [nxt] at h
    split at h
    · have := nxt_idle h; exact ⟨this.1, List.mem_cons_of_mem _ this.2⟩
    · rename_i hx
      cases h
      exact ⟨by simpa using hx, by simp⟩

set_option maxHeartbeats 6400000 in
set_option maxRecDepth 100000 in
theorem rDimRead_any (s : ByteArray) (w : World) (hs : s.size ≤ 1099511627776) :
    Calls Tryz.prog 28 #[.string s] w (RdS w (rdF s.data.toList)) := by
  obtain ⟨i0, hi, hz0', hz1, hz2⟩ := info_parts Tryz.info3
  obtain ⟨il, hil, hzl0, hzl1, hzl2⟩ := info_parts infoR
  have HLn : Hid (∀ W : World, Calls Tryz.prog 42 #[.string s] W fun e w' => ∃ v, e = .returned v ∧ OwnL W.heap.size w' v (linesOf s.data.toList) ∧ Below W.heap.size W w') := fun W => by
    have := rLines_any s W hs
    rwa [lns_lines _ _ (Nat.le_refl _)] at this
  have h1 := lns_len s.data.toList []
  have h2 := lns_sum s.data.toList []
  rw [List.length_nil, Nat.add_zero, ba_len, lns_lines _ _ (Nat.le_refl _)] at h1 h2
  have hlen : (linesOf s.data.toList).length ≤ 1099511627776 := by omega
  have hsum : lenS (linesOf s.data.toList) ≤ 1099511627776 := by omega
  have HEach : Hid (∀ x ∈ linesOf s.data.toList, x.length ≤ 1099511627776) := fun x hx => by have := lenS_each _ x hx; omega
  clear h1 h2
  cases hnx : nxt 1 (linesOf s.data.toList) with
  | none =>
    have HA : Hid (rdF s.data.toList = ⟨0, [], 30, (linesOf s.data.toList).length + 1⟩) := rdF_bad1 hnx
    have HSp : Hid (spk 1 (linesOf s.data.toList) = []) := by show _ = _; rw [spk_spoken, nxt_none hnx]
    generalize rdF s.data.toList = A at *
    generalize linesOf s.data.toList = ls at *
    clear hnx
    go_enter Tryz.func28, Tryz.ntmps28
    go_wp2_with fail
    refine (HLn.out _).mono ?_
    rintro e w1 ⟨lv, rfl, ol, bel1⟩
    have HSk : Hid (Calls Tryz.prog 43 #[lv] w1 fun e w' => ∃ v, e = .returned v ∧ OwnW w1.heap.size w' v [] ∧ Below w1.heap.size w1 w') := by
      have := rSpoken_any _ lv ls w1 ol hsum hlen
      rw [HSp.out] at this
      exact this.mono fun e w' ⟨v, q1, q2, _, q4⟩ => ⟨v, q1, q2, q4⟩
    obtain ⟨la, lc, rfl, _, _, _⟩ := ol.form
    have HB1 : Hid (Below (w.heap.size + 1) (w.alloc (.cells #[.int .i64 0, .slice none 0 0] 24)) w1) := by show Below _ _ _; simpa using bel1
    clear ol bel1 HLn
    go_wp2_with fail
    refine HSk.out.mono ?_
    rintro e w2 ⟨v2, rfl, ow, bel2⟩
    obtain ⟨wa, wc, hv2, _, _, _⟩ := ow.form
    simp only [List.length_nil] at hv2
    subst hv2
    have HB2 : Hid (Below (w.heap.size + 1) (w.alloc (.cells #[.int .i64 0, .slice none 0 0] 24)) w2) := HB1.out.trans (bel2.mono (by have := HB1.out.size; simp at this; exact this))
    have bR : Bx2 w2 w.heap.size 24 (.int .i64 0) (.slice none 0 0) := (HB2.out.block _ (by omega)).trans (Bx2.new w 24 (.int .i64 0) (.slice none 0 0))
    have r0 := bR.c0
    have r1 := bR.c1
    have s0 := bR.f0
    have s1 := bR.f1
    clear ow bel2 HSk HB1 bR
    go_wp2
    have q := retR (W3 := (w2.setCell ⟨w.heap.size, 0, none⟩ (.int .i64 0)).setCell ⟨w.heap.size, 1, none⟩ (.slice none 0 0)) HB2.out (.int .i64 0) (.slice none 0 0) rfl rfl rfl rfl
    refine bodyPost_ret (ret_form3 rfl rfl q.1) rfl ?_
    rw [HA.out]
    exact ⟨_, by first | rfl | simp, OwnF.nil _ _, q.2⟩
  | some x =>
    obtain ⟨ln, k, r⟩ := x
    obtain ⟨hsp, hkr, _⟩ := nxt_some hnx
    obtain ⟨hidl, hmem⟩ := nxt_idle hnx
    have hwne : wordsOf ln ≠ [] := idle_words hidl
    have HSp : Hid (spk 1 (linesOf s.data.toList) = (wordsOf ln).map (fun w => (w, k)) ++ spoken (k + 1) r) := by show _ = _; rw [spk_spoken, hsp]
    have HTl : Hid (∀ x ∈ spoken (k + 1) r, x.2 ≠ k) := fun x hx => by have := spoken_ge r (k + 1) x hx; omega
    have HWe : Hid (∀ x ∈ wordsOf ln, x.length ≤ 1099511627776) := fun x hx => by
      rw [← wds_words] at hx
      have h1 := wds_each ln [] x hx
      have h2 := HEach.out ln hmem
      simp at h1; omega
    have HSkA : Hid (∀ (W : World) (lv : Value), OwnL (w.heap.size + 1) W lv (linesOf s.data.toList) → Calls Tryz.prog 43 #[lv] W fun e w' => ∃ v, e = .returned v ∧ OwnW W.heap.size w' v ((wordsOf ln).map (fun w => (w, k)) ++ spoken (k + 1) r) ∧ ((wordsOf ln).map (fun w => (w, k)) ++ spoken (k + 1) r).length ≤ 1099511627776 ∧ Below W.heap.size W w') := fun W lv ho => by
      have := rSpoken_any _ lv _ W ho hsum hlen
      rwa [HSp.out] at this
    have HLn2 : Hid (∀ W : World, Calls Tryz.prog 42 #[.string s] W fun e w' => ∃ v, e = .returned v ∧ OwnL W.heap.size w' v (linesOf s.data.toList) ∧ Below W.heap.size W w') := HLn.out
    cases hh : headW (wordsOf ln) with
    | none =>
      have HA : Hid (rdF s.data.toList = ⟨0, [], 30, k⟩) := by show _ = _; unfold rdF; rw [hnx]; simp only [hh]
      have HHd : Hid (∀ (W : World) (v : Value) (B : Nat), OwnW B W v ((wordsOf ln).map (fun w => (w, k)) ++ spoken (k + 1) r) → ((wordsOf ln).map (fun w => (w, k)) ++ spoken (k + 1) r).length ≤ 1099511627776 → Calls Tryz.prog 44 #[v] W fun e w' => e = .returned (.bool false) ∧ Below W.heap.size W w') := fun W v B h1 h2 => by
        have := rHead_any B v (wordsOf ln) k _ W h1 hwne HTl.out h2 HWe.out
        rwa [hh] at this
      have HL0 : Hid (0 < ((wordsOf ln).map (fun w => (w, k)) ++ spoken (k + 1) r).length ∧ (((wordsOf ln).map (fun w => (w, k)) ++ spoken (k + 1) r).getD 0 ([], 0)).2 = k) := by
        cases hw : wordsOf ln with
        | nil => exact absurd hw hwne
        | cons a b => exact ⟨by simp, rfl⟩
      generalize rdF s.data.toList = A at *
      generalize linesOf s.data.toList = ls at *
      generalize (wordsOf ln).map (fun w => (w, k)) ++ spoken (k + 1) r = l at *
      clear hnx hsp hh HLn HSp hwne
      go_enter Tryz.func28, Tryz.ntmps28
      go_wp2_with fail
      refine (HLn2.out _).mono ?_
      rintro e w1 ⟨lv, rfl, ol, bel1⟩
      have HSk := HSkA.out w1 lv (by simpa using ol)
      have HSk : Hid (Calls Tryz.prog 43 #[lv] w1 fun e w' => ∃ v, e = .returned v ∧ OwnW w1.heap.size w' v l ∧ l.length ≤ 1099511627776 ∧ Below w1.heap.size w1 w') := HSk
      obtain ⟨la, lc, rfl, _, _, _⟩ := ol.form
      have HB1 : Hid (Below (w.heap.size + 1) (w.alloc (.cells #[.int .i64 0, .slice none 0 0] 24)) w1) := by show Below _ _ _; simpa using bel1
      clear ol bel1 HLn2 HSkA
      go_wp2_with fail
      refine HSk.out.mono ?_
      rintro e w2 ⟨v2, rfl, ow, hll, bel2⟩
      have HHx := HHd.out w2 v2 _ ow hll
      have HHx : Hid (Calls Tryz.prog 44 #[v2] w2 fun e w' => e = .returned (.bool false) ∧ Below w2.heap.size w2 w') := HHx
      obtain ⟨wa, wc, rfl, hwc, hwm, hcell⟩ := ow.form
      obtain ⟨g, rfl, hgl, _, hc1⟩ := hcell 0 HL0.out.1
      rw [HL0.out.2] at hc1
      have hl0 : l.length ≠ 0 := by have := HL0.out.1; omega
      have hlb : ((l.length : Int) == 0) = false := beq_eq_false_iff_ne.2 (by omega)
      have HB2 : Hid (Below (w.heap.size + 1) (w.alloc (.cells #[.int .i64 0, .slice none 0 0] 24)) w2) := HB1.out.trans (bel2.mono (by have := HB1.out.size; simp at this; exact this))
      have hl1 : 0 < l.length := HL0.out.1
      clear ow bel2 HSk HB1 hcell HHd HL0
      go_wp2_with fail
      refine HHx.out.mono ?_
      rintro e w3 ⟨rfl, bel3⟩
      have HB3 : Hid (Below (w.heap.size + 1) (w.alloc (.cells #[.int .i64 0, .slice none 0 0] 24)) w3) := HB2.out.trans (bel3.mono (by have := HB2.out.size; simp at this; exact this))
      have bR : Bx2 w3 w.heap.size 24 (.int .i64 0) (.slice none 0 0) := (HB3.out.block _ (by omega)).trans (Bx2.new w 24 (.int .i64 0) (.slice none 0 0))
      have r0 := bR.c0
      have r1 := bR.c1
      have s0 := bR.f0
      have s1 := bR.f1
      have d1 : w3.cell? ⟨g, 1, none⟩ = some (.int .i64 (k : Int)) := (bel3.cell (p := ⟨g, 1, none⟩) hgl).trans (by simpa using hc1)
      have hne : g ≠ w.heap.size := fun e => by
        have := hc1
        rw [e] at d1
        rw [r1] at d1
        cases d1
      clear bel3 HHx HB2 bR hc1 hgl
      go_upto_region 6 with fail
      go_region_with (fail)
      all_goals
        go_wp2_with fail
        have q := retR (W3 := ((w3.setCell ⟨w.heap.size, 0, none⟩ (.int .i64 0)).setCell ⟨w.heap.size, 1, none⟩ (.slice none 0 0)).drew) HB3.out (.int .i64 0) (.slice none 0 0) rfl rfl rfl rfl
        refine bodyPost_ret (ret_form3 rfl rfl q.1) rfl ?_
        rw [HA.out]
        exact ⟨_, by first | rfl | simp, OwnF.nil _ _, q.2⟩
    | some vc =>
      obtain ⟨v, c⟩ := vc
      obtain ⟨p, q, hws, hv0, hv1, hc0, hc1⟩ := headW_some hh
      have HA := rdF_head hnx hh
      obtain ⟨EE, hEE⟩ : ∃ EE, EE = eat v (spoken (k + 1) r) [] [] := ⟨_, rfl⟩
      rw [← hEE] at HA
      have HA : Hid (rdF s.data.toList = finF v c (linesOf s.data.toList).length EE) := HA
      have HHd : Hid (∀ (W : World) (v : Value) (B : Nat), OwnW B W v ((wordsOf ln).map (fun w => (w, k)) ++ spoken (k + 1) r) → ((wordsOf ln).map (fun w => (w, k)) ++ spoken (k + 1) r).length ≤ 1099511627776 → Calls Tryz.prog 44 #[v] W fun e w' => e = .returned (.bool true) ∧ Below W.heap.size W w') := fun W v B h1 h2 => by
        have := rHead_any B v (wordsOf ln) k _ W h1 hwne HTl.out h2 HWe.out
        rwa [hh] at this
      have HL0 : Hid (4 ≤ ((wordsOf ln).map (fun w => (w, k)) ++ spoken (k + 1) r).length ∧ (((wordsOf ln).map (fun w => (w, k)) ++ spoken (k + 1) r).getD 2 ([], 0)).1 = Lib.itoa v ∧ (((wordsOf ln).map (fun w => (w, k)) ++ spoken (k + 1) r).getD 3 ([], 0)).1 = Lib.itoa c ∧ ((wordsOf ln).map (fun w => (w, k)) ++ spoken (k + 1) r).drop 4 = spoken (k + 1) r) := by
        rw [hws]; exact ⟨by simp, rfl, rfl, rfl⟩
      have HWl : Hid (∀ x ∈ (wordsOf ln).map (fun w => (w, k)) ++ spoken (k + 1) r, x.1.length ≤ 1099511627776) := by
        rw [← hsp]
        intro x hx
        have key : ∀ (ls : List (List UInt8)) (j : Nat), (∀ y ∈ ls, y.length ≤ 1099511627776) → ∀ x ∈ spoken j ls, x.1.length ≤ 1099511627776 := by
          intro ls
          induction ls with
          | nil => intro j _ x hx; cases hx
          | cons a b ih =>
            intro j hy x hx
            rw [spoken] at hx
            rcases List.mem_append.1 hx with h | h
            · split at h
              · cases h
              · obtain ⟨u, hu, rfl⟩ := List.mem_map.1 h
                rw [← wds_words] at hu
                have h1 := wds_each a [] u hu
                have h2 := hy a (by simp)
                simp at h1; show u.length ≤ _; omega
            · exact ih (j + 1) (fun y hy' => hy y (List.mem_cons_of_mem _ hy')) x h
        exact key _ 1 HEach.out x hx
      have HEq : Hid (eat v (((wordsOf ln).map (fun w => (w, k)) ++ spoken (k + 1) r).drop 4) [] [] = EE) := by show _ = _; rw [HL0.out.2.2.2, hEE]
      generalize rdF s.data.toList = A at *
      generalize linesOf s.data.toList = ls at *
      generalize (wordsOf ln).map (fun w => (w, k)) ++ spoken (k + 1) r = l at *
      clear hnx hsp hh HLn HSp hwne hEE HTl HWe hws
      go_enter Tryz.func28, Tryz.ntmps28
      go_wp2_with fail
      refine (HLn2.out _).mono ?_
      rintro e w1 ⟨lv, rfl, ol, bel1⟩
      have HSk := HSkA.out w1 lv (by simpa using ol)
      have HSk : Hid (Calls Tryz.prog 43 #[lv] w1 fun e w' => ∃ v, e = .returned v ∧ OwnW w1.heap.size w' v l ∧ l.length ≤ 1099511627776 ∧ Below w1.heap.size w1 w') := HSk
      obtain ⟨la, lc, rfl, _, _, _⟩ := ol.form
      have HB1 : Hid (Below (w.heap.size + 1) (w.alloc (.cells #[.int .i64 0, .slice none 0 0] 24)) w1) := by show Below _ _ _; simpa using bel1
      clear ol bel1 HLn2 HSkA
      go_wp2_with fail
      refine HSk.out.mono ?_
      rintro e w2 ⟨v2, rfl, ow, hll, bel2⟩
      have HHx := HHd.out w2 v2 _ ow hll
      have HHx : Hid (Calls Tryz.prog 44 #[v2] w2 fun e w' => e = .returned (.bool true) ∧ Below w2.heap.size w2 w') := HHx
      have s1 : w.heap.size + 1 ≤ w1.heap.size := by have := HB1.out.size; simpa using this
      have HOW : Hid (OwnW (w.alloc (.cells #[.int .i64 0, .slice none 0 0] 24)).heap.size w2 v2 l) := row_mono ow (by simpa using s1)
      obtain ⟨wa, wc, rfl, hwc, hwm, hcell⟩ := ow.form
      obtain ⟨g, rfl, hgl, hcA, _⟩ := hcell 2 (by have := HL0.out.1; omega)
      obtain ⟨g', hg', _, hcB, _⟩ := hcell 3 (by have := HL0.out.1; omega)
      have e4 : g' = g := by injection hg' with q; injection q with q; exact q.symm
      subst e4
      rw [HL0.out.2.1] at hcA
      rw [HL0.out.2.2.1] at hcB
      have hl4 : 4 ≤ l.length := HL0.out.1
      have HC3 : Hid ((l.getD 3 ([], 0)).1 = Lib.itoa c) := HL0.out.2.2.1
      have hlb : ((l.length : Int) == 0) = false := beq_eq_false_iff_ne.2 (by omega)
      have HB2 : Hid (Below (w.heap.size + 1) (w.alloc (.cells #[.int .i64 0, .slice none 0 0] 24)) w2) := HB1.out.trans (bel2.mono (by simpa using s1))
      clear ow bel2 HSk HB1 hcell HHd HL0 hg'
      obtain ⟨bv, hbv⟩ : ∃ b : ByteArray, b = ⟨(Lib.itoa v).toArray⟩ := ⟨_, rfl⟩
      obtain ⟨bc, hbc⟩ : ∃ b : ByteArray, b = ⟨(Lib.itoa c).toArray⟩ := ⟨_, rfl⟩
      have hvs : bv.size ≤ 1099511627776 := by
        rw [hbv, show (⟨(Lib.itoa v).toArray⟩ : ByteArray).size = (Lib.itoa v).length by simp [ByteArray.size]]
        have := Lib.itoa_length_le v (by omega) (by omega); omega
      have hcs : bc.size ≤ 1099511627776 := by
        rw [hbc, show (⟨(Lib.itoa c).toArray⟩ : ByteArray).size = (Lib.itoa c).length by simp [ByteArray.size]]
        have := Lib.itoa_length_le c (by omega) (by omega); omega
      have HVv : Hid (∀ W : World, Calls Tryz.prog 45 #[.string bv] W fun e w' => e = .returned (.int .i64 v) ∧ Below W.heap.size W w') := fun W => by
        have := rVal_any bv v W (by rw [hbv]) hvs
        rwa [clN_id (by omega) (by omega)] at this
      have HVc : Hid (∀ W : World, Calls Tryz.prog 45 #[.string bc] W fun e w' => e = .returned (.int .i64 c) ∧ Below W.heap.size W w') := fun W => by
        have := rVal_any bc c W (by rw [hbc]) hcs
        rwa [clN_id (by omega) (by omega)] at this
      have hcA2 : w2.cell? ⟨g', 4, none⟩ = some (.string bv) := by rw [hbv]; exact hcA
      have hcB2 : w2.cell? ⟨g', 6, none⟩ = some (.string bc) := by rw [hbc]; exact hcB
      have HBc : Hid (bc = ⟨(Lib.itoa c).toArray⟩) := hbc
      clear hbv hbc hcA hcB hvs hcs
      go_wp2_with fail
      refine HHx.out.mono ?_
      rintro e w3 ⟨rfl, bel3⟩
      have hcA3 := (bel3.cell (p := ⟨g', 4, none⟩) hgl).trans hcA2
      have hcB3 := (bel3.cell (p := ⟨g', 6, none⟩) hgl).trans hcB2
      have HB3 : Hid (Below (w.heap.size + 1) (w.alloc (.cells #[.int .i64 0, .slice none 0 0] 24)) w3) := HB2.out.trans (bel3.mono (by have := HB2.out.size; simpa using this))
      have HOW3 : Hid (OwnW (w.alloc (.cells #[.int .i64 0, .slice none 0 0] 24)).heap.size w3 _ l) := HOW.out.below bel3
      have hgl3 : g' < w3.heap.size := Nat.lt_of_lt_of_le hgl bel3.size
      clear bel3 HHx HB2 HOW hcA2 hcB2 hgl
      go_wp2_with (go_at_call 45; refine (HVv.out _).mono ?_; rintro e w4 ⟨rfl, bel4⟩)
      have HB4 : Hid (Below (w.heap.size + 1) (w.alloc (.cells #[.int .i64 0, .slice none 0 0] 24)) w4) := HB3.out.trans (bel4.mono (by have := HB3.out.size; simpa using this))
      have s4 : w.heap.size + 1 ≤ w4.heap.size := by have := HB4.out.size; simpa using this
      have FZ0 : Hid (Fz (w.alloc (.cells #[.int .i64 0, .slice none 0 0] 24)) w4.heap.size (.slice (some ⟨g', 0, none⟩) l.length wc) l v (w4.alloc (.cells #[.int .i64 v, .slice none 0 0] 24)) (.slice none 0 0) [] (.slice none 0 0) []) :=
        ⟨OwnR.nil _ _, Bx2.new _ _ _ _, World.ownsRow_nil _ _ _ _, (fun x hx => by cases hx), by rw [show (w.alloc (.cells #[.int .i64 0, .slice none 0 0] 24)).heap.size = w.heap.size + 1 by simp]; exact HB4.out.alloc (by simpa using s4) _, by rw [show (w.alloc (.cells #[.int .i64 0, .slice none 0 0] 24)).heap.size = w.heap.size + 1 by simp]; exact s4, (HOW3.out.below bel4).below (below_box _ _)⟩
      have HBf : Hid (∀ {wr : World} {rv cv : Value} {L : List Cls} {cl : List Int}, Fz (w.alloc (.cells #[.int .i64 0, .slice none 0 0] 24)) w4.heap.size (.slice (some ⟨g', 0, none⟩) l.length wc) l v wr rv L cv cl → Below (w.heap.size + 1) (w.alloc (.cells #[.int .i64 0, .slice none 0 0] 24)) wr) := fun h => by have := h.bel; rwa [show (w.alloc (.cells #[.int .i64 0, .slice none 0 0] 24)).heap.size = w.heap.size + 1 by simp] at this
      have hbase : w.heap.size + 1 ≤ w4.heap.size := s4
      generalize w4.alloc (.cells #[.int .i64 v, .slice none 0 0] 24) = w5 at *
      generalize w4.heap.size = E at *
      clear bel4 HB3 HB4 HOW3 hcA3 hcB3 HVv hgl3 s4
      go_loopg [8, 9] l.length (fun gq u i wr => ∃ (m : Nat) (L : List Cls) (rv : Value) (cl : List Int), m + gq = l.length + 4 ∧ m ≤ l.length ∧ 4 ≤ m ∧ i = .int .i64 m ∧ L.length + cl.length + 4 ≤ m ∧ Hid (eat v (l.drop m) cl (L.map Prod.snd) = EE) ∧ Hid (Fz (w.alloc (.cells #[.int .i64 0, .slice none 0 0] 24)) E (.slice (some ⟨g', 0, none⟩) l.length wc) l v wr rv L u cl))
      case atStart => exact ⟨4, [], _, [], by omega, by omega, by omega, rfl, by simp, HEq.out, FZ0.out⟩
      case round =>
        clear HEq FZ0
        obtain ⟨m, L, rv, cl, hmg, hml, hm4, rfl, hsz, HEq, FZ⟩ := hrel
        have HM : Hid (m + gk = l.length + 4) := hmg
        obtain ⟨ca, cc, hu⟩ := own_form FZ.out.own
        subst hu
        obtain ⟨ra, rc, hr⟩ := row_form FZ.out.or.row
        subst hr
        have HBr := HBf.out FZ.out
        have HBr : Hid (Below (w.heap.size + 1) (w.alloc (.cells #[.int .i64 0, .slice none 0 0] 24)) wr) := HBr
        have bR : Bx2 wr w.heap.size 24 (.int .i64 0) (.slice none 0 0) := (HBr.out.block _ (by omega)).trans (Bx2.new w 24 (.int .i64 0) (.slice none 0 0))
        have r0 := bR.c0
        have r1 := bR.c1
        have s0 := bR.f0
        have s1 := bR.f1
        have e0 := FZ.out.bx.c0
        have e1 := FZ.out.bx.c1
        have hcl1 : cl.length ≤ 1099511627776 := by omega
        have hLl : L.length ≤ 1099511627776 := by omega
        by_cases hlt : m < l.length
        · obtain ⟨_, _, e', _, _, hcell⟩ := FZ.out.tx.form
          obtain ⟨g, hg, hgl, hc0, hc1⟩ := hcell m hlt
          have e3 : g = g' := by injection e' with q1 q2 q3; rw [hg] at q1; injection q1 with q; injection q with q; exact q.symm
          subst e3
          clear hcell e' hg
          have HD : Hid (l.drop m = l.getD m ([], 0) :: l.drop (m + 1)) := getD_drop l ([], 0) hlt
          have HLe : Hid ((l.getD m ([], 0)).1.length ≤ 1099511627776) := HWl.out _ (by rw [List.getD_eq_getElem?_getD, List.getElem?_eq_getElem hlt]; exact List.getElem_mem hlt)
          have hne : g ≠ w.heap.size := fun e => by
            rw [e] at hc1
            have h2 : wr.heap[w.heap.size]? = some (.cells #[.int .i64 0, .slice none 0 0] 24 (0, 0)) := bR
            rcases FZ.out.tx.2 with ⟨q, _⟩ | ⟨g2, cap, cur, q, _, hh, _⟩
            · cases q
            · injection q with q1 q2 q3
              injection q1 with q1
              injection q1 with q1
              rw [← q1, e, h2] at hh
              cases hh
          rw [HD.out] at HEq
          generalize l.getD m ([], 0) = xx at *
          obtain ⟨xt, xn⟩ := xx
          dsimp only at *
          obtain ⟨y, hy⟩ : ∃ y : ByteArray, y = ⟨xt.toArray⟩ := ⟨_, rfl⟩
          have HYd : Hid (y.data.toList = xt) := by show _ = _; rw [hy]
          have hcy : wr.cell? ⟨g, m * 2, none⟩ = some (.string y) := by rw [hc0, hy]; rfl
          have hys : y.size ≤ 1099511627776 := by rw [← ba_len, HYd.out]; exact HLe.out
          have HT := fun W => rTens_any y W hys
          rw [HYd.out] at HT
          clear hc0 hy hmg HD HLe bR
          cases ht : tensB xt
          · have HE2 : Hid (A = ⟨0, [], 31, xn⟩) := by show _ = _; rw [HA.out, ← HEq.out, eat, tens_num ht]; rfl
            rw [ht] at HT
            have HT : Hid (∀ W : World, Calls Tryz.prog 46 #[.string y] W fun e w' => e = .returned (.bool false) ∧ w' = W) := HT
            clear ht HEq
            go_upto_region 13 with (go_at_call 46; refine (HT.out _).mono ?_; rintro e w6 ⟨rfl, rfl⟩)
            go_region_with (fail)
            all_goals
              go_wp2_with fail
              have q := retR (W3 := ((w6.setCell ⟨w.heap.size, 0, none⟩ (.int .i64 0)).setCell ⟨w.heap.size, 1, none⟩ (.slice none 0 0)).drew) HBr.out (.int .i64 0) (.slice none 0 0) rfl rfl rfl rfl
              refine bodyPost_ret (ret_form3 rfl rfl q.1) rfl ?_
              rw [HE2.out]
              exact ⟨_, by first | rfl | simp, OwnF.nil _ _, q.2⟩
          · obtain ⟨z, hz⟩ := tens_itoa ht
            rw [ht] at HT
            have HT : Hid (∀ W : World, Calls Tryz.prog 46 #[.string y] W fun e w' => e = .returned (.bool true) ∧ w' = W) := HT
            have HV : Hid (∀ W : World, Calls Tryz.prog 45 #[.string y] W fun e w' => e = .returned (.int .i64 (clN 10000000000 z)) ∧ Below W.heap.size W w') := fun W => rVal_any y z W (by rw [HYd.out]; exact hz) hys
            have hnum : numW xt = some (clN 2147483648 z) := by rw [hz]; exact numW_it z
            have hr10 : -10000000000 ≤ clN 10000000000 z ∧ clN 10000000000 z ≤ 10000000000 := clN_range (by omega)
            clear ht hz HYd hys
            by_cases hbad : v < clN 10000000000 z ∨ clN 10000000000 z < -v
            · have hz31 : clN 2147483648 z ≠ 0 := fun e => by
                have hz0 := (clN_zero (by omega)).1 e
                have : clN 10000000000 z = 0 := (clN_zero (by omega)).2 hz0
                omega
              have HE2 : Hid (A = ⟨0, [], 32, xn⟩) := by
                show _ = _
                rw [HA.out, ← HEq.out, eat_bad hnum hz31 (by rw [lit_bad hv0 hv1 hz31]; simpa using hbad)]; rfl
              clear HEq hnum hz31
              generalize clN 10000000000 z = n at *
              by_cases hb1 : v < n
              all_goals
                first | have hb2 : n < -v := by omega
                      | skip
                go_upto_region 16 with (first
                  | (go_at_call 46; refine (HT.out _).mono ?_; rintro e w6 ⟨rfl, rfl⟩)
                  | (go_at_call 45; refine (HV.out _).mono ?_; rintro e w7 ⟨rfl, bel7⟩; have t0 := (FZ.out.below bel7).bx.c0; have hBr7 := HBf.out (FZ.out.below bel7); have bR7 : Bx2 w7 w.heap.size 24 (.int .i64 0) (.slice none 0 0) := (hBr7.block _ (by omega)).trans (Bx2.new w 24 (.int .i64 0) (.slice none 0 0)); have t1 := bR7.c0; have t2 := bR7.c1; have t3 := bR7.f0; have t4 := bR7.f1; have t5 := (bel7.cell (p := ⟨g, m * 2 + 1, none⟩) hgl).trans hc1; have HBr7 : Hid (Below (w.heap.size + 1) (w.alloc (.cells #[.int .i64 0, .slice none 0 0] 24)) w7) := hBr7; clear bR7 hBr7))
                clear r0 r1 s0 s1 e0 e1 hcy hc1
                go_region_with (fail)
                all_goals
                  go_wp2_with fail
                  have q := retR (W3 := ((w7.setCell ⟨w.heap.size, 0, none⟩ (.int .i64 0)).setCell ⟨w.heap.size, 1, none⟩ (.slice none 0 0)).drew) HBr7.out (.int .i64 0) (.slice none 0 0) rfl rfl rfl rfl
                  refine bodyPost_ret (ret_form3 rfl rfl q.1) rfl ?_
                  rw [HE2.out]
                  exact ⟨_, by first | rfl | simp, OwnF.nil _ _, q.2⟩
            · have hg1 : ¬ v < clN 10000000000 z := fun h => hbad (.inl h)
              have hg2 : ¬ clN 10000000000 z < -v := fun h => hbad (.inr h)
              have hz10 : clN 10000000000 z = z := by
                have h1 := hg1; have h2 := hg2
                unfold clN at h1 h2 ⊢
                split at h1
                · omega
                · rename_i ha
                  rw [if_neg ha]
                  split at h1
                  · rename_i hb; rw [if_neg ha, if_pos hb] at h2; omega
                  · rename_i hb; rw [if_neg hb]
              rw [hz10] at HV hg1 hg2 hr10
              have hnum2 : numW xt = some z := by rw [hnum, clN_id (by omega) (by omega)]
              clear hbad hnum hz10
              by_cases hz0 : z = 0
              · have HE2 : Hid (eat v (l.drop (m + 1)) [] ((L ++ [((.slice ca cl.length cc : Value), cl)]).map Prod.snd) = EE) := by
                  show _ = _
                  rw [← HEq.out, eat_zero (by rw [hnum2, hz0])]; simp
                subst hz0
                clear HEq hnum2 hg1 hg2 hr10
                have FZ7 := fun w7 (b : Below wr.heap.size wr w7) => FZ.out.below b
                generalize hcn : cl.length = n at *
                have HCN : Hid (cl.length = n) := hcn
                clear hcn
                have hsw := FZ.out.bel.size
                go_wp2_with (first
                  | (go_at_call 46; refine (HT.out _).mono ?_; rintro e w6 ⟨rfl, rfl⟩)
                  | (go_at_call 45; refine (HV.out _).mono ?_; rintro e w7 ⟨rfl, bel7⟩; have F7 := FZ7 w7 bel7; have t0 := F7.bx.c0; have t1 := F7.bx.c1; have hsw7 := F7.bel.size; have F7 : Hid (Fz (w.alloc (.cells #[.int .i64 0, .slice none 0 0] 24)) E (.slice (some ⟨g, 0, none⟩) l.length wc) l v w7 (.slice ra L.length rc) L (.slice ca n cc) cl) := F7)
                  | (at_builtin; refine wpList_append_apk rfl _ _ 22 rfl (w.alloc (.cells #[.int .i64 0, .slice none 0 0] 24)).heap.size 43 il (.slice none 0 0) 1 24 Tryz.underlying22 hil hzl0 hzl1 hzl2 rfl (by decide) _ L.length (L.map Prod.fst) rfl (World.ownsRow.alloc F7.out.or.row _) _ 1 1 [.slice ca n cc] rfl rfl (cell_one_new _ _ _) (by simp [Value.oneCell']) (by unfold maxLen; omega) (by omega) (by simp only [World.size_alloc] at hsw7 ⊢; omega) ?_; intro v8 w8 own8 ap8; obtain ⟨a8, c8, hv8⟩ := row_form own8; subst hv8; have A8 := F7.out.fin own8 ap8; have m1 := A8.1.c1; have n1 := A8.1.f1; have F8 := A8.2; have F8 : Hid (Fz (w.alloc (.cells #[.int .i64 0, .slice none 0 0] 24)) E (.slice (some ⟨g, 0, none⟩) l.length wc) l v (w8.setCell ⟨E, 1, none⟩ (.slice a8 (L.length + 1) c8)) (.slice a8 (L.length + 1) c8) (L ++ [((.slice ca n cc : Value), cl)]) (.slice none 0 0) []) := F8; clear A8 own8 ap8))
                go_roundg (gk - 1)
                case measure => have := HM.out; omega
                case rel => exact ⟨m + 1, L ++ [((.slice ca n cc : Value), cl)], _, [], by have := HM.out; omega, by omega, by omega, by go_num, by simp; omega, HE2.out, F8.out⟩
              · have hz31 : (z == 0) = false := by simpa using hz0
                have HE2 : Hid (eat v (l.drop (m + 1)) (cl ++ [z]) (L.map Prod.snd) = EE) := by
                  show _ = _
                  have hcl : clN 2147483648 z = z := clN_id (by omega) (by omega)
                  have hcl2 : clN 10000000000 z = z := clN_id (by omega) (by omega)
                  have hlb := lit_bad hv0 hv1 (z := z) (by rw [hcl]; exact hz0)
                  rw [hcl, hcl2, decide_eq_false hg1, decide_eq_false hg2] at hlb
                  rw [← HEq.out, eat_lit hnum2 hz0 hlb]
                clear HEq hnum2 hz0
                have FZ7 := fun w7 (b : Below wr.heap.size wr w7) => FZ.out.below b
                have hsw := FZ.out.bel.size
                go_wp2_with (first
                  | (go_at_call 46; refine (HT.out _).mono ?_; rintro e w6 ⟨rfl, rfl⟩)
                  | (go_at_call 45; refine (HV.out _).mono ?_; rintro e w7 ⟨rfl, bel7⟩; have F7 := FZ7 w7 bel7; have t0 := F7.bx.c0; have t1 := F7.bx.c1; have hsw7 := F7.bel.size; have F7 : Hid (Fz (w.alloc (.cells #[.int .i64 0, .slice none 0 0] 24)) E (.slice (some ⟨g, 0, none⟩) l.length wc) l v w7 (.slice ra L.length rc) L (.slice ca cl.length cc) cl) := F7)
                  | (at_builtin; refine wpList_append_apk rfl _ _ 43 rfl (w.alloc (.cells #[.int .i64 0, .slice none 0 0] 24)).heap.size 3 i0 (.int .i64 0) 1 8 Tryz.underlying43 hi hz0' hz1 hz2 rfl (by decide) _ cl.length (cl.map (Value.int .i64)) rfl (World.ownsRow.alloc F7.out.own _) _ 1 1 [.int .i64 z] rfl rfl (cell_one_new _ _ _) (by simp [Value.oneCell']) (by unfold maxLen; omega) (by omega) (by simp only [World.size_alloc] at hsw7 ⊢; omega) ?_; intro v8 w8 own8 ap8; obtain ⟨a8, c8, hv8⟩ := row_form own8; subst hv8; have F8 := F7.out.lit own8 ap8; have F8 : Hid (Fz (w.alloc (.cells #[.int .i64 0, .slice none 0 0] 24)) E (.slice (some ⟨g, 0, none⟩) l.length wc) l v w8 (.slice ra L.length rc) L (.slice a8 (cl.length + 1) c8) (cl ++ [z])) := F8; clear own8 ap8))
                go_roundg (gk - 1)
                case measure => have := HM.out; omega
                case rel => exact ⟨m + 1, L, _, cl ++ [z], by have := HM.out; omega, by omega, by omega, by go_num, by simp; omega, HE2.out, F8.out⟩
        · obtain rfl : m = l.length := by omega
          have HE1 : Hid (EE = (L.map Prod.snd, cl, none)) := by show _ = _; rw [← HEq.out, List.drop_length, eat]
          clear hmg HEq
          by_cases hcl0 : cl = []
          case neg =>
            have hpos : 0 < cl.length := List.length_pos_iff.2 hcl0
            have HE2 : Hid (A = ⟨0, [], 33, ls.length + 1⟩) := by show _ = _; rw [HA.out, HE1.out]; simp only [finF]; rw [if_pos hcl0]
            clear HE1 hcl0
            go_wp2
            have q := retR (W3 := (wr.setCell ⟨w.heap.size, 0, none⟩ (.int .i64 0)).setCell ⟨w.heap.size, 1, none⟩ (.slice none 0 0)) HBr.out (.int .i64 0) (.slice none 0 0) rfl rfl rfl rfl
            refine bodyPost_ret (ret_form3 rfl rfl q.1) rfl ?_
            rw [HE2.out]
            exact ⟨_, by first | rfl | simp, OwnF.nil _ _, q.2⟩
          case pos =>
            subst hcl0
            obtain ⟨_, _, e', _, _, hcell⟩ := FZ.out.tx.form
            obtain ⟨g, hg, hgl, hc3, _⟩ := hcell 3 (by omega)
            have e3 : g = g' := by injection e' with q1 q2 q3; rw [hg] at q1; injection q1 with q; injection q with q; exact q.symm
            subst e3
            rw [HC3.out] at hc3
            have hb6 : wr.cell? ⟨g, 6, none⟩ = some (.string bc) := by rw [HBc.out]; exact hc3
            clear hcell e' hg hc3
            haveI hne := xt_ne wr
            have y2 := Wx.cell hb6
            have y3 := Wx.cell e1
            have n3 : 3 < l.length := by omega
            have m3i : (3 : Int) < (l.length : Int) := by omega
            have HQx : Hid (∀ x, Calls Tryz.prog 45 #[.string bc] (Wx wr x) fun e w'' => e = .returned (.int .i64 c) ∧ ∃ y, w'' = Wx wr y) := fun x => (HVc.out (Wx wr x)).mono fun e w' ⟨q1, q2⟩ => ⟨q1, ⟨w', Below.step x.be q2⟩, rfl⟩
            clear HVc
            go_upto_region 23 with fail
            clear hb6 e0 e1 r0 r1 s0 s1
            refine (wpIn_wide (n := 1)).1 ?_
            refine region_quietX (by kernel_rfl) (by kernel_rfl) (by kernel_rfl) ?_
            repeat (refine wpQuietIn_step (fun _ _ _ _ => trivial) (fun Kqz hKqz => ?_); go_simp; first | (refine hKqz _ ?_; clear hKqz Kqz) | (apply Exists.intro; refine ⟨fun _ => ?_, hKqz _ ?_⟩; (first | (gi_at_call 45; with_reducible exact callsIn_wide.2 (HQx.out _))); clear hKqz Kqz))
            refine wpQuietIn_nil ?_
            intro _ hwq1
            obtain ⟨xq, hwq2⟩ := hwq1
            subst hwq2
            have F9 := FZ.out.below xq.be
            have F9 : Hid (Fz (w.alloc (.cells #[.int .i64 0, .slice none 0 0] 24)) E (.slice (some ⟨g, 0, none⟩) l.length wc) l v (Wx wr xq) (.slice ra L.length rc) L (.slice ca 0 cc) []) := F9
            clear y2 y3 HQx
            generalize Wx wr xq = w9 at *
            have HB9 := HBf.out F9.out
            have HB9 : Hid (Below (w.heap.size + 1) (w.alloc (.cells #[.int .i64 0, .slice none 0 0] 24)) w9) := HB9
            have bR9 : Bx2 w9 w.heap.size 24 (.int .i64 0) (.slice none 0 0) := (HB9.out.block _ (by omega)).trans (Bx2.new w 24 (.int .i64 0) (.slice none 0 0))
            have t0 := bR9.c0
            have t1 := bR9.c1
            have t2 := bR9.f0
            have t3 := bR9.f1
            have t4 := F9.out.bx.c0
            have t5 := F9.out.bx.c1
            have HbR9 : Hid (Bx2 w9 w.heap.size 24 (.int .i64 0) (.slice none 0 0)) := bR9
            clear bR9
            by_cases hnc : (L.length : Int) = c
            · have HE2 : Hid (A = ⟨v, L.map Prod.snd, 0, 0⟩) := by show _ = _; rw [HA.out, HE1.out]; simp only [finF]; rw [if_neg (by simp), if_neg (by simp [hnc])]
              have hq : ((L.length : Int) != c) = false := by rw [bne, beq_iff_eq.2 hnc]; rfl
              have hEne : E ≠ w.heap.size := by omega
              clear HE1 hnc
              go_wp2
              have q := retR (W3 := (w9.setCell ⟨w.heap.size, 0, none⟩ (.int .i64 v)).setCell ⟨w.heap.size, 1, none⟩ (.slice ra L.length rc)) HB9.out (.int .i64 v) (.slice ra L.length rc) rfl rfl rfl rfl
              refine bodyPost_ret (ret_form3 rfl rfl q.1) rfl ?_
              rw [HE2.out]
              refine ⟨_, by first | rfl | simp, ⟨L, ?_, rfl⟩, q.2⟩
              have o1 := F9.out.or.set HbR9.out (by decide) (by decide) 0 (.int .i64 v)
              have o2 := o1.set (HbR9.out.set0 (.int .i64 v)) (by decide) (by decide) 1 (.slice ra L.length rc)
              exact o2.mono (by simp)
            · have HE2 : Hid (A = ⟨0, [], 34, ls.length + 1⟩) := by show _ = _; rw [HA.out, HE1.out]; simp only [finF]; rw [if_neg (by simp), if_pos (by simpa using hnc)]
              have hq : ((L.length : Int) != c) = true := by rw [bne, beq_eq_false_iff_ne.2 hnc]; rfl
              clear HE1 hnc
              go_wp2
              have q := retR (W3 := (w9.setCell ⟨w.heap.size, 0, none⟩ (.int .i64 0)).setCell ⟨w.heap.size, 1, none⟩ (.slice none 0 0)) HB9.out (.int .i64 0) (.slice none 0 0) rfl rfl rfl rfl
              refine bodyPost_ret (ret_form3 rfl rfl q.1) rfl ?_
              rw [HE2.out]
              exact ⟨_, by first | rfl | simp, OwnF.nil _ _, q.2⟩

end Go.Proofs.YtlkbbbbclmffjaaGreatDoor
set_option linter.unusedSimpArgs false
set_option linter.unusedVariables false
namespace Go.Proofs.YtlkbbbbclmffjaaGreatDoor
open Go Go.RowKit

set_option maxHeartbeats 6400000 in
set_option maxRecDepth 100000 in
theorem rAnswer_any (s : ByteArray) (w : World) (hs : s.size ≤ 1099511627776) :
    Calls Tryz.prog 32 #[.string s] w (AnS w (anF s.data.toList)) := by
  obtain ⟨ib, hib, hb0, hb1, hb2⟩ := info_parts infoBo
  have HLn : Hid (Calls Tryz.prog 42 #[.string s] w fun e w' => ∃ v, e = .returned v ∧ OwnL w.heap.size w' v (linesOf s.data.toList) ∧ Below w.heap.size w w') := by
    have := rLines_any s w hs
    rwa [lns_lines _ _ (Nat.le_refl _)] at this
  have h1 := lns_len s.data.toList []
  have h2 := lns_sum s.data.toList []
  rw [List.length_nil, Nat.add_zero, ba_len, lns_lines _ _ (Nat.le_refl _)] at h1 h2
  have hlen : (linesOf s.data.toList).length ≤ 1099511627776 := by omega
  have hsum : lenS (linesOf s.data.toList) ≤ 1099511627776 := by omega
  have HEach : Hid (∀ x ∈ linesOf s.data.toList, x.length ≤ 1099511627776) := fun x hx => by have := lenS_each _ x hx; omega
  have HSkA : Hid (∀ (W : World) (lv : Value) (B : Nat), OwnL B W lv (linesOf s.data.toList) → Calls Tryz.prog 43 #[lv] W fun e w' => ∃ v, e = .returned v ∧ OwnW W.heap.size w' v (spoken 1 (linesOf s.data.toList)) ∧ (spoken 1 (linesOf s.data.toList)).length ≤ 1099511627776 ∧ Below W.heap.size W w') := fun W lv B ho => by
    have := rSpoken_any B lv _ W ho hsum hlen
    rwa [spk_spoken] at this
  have HWl : Hid (∀ x ∈ spoken 1 (linesOf s.data.toList), x.1.length ≤ 1099511627776) := by
    have key : ∀ (ls : List (List UInt8)) (j : Nat), (∀ y ∈ ls, y.length ≤ 1099511627776) → ∀ x ∈ spoken j ls, x.1.length ≤ 1099511627776 := by
      intro ls
      induction ls with
      | nil => intro j _ x hx; cases hx
      | cons a b ih =>
        intro j hy x hx
        rw [spoken] at hx
        rcases List.mem_append.1 hx with h | h
        · split at h
          · cases h
          · obtain ⟨u, hu, rfl⟩ := List.mem_map.1 h
            rw [← wds_words] at hu
            have h1 := wds_each a [] u hu
            have h2 := hy a (by simp)
            simp at h1; show u.length ≤ _; omega
        · exact ih (j + 1) (fun y hy' => hy y (List.mem_cons_of_mem _ hy')) x h
    exact key _ 1 HEach.out
  clear h1 h2 HEach
  cases hnx : nxt 1 (linesOf s.data.toList) with
  | none =>
    have HA : Hid (anF s.data.toList = ⟨false, [], 35, (linesOf s.data.toList).length + 1⟩) := by show _ = _; unfold anF; rw [hnx]
    have hsp := nxt_none hnx
    rw [hsp] at HSkA
    generalize anF s.data.toList = A at *
    generalize linesOf s.data.toList = ls at *
    clear hnx hsp HWl
    go_enter Tryz.func32, Tryz.ntmps32
    go_wp2_with fail
    refine HLn.out.mono ?_
    rintro e w1 ⟨lv, rfl, ol, bel1⟩
    have HSk := HSkA.out w1 lv _ ol
    obtain ⟨la, lc, rfl, _, _, _⟩ := ol.form
    have HSk : Hid (Calls Tryz.prog 43 #[.slice la ls.length lc] w1 fun e w' => ∃ v, e = .returned v ∧ OwnW w1.heap.size w' v [] ∧ ([] : List Wrd).length ≤ 1099511627776 ∧ Below w1.heap.size w1 w') := HSk
    clear ol HSkA HLn
    go_wp2_with fail
    refine HSk.out.mono ?_
    rintro e w2 ⟨v2, rfl, ow, _, bel2⟩
    obtain ⟨wa, wc, hv2, _, _, _⟩ := ow.form
    simp only [List.length_nil] at hv2
    subst hv2
    have HB : Hid (Below w.heap.size w w2) := Below.step bel1 bel2
    clear ow bel1 bel2 HSk
    go_wp2
    go_returns
    exact AnS.bad HA.out HB.out
  | some x =>
    obtain ⟨ln, k, r⟩ := x
    obtain ⟨hsp, hkr, _⟩ := nxt_some hnx
    obtain ⟨hidl, hmem⟩ := nxt_idle hnx
    have hwne : wordsOf ln ≠ [] := idle_words hidl
    have HTl : Hid (∀ x ∈ spoken (k + 1) r, x.2 ≠ k) := fun x hx => by have := spoken_ge r (k + 1) x hx; omega
    rw [hsp] at HSkA HWl
    have HTd : Hid (∀ (W : World) (v : Value) (B : Nat), OwnW B W v ((wordsOf ln).map (fun w => (w, k)) ++ spoken (k + 1) r) → ((wordsOf ln).map (fun w => (w, k)) ++ spoken (k + 1) r).length ≤ 1099511627776 → Calls Tryz.prog 52 #[v] W fun e w' => e = .returned (.bool (toldW (wordsOf ln)).isSome) ∧ Below W.heap.size W w') := fun W v B h1 h2 => rTold_any B v (wordsOf ln) k _ W h1 hwne HTl.out h2
    cases hh : toldW (wordsOf ln) with
    | none =>
      have HA : Hid (anF s.data.toList = ⟨false, [], 35, k⟩) := by show _ = _; unfold anF; rw [hnx]; simp only [hh]
      rw [hh] at HTd
      have HL0 : Hid (0 < ((wordsOf ln).map (fun w => (w, k)) ++ spoken (k + 1) r).length ∧ (((wordsOf ln).map (fun w => (w, k)) ++ spoken (k + 1) r).getD 0 ([], 0)).2 = k) := by
        cases hw : wordsOf ln with
        | nil => exact absurd hw hwne
        | cons a b => exact ⟨by simp, rfl⟩
      generalize anF s.data.toList = A at *
      generalize linesOf s.data.toList = ls at *
      generalize (wordsOf ln).map (fun w => (w, k)) ++ spoken (k + 1) r = l at *
      clear hnx hsp hh hwne HTl HWl
      go_enter Tryz.func32, Tryz.ntmps32
      go_wp2_with fail
      refine HLn.out.mono ?_
      rintro e w1 ⟨lv, rfl, ol, bel1⟩
      have HSk := HSkA.out w1 lv _ ol
      obtain ⟨la, lc, rfl, _, _, _⟩ := ol.form
      have HSk : Hid (Calls Tryz.prog 43 #[.slice la ls.length lc] w1 fun e w' => ∃ v, e = .returned v ∧ OwnW w1.heap.size w' v l ∧ l.length ≤ 1099511627776 ∧ Below w1.heap.size w1 w') := HSk
      clear ol HSkA HLn
      go_wp2_with fail
      refine HSk.out.mono ?_
      rintro e w2 ⟨v2, rfl, ow, hll, bel2⟩
      have HHx := HTd.out w2 v2 _ ow hll
      have HHx : Hid (Calls Tryz.prog 52 #[v2] w2 fun e w' => e = .returned (.bool false) ∧ Below w2.heap.size w2 w') := HHx
      obtain ⟨wa, wc, rfl, hwc, hwm, hcell⟩ := ow.form
      obtain ⟨g, rfl, hgl, _, hc1⟩ := hcell 0 HL0.out.1
      rw [HL0.out.2] at hc1
      have hlb : ((l.length : Int) == 0) = false := beq_eq_false_iff_ne.2 (by have := HL0.out.1; omega)
      have hl1 : 0 < l.length := HL0.out.1
      have hl1i : (0 : Int) < (l.length : Int) := by omega
      have HB2 : Hid (Below w.heap.size w w2) := Below.step bel1 bel2
      clear ow bel1 bel2 HSk hcell HTd HL0
      go_wp2_with fail
      refine HHx.out.mono ?_
      rintro e w3 ⟨rfl, bel3⟩
      have d1 : w3.cell? ⟨g, 1, none⟩ = some (.int .i64 (k : Int)) := (bel3.cell (p := ⟨g, 1, none⟩) hgl).trans (by simpa using hc1)
      have HB3 : Hid (Below w.heap.size w w3) := Below.step HB2.out bel3
      clear bel3 HHx HB2 hc1 hgl
      go_upto_region 6 with fail
      go_quiet (fail)
      go_wp2
      go_returns
      exact AnS.bad HA.out (HB3.out.trans ((below_drewN _ _).mono HB3.out.size))
    | some b =>
      have hws := toldW_some hh
      rw [hh] at HTd
      have HA : anF s.data.toList = (match b with
        | false => (match spoken (k + 1) r with | [] => ⟨false, [], 0, 0⟩ | (_, j) :: _ => ⟨false, [], 35, j⟩)
        | true => finA (linesOf s.data.toList).length (eatA (spoken (k + 1) r) k false [])) := by unfold anF; rw [hnx]; simp only [hh]; cases b <;> rfl
      have HL0 : Hid (2 ≤ ((wordsOf ln).map (fun w => (w, k)) ++ spoken (k + 1) r).length ∧ (((wordsOf ln).map (fun w => (w, k)) ++ spoken (k + 1) r).getD 1 ([], 0)).1 = (if b then yesW else noW) ∧ (((wordsOf ln).map (fun w => (w, k)) ++ spoken (k + 1) r).getD 1 ([], 0)).2 = k ∧ ((wordsOf ln).map (fun w => (w, k)) ++ spoken (k + 1) r).drop 2 = spoken (k + 1) r) := by
        rw [hws]; exact ⟨by simp, rfl, rfl, rfl⟩
      cases b with
      | false =>
      have HA2 : Hid (anF s.data.toList = match ((wordsOf ln).map (fun w => (w, k)) ++ spoken (k + 1) r).drop 2 with | [] => ⟨false, [], 0, 0⟩ | (_, j) :: _ => ⟨false, [], 35, j⟩) := by show _ = _; rw [HL0.out.2.2.2]; exact HA
      clear HA hws
      generalize anF s.data.toList = A at *
      generalize linesOf s.data.toList = ls at *
      generalize (wordsOf ln).map (fun w => (w, k)) ++ spoken (k + 1) r = l at *
      clear hnx hsp hh hwne HTl
      go_enter Tryz.func32, Tryz.ntmps32
      go_wp2_with fail
      refine HLn.out.mono ?_
      rintro e w1 ⟨lv, rfl, ol, bel1⟩
      have HSk := HSkA.out w1 lv _ ol
      obtain ⟨la, lc, rfl, _, _, _⟩ := ol.form
      have HSk : Hid (Calls Tryz.prog 43 #[.slice la ls.length lc] w1 fun e w' => ∃ v, e = .returned v ∧ OwnW w1.heap.size w' v l ∧ l.length ≤ 1099511627776 ∧ Below w1.heap.size w1 w') := HSk
      clear ol HSkA HLn
      go_wp2_with fail
      refine HSk.out.mono ?_
      rintro e w2 ⟨v2, rfl, ow, hll, bel2⟩
      have HHx := HTd.out w2 v2 _ ow hll
      have HHx : Hid (Calls Tryz.prog 52 #[v2] w2 fun e w' => e = .returned (.bool true) ∧ Below w2.heap.size w2 w') := HHx
      have HOW2 : Hid (OwnW w.heap.size w2 v2 l) := row_mono ow bel1.size
      obtain ⟨wa, wc, rfl, hwc, hwm, hcell⟩ := ow.form
      obtain ⟨g, rfl, hgl, hcA, hcA1⟩ := hcell 1 (by have := HL0.out.1; omega)
      rw [HL0.out.2.1] at hcA
      have hl2 : 2 ≤ l.length := HL0.out.1
      have hlb : ((l.length : Int) == 0) = false := beq_eq_false_iff_ne.2 (by omega)
      have HB2 : Hid (Below w.heap.size w w2) := Below.step bel1 bel2
      clear ow bel1 bel2 HSk HTd
      have hcA2 : w2.cell? ⟨g, 2, none⟩ = some (.string ⟨noW.toArray⟩) := hcA
      have hqn : ((⟨noW.toArray⟩ : ByteArray).toList == [85, 78, 83, 65, 84, 73, 83, 70, 73, 65, 66, 76, 69]) = true := by rw [ByteArray.toList_eq]; rfl
      by_cases h3 : 2 < l.length
      · obtain ⟨g', hg', _, _, hc3⟩ := hcell 2 h3
        have e4 : g' = g := by injection hg' with q; injection q with q; exact q.symm
        subst e4
        have HE : Hid (A = ⟨false, [], 35, (l.getD 2 ([], 0)).2⟩) := by show _ = _; rw [HA2.out, getD_drop l ([], 0) h3]
        generalize (l.getD 2 ([], 0)).2 = j at *
        have h3i : (2 : Int) < (l.length : Int) := by omega
        clear hcell HL0 hg' HA2 hcA hcA1
        generalize (⟨noW.toArray⟩ : ByteArray) = nb at *
        go_wp2_with fail
        refine HHx.out.mono ?_
        rintro e w3 ⟨rfl, bel3⟩
        have d0 := (bel3.cell (p := ⟨g', 2, none⟩) hgl).trans hcA2
        have d1 := (bel3.cell (p := ⟨g', 2 * 2 + 1, none⟩) hgl).trans hc3
        have d1 : w3.cell? ⟨g', 5, none⟩ = some (.int .i64 (j : Int)) := d1
        have HB3 : Hid (Below w.heap.size w w3) := Below.step HB2.out bel3
        clear bel3 HHx HB2 hc3 hcA2 hgl
        go_upto_region 9 with fail
        go_quiet (fail)
        go_wp2
        go_returns
        exact AnS.bad HE.out (HB3.out.trans ((below_drewN _ _).mono HB3.out.size))
      · have HE : Hid (A = ⟨false, [], 0, 0⟩) := by show _ = _; rw [HA2.out, List.drop_eq_nil_of_le (by omega)]
        clear hcell HL0 HA2 hcA hcA1
        generalize (⟨noW.toArray⟩ : ByteArray) = nb at *
        go_wp2_with fail
        refine HHx.out.mono ?_
        rintro e w3 ⟨rfl, bel3⟩
        have d0 := (bel3.cell (p := ⟨g, 2, none⟩) hgl).trans hcA2
        have HB3 : Hid (Below w.heap.size w w3) := Below.step HB2.out bel3
        clear bel3 HHx HB2 hcA2 hgl
        go_wp2
        go_returns
        exact AnS.bad HE.out HB3.out
      | true =>
      obtain ⟨EE, hEE⟩ : ∃ EE, EE = eatA (((wordsOf ln).map (fun w => (w, k)) ++ spoken (k + 1) r).drop 2) k false [] := ⟨_, rfl⟩
      have HA2 : Hid (anF s.data.toList = finA (linesOf s.data.toList).length EE) := by show _ = _; rw [hEE, HL0.out.2.2.2]; exact HA
      have HEq : Hid (eatA (((wordsOf ln).map (fun w => (w, k)) ++ spoken (k + 1) r).drop 2) k false [] = EE) := hEE.symm
      clear HA hws hEE
      generalize anF s.data.toList = A at *
      generalize linesOf s.data.toList = ls at *
      generalize (wordsOf ln).map (fun w => (w, k)) ++ spoken (k + 1) r = l at *
      clear hnx hsp hh hwne HTl
      go_enter Tryz.func32, Tryz.ntmps32
      go_wp2_with fail
      refine HLn.out.mono ?_
      rintro e w1 ⟨lv, rfl, ol, bel1⟩
      have HSk := HSkA.out w1 lv _ ol
      obtain ⟨la, lc, rfl, _, _, _⟩ := ol.form
      have HSk : Hid (Calls Tryz.prog 43 #[.slice la ls.length lc] w1 fun e w' => ∃ v, e = .returned v ∧ OwnW w1.heap.size w' v l ∧ l.length ≤ 1099511627776 ∧ Below w1.heap.size w1 w') := HSk
      clear ol HSkA HLn
      go_wp2_with fail
      refine HSk.out.mono ?_
      rintro e w2 ⟨v2, rfl, ow, hll, bel2⟩
      have HHx := HTd.out w2 v2 _ ow hll
      have HHx : Hid (Calls Tryz.prog 52 #[v2] w2 fun e w' => e = .returned (.bool true) ∧ Below w2.heap.size w2 w') := HHx
      have HOW2 : Hid (OwnW w.heap.size w2 v2 l) := row_mono ow bel1.size
      obtain ⟨wa, wc, rfl, hwc, hwm, hcell⟩ := ow.form
      obtain ⟨g, rfl, hgl, hcA, hcA1⟩ := hcell 1 (by have := HL0.out.1; omega)
      rw [HL0.out.2.1] at hcA
      have hl2 : 2 ≤ l.length := HL0.out.1
      have hlb : ((l.length : Int) == 0) = false := beq_eq_false_iff_ne.2 (by omega)
      have HB2 : Hid (Below w.heap.size w w2) := Below.step bel1 bel2
      clear ow bel1 bel2 HSk HTd
      have hcA2 : w2.cell? ⟨g, 2, none⟩ = some (.string ⟨yesW.toArray⟩) := hcA
      have hqn : ((⟨yesW.toArray⟩ : ByteArray).toList == [85, 78, 83, 65, 84, 73, 83, 70, 73, 65, 66, 76, 69]) = false := by rw [ByteArray.toList_eq]; rfl
      have HK1 : Hid ((l.getD 1 ([], 0)).2 = k) := HL0.out.2.2.1
      clear hcell HL0 hcA hcA1
      generalize (⟨yesW.toArray⟩ : ByteArray) = nb at *
      go_wp2_with fail
      refine HHx.out.mono ?_
      rintro e w3 ⟨rfl, bel3⟩
      have d0 := (bel3.cell (p := ⟨g, 2, none⟩) hgl).trans hcA2
      have HB3 : Hid (Below w.heap.size w w3) := Below.step HB2.out bel3
      have HOW3 : Hid (OwnW w.heap.size w3 (.slice (some ⟨g, 0, none⟩) l.length wc) l) := HOW2.out.below bel3
      clear bel3 HHx HB2 hcA2 hgl HOW2
      go_wp2
      clear d0 hqn
      go_loopg [8, 9, 10] l.length (fun gq u x i wr => ∃ (m q : Nat) (en : Bool) (ms : List Bool), m + gq = l.length + 2 ∧ m ≤ l.length ∧ 2 ≤ m ∧ m = q + 1 ∧ i = .int .i64 m ∧ x = .bool en ∧ ms.length + 2 ≤ m ∧ Hid (eatA (l.drop m) (l.getD q ([], 0)).2 en ms = EE) ∧ Hid (OwnBo w.heap.size wr u ms) ∧ Hid (OwnW w.heap.size wr (.slice (some ⟨g, 0, none⟩) l.length wc) l) ∧ Hid (Below w.heap.size w wr))
      case atStart => exact ⟨2, 1, false, [], by omega, by omega, by omega, rfl, rfl, rfl, by simp, by rw [HK1.out]; exact HEq.out, OwnBo.nilA _ _, HOW3.out, HB3.out⟩
      case round =>
        clear HEq HOW3 HB3
        obtain ⟨m, q, en, ms, hmg, hml, hm2, hmq, rfl, rfl, hsz, HEq, OB, HOW, BL⟩ := hrel
        have HM : Hid (m + gk = l.length + 2) := hmg
        have HMQ : Hid (m = q + 1) := hmq
        have hsw := BL.out.size
        by_cases hlt : m < l.length
        · obtain ⟨_, _, e', _, _, hcell⟩ := HOW.out.form
          obtain ⟨g2, hg2, hgl, hc0, hc1⟩ := hcell m hlt
          obtain ⟨g3, hg3, _, _, hp1⟩ := hcell q (by omega)
          have e3 : g2 = g := by injection e' with q1 q2 q3; rw [hg2] at q1; injection q1 with q1; injection q1 with q1; exact q1.symm
          have e4 : g3 = g := by injection e' with q1 q2 q3; rw [hg3] at q1; injection q1 with q1; injection q1 with q1; exact q1.symm
          subst e3
          subst e4
          clear hcell e' hg2 hg3
          have HD : Hid (l.drop m = l.getD m ([], 0) :: l.drop (m + 1)) := getD_drop l ([], 0) hlt
          have HLe : Hid ((l.getD m ([], 0)).1.length ≤ 1099511627776) := HWl.out _ (by rw [List.getD_eq_getElem?_getD, List.getElem?_eq_getElem hlt]; exact List.getElem_mem hlt)
          have HNx : Hid ((l.getD m ([], 0)).2 = (l.getD (q + 1) ([], 0)).2) := by show _ = _; rw [hmq]
          rw [HD.out] at HEq
          have hql : q < l.length := by omega
          have hqi : (q : Int) < (l.length : Int) := by omega
          have hmi : (m : Int) < (l.length : Int) := by omega
          have hsub : IntKind.i64.wrap ((m : Int) - 1) = (q : Int) := by rw [IntWalk.i64_in _ ⟨by omega, by omega⟩]; omega
          obtain ⟨ua, uc, hu⟩ := row_form OB.out
          subst hu
          generalize l.getD m ([], 0) = xx at *
          generalize (l.getD q ([], 0)).2 = pp at *
          obtain ⟨xt, xn⟩ := xx
          dsimp only at *
          obtain ⟨y, hy⟩ : ∃ y : ByteArray, y = ⟨xt.toArray⟩ := ⟨_, rfl⟩
          have HYd : Hid (y.data.toList = xt) := by show _ = _; rw [hy]
          have hcy : wr.cell? ⟨g3, m * 2, none⟩ = some (.string y) := by rw [hc0, hy]; rfl
          have hys : y.size ≤ 1099511627776 := by rw [← ba_len, HYd.out]; exact HLe.out
          have hmsl : ms.length ≤ 1099511627776 := by omega
          clear hc0 hy hmg HD HLe hmq
          by_cases hln : xn = pp
          case neg =>
            have hqe : ((xn : Int) != (pp : Int)) = true := by rw [bne, beq_eq_false_iff_ne.2 (by omega)]; rfl
            cases hv : (xt == [118])
            · have hq1 : (y.toList == [118]) = false := by rw [ByteArray.toList_eq, HYd.out]; exact hv
              have hq2 : (y.toList != [118]) = true := by rw [bne, hq1]; rfl
              have HE2 : Hid (A = ⟨false, [], 35, xn⟩) := by show _ = _; rw [HA2.out, ← HEq.out, eatA_bad hln (by simpa using hv)]; rfl
              clear HEq hv hln HYd hys
              go_upto_region 16 with fail
              go_quiet (fail)
              have z1 : (wr.drewN nq).cell? ⟨g3, m * 2, none⟩ = some (.string y) := hcy
              have z2 : (wr.drewN nq).cell? ⟨g3, m * 2 + 1, none⟩ = some (.int .i64 (xn : Int)) := hc1
              have BL2 : Hid (Below w.heap.size w (wr.drewN nq)) := BL.out.trans ((below_drewN _ _).mono BL.out.size)
              clear hcy hc1 hp1
              generalize wr.drewN nq = wy at *
              go_upto_region 18 with fail
              go_quiet (fail)
              go_wp2
              go_returns
              exact AnS.bad HE2.out (BL2.out.trans ((below_drewN _ _).mono BL2.out.size))
            · have hq1 : (y.toList == [118]) = true := by rw [ByteArray.toList_eq, HYd.out]; exact hv
              have hq2 : (y.toList != [118]) = false := by rw [bne, hq1]; rfl
              have HE2 : Hid (eatA (l.drop (m + 1)) (l.getD m ([], 0)).2 en ms = EE) := by show _ = _; rw [HMQ.out, ← HNx.out, ← HMQ.out, ← HEq.out, eatA_line hln (by simpa using hv)]
              clear HEq hv hln HYd hys
              go_upto_region 16 with fail
              go_quiet (fail)
              have z1 : (wr.drewN nq).cell? ⟨g3, m * 2, none⟩ = some (.string y) := hcy
              have BL2 : Hid (Below w.heap.size w (wr.drewN nq)) := BL.out.trans ((below_drewN _ _).mono BL.out.size)
              have OB2 : Hid (OwnBo w.heap.size (wr.drewN nq) (.slice ua ms.length uc) ms) := OB.out.belowA (below_drewN _ _)
              have HOW2 : Hid (OwnW w.heap.size (wr.drewN nq) (.slice (some ⟨g3, 0, none⟩) l.length wc) l) := HOW.out.below (below_drewN _ _)
              clear hcy hc1 hp1
              generalize wr.drewN nq = wy at *
              go_wp2
              go_roundg (gk - 1)
              case measure => have := HM.out; omega
              case rel => exact ⟨m + 1, m, en, ms, by have := HM.out; omega, by omega, by omega, rfl, by go_num, rfl, by omega, HE2.out, OB2.out, HOW2.out, BL2.out⟩
          case pos =>
          subst hln
          have hqe : ((xn : Int) != (xn : Int)) = false := by simp
          go_upto_region 16 with fail
          go_quiet (fail)
          have z1 : (wr.drewN nq).cell? ⟨g3, m * 2, none⟩ = some (.string y) := hcy
          have z2 : (wr.drewN nq).cell? ⟨g3, m * 2 + 1, none⟩ = some (.int .i64 (xn : Int)) := hc1
          have BL2 : Hid (Below w.heap.size w (wr.drewN nq)) := BL.out.trans ((below_drewN _ _).mono BL.out.size)
          have OB2 : Hid (OwnBo w.heap.size (wr.drewN nq) (.slice ua ms.length uc) ms) := OB.out.belowA (below_drewN _ _)
          have HOW2 : Hid (OwnW w.heap.size (wr.drewN nq) (.slice (some ⟨g3, 0, none⟩) l.length wc) l) := HOW.out.below (below_drewN _ _)
          have hgl2 : g3 < (wr.drewN nq).heap.size := hgl
          clear hcy hc1 hp1 BL OB HOW hgl hqe
          generalize wr.drewN nq = wy at *
          cases en
          case true =>
            have HE2 : Hid (A = ⟨false, [], 35, xn⟩) := by show _ = _; rw [HA2.out, ← HEq.out, eatA_end]; rfl
            clear HEq HYd hys
            go_upto_region 20 with fail
            go_quiet (fail)
            go_wp2
            go_returns
            exact AnS.bad HE2.out (BL2.out.trans ((below_drewN _ _).mono BL2.out.size))
          case false =>
          have HT := fun W => rTens_any y W hys
          rw [HYd.out] at HT
          cases ht : tensB xt
          · have HE2 : Hid (A = ⟨false, [], 31, xn⟩) := by show _ = _; rw [HA2.out, ← HEq.out, eatA_none (tens_num ht)]; rfl
            rw [ht] at HT
            have HT : Hid (∀ W : World, Calls Tryz.prog 46 #[.string y] W fun e w' => e = .returned (.bool false) ∧ w' = W) := HT
            clear ht HEq HYd hys
            go_upto_region 22 with (go_at_call 46; refine (HT.out _).mono ?_; rintro e w6 ⟨rfl, rfl⟩)
            go_quiet (fail)
            go_wp2
            go_returns
            exact AnS.bad HE2.out (BL2.out.trans ((below_drewN _ _).mono BL2.out.size))
          · obtain ⟨z, hz⟩ := tens_itoa ht
            rw [ht] at HT
            have HT : Hid (∀ W : World, Calls Tryz.prog 46 #[.string y] W fun e w' => e = .returned (.bool true) ∧ w' = W) := HT
            have HV : Hid (∀ W : World, Calls Tryz.prog 45 #[.string y] W fun e w' => e = .returned (.int .i64 (clN 10000000000 z)) ∧ Below W.heap.size W w') := fun W => rVal_any y z W (by rw [HYd.out]; exact hz) hys
            have hnum : numW xt = some (clN 2147483648 z) := by rw [hz]; exact numW_it z
            have hr10 : -10000000000 ≤ clN 10000000000 z ∧ clN 10000000000 z ≤ 10000000000 := clN_range (by omega)
            have HNq : Hid ((l.getD m ([], 0)).2 = xn) := by show _ = _; rw [HMQ.out, ← HNx.out]
            clear ht hz HYd hys
            by_cases hz0 : z = 0
            · have hn0 : clN 10000000000 z = 0 := (clN_zero (by omega)).2 hz0
              have HE2 : Hid (eatA (l.drop (m + 1)) (l.getD m ([], 0)).2 true ms = EE) := by show _ = _; rw [HNq.out, ← HEq.out, eatA_zero (by rw [hnum, (clN_zero (by omega)).2 hz0])]
              rw [hn0] at HV
              clear HEq hnum hr10 hz0 hn0
              go_wp2_with (first
                | (go_at_call 46; refine (HT.out _).mono ?_; rintro e w6 ⟨rfl, rfl⟩)
                | (go_at_call 45; refine (HV.out _).mono ?_; rintro e w7 ⟨rfl, bel7⟩))
              go_roundg (gk - 1)
              case measure => have := HM.out; omega
              case rel => exact ⟨m + 1, m, true, ms, by have := HM.out; omega, by omega, by omega, rfl, by go_num, rfl, by omega, HE2.out, OB2.out.belowA bel7, HOW2.out.below bel7, BL2.out.trans (bel7.mono BL2.out.size)⟩
            · have hz31 : clN 2147483648 z ≠ 0 := fun e => hz0 ((clN_zero (by omega)).1 e)
              have hn0 : (clN 10000000000 z == 0) = false := beq_eq_false_iff_ne.2 (fun e => hz0 ((clN_zero (by omega)).1 e))
              have hdue := var_due (z := z) (k := ms.length) hz0
              have hpos := pos_due (z := z)
              by_cases hd : (ms.length : Int) + 1 ≤ 1048576 ∧ (clN 10000000000 z = (ms.length : Int) + 1 ∨ clN 10000000000 z = -((ms.length : Int) + 1))
              · obtain ⟨hd1, hd2⟩ := hd
                have hzv : decide (0 < z) = decide (clN 10000000000 z = (ms.length : Int) + 1) := by
                  have : clN 10000000000 z = z := by
                    have h := hd2
                    unfold clN at h ⊢
                    split at h
                    · omega
                    · rename_i ha; rw [if_neg ha]; split at h
                      · omega
                      · rename_i hb; rw [if_neg hb]
                  rw [this] at hd2 ⊢
                  rcases hd2 with h | h
                  · rw [decide_eq_true (by omega), decide_eq_true h]
                  · rw [decide_eq_false (by omega), decide_eq_false (by omega)]
                have HE2 : Hid (eatA (l.drop (m + 1)) (l.getD m ([], 0)).2 false (ms ++ [decide (clN 10000000000 z = (ms.length : Int) + 1)]) = EE) := by show _ = _; rw [HNq.out, ← HEq.out, eatA_more hnum hz31 (hdue.2 ⟨hd1, hd2⟩), hpos, hzv]
                have hsw2 := BL2.out.size
                clear HEq hnum hz31 hdue hpos hzv hz0
                generalize clN 10000000000 z = n at *
                by_cases hn1 : n = (ms.length : Int) + 1
                all_goals
                  first | have hbq : (n == (ms.length : Int) + 1) = true := by rw [beq_iff_eq]; exact hn1
                        | have hbq : (n == (ms.length : Int) + 1) = false := beq_eq_false_iff_ne.2 hn1
                  first | have hbm : (n == -((ms.length : Int) + 1)) = true := by rw [beq_iff_eq]; omega
                        | skip
                  first | rw [decide_eq_true hn1] at HE2 | rw [decide_eq_false hn1] at HE2
                  clear hd2 hn1
                  go_wp2_with (first
                    | (go_at_call 46; refine (HT.out _).mono ?_; rintro e w6 ⟨rfl, rfl⟩)
                    | (go_at_call 45; refine (HV.out _).mono ?_; rintro e w7 ⟨rfl, bel7⟩; have O7 := OB2.out.belowA bel7; have O7 : Hid (OwnBo w.heap.size w7 (.slice ua ms.length uc) ms) := O7; have W7 : Hid (OwnW w.heap.size w7 (.slice (some ⟨g3, 0, none⟩) l.length wc) l) := HOW2.out.below bel7; have B7 : Hid (Below w.heap.size w w7) := BL2.out.trans (bel7.mono BL2.out.size); have s7 := B7.out.size; clear bel7)
                    | (at_builtin; refine wpList_append_own _ rfl _ _ 25 rfl w.heap.size 4 ib (.bool false) 1 1 Tryz.underlying25 hib hb0 hb1 hb2 rfl (by decide) _ ms.length (ms.map Value.bool) rfl (World.ownsRow.alloc O7.out _) _ 1 1 [.bool _] rfl rfl (cell_one_new _ _ _) (by simp [Value.oneCell']) (by unfold maxLen; omega) (by omega) (by simp; omega) ?_; intro v8 w8 own8 gr8 hn8))
                  go_roundg (gk - 1)
                  case measure => have := HM.out; omega
                  case rel => exact ⟨m + 1, m, false, ms ++ [_], by have := HM.out; omega, by omega, by omega, rfl, by go_num, rfl, by simp; omega, HE2.out, OwnBo.one own8, row_apart (by decide) (World.ownsRow.alloc W7.out _) (World.ownsRow.alloc O7.out _) gr8, (B7.out.alloc s7 _).grown gr8 (by simp; omega) (fun j hj => (World.ownsRow.lt O7.out j hj).1)⟩
              · have HE2 : Hid (A = ⟨false, [], 32, xn⟩) := by show _ = _; rw [HA2.out, ← HEq.out, eatA_lit hnum hz31 (fun e => hd (hdue.1 e))]; rfl
                clear HEq hnum hz31 hdue hpos hz0
                generalize clN 10000000000 z = n at *
                have hx : ((ms.length : Int) + 1 ≤ 1048576) → (n == (ms.length : Int) + 1) = false ∧ (n == -((ms.length : Int) + 1)) = false := fun h => ⟨beq_eq_false_iff_ne.2 (fun e => hd ⟨h, .inl e⟩), beq_eq_false_iff_ne.2 (fun e => hd ⟨h, .inr e⟩)⟩
                clear hd
                by_cases hle : (ms.length : Int) + 1 ≤ 1048576
                case pos =>
                  obtain ⟨hx1, hx2⟩ := hx hle
                  clear hx
                  go_upto_region 24 with (first
                    | (go_at_call 46; refine (HT.out _).mono ?_; rintro e w6 ⟨rfl, rfl⟩)
                    | (go_at_call 45; refine (HV.out _).mono ?_; rintro e w7 ⟨rfl, bel7⟩; have z3 := (bel7.cell (p := ⟨g3, m * 2 + 1, none⟩) hgl2).trans z2; have B7 : Hid (Below w.heap.size w w7) := BL2.out.trans (bel7.mono BL2.out.size); clear bel7))
                  clear z1 z2
                  go_quiet (fail)
                  go_wp2
                  go_returns
                  exact AnS.bad HE2.out (B7.out.trans ((below_drewN _ _).mono B7.out.size))
                case neg =>
                  clear hx
                  have hle2 : decide ((ms.length : Int) + 1 ≤ 1048576) = false := decide_eq_false hle
                  clear hle
                  go_upto_region 24 with (first
                    | (go_at_call 46; refine (HT.out _).mono ?_; rintro e w6 ⟨rfl, rfl⟩)
                    | (go_at_call 45; refine (HV.out _).mono ?_; rintro e w7 ⟨rfl, bel7⟩; have z3 := (bel7.cell (p := ⟨g3, m * 2 + 1, none⟩) hgl2).trans z2; have B7 : Hid (Below w.heap.size w w7) := BL2.out.trans (bel7.mono BL2.out.size); clear bel7))
                  clear z1 z2
                  go_quiet (fail)
                  go_wp2
                  go_returns
                  exact AnS.bad HE2.out (B7.out.trans ((below_drewN _ _).mono B7.out.size))
        · obtain rfl : m = l.length := by omega
          have HE1 : Hid (A = finA ls.length (ms, en, none)) := by show _ = _; rw [HA2.out, ← HEq.out, List.drop_length, eatA]
          obtain ⟨ua, uc, hu⟩ := row_form OB.out
          subst hu
          clear hmg hmq HEq
          cases en
          · have HE2 : Hid (A = ⟨false, [], 33, ls.length + 1⟩) := HE1.out
            go_wp2
            go_returns
            exact AnS.bad HE2.out BL.out
          · have HE2 : Hid (A = ⟨true, ms, 0, 0⟩) := HE1.out
            go_wp2
            go_returns
            rw [HE2.out]
            exact ⟨_, rfl, OB.out, BL.out⟩

end Go.Proofs.YtlkbbbbclmffjaaGreatDoor
set_option linter.unusedSimpArgs false
set_option linter.unusedVariables false
namespace Go.Proofs.YtlkbbbbclmffjaaGreatDoor
open Go Go.RowKit

/-- what is read is no longer than the text -/
theorem eatF_len : ∀ (n : Int) (ws : List Wrd) (op : List Int) (all : List (List Int)), (eat n ws op all).1.length ≤ all.length + ws.length ∧ (∀ B : Nat, op.length + ws.length ≤ B → (∀ x ∈ all, x.length ≤ B) → ∀ x ∈ (eat n ws op all).1, x.length ≤ B)
  | n, [], op, all => ⟨by simp [eat], fun B _ h x hx => h x (by simpa [eat] using hx)⟩
  | n, (w, k) :: r, op, all => by
    cases hw : numW w with
    | none => rw [eat_none hw]; exact ⟨by simp, fun B _ h => h⟩
    | some z =>
      by_cases hz : z = 0
      · subst hz
        rw [eat_zero hw]
        obtain ⟨h1, h2⟩ := eatF_len n r [] (all ++ [op])
        simp only [List.length_append, List.length_cons, List.length_nil] at h1 ⊢
        exact ⟨by omega, fun B hB h => h2 B (by simp; omega) (fun x hx => by
          rcases List.mem_append.1 hx with hx | hx
          · exact h x hx
          · obtain rfl : x = op := by simpa using hx
            omega)⟩
      · cases hf : (!fmd z || decide (n < varOf z)) with
        | true => rw [eat_bad hw hz hf]; exact ⟨by simp, fun B _ h => h⟩
        | false =>
          rw [eat_lit hw hz hf]
          obtain ⟨h1, h2⟩ := eatF_len n r (op ++ [z]) all
          simp only [List.length_append, List.length_cons, List.length_nil] at h1 h2 ⊢
          exact ⟨by omega, fun B hB h => h2 B (by omega) h⟩
theorem spk_len : ∀ (ls : List (List UInt8)) (k : Nat), (spoken k ls).length ≤ lenS ls
  | [], k => by simp [spoken, lenS]
  | l :: r, k => by
    rw [spoken, lenS_cons, List.length_append]
    have h1 := spk_len r (k + 1)
    have h2 : (wordsOf l).length ≤ l.length := by rw [← wds_words]; have := wds_len l []; simpa using this
    split
    · simp; omega
    · simp; omega
theorem rdF_len (s : List UInt8) : (rdF s).cls.length ≤ s.length ∧ ∀ x ∈ (rdF s).cls, x.length ≤ s.length := by
  have none : ([] : List (List Int)).length ≤ s.length ∧ ∀ x ∈ ([] : List (List Int)), x.length ≤ s.length := ⟨by simp, fun x hx => by cases hx⟩
  cases hnx : nxt 1 (linesOf s) with
  | none => rw [rdF_bad1 hnx]; exact none
  | some y =>
    obtain ⟨ln, k, r⟩ := y
    cases hh : headW (wordsOf ln) with
    | none => unfold rdF; rw [hnx]; simp only [hh]; exact none
    | some vc =>
      obtain ⟨v, c⟩ := vc
      rw [rdF_head hnx hh]
      have h1 := eatF_len v (spoken (k + 1) r) [] []
      have h2 := (nxt_some hnx).1
      have h3 := spk_len (linesOf s) 1
      have h4 := lns_sum s []
      rw [lns_lines _ _ (Nat.le_refl _)] at h4
      rw [h2, List.length_append] at h3
      simp only [List.length_nil, Nat.add_zero, Nat.zero_add] at h1 h4
      generalize eat v (spoken (k + 1) r) [] [] = EE at *
      obtain ⟨all, op, o⟩ := EE
      cases o with
      | some ej => obtain ⟨e, j⟩ := ej; exact none
      | none =>
        simp only [finF]
        split
        · exact none
        · split
          · exact none
          · exact ⟨by have := h1.1; dsimp only at this ⊢; omega, fun x hx => h1.2 s.length (by omega) (fun x hx => by cases hx) x hx⟩
end Go.Proofs.YtlkbbbbclmffjaaGreatDoor

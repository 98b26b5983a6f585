/-
  The document's ReadAnswer, walked.
  KEEP: box own below mono lt set kept new trans refl app on grown cell out block size os tape output c f c0 c1 f0 f1 len nil form rd rds low set0 set1 not_row at row ap bel bx ge lit fin tx or rdz be one
-/
import Derived.Test.YtaipajalkendaaaDoorKAnT
import Derived.Test.YtaipajalkendaaaDoorKDmR
import Derived.Test.YtaipajalkendaaaDoorCopyBs
set_option linter.unusedSimpArgs false
set_option linter.unusedVariables false
namespace Go.Proofs.YtaipajalkendaaaDoor
open Go Go.RowKit

def AnS (w : World) (A : AnA) (e : Ending) (w' : World) : Prop :=
  ∃ v, e = .returned (.tuple #[.bool A.sat, v, .int .i64 A.err, .int .i64 (A.line : Int)]) ∧ OwnBo w.heap.size w' v A.mod ∧ Below w.heap.size w w'
theorem OwnBo.nilA (B : Nat) (w : World) : OwnBo B w (.slice none 0 0) [] := World.ownsRow_nil _ _ _ _
theorem OwnBo.belowA {B : Nat} {w w' : World} {v : Value} {ms : List Bool} (h : OwnBo B w v ms) (hb : Below w.heap.size w w') : OwnBo B w' v ms := World.ownsRow.kept h (grown_below hb) (one_or _)
theorem AnS.bad {w w' : World} {A : AnA} {e : Int} {j : Nat} (hA : A = ⟨false, [], e, j⟩) (hb : Below w.heap.size w w') : AnS w A (.returned (.tuple #[.bool false, .slice none 0 0, .int .i64 e, .int .i64 (j : Int)])) w' := by
  subst hA; exact ⟨_, rfl, OwnBo.nilA _ _, hb⟩
theorem toldW_some {ws : List (List UInt8)} {b : Bool} (h : toldW ws = some b) : ws = [[115], if b then yesW else noW] := by
  unfold toldW at h
  split at h
  · rename_i e; cases h; exact e
  · split at h
    · rename_i e; cases h; exact e
    · cases h

set_option maxHeartbeats 6400000 in
set_option maxRecDepth 100000 in
theorem rAnswer_any (s : ByteArray) (w : World) (hs : s.size ≤ 1099511627776) :
    Calls Tryd.prog 13 #[.string s] w (AnS w (anF s.data.toList)) := by
  obtain ⟨ib, hib, hb0, hb1, hb2⟩ := info_parts infoBo
  have HLn : Hid (Calls Tryd.prog 26 #[.string s] w fun e w' => ∃ v, e = .returned v ∧ OwnL w.heap.size w' v (linesOf s.data.toList) ∧ Below w.heap.size w w') := by
    have := rLines_any s w hs
    rwa [lns_lines _ _ (Nat.le_refl _)] at this
  have h1 := lns_len s.data.toList []
  have h2 := lns_sum s.data.toList []
  rw [List.length_nil, Nat.add_zero, ba_len, lns_lines _ _ (Nat.le_refl _)] at h1 h2
  have hlen : (linesOf s.data.toList).length ≤ 1099511627776 := by omega
  have hsum : lenS (linesOf s.data.toList) ≤ 1099511627776 := by omega
  have HEach : Hid (∀ x ∈ linesOf s.data.toList, x.length ≤ 1099511627776) := fun x hx => by have := lenS_each _ x hx; omega
  have HSkA : Hid (∀ (W : World) (lv : Value) (B : Nat), OwnL B W lv (linesOf s.data.toList) → Calls Tryd.prog 27 #[lv] W fun e w' => ∃ v, e = .returned v ∧ OwnW W.heap.size w' v (spoken 1 (linesOf s.data.toList)) ∧ (spoken 1 (linesOf s.data.toList)).length ≤ 1099511627776 ∧ Below W.heap.size W w') := fun W lv B ho => by
    have := rSpoken_any B lv _ W ho hsum hlen
    rwa [spk_spoken] at this
  have HWl : Hid (∀ x ∈ spoken 1 (linesOf s.data.toList), x.1.length ≤ 1099511627776) := by
    have key : ∀ (ls : List (List UInt8)) (j : Nat), (∀ y ∈ ls, y.length ≤ 1099511627776) → ∀ x ∈ spoken j ls, x.1.length ≤ 1099511627776 := by
      intro ls
      induction ls with
      | nil => intro j _ x hx; cases hx
      | cons a b ih =>
        intro j hy x hx
        rw [spoken] at hx
        rcases List.mem_append.1 hx with h | h
        · split at h
          · cases h
          · obtain ⟨u, hu, rfl⟩ := List.mem_map.1 h
            rw [← wds_words] at hu
            have h1 := wds_each a [] u hu
            have h2 := hy a (by simp)
            simp at h1; show u.length ≤ _; omega
        · exact ih (j + 1) (fun y hy' => hy y (List.mem_cons_of_mem _ hy')) x h
    exact key _ 1 HEach.out
  clear h1 h2 HEach
  cases hnx : nxt 1 (linesOf s.data.toList) with
  | none =>
    have HA : Hid (anF s.data.toList = ⟨false, [], 35, (linesOf s.data.toList).length + 1⟩) := by show _ = _; unfold anF; rw [hnx]
    have hsp := nxt_none hnx
    rw [hsp] at HSkA
    generalize anF s.data.toList = A at *
    generalize linesOf s.data.toList = ls at *
    clear hnx hsp HWl
    go_enter Tryd.func13, Tryd.ntmps13
    go_wp2_with fail
    refine HLn.out.mono ?_
    rintro e w1 ⟨lv, rfl, ol, bel1⟩
    have HSk := HSkA.out w1 lv _ ol
    obtain ⟨la, lc, rfl, _, _, _⟩ := ol.form
    have HSk : Hid (Calls Tryd.prog 27 #[.slice la ls.length lc] w1 fun e w' => ∃ v, e = .returned v ∧ OwnW w1.heap.size w' v [] ∧ ([] : List Wrd).length ≤ 1099511627776 ∧ Below w1.heap.size w1 w') := HSk
    clear ol HSkA HLn
    go_wp2_with fail
    refine HSk.out.mono ?_
    rintro e w2 ⟨v2, rfl, ow, _, bel2⟩
    obtain ⟨wa, wc, hv2, _, _, _⟩ := ow.form
    simp only [List.length_nil] at hv2
    subst hv2
    have HB : Hid (Below w.heap.size w w2) := Below.step bel1 bel2
    clear ow bel1 bel2 HSk
    go_wp2
    go_returns
    exact AnS.bad HA.out HB.out
  | some x =>
    obtain ⟨ln, k, r⟩ := x
    obtain ⟨hsp, hkr, _⟩ := nxt_some hnx
    obtain ⟨hidl, hmem⟩ := nxt_idle hnx
    have hwne : wordsOf ln ≠ [] := idle_words hidl
    have HTl : Hid (∀ x ∈ spoken (k + 1) r, x.2 ≠ k) := fun x hx => by have := spoken_ge r (k + 1) x hx; omega
    rw [hsp] at HSkA HWl
    have HTd : Hid (∀ (W : World) (v : Value) (B : Nat), OwnW B W v ((wordsOf ln).map (fun w => (w, k)) ++ spoken (k + 1) r) → ((wordsOf ln).map (fun w => (w, k)) ++ spoken (k + 1) r).length ≤ 1099511627776 → Calls Tryd.prog 35 #[v] W fun e w' => e = .returned (.bool (toldW (wordsOf ln)).isSome) ∧ Below W.heap.size W w') := fun W v B h1 h2 => rTold_any B v (wordsOf ln) k _ W h1 hwne HTl.out h2
    cases hh : toldW (wordsOf ln) with
    | none =>
      have HA : Hid (anF s.data.toList = ⟨false, [], 35, k⟩) := by show _ = _; unfold anF; rw [hnx]; simp only [hh]
      rw [hh] at HTd
      have HL0 : Hid (0 < ((wordsOf ln).map (fun w => (w, k)) ++ spoken (k + 1) r).length ∧ (((wordsOf ln).map (fun w => (w, k)) ++ spoken (k + 1) r).getD 0 ([], 0)).2 = k) := by
        cases hw : wordsOf ln with
        | nil => exact absurd hw hwne
        | cons a b => exact ⟨by simp, rfl⟩
      generalize anF s.data.toList = A at *
      generalize linesOf s.data.toList = ls at *
      generalize (wordsOf ln).map (fun w => (w, k)) ++ spoken (k + 1) r = l at *
      clear hnx hsp hh hwne HTl HWl
      go_enter Tryd.func13, Tryd.ntmps13
      go_wp2_with fail
      refine HLn.out.mono ?_
      rintro e w1 ⟨lv, rfl, ol, bel1⟩
      have HSk := HSkA.out w1 lv _ ol
      obtain ⟨la, lc, rfl, _, _, _⟩ := ol.form
      have HSk : Hid (Calls Tryd.prog 27 #[.slice la ls.length lc] w1 fun e w' => ∃ v, e = .returned v ∧ OwnW w1.heap.size w' v l ∧ l.length ≤ 1099511627776 ∧ Below w1.heap.size w1 w') := HSk
      clear ol HSkA HLn
      go_wp2_with fail
      refine HSk.out.mono ?_
      rintro e w2 ⟨v2, rfl, ow, hll, bel2⟩
      have HHx := HTd.out w2 v2 _ ow hll
      have HHx : Hid (Calls Tryd.prog 35 #[v2] w2 fun e w' => e = .returned (.bool false) ∧ Below w2.heap.size w2 w') := HHx
      obtain ⟨wa, wc, rfl, hwc, hwm, hcell⟩ := ow.form
      obtain ⟨g, rfl, hgl, _, hc1⟩ := hcell 0 HL0.out.1
      rw [HL0.out.2] at hc1
      have hlb : ((l.length : Int) == 0) = false := beq_eq_false_iff_ne.2 (by have := HL0.out.1; omega)
      have hl1 : 0 < l.length := HL0.out.1
      have hl1i : (0 : Int) < (l.length : Int) := by omega
      have HB2 : Hid (Below w.heap.size w w2) := Below.step bel1 bel2
      clear ow bel1 bel2 HSk hcell HTd HL0
      go_wp2_with fail
      refine HHx.out.mono ?_
      rintro e w3 ⟨rfl, bel3⟩
      have d1 : w3.cell? ⟨g, 1, none⟩ = some (.int .i64 (k : Int)) := (bel3.cell (p := ⟨g, 1, none⟩) hgl).trans (by simpa using hc1)
      have HB3 : Hid (Below w.heap.size w w3) := Below.step HB2.out bel3
      clear bel3 HHx HB2 hc1 hgl
      go_upto_region 6 with fail
      go_quiet (fail)
      go_wp2
      go_returns
      exact AnS.bad HA.out (HB3.out.trans ((below_drewN _ _).mono HB3.out.size))
    | some b =>
      have hws := toldW_some hh
      rw [hh] at HTd
      have HA : anF s.data.toList = (match b with
        | false => (match spoken (k + 1) r with | [] => ⟨false, [], 0, 0⟩ | (_, j) :: _ => ⟨false, [], 35, j⟩)
        | true => finA (linesOf s.data.toList).length (eatA (spoken (k + 1) r) k false [])) := by unfold anF; rw [hnx]; simp only [hh]; cases b <;> rfl
      have HL0 : Hid (2 ≤ ((wordsOf ln).map (fun w => (w, k)) ++ spoken (k + 1) r).length ∧ (((wordsOf ln).map (fun w => (w, k)) ++ spoken (k + 1) r).getD 1 ([], 0)).1 = (if b then yesW else noW) ∧ (((wordsOf ln).map (fun w => (w, k)) ++ spoken (k + 1) r).getD 1 ([], 0)).2 = k ∧ ((wordsOf ln).map (fun w => (w, k)) ++ spoken (k + 1) r).drop 2 = spoken (k + 1) r) := by
        rw [hws]; exact ⟨by simp, rfl, rfl, rfl⟩
      cases b with
      | false =>
      have HA2 : Hid (anF s.data.toList = match ((wordsOf ln).map (fun w => (w, k)) ++ spoken (k + 1) r).drop 2 with | [] => ⟨false, [], 0, 0⟩ | (_, j) :: _ => ⟨false, [], 35, j⟩) := by show _ = _; rw [HL0.out.2.2.2]; exact HA
      clear HA hws
      generalize anF s.data.toList = A at *
      generalize linesOf s.data.toList = ls at *
      generalize (wordsOf ln).map (fun w => (w, k)) ++ spoken (k + 1) r = l at *
      clear hnx hsp hh hwne HTl
      go_enter Tryd.func13, Tryd.ntmps13
      go_wp2_with fail
      refine HLn.out.mono ?_
      rintro e w1 ⟨lv, rfl, ol, bel1⟩
      have HSk := HSkA.out w1 lv _ ol
      obtain ⟨la, lc, rfl, _, _, _⟩ := ol.form
      have HSk : Hid (Calls Tryd.prog 27 #[.slice la ls.length lc] w1 fun e w' => ∃ v, e = .returned v ∧ OwnW w1.heap.size w' v l ∧ l.length ≤ 1099511627776 ∧ Below w1.heap.size w1 w') := HSk
      clear ol HSkA HLn
      go_wp2_with fail
      refine HSk.out.mono ?_
      rintro e w2 ⟨v2, rfl, ow, hll, bel2⟩
      have HHx := HTd.out w2 v2 _ ow hll
      have HHx : Hid (Calls Tryd.prog 35 #[v2] w2 fun e w' => e = .returned (.bool true) ∧ Below w2.heap.size w2 w') := HHx
      have HOW2 : Hid (OwnW w.heap.size w2 v2 l) := row_mono ow bel1.size
      obtain ⟨wa, wc, rfl, hwc, hwm, hcell⟩ := ow.form
      obtain ⟨g, rfl, hgl, hcA, hcA1⟩ := hcell 1 (by have := HL0.out.1; omega)
      rw [HL0.out.2.1] at hcA
      have hl2 : 2 ≤ l.length := HL0.out.1
      have hlb : ((l.length : Int) == 0) = false := beq_eq_false_iff_ne.2 (by omega)
      have HB2 : Hid (Below w.heap.size w w2) := Below.step bel1 bel2
      clear ow bel1 bel2 HSk HTd
      have hcA2 : w2.cell? ⟨g, 2, none⟩ = some (.string ⟨noW.toArray⟩) := hcA
      have hqn : ((⟨noW.toArray⟩ : ByteArray).toList == [85, 78, 83, 65, 84, 73, 83, 70, 73, 65, 66, 76, 69]) = true := by rw [ByteArray.toList_eq]; rfl
      by_cases h3 : 2 < l.length
      · obtain ⟨g', hg', _, _, hc3⟩ := hcell 2 h3
        have e4 : g' = g := by injection hg' with q; injection q with q; exact q.symm
        subst e4
        have HE : Hid (A = ⟨false, [], 35, (l.getD 2 ([], 0)).2⟩) := by show _ = _; rw [HA2.out, getD_drop l ([], 0) h3]
        generalize (l.getD 2 ([], 0)).2 = j at *
        have h3i : (2 : Int) < (l.length : Int) := by omega
        clear hcell HL0 hg' HA2 hcA hcA1
        generalize (⟨noW.toArray⟩ : ByteArray) = nb at *
        go_wp2_with fail
        refine HHx.out.mono ?_
        rintro e w3 ⟨rfl, bel3⟩
        have d0 := (bel3.cell (p := ⟨g', 2, none⟩) hgl).trans hcA2
        have d1 := (bel3.cell (p := ⟨g', 2 * 2 + 1, none⟩) hgl).trans hc3
        have d1 : w3.cell? ⟨g', 5, none⟩ = some (.int .i64 (j : Int)) := d1
        have HB3 : Hid (Below w.heap.size w w3) := Below.step HB2.out bel3
        clear bel3 HHx HB2 hc3 hcA2 hgl
        go_upto_region 9 with fail
        go_quiet (fail)
        go_wp2
        go_returns
        exact AnS.bad HE.out (HB3.out.trans ((below_drewN _ _).mono HB3.out.size))
      · have HE : Hid (A = ⟨false, [], 0, 0⟩) := by show _ = _; rw [HA2.out, List.drop_eq_nil_of_le (by omega)]
        clear hcell HL0 HA2 hcA hcA1
        generalize (⟨noW.toArray⟩ : ByteArray) = nb at *
        go_wp2_with fail
        refine HHx.out.mono ?_
        rintro e w3 ⟨rfl, bel3⟩
        have d0 := (bel3.cell (p := ⟨g, 2, none⟩) hgl).trans hcA2
        have HB3 : Hid (Below w.heap.size w w3) := Below.step HB2.out bel3
        clear bel3 HHx HB2 hcA2 hgl
        go_wp2
        go_returns
        exact AnS.bad HE.out HB3.out
      | true =>
      obtain ⟨EE, hEE⟩ : ∃ EE, EE = eatA (((wordsOf ln).map (fun w => (w, k)) ++ spoken (k + 1) r).drop 2) k false [] := ⟨_, rfl⟩
      have HA2 : Hid (anF s.data.toList = finA (linesOf s.data.toList).length EE) := by show _ = _; rw [hEE, HL0.out.2.2.2]; exact HA
      have HEq : Hid (eatA (((wordsOf ln).map (fun w => (w, k)) ++ spoken (k + 1) r).drop 2) k false [] = EE) := hEE.symm
      clear HA hws hEE
      generalize anF s.data.toList = A at *
      generalize linesOf s.data.toList = ls at *
      generalize (wordsOf ln).map (fun w => (w, k)) ++ spoken (k + 1) r = l at *
      clear hnx hsp hh hwne HTl
      go_enter Tryd.func13, Tryd.ntmps13
      go_wp2_with fail
      refine HLn.out.mono ?_
      rintro e w1 ⟨lv, rfl, ol, bel1⟩
      have HSk := HSkA.out w1 lv _ ol
      obtain ⟨la, lc, rfl, _, _, _⟩ := ol.form
      have HSk : Hid (Calls Tryd.prog 27 #[.slice la ls.length lc] w1 fun e w' => ∃ v, e = .returned v ∧ OwnW w1.heap.size w' v l ∧ l.length ≤ 1099511627776 ∧ Below w1.heap.size w1 w') := HSk
      clear ol HSkA HLn
      go_wp2_with fail
      refine HSk.out.mono ?_
      rintro e w2 ⟨v2, rfl, ow, hll, bel2⟩
      have HHx := HTd.out w2 v2 _ ow hll
      have HHx : Hid (Calls Tryd.prog 35 #[v2] w2 fun e w' => e = .returned (.bool true) ∧ Below w2.heap.size w2 w') := HHx
      have HOW2 : Hid (OwnW w.heap.size w2 v2 l) := row_mono ow bel1.size
      obtain ⟨wa, wc, rfl, hwc, hwm, hcell⟩ := ow.form
      obtain ⟨g, rfl, hgl, hcA, hcA1⟩ := hcell 1 (by have := HL0.out.1; omega)
      rw [HL0.out.2.1] at hcA
      have hl2 : 2 ≤ l.length := HL0.out.1
      have hlb : ((l.length : Int) == 0) = false := beq_eq_false_iff_ne.2 (by omega)
      have HB2 : Hid (Below w.heap.size w w2) := Below.step bel1 bel2
      clear ow bel1 bel2 HSk HTd
      have hcA2 : w2.cell? ⟨g, 2, none⟩ = some (.string ⟨yesW.toArray⟩) := hcA
      have hqn : ((⟨yesW.toArray⟩ : ByteArray).toList == [85, 78, 83, 65, 84, 73, 83, 70, 73, 65, 66, 76, 69]) = false := by rw [ByteArray.toList_eq]; rfl
      have HK1 : Hid ((l.getD 1 ([], 0)).2 = k) := HL0.out.2.2.1
      clear hcell HL0 hcA hcA1
      generalize (⟨yesW.toArray⟩ : ByteArray) = nb at *
      go_wp2_with fail
      refine HHx.out.mono ?_
      rintro e w3 ⟨rfl, bel3⟩
      have d0 := (bel3.cell (p := ⟨g, 2, none⟩) hgl).trans hcA2
      have HB3 : Hid (Below w.heap.size w w3) := Below.step HB2.out bel3
      have HOW3 : Hid (OwnW w.heap.size w3 (.slice (some ⟨g, 0, none⟩) l.length wc) l) := HOW2.out.below bel3
      clear bel3 HHx HB2 hcA2 hgl HOW2
      go_wp2
      clear d0 hqn
      go_loopg [8, 9, 10] l.length (fun gq u x i wr => ∃ (m q : Nat) (en : Bool) (ms : List Bool), m + gq = l.length + 2 ∧ m ≤ l.length ∧ 2 ≤ m ∧ m = q + 1 ∧ i = .int .i64 m ∧ x = .bool en ∧ ms.length + 2 ≤ m ∧ Hid (eatA (l.drop m) (l.getD q ([], 0)).2 en ms = EE) ∧ Hid (OwnBo w.heap.size wr u ms) ∧ Hid (OwnW w.heap.size wr (.slice (some ⟨g, 0, none⟩) l.length wc) l) ∧ Hid (Below w.heap.size w wr))
      case atStart => exact ⟨2, 1, false, [], by omega, by omega, by omega, rfl, rfl, rfl, by simp, by rw [HK1.out]; exact HEq.out, OwnBo.nilA _ _, HOW3.out, HB3.out⟩
      case round =>
        clear HEq HOW3 HB3
        obtain ⟨m, q, en, ms, hmg, hml, hm2, hmq, rfl, rfl, hsz, HEq, OB, HOW, BL⟩ := hrel
        have HM : Hid (m + gk = l.length + 2) := hmg
        have HMQ : Hid (m = q + 1) := hmq
        have hsw := BL.out.size
        by_cases hlt : m < l.length
        · obtain ⟨_, _, e', _, _, hcell⟩ := HOW.out.form
          obtain ⟨g2, hg2, hgl, hc0, hc1⟩ := hcell m hlt
          obtain ⟨g3, hg3, _, _, hp1⟩ := hcell q (by omega)
          have e3 : g2 = g := by injection e' with q1 q2 q3; rw [hg2] at q1; injection q1 with q1; injection q1 with q1; exact q1.symm
          have e4 : g3 = g := by injection e' with q1 q2 q3; rw [hg3] at q1; injection q1 with q1; injection q1 with q1; exact q1.symm
          subst e3
          subst e4
          clear hcell e' hg2 hg3
          have HD : Hid (l.drop m = l.getD m ([], 0) :: l.drop (m + 1)) := getD_drop l ([], 0) hlt
          have HLe : Hid ((l.getD m ([], 0)).1.length ≤ 1099511627776) := HWl.out _ (by rw [List.getD_eq_getElem?_getD, List.getElem?_eq_getElem hlt]; exact List.getElem_mem hlt)
          have HNx : Hid ((l.getD m ([], 0)).2 = (l.getD (q + 1) ([], 0)).2) := by show _ = _; rw [hmq]
          rw [HD.out] at HEq
          have hql : q < l.length := by omega
          have hqi : (q : Int) < (l.length : Int) := by omega
          have hmi : (m : Int) < (l.length : Int) := by omega
          have hsub : IntKind.i64.wrap ((m : Int) - 1) = (q : Int) := by rw [IntWalk.i64_in _ ⟨by omega, by omega⟩]; omega
          obtain ⟨ua, uc, hu⟩ := row_form OB.out
          subst hu
          generalize l.getD m ([], 0) = xx at *
          generalize (l.getD q ([], 0)).2 = pp at *
          obtain ⟨xt, xn⟩ := xx
          dsimp only at *
          obtain ⟨y, hy⟩ : ∃ y : ByteArray, y = ⟨xt.toArray⟩ := ⟨_, rfl⟩
          have HYd : Hid (y.data.toList = xt) := by show _ = _; rw [hy]
          have hcy : wr.cell? ⟨g3, m * 2, none⟩ = some (.string y) := by rw [hc0, hy]; rfl
          have hys : y.size ≤ 1099511627776 := by rw [← ba_len, HYd.out]; exact HLe.out
          have hmsl : ms.length ≤ 1099511627776 := by omega
          clear hc0 hy hmg HD HLe hmq
          by_cases hln : xn = pp
          case neg =>
            have hqe : ((xn : Int) != (pp : Int)) = true := by rw [bne, beq_eq_false_iff_ne.2 (by omega)]; rfl
            cases hv : (xt == [118])
            · have hq1 : (y.toList == [118]) = false := by rw [ByteArray.toList_eq, HYd.out]; exact hv
              have hq2 : (y.toList != [118]) = true := by rw [bne, hq1]; rfl
              have HE2 : Hid (A = ⟨false, [], 35, xn⟩) := by show _ = _; rw [HA2.out, ← HEq.out, eatA_bad hln (by simpa using hv)]; rfl
              clear HEq hv hln HYd hys
              go_upto_region 16 with fail
              go_quiet (fail)
              have z1 : (wr.drewN nq).cell? ⟨g3, m * 2, none⟩ = some (.string y) := hcy
              have z2 : (wr.drewN nq).cell? ⟨g3, m * 2 + 1, none⟩ = some (.int .i64 (xn : Int)) := hc1
              have BL2 : Hid (Below w.heap.size w (wr.drewN nq)) := BL.out.trans ((below_drewN _ _).mono BL.out.size)
              clear hcy hc1 hp1
              generalize wr.drewN nq = wy at *
              go_upto_region 18 with fail
              go_quiet (fail)
              go_wp2
              go_returns
              exact AnS.bad HE2.out (BL2.out.trans ((below_drewN _ _).mono BL2.out.size))
            · have hq1 : (y.toList == [118]) = true := by rw [ByteArray.toList_eq, HYd.out]; exact hv
              have hq2 : (y.toList != [118]) = false := by rw [bne, hq1]; rfl
              have HE2 : Hid (eatA (l.drop (m + 1)) (l.getD m ([], 0)).2 en ms = EE) := by show _ = _; rw [HMQ.out, ← HNx.out, ← HMQ.out, ← HEq.out, eatA_line hln (by simpa using hv)]
              clear HEq hv hln HYd hys
              go_upto_region 16 with fail
              go_quiet (fail)
              have z1 : (wr.drewN nq).cell? ⟨g3, m * 2, none⟩ = some (.string y) := hcy
              have BL2 : Hid (Below w.heap.size w (wr.drewN nq)) := BL.out.trans ((below_drewN _ _).mono BL.out.size)
              have OB2 : Hid (OwnBo w.heap.size (wr.drewN nq) (.slice ua ms.length uc) ms) := OB.out.belowA (below_drewN _ _)
              have HOW2 : Hid (OwnW w.heap.size (wr.drewN nq) (.slice (some ⟨g3, 0, none⟩) l.length wc) l) := HOW.out.below (below_drewN _ _)
              clear hcy hc1 hp1
              generalize wr.drewN nq = wy at *
              go_wp2
              go_roundg (gk - 1)
              case measure => have := HM.out; omega
              case rel => exact ⟨m + 1, m, en, ms, by have := HM.out; omega, by omega, by omega, rfl, by go_num, rfl, by omega, HE2.out, OB2.out, HOW2.out, BL2.out⟩
          case pos =>
          subst hln
          have hqe : ((xn : Int) != (xn : Int)) = false := by simp
          go_upto_region 16 with fail
          go_quiet (fail)
          have z1 : (wr.drewN nq).cell? ⟨g3, m * 2, none⟩ = some (.string y) := hcy
          have z2 : (wr.drewN nq).cell? ⟨g3, m * 2 + 1, none⟩ = some (.int .i64 (xn : Int)) := hc1
          have BL2 : Hid (Below w.heap.size w (wr.drewN nq)) := BL.out.trans ((below_drewN _ _).mono BL.out.size)
          have OB2 : Hid (OwnBo w.heap.size (wr.drewN nq) (.slice ua ms.length uc) ms) := OB.out.belowA (below_drewN _ _)
          have HOW2 : Hid (OwnW w.heap.size (wr.drewN nq) (.slice (some ⟨g3, 0, none⟩) l.length wc) l) := HOW.out.below (below_drewN _ _)
          have hgl2 : g3 < (wr.drewN nq).heap.size := hgl
          clear hcy hc1 hp1 BL OB HOW hgl hqe
          generalize wr.drewN nq = wy at *
          cases en
          case true =>
            have HE2 : Hid (A = ⟨false, [], 35, xn⟩) := by show _ = _; rw [HA2.out, ← HEq.out, eatA_end]; rfl
            clear HEq HYd hys
            go_upto_region 20 with fail
            go_quiet (fail)
            go_wp2
            go_returns
            exact AnS.bad HE2.out (BL2.out.trans ((below_drewN _ _).mono BL2.out.size))
          case false =>
          have HT := fun W => rTens_any y W hys
          rw [HYd.out] at HT
          cases ht : tensB xt
          · have HE2 : Hid (A = ⟨false, [], 31, xn⟩) := by show _ = _; rw [HA2.out, ← HEq.out, eatA_none (tens_num ht)]; rfl
            rw [ht] at HT
            have HT : Hid (∀ W : World, Calls Tryd.prog 30 #[.string y] W fun e w' => e = .returned (.bool false) ∧ w' = W) := HT
            clear ht HEq HYd hys
            go_upto_region 22 with (go_at_call 30; refine (HT.out _).mono ?_; rintro e w6 ⟨rfl, rfl⟩)
            go_quiet (fail)
            go_wp2
            go_returns
            exact AnS.bad HE2.out (BL2.out.trans ((below_drewN _ _).mono BL2.out.size))
          · obtain ⟨z, hz⟩ := tens_itoa ht
            rw [ht] at HT
            have HT : Hid (∀ W : World, Calls Tryd.prog 30 #[.string y] W fun e w' => e = .returned (.bool true) ∧ w' = W) := HT
            have HV : Hid (∀ W : World, Calls Tryd.prog 29 #[.string y] W fun e w' => e = .returned (.int .i64 (clN 10000000000 z)) ∧ Below W.heap.size W w') := fun W => rVal_any y z W (by rw [HYd.out]; exact hz) hys
            have hnum : numW xt = some (clN 2147483648 z) := by rw [hz]; exact numW_it z
            have hr10 : -10000000000 ≤ clN 10000000000 z ∧ clN 10000000000 z ≤ 10000000000 := clN_range (by omega)
            have HNq : Hid ((l.getD m ([], 0)).2 = xn) := by show _ = _; rw [HMQ.out, ← HNx.out]
            clear ht hz HYd hys
            by_cases hz0 : z = 0
            · have hn0 : clN 10000000000 z = 0 := (clN_zero (by omega)).2 hz0
              have HE2 : Hid (eatA (l.drop (m + 1)) (l.getD m ([], 0)).2 true ms = EE) := by show _ = _; rw [HNq.out, ← HEq.out, eatA_zero (by rw [hnum, (clN_zero (by omega)).2 hz0])]
              rw [hn0] at HV
              clear HEq hnum hr10 hz0 hn0
              go_wp2_with (first
                | (go_at_call 30; refine (HT.out _).mono ?_; rintro e w6 ⟨rfl, rfl⟩)
                | (go_at_call 29; refine (HV.out _).mono ?_; rintro e w7 ⟨rfl, bel7⟩))
              go_roundg (gk - 1)
              case measure => have := HM.out; omega
              case rel => exact ⟨m + 1, m, true, ms, by have := HM.out; omega, by omega, by omega, rfl, by go_num, rfl, by omega, HE2.out, OB2.out.belowA bel7, HOW2.out.below bel7, BL2.out.trans (bel7.mono BL2.out.size)⟩
            · have hz31 : clN 2147483648 z ≠ 0 := fun e => hz0 ((clN_zero (by omega)).1 e)
              have hn0 : (clN 10000000000 z == 0) = false := beq_eq_false_iff_ne.2 (fun e => hz0 ((clN_zero (by omega)).1 e))
              have hdue := var_due (z := z) (k := ms.length) hz0
              have hpos := pos_due (z := z)
              by_cases hd : (ms.length : Int) + 1 ≤ 1048576 ∧ (clN 10000000000 z = (ms.length : Int) + 1 ∨ clN 10000000000 z = -((ms.length : Int) + 1))
              · obtain ⟨hd1, hd2⟩ := hd
                have hzv : decide (0 < z) = decide (clN 10000000000 z = (ms.length : Int) + 1) := by
                  have : clN 10000000000 z = z := by
                    have h := hd2
                    unfold clN at h ⊢
                    split at h
                    · omega
                    · rename_i ha; rw [if_neg ha]; split at h
                      · omega
                      · rename_i hb; rw [if_neg hb]
                  rw [this] at hd2 ⊢
                  rcases hd2 with h | h
                  · rw [decide_eq_true (by omega), decide_eq_true h]
                  · rw [decide_eq_false (by omega), decide_eq_false (by omega)]
                have HE2 : Hid (eatA (l.drop (m + 1)) (l.getD m ([], 0)).2 false (ms ++ [decide (clN 10000000000 z = (ms.length : Int) + 1)]) = EE) := by show _ = _; rw [HNq.out, ← HEq.out, eatA_more hnum hz31 (hdue.2 ⟨hd1, hd2⟩), hpos, hzv]
                have hsw2 := BL2.out.size
                clear HEq hnum hz31 hdue hpos hzv hz0
                generalize clN 10000000000 z = n at *
                by_cases hn1 : n = (ms.length : Int) + 1
                all_goals
                  first | have hbq : (n == (ms.length : Int) + 1) = true := by rw [beq_iff_eq]; exact hn1
                        | have hbq : (n == (ms.length : Int) + 1) = false := beq_eq_false_iff_ne.2 hn1
                  first | have hbm : (n == -((ms.length : Int) + 1)) = true := by rw [beq_iff_eq]; omega
                        | skip
                  first | rw [decide_eq_true hn1] at HE2 | rw [decide_eq_false hn1] at HE2
                  clear hd2 hn1
                  go_wp2_with (first
                    | (go_at_call 30; refine (HT.out _).mono ?_; rintro e w6 ⟨rfl, rfl⟩)
                    | (go_at_call 29; refine (HV.out _).mono ?_; rintro e w7 ⟨rfl, bel7⟩; have O7 := OB2.out.belowA bel7; have O7 : Hid (OwnBo w.heap.size w7 (.slice ua ms.length uc) ms) := O7; have W7 : Hid (OwnW w.heap.size w7 (.slice (some ⟨g3, 0, none⟩) l.length wc) l) := HOW2.out.below bel7; have B7 : Hid (Below w.heap.size w w7) := BL2.out.trans (bel7.mono BL2.out.size); have s7 := B7.out.size; clear bel7)
                    | (at_builtin; refine wpList_append_own _ rfl _ _ 31 rfl w.heap.size 4 ib (.bool false) 1 1 Tryd.underlying31 hib hb0 hb1 hb2 rfl (by decide) _ ms.length (ms.map Value.bool) rfl (World.ownsRow.alloc O7.out _) _ 1 1 [.bool _] rfl rfl (cell_one_new _ _ _) (by simp [Value.oneCell']) (by unfold maxLen; omega) (by omega) (by simp; omega) ?_; intro v8 w8 own8 gr8 hn8))
                  go_roundg (gk - 1)
                  case measure => have := HM.out; omega
                  case rel => exact ⟨m + 1, m, false, ms ++ [_], by have := HM.out; omega, by omega, by omega, rfl, by go_num, rfl, by simp; omega, HE2.out, OwnBo.one own8, row_apart (by decide) (World.ownsRow.alloc W7.out _) (World.ownsRow.alloc O7.out _) gr8, (B7.out.alloc s7 _).grown gr8 (by simp; omega) (fun j hj => (World.ownsRow.lt O7.out j hj).1)⟩
              · have HE2 : Hid (A = ⟨false, [], 32, xn⟩) := by show _ = _; rw [HA2.out, ← HEq.out, eatA_lit hnum hz31 (fun e => hd (hdue.1 e))]; rfl
                clear HEq hnum hz31 hdue hpos hz0
                generalize clN 10000000000 z = n at *
                have hx : ((ms.length : Int) + 1 ≤ 1048576) → (n == (ms.length : Int) + 1) = false ∧ (n == -((ms.length : Int) + 1)) = false := fun h => ⟨beq_eq_false_iff_ne.2 (fun e => hd ⟨h, .inl e⟩), beq_eq_false_iff_ne.2 (fun e => hd ⟨h, .inr e⟩)⟩
                clear hd
                by_cases hle : (ms.length : Int) + 1 ≤ 1048576
                case pos =>
                  obtain ⟨hx1, hx2⟩ := hx hle
                  clear hx
                  go_upto_region 24 with (first
                    | (go_at_call 30; refine (HT.out _).mono ?_; rintro e w6 ⟨rfl, rfl⟩)
                    | (go_at_call 29; refine (HV.out _).mono ?_; rintro e w7 ⟨rfl, bel7⟩; have z3 := (bel7.cell (p := ⟨g3, m * 2 + 1, none⟩) hgl2).trans z2; have B7 : Hid (Below w.heap.size w w7) := BL2.out.trans (bel7.mono BL2.out.size); clear bel7))
                  clear z1 z2
                  go_quiet (fail)
                  go_wp2
                  go_returns
                  exact AnS.bad HE2.out (B7.out.trans ((below_drewN _ _).mono B7.out.size))
                case neg =>
                  clear hx
                  have hle2 : decide ((ms.length : Int) + 1 ≤ 1048576) = false := decide_eq_false hle
                  clear hle
                  go_upto_region 24 with (first
                    | (go_at_call 30; refine (HT.out _).mono ?_; rintro e w6 ⟨rfl, rfl⟩)
                    | (go_at_call 29; refine (HV.out _).mono ?_; rintro e w7 ⟨rfl, bel7⟩; have z3 := (bel7.cell (p := ⟨g3, m * 2 + 1, none⟩) hgl2).trans z2; have B7 : Hid (Below w.heap.size w w7) := BL2.out.trans (bel7.mono BL2.out.size); clear bel7))
                  clear z1 z2
                  go_quiet (fail)
                  go_wp2
                  go_returns
                  exact AnS.bad HE2.out (B7.out.trans ((below_drewN _ _).mono B7.out.size))
        · obtain rfl : m = l.length := by omega
          have HE1 : Hid (A = finA ls.length (ms, en, none)) := by show _ = _; rw [HA2.out, ← HEq.out, List.drop_length, eatA]
          obtain ⟨ua, uc, hu⟩ := row_form OB.out
          subst hu
          clear hmg hmq HEq
          cases en
          · have HE2 : Hid (A = ⟨false, [], 33, ls.length + 1⟩) := HE1.out
            go_wp2
            go_returns
            exact AnS.bad HE2.out BL.out
          · have HE2 : Hid (A = ⟨true, ms, 0, 0⟩) := HE1.out
            go_wp2
            go_returns
            rw [HE2.out]
            exact ⟨_, rfl, OB.out, BL.out⟩

end Go.Proofs.YtaipajalkendaaaDoor

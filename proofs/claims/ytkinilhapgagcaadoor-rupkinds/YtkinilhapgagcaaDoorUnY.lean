/-
  unit: Why, Close.
  KEEP: set on app at below new trans refl start ap kept rd rds mono lt add none own nil put len pos setF setV putL putR other neV same_any
-/
import Derived.Test.YtkinilhapgagcaaDoorUnBe
import Derived.Test.YtkinilhapgagcaaDoorTidy
import Derived.OwnWalk
set_option linter.unusedSimpArgs false
set_option linter.unusedVariables false
namespace Go.Proofs.YtkinilhapgagcaaDoor
open Go Go.RowKit

theorem szs_lsum {css : List (List Int)} (h : lsum css ≤ 2147483647) : szs css = (lsum css : Int) := by
  have key : ∀ (css : List (List Int)) (a : Nat), a + lsum css ≤ 2147483647 → css.foldl (fun a c => wrap64 (a + (c.length : Int))) (a : Int) = ((a + lsum css : Nat) : Int) := by
    intro css
    induction css with
    | nil => intro a _; simp [lsum]
    | cons c r ih =>
      intro a ha
      have e1 : lsum (c :: r) = c.length + lsum r := by simp [lsum]
      rw [List.foldl_cons]
      have e2 : wrap64 ((a : Int) + (c.length : Int)) = ((a + c.length : Nat) : Int) := by unfold wrap64; omega
      rw [e2, ih (a + c.length) (by omega), e1]
      congr 1
      omega
  have := key css 0 (by omega)
  simpa [szs] using this
theorem lsum_mem {css : List (List Int)} {c : List Int} (h : c ∈ css) : c.length ≤ lsum css := by
  induction css with
  | nil => simp at h
  | cons d r ih =>
    have e : lsum (d :: r) = d.length + lsum r := by simp [lsum]
    rcases List.mem_cons.1 h with a | a
    · subst a; omega
    · have := ih a; omega
/-- a formula that is not too great -/
structure Few (css : List (List Int)) : Prop where
  num : css.length ≤ 1073741824
  len : ∀ c ∈ css, c.length ≤ 1073741824
  sum : lsum css ≤ 2147483647
theorem Few.of {css : List (List Int)} (h1 : css.length ≤ 1073741824) (h2 : lsum css ≤ 1073741824) : Few css := by
  refine ⟨h1, fun c hc => ?_, by omega⟩
  have := lsum_mem hc
  omega
def whyE (v : Int) (css : List (List Int)) (facts : List Int) : Int := if frm v css && facts.all fmd then (if adj (tid facts) then 20 else 0) else 1
theorem frm_fmd {v : Int} {css : List (List Int)} (h : frm v css = true) : ∀ c ∈ css, ∀ l ∈ c, fmd l = true := by
  intro c hc l hl
  unfold frm at h
  rw [Bool.and_eq_true] at h
  have h2 := List.all_eq_true.1 h.2 c hc
  unfold fitsP at h2
  have h3 := List.all_eq_true.1 h2 l hl
  rw [Bool.and_eq_true] at h3
  exact h3.1
theorem adj_con {facts : List Int} (hf : facts.all fmd = true) : adj (tid facts) = false ↔ Con facts := by
  have hmem : ∀ x, x ∈ tid facts ↔ x ∈ facts := fun x => by rw [mem_tid]; exact ⟨fun h => h.1, fun h => ⟨h, List.all_eq_true.1 hf x h⟩⟩
  constructor
  · intro h l h1 h2
    have hfl : fmd l = true := List.all_eq_true.1 hf l h1
    -- the positive one and its opposite stand side by side
    have key : ∀ p : Int, 0 < p → p ∈ facts → -p ∈ facts → False := by
      intro p hp a b
      have hfp : fmd p = true := List.all_eq_true.1 hf p a
      obtain ⟨i, hi, ei⟩ := List.getElem_of_mem ((hmem p).2 a)
      obtain ⟨j, hj, ej⟩ := List.getElem_of_mem ((hmem (-p)).2 b)
      have ip : idx p = 2 * p - 2 := (there_pos hfp hp).1
      have jp : idx (-p) = 2 * p - 1 := by rw [(there_neg (fmd_neg hfp) (by omega)).1]; omega
      have hr := List.pairwise_iff_getElem.1 (tid_rising facts)
      have hij : j = i + 1 := by
        rcases Nat.lt_trichotomy i j with c | c | c
        · refine Classical.byContradiction fun hne => ?_
          have h3 := hr i (i + 1) hi (by omega) (by omega)
          have h4 := hr (i + 1) j (by omega) hj (by omega)
          rw [ei] at h3; rw [ej] at h4
          omega
        · subst c; rw [ei] at ej; omega
        · have h3 := hr j i hj hi c
          rw [ei, ej] at h3; omega
      subst hij
      have : adj (tid facts) = true := adj_true hj (by
        rw [List.getD_eq_getElem?_getD, List.getElem?_eq_getElem hj, List.getD_eq_getElem?_getD, List.getElem?_eq_getElem hi]
        show (tid facts)[i + 1] = -(tid facts)[i]
        rw [ei, ej])
      rw [h] at this; cases this
    have h0 := (fmd_range hfl).1
    rcases (show 0 < l ∨ l < 0 by omega) with c | c
    · exact key l c h1 h2
    · exact key (-l) (by omega) h2 (by rw [Int.neg_neg]; exact h1)
  · intro hc
    cases h : adj (tid facts)
    · rfl
    · exfalso
      obtain ⟨j, hj, e⟩ := (adj_iff _).1 h
      have m1 : (tid facts).getD j 0 ∈ facts := (hmem _).1 (getD_mem' (by omega))
      have m2 : (tid facts).getD (j + 1) 0 ∈ facts := (hmem _).1 (getD_mem' hj)
      rw [e] at m2
      exact hc _ m1 m2

/-- what Why answers -/
structure Wy (w w' : World) (v : Int) (css : List (List Int)) (facts : List Int) (u : Value) (cs : List (Int × Nat)) (e0 : Int) : Prop where
  row : w'.ownsRow w.heap.size 82 2 u cs.length (twc cs)
  yes : whyE v css facts = 0 → Clo css facts cs e0
  no : whyE v css facts ≠ 0 → u = .slice none 0 0 ∧ cs = [] ∧ e0 = 0
  bel : Below w.heap.size w w'
theorem Few.szs {css : List (List Int)} (h : Few css) : szs css = (lsum css : Int) := szs_lsum h.sum
set_option maxRecDepth 100000 in
set_option maxHeartbeats 3200000 in
theorem uWhy_any (v : Int) (s vf : Value) (css : List (List Int)) (facts : List Int) (w : World) (hr : Rds w s css) (hf : Rd w vf facts) (hw : Few css) (hD : Deb w) :
    Calls Tryd.prog 35 #[.agg #[.int .i64 v, s], vf] w fun e w' => ∃ u cs e0, e = .returned (.tuple #[u, .int .i64 e0, .int .i64 (whyE v css facts)]) ∧ Wy w w' v css facts u cs e0 := by
  have HR : Hid (Rds w s css ∧ Rd w vf facts ∧ Few css ∧ Deb w) := ⟨hr, hf, hw, hD⟩
  have hlen := hf.len
  obtain ⟨af, cf, rfl, hl1, hl2, hcf⟩ := hf.form
  have HCf : Hid (∀ (W : World) (j : Nat), Below w.heap.size w W → j < facts.length → ∃ bb off, af = some ⟨bb, off, none⟩ ∧ W.cell? ⟨bb, off + j, none⟩ = some (.int .i64 (facts.getD j 0))) := fun W j hW hj => by
    obtain ⟨bb, off, e, hc⟩ := hcf j hj
    exact ⟨bb, off, e, (hW.cell (p := ⟨bb, off + j, none⟩) (World.block_lt_of_cell? w _ hc)).trans hc⟩
  clear hr hf hw hD hcf
  have HNo : Hid (∀ w', Below w.heap.size w w' → ∀ x : Int, whyE v css facts = x → x ≠ 0 → ∃ u cs e0, Ending.returned (.tuple #[.slice none 0 0, .int .i64 0, .int .i64 x]) = .returned (.tuple #[u, .int .i64 e0, .int .i64 (whyE v css facts)]) ∧ Wy w w' v css facts u cs e0) := fun w' hb x hx hx0 => ⟨_, [], 0, by rw [hx], ⟨World.ownsRow_nil _ _ _ _, fun h => absurd (hx.symm.trans h) hx0, fun _ => ⟨rfl, rfl, rfl⟩, hb⟩⟩
  have HB1 : Hid (Below w.heap.size w (w.alloc (.cells #[.int .i64 v, s] 24))) := below_box _ _
  go_enter Tryd.func35, Tryd.ntmps35
  go_wp2_with fail
  refine (cnfFormed_any v s css _ (HR.out.1.below (below_box _ _))).mono ?_
  rintro e w1 ⟨rfl, bel1⟩
  have HB2 : Hid (Below w.heap.size w w1) := Below.step HB1.out bel1
  have k0 : w1.cell? ⟨w.heap.size, 0, none⟩ = some (.int .i64 v) := (bel1.cell (p := ⟨w.heap.size, 0, none⟩) (by rw [World.size_alloc]; exact Nat.lt_succ_self _)).trans (box0 w _ _ _)
  have k1 : w1.cell? ⟨w.heap.size, 1, none⟩ = some s := (bel1.cell (p := ⟨w.heap.size, 1, none⟩) (by rw [World.size_alloc]; exact Nat.lt_succ_self _)).trans (box1 w _ _ _)
  clear bel1
  cases hfm : frm v css
  · have HE : Hid (whyE v css facts = 1) := by show _ = _; unfold whyE; rw [hfm]; rfl
    go_wp2
    go_ret3
    exact HNo.out _ HB2.out 1 HE.out (by decide)
  · go_wp2_with fail
    refine (sound_any _ facts w1 (HR.out.2.1.below HB2.out)).mono ?_
    rintro e w2 ⟨rfl, hw2⟩
    obtain rfl : w1 = w2 := hw2.symm
    clear hw2
    cases hsd : facts.all fmd
    · have HE : Hid (whyE v css facts = 1) := by show _ = _; unfold whyE; rw [hfm, hsd]; rfl
      go_wp2
      go_ret3
      exact HNo.out _ HB2.out 1 HE.out (by decide)
    · go_wp2_with fail
      refine (taut_any _ facts w1 (HR.out.2.1.below HB2.out)).mono ?_
      rintro e w3 ⟨rfl, bel3⟩
      have k2 : w3.cell? ⟨w.heap.size, 0, none⟩ = some (.int .i64 v) := (bel3.cell (p := ⟨w.heap.size, 0, none⟩) (World.block_lt_of_cell? w1 _ k0)).trans k0
      have k3 : w3.cell? ⟨w.heap.size, 1, none⟩ = some s := (bel3.cell (p := ⟨w.heap.size, 1, none⟩) (World.block_lt_of_cell? w1 _ k1)).trans k1
      have HB3 : Hid (Below w.heap.size w w3) := Below.step HB2.out bel3
      clear bel3 k0 k1
      cases had : adj (tid facts)
      · have HE : Hid (whyE v css facts = 0) := by show _ = _; unfold whyE; rw [hfm, hsd, had]; rfl
        have HCon : Hid (Con facts) := (adj_con hsd).1 had
        have HAll : Hid (∀ l ∈ facts, fmd l = true) := fun l hl => List.all_eq_true.1 hsd l hl
        go_wp2_with fail
        refine (uBegin_any v s css w3 (HR.out.1.below HB3.out) HR.out.2.2.1.num HR.out.2.2.1.len HR.out.2.2.1.szs HR.out.2.2.1.sum (frm_fmd hfm)).mono ?_
        rintro e w4 ⟨b, sz, Q0, rfl, hcw, hsC, hinv⟩
        have HS0 : Hid (Cw w3 w4 b sz (2 * (grt css).toNat) css (facts.take 0) Q0 [] ∧ sz.C = s ∧ Inv css (facts.take 0) Q0) := ⟨hcw, hsC, hinv⟩
        clear hcw hsC hinv k2 k3 hfm hsd had
        go_wp2
        go_loopg [24] facts.length (fun g j' wr => ∃ (j : Nat) (Q' : Nat → Bool), j + g = facts.length ∧ j' = .int .i64 j ∧ Cw w3 wr b sz (2 * (grt css).toNat) css (facts.take j) Q' [] ∧ Inv css (facts.take j) Q')
        case atStart => exact ⟨0, Q0, by omega, rfl, HS0.out.1, HS0.out.2.2⟩
        case round =>
          obtain ⟨j, Q', hj, rfl, hcw, hinv⟩ := hrel
          have HJ : Hid (j + gk = facts.length) := hj
          have HCw : Hid (Cw w3 wr b sz (2 * (grt css).toNat) css (facts.take j) Q' [] ∧ Inv css (facts.take j) Q') := ⟨hcw, hinv⟩
          clear hj hcw hinv
          by_cases hlt : j < facts.length
          · obtain ⟨bb, off, rfl, kc⟩ := HCf.out wr j (HB3.out.trans (HCw.out.1.bel.mono HB3.out.size)) hlt
            have HT : Hid (facts.take (j + 1) = facts.take j ++ [facts.getD j 0]) := take_succ_getD facts 0 j hlt
            have HFl : Hid (fmd (facts.getD j 0) = true) := HAll.out _ (getD_mem' hlt)
            have HLT : Hid (j < facts.length) := hlt
            generalize facts.getD j 0 = l at *
            go_wp2_with fail
            refine (uPut_any w3 b sz _ css (facts.take j) Q' [] l wr HCw.out.1 HFl.out).mono ?_
            rintro e w5 ⟨rfl, Q5, hc5, hn5, hm5⟩
            have HF : Hid (Cw w3 w5 b sz (2 * (grt css).toNat) css (facts.take (j + 1)) Q5 [] ∧ Inv css (facts.take (j + 1)) Q5) := by rw [HT.out]; exact ⟨hc5, HCw.out.2.put hn5⟩
            clear hc5 hn5 hm5 kc
            go_wp2
            go_roundg (gk - 1)
            case measure => have := HJ.out; have := HLT.out; omega
            case rel => exact ⟨j + 1, Q5, by have := HJ.out; have := HLT.out; omega, by go_num, HF.out.1, HF.out.2⟩
          · have hje : j = facts.length := by have := HJ.out; omega
            rw [hje, List.take_length] at HCw
            clear hje
            go_wp2_with fail
            refine (uRun_any w3 b sz _ css facts Q' [] wr HCw.out.1 (by rw [HS0.out.2.1]; exact HR.out.1.below HB3.out) HCon.out HCw.out.2 (HR.out.2.2.2.below HB3.out) (by simp)).mono ?_
            rintro e w5 ⟨e0, cs, Q5, u5, rfl, hclo, hran, -⟩
            obtain ⟨F, P, hz, -⟩ := hran.cw.z
            have b6 : w5.cell? ⟨b, 6, none⟩ = some u5 := hz.c6
            have HF : Hid (Wy w w5 v css facts u5 cs e0) := ⟨row_mono (by simpa using hz.c) HB3.out.size, fun _ => hclo, fun h => absurd HE.out h, HB3.out.trans (hran.cw.bel.mono HB3.out.size)⟩
            obtain ⟨a5, c5, e5⟩ := row_form' HF.out.row
            subst e5
            clear hz hran hclo
            go_wp2
            go_ret3
            exact ⟨_, cs, e0, by rw [HE.out]; rfl, HF.out⟩
      · have HE : Hid (whyE v css facts = 20) := by show _ = _; unfold whyE; rw [hfm, hsd, had]; rfl
        go_wp2
        go_ret3
        exact HNo.out _ HB3.out 20 HE.out (by decide)
end Go.Proofs.YtkinilhapgagcaaDoor

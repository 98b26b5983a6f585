/-
  unit: Close, Forces.
  KEEP: set on app at below new trans refl start ap kept rd rds mono lt add none own nil put len pos setF setV putL putR other neV same_any
-/
import Derived.Test.YtkinilhapgagcaaDoorUnY
set_option linter.unusedSimpArgs false
set_option linter.unusedVariables false
namespace Go.Proofs.YtkinilhapgagcaaDoor
open Go Go.RowKit

def ledL (cs : List (Int × Nat)) (j : Nat) : List Int := (cs.take j).map Prod.fst ++ List.replicate (cs.length - j) 0
theorem ledL_len {cs : List (Int × Nat)} {j : Nat} (h : j ≤ cs.length) : (ledL cs j).length = cs.length := by simp [ledL]; omega
theorem ledL_all (cs : List (Int × Nat)) : ledL cs cs.length = cs.map Prod.fst := by simp [ledL]
theorem ledL_set {cs : List (Int × Nat)} {j : Nat} (h : j < cs.length) : (ledL cs j).set j (cs[j]).1 = ledL cs (j + 1) := by
  apply List.ext_getElem?
  intro i
  by_cases e : j = i
  · subst e
    rw [List.getElem?_set_self (by rw [ledL_len (by omega)]; exact h)]
    unfold ledL
    rw [List.getElem?_append_left (by simp; omega), List.getElem?_map, List.getElem?_take_of_lt (by omega), List.getElem?_eq_getElem h]; rfl
  · rw [List.getElem?_set_ne e]
    unfold ledL
    by_cases hi : i < j
    · rw [List.getElem?_append_left (by simp; omega), List.getElem?_append_left (by simp; omega), List.getElem?_map, List.getElem?_map, List.getElem?_take_of_lt hi, List.getElem?_take_of_lt (by omega)]
    · rw [List.getElem?_append_right (by simp; omega), List.getElem?_append_right (by simp; omega), List.getElem?_replicate, List.getElem?_replicate]
      simp only [List.length_map, List.length_take]
      by_cases h3 : i < cs.length
      · rw [if_pos (by omega), if_pos (by omega)]
      · rw [if_neg (by omega), if_neg (by omega)]
set_option maxRecDepth 100000 in
set_option maxHeartbeats 3200000 in
theorem uClosure_any (vf u : Value) (facts : List Int) (cs : List (Int × Nat)) (w : World) (hf : Rd w vf facts) (hr : w.ownsRow 0 82 2 u cs.length (twc cs)) (hn : cs.length ≤ 2097152) :
    Calls Tryd.prog 36 #[vf, u] w fun e w' => ∃ v', e = .returned v' ∧ Own w.heap.size w' v' (tid (facts ++ cs.map Prod.fst)) ∧ Below w.heap.size w w' := by
  have HF : Hid (Rd w vf facts) := hf
  have HR : Hid (w.ownsRow 0 82 2 u cs.length (twc cs)) := hr
  obtain ⟨au, cu, eu⟩ := row_form' hr
  have hmk := run_make_row' (P := Tryd.prog) 25 3 (.int .i64 0) 8 Tryd.underlying25 Tryd.info3 rfl .i64 .i64 cs.length (by omega) (by omega)
  have HAt : Hid (∀ (W : World) (j : Nat) (hj : j < cs.length), Below w.heap.size w W → ∃ g, au = some ⟨g, 0, none⟩ ∧ cs.length ≤ cu ∧ W.cell? ⟨g, j * 2, none⟩ = some (.int .i64 (cs[j]).1) ∧ W.cell? ⟨g, j * 2 + 1, none⟩ = some (.int .i64 ((cs[j]).2 : Int))) := fun W j hj hW => by
    have h1 := HR.out
    obtain ⟨g, c, e, h2, h3, h4⟩ := row_some h1 (by omega)
    rw [eu] at e
    injection e with e1 _ e3
    subst e1; subst e3
    rw [eu] at h1
    have hg : cs[j]? = some ((cs[j]).1, (cs[j]).2) := List.getElem?_eq_getElem hj
    obtain ⟨k1, k2⟩ := twc_at hg
    have c1 := row_cell h1 k1
    have c2 := row_cell h1 k2
    exact ⟨g, rfl, h2, (hW.cell (p := ⟨g, j * 2, none⟩) h4).trans c1, (hW.cell (p := ⟨g, j * 2 + 1, none⟩) h4).trans c2⟩
  have HL0 : Hid (Own w.heap.size (w.alloc (.cells (madeCells #[.int .i64 0] cs.length) 3)) (.slice (some ⟨w.heap.size, 0, none⟩) cs.length cs.length) (ledL cs 0)) := by
    refine ⟨by simp [ledL], .inr ⟨w.heap.size, cs.length, _, ?_, Nat.le_refl _, World.alloc_heap_new w _, by simp [ledL], by unfold maxLen; omega, by rw [made_zero6]; simp, ?_⟩⟩
    · simp [ledL]
    · rw [made_zero6]; simp [ledL]
  have HB0 : Hid (Below w.heap.size w (w.alloc (.cells (madeCells #[.int .i64 0] cs.length) 3))) := below_box _ _
  clear hf hr
  subst eu
  go_enter Tryd.func36, Tryd.ntmps36
  go_wp2
  go_loopg [13] cs.length (fun g j' wr => ∃ (j : Nat), j + g = cs.length ∧ j' = .int .i64 j ∧ Own w.heap.size wr (.slice (some ⟨w.heap.size, 0, none⟩) cs.length cs.length) (ledL cs j) ∧ Below w.heap.size w wr)
  case atStart => exact ⟨0, by omega, rfl, HL0.out, HB0.out⟩
  case round =>
    obtain ⟨j, hj, rfl, ho, hb⟩ := hrel
    have HJ : Hid (j + gk = cs.length) := hj
    have HO : Hid (Own w.heap.size wr (.slice (some ⟨w.heap.size, 0, none⟩) cs.length cs.length) (ledL cs j) ∧ Below w.heap.size w wr) := ⟨ho, hb⟩
    clear hj ho hb
    by_cases hlt : j < cs.length
    · obtain ⟨g, rfl, g1, c1, c2⟩ := HAt.out wr j hlt HO.out.2
      have HSet : Hid ((ledL cs j).set j (cs[j]).1 = ledL cs (j + 1)) := ledL_set hlt
      have HStep : Hid (∀ W l, Below wr.heap.size wr W → (ledL cs j).set j l = ledL cs (j + 1) → Own w.heap.size (W.setCell ⟨w.heap.size, j, none⟩ (.int .i64 l)) (.slice (some ⟨w.heap.size, 0, none⟩) cs.length cs.length) (ledL cs (j + 1)) ∧ Below w.heap.size w (W.setCell ⟨w.heap.size, j, none⟩ (.int .i64 l)) ∧ W.frozen? ⟨w.heap.size, j, none⟩ = false ∧ ∃ z, W.cell? ⟨w.heap.size, j, none⟩ = some (.int .i64 z)) := fun W l hW hs => by
        have h1 := HO.out.1.below hW
        have h1' : W.ownsRow w.heap.size 3 1 (.slice (some ⟨w.heap.size, 0, none⟩) cs.length cs.length) cs.length ((ledL cs j).map (Value.int .i64)) := by
          have := h1; unfold Own at this; rw [ledL_len (by omega)] at this; exact this
        have h2 := own_cell h1' (k := j) (by omega) (.int .i64 l)
        refine ⟨?_, HO.out.2.trans (hW.mono HO.out.2.size) |> fun hb => hb.grown (grown_set W _ _) hb.size (fun k e => by simp at e; omega), row_fz h1' j, ?_⟩
        · unfold Own
          rw [ledL_len (by omega), ← hs, List.map_set]
          exact h2
        · obtain ⟨z, hz⟩ : ∃ z, (ledL cs j)[j]? = some z := ⟨_, List.getElem?_eq_getElem (by rw [ledL_len (by omega)]; exact hlt)⟩
          exact ⟨z, row_cell h1' (by rw [List.getElem?_map, hz]; rfl)⟩
      have HLT : Hid (j < cs.length) := hlt
      generalize (cs[j]).1 = l at *
      generalize ((cs[j]).2 : Int) = l2 at *
      obtain ⟨hO1, hB1, hz1, z, hc1⟩ := HStep.out (wr.alloc (.cells #[.int .i64 l, .int .i64 l2] 82)) l (below_box _ _) HSet.out
      have HFin : Hid (_ ∧ _) := ⟨hO1, hB1⟩
      clear hO1 hB1 HStep HSet
      go_wp2
      go_roundg (gk - 1)
      case measure => have := HJ.out; have := HLT.out; omega
      case rel => exact ⟨j + 1, by have := HJ.out; have := HLT.out; omega, by go_num, HFin.out.1, HFin.out.2⟩
    · have hje : j = cs.length := by have := HJ.out; omega
      rw [hje, ledL_all] at HO
      clear hje
      have HRd : Hid (Rd wr (.slice (some ⟨w.heap.size, 0, none⟩) cs.length cs.length) (cs.map Prod.fst)) := HO.out.1.rd (by simp; omega)
      go_wp2_with fail
      refine (join_any sortSaid compactSaid _ _ facts (cs.map Prod.fst) wr (HF.out.below HO.out.2) HRd.out).mono ?_
      rintro e w5 ⟨v5, rfl, own5, bel5⟩
      have HFin : Hid (_ ∧ _) := ⟨own5.mono HO.out.2.size, Below.step HO.out.2 bel5⟩
      obtain ⟨a5, c5, e5⟩ := own_form own5
      subst e5
      clear own5 bel5
      go_wp2
      go_ret
      exact ⟨_, rfl, HFin.out.1, HFin.out.2⟩

def cloE (v : Int) (css : List (List Int)) (facts : List Int) : Int := if frm v css && facts.all fmd then 0 else 1
theorem frm_nz {v : Int} {css : List (List Int)} (h : frm v css = true) : Nz css := fun c hc l hl => (fmd_range (frm_fmd h c hc l hl)).1
theorem Clo.few {css : List (List Int)} {L : List Int} {cs : List (Int × Nat)} {e : Int} (h : Clo css L cs e) (hf : ∀ c ∈ css, ∀ l ∈ c, fmd l = true) : cs.length ≤ 2097152 := by
  obtain ⟨h1, h2, h3⟩ := h.1.new
  have := lits_few h1 fun x hx => by obtain ⟨c, hc, hxc⟩ := h3 x hx; exact hf c hc x hxc
  simpa using this
/-- what Close answers -/
structure Clz (w w' : World) (v : Int) (css : List (List Int)) (facts : List Int) (u : Value) (clash : Bool) (D : List Int) : Prop where
  own : Own w.heap.size w' u D
  yes : cloE v css facts = 0 → Says6 css facts clash D
  no : cloE v css facts ≠ 0 → clash = false ∧ D = []
  fmd : ∀ x ∈ D, Go.Proofs.YtkinilhapgagcaaDoor.fmd x = true
  bel : Below w.heap.size w w'
theorem clo_says {v : Int} {css : List (List Int)} {facts : List Int} {cs : List (Int × Nat)} (hf : frm v css = true) (hs : facts.all fmd = true) (hc : Con facts) (h : Clo css facts cs (-1)) : Says6 css facts false (tid (facts ++ cs.map Prod.fst)) := by
  obtain ⟨h1, h2⟩ := h.calm hc
  refine .inr ⟨rfl, h1, tid_rising _, fun x => ?_⟩
  rw [mem_tid, h2 x]
  refine ⟨fun h3 => h3.1, fun h3 => ⟨h3, ?_⟩⟩
  rcases List.mem_append.1 h3 with a | a
  · exact List.all_eq_true.1 hs x a
  · obtain ⟨c, hc, hx⟩ := h.1.new.2.2 x a
    exact frm_fmd hf c hc x hx
set_option maxRecDepth 100000 in
set_option maxHeartbeats 3200000 in
theorem uClose_any (v : Int) (s vf : Value) (css : List (List Int)) (facts : List Int) (w : World) (hr : Rds w s css) (hf : Rd w vf facts) (hw : Few css) (hD : Deb w) :
    Calls Tryd.prog 21 #[.agg #[.int .i64 v, s], vf] w fun e w' => ∃ u clash D, e = .returned (.tuple #[u, .bool clash, .int .i64 (cloE v css facts)]) ∧ Clz w w' v css facts u clash D := by
  have HR : Hid (Rds w s css ∧ Rd w vf facts ∧ Few css ∧ Deb w) := ⟨hr, hf, hw, hD⟩
  have HNil : Hid (∀ w' (b : Bool) (x : Int), Below w.heap.size w w' → cloE v css facts = x → (x = 0 → Says6 css facts b []) → (x ≠ 0 → b = false) → ∃ u clash D, Ending.returned (.tuple #[.slice none 0 0, .bool b, .int .i64 x]) = .returned (.tuple #[u, .bool clash, .int .i64 (cloE v css facts)]) ∧ Clz w w' v css facts u clash D) := fun w' b x hb hx h1 h2 => ⟨_, b, [], by rw [hx], ⟨World.ownsRow_nil _ _ _ _, fun h => h1 (hx.symm.trans h), fun h => ⟨h2 (fun e => h (hx.trans e)), rfl⟩, by simp, hb⟩⟩
  clear hr hf hw hD
  go_enter Tryd.func21, Tryd.ntmps21
  go_wp2_with fail
  refine (uWhy_any v s vf css facts _ (HR.out.1.below (below_box _ _)) (HR.out.2.1.below (below_box _ _)) HR.out.2.2.1 (HR.out.2.2.2.below (below_box _ _))).mono ?_
  rintro e w1 ⟨u, cs, e0, rfl, hwy⟩
  have HW : Hid (Wy (w.alloc (.cells #[.int .i64 v, s] 24)) w1 v css facts u cs e0) := hwy
  have HB : Hid (Below w.heap.size w w1) := Below.step (below_box _ _) hwy.bel
  obtain ⟨au, cu, eu⟩ := row_form' hwy.row
  subst eu
  clear hwy
  rcases (show (frm v css && facts.all fmd) = false ∨ (frm v css && facts.all fmd) = true by cases (frm v css && facts.all fmd) <;> simp) with hok | hok
  · have HE : Hid (whyE v css facts = 1 ∧ cloE v css facts = 1) := ⟨by unfold whyE; rw [hok]; rfl, by unfold cloE; rw [hok]; rfl⟩
    rw [HE.out.1]
    go_wp2
    go_ret3
    exact HNil.out _ false 1 HB.out HE.out.2 (fun h => absurd h (by decide)) (fun _ => rfl)
  · have HC0 : Hid (cloE v css facts = 0) := by show _ = _; unfold cloE; rw [hok]; rfl
    have hok2 : frm v css = true ∧ facts.all fmd = true := by simpa using hok
    have HOk : Hid (frm v css = true ∧ facts.all fmd = true) := hok2
    cases had : adj (tid facts)
    · have HE : Hid (whyE v css facts = 0) := by show _ = _; unfold whyE; rw [hok, had]; rfl
      have hclo := HW.out.yes HE.out
      have HClo : Hid (Clo css facts cs e0) := hclo
      have HCon : Hid (Con facts) := (adj_con hok2.2).1 had
      rw [HE.out]
      have hcases : e0 = -1 ∨ 0 ≤ e0 := by
        rcases hclo.2 with ⟨a, _⟩ | ⟨k, a, _⟩
        · exact .inl a
        · exact .inr (by omega)
      clear hclo hok hok2 had
      rcases hcases with rfl | hge
      · have HRd : Hid (Rd w1 vf facts) := HR.out.2.1.below HB.out
        go_wp2_with fail
        refine (uClosure_any vf _ facts cs w1 HRd.out (row_mono HW.out.row (Nat.zero_le _)) (HClo.out.few (frm_fmd HOk.out.1))).mono ?_
        rintro e w2 ⟨v2, rfl, own2, bel2⟩
        have HF : Hid (Clz w w2 v css facts v2 false (tid (facts ++ cs.map Prod.fst))) := ⟨own2.mono HB.out.size, fun _ => clo_says HOk.out.1 HOk.out.2 HCon.out HClo.out, fun h => absurd HC0.out h, fun x hx => tid_fmd x hx, Below.step HB.out bel2⟩
        obtain ⟨a2, c2, e2⟩ := own_form own2
        subst e2
        clear own2 bel2
        go_wp2
        go_ret3
        exact ⟨_, false, _, by rw [HC0.out]; rfl, HF.out⟩
      · have HCla : Hid (Cla css facts) := by
          obtain ⟨k, rfl⟩ : ∃ k : Nat, e0 = k := ⟨e0.toNat, by omega⟩
          exact HClo.out.clash (frm_nz HOk.out.1)
        go_wp2
        go_ret3
        exact HNil.out _ true 0 HB.out HC0.out (fun _ => .inl ⟨rfl, HCla.out, rfl⟩) (fun h => absurd rfl h)
    · have HE : Hid (whyE v css facts = 20) := by show _ = _; unfold whyE; rw [hok, had]; rfl
      have HCla : Hid (Cla css facts) := not_con_cla fun hc => by have := (adj_con hok2.2).2 hc; rw [had] at this; cases this
      rw [HE.out]
      clear hok hok2 had
      go_wp2
      go_ret3
      exact HNil.out _ true 0 HB.out HC0.out (fun _ => .inl ⟨rfl, HCla.out, rfl⟩) (fun h => absurd rfl h)
end Go.Proofs.YtkinilhapgagcaaDoor

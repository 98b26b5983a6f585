/-
  arena: Sweep and the function that it answers, walked.
  KEEP: set on app at below new trans refl start ap kept rd rds mono
-/
import Derived.Test.YtbhjpahieghepaaArSw
import Derived.Deep.RegionLaw
set_option linter.unusedSimpArgs false
set_option linter.unusedVariables false
namespace Go.Proofs.Ytbhjpahieghepaa
open Go Go.RowKit Go.Maps

theorem lawR : Keyed Try.prog 41 := int_keyed Try.underlying41
/-- the function of a Sweep: its box, its map -/
structure TellsAt (W : World) (m mb : Nat) (L : LvL) : Prop where
  box : Bx1 W m 80 (.map (some mb))
  map : ∃ n D, mapR W mb n D ∧ Tells D L
def SweepS (w : World) (b : Nat) (v : Value) (S : List Seg) (e : Ending) (w' : World) : Prop :=
  ∃ m mb v', e = .returned (.func (.func 37) #[] #[.pointer (some ⟨m, 0, none⟩)]) ∧ Ar w' b v' (swp S) ∧ Mv w b v w' v' ∧ w.heap.size ≤ m ∧ w.heap.size ≤ mb ∧ TellsAt w' m mb (lv 0 S) ∧ ∀ g, v'.ownBlock = some g → w.heap.size ≤ g
/-- and what it leaves of all other blocks -/
def SweepT (w : World) (b : Nat) (v : Value) (S : List Seg) (e : Ending) (w' : World) : Prop :=
  ∃ m mb v', e = .returned (.func (.func 37) #[] #[.pointer (some ⟨m, 0, none⟩)]) ∧ Ar w' b v' (swp S) ∧ Mv w b v w' v' ∧ w.heap.size ≤ m ∧ w.heap.size ≤ mb ∧ TellsAt w' m mb (lv 0 S) ∧ (∀ g, v'.ownBlock = some g → w.heap.size ≤ g) ∧ ∀ k, k < w.heap.size → k ≠ b → w'.heap[k]? = w.heap[k]?

theorem run_mkmap (n : Int) (w : World) : (Instr.makeMap 80 (some (.int .i64 n))).run Try.prog w = .ok (.map (some w.heap.size)) (w.alloc (.map #[] 0)) := by
  simp [Instr.makeMap, run_underlying Try.underlying80, asInt, asIntOf, Result.andThen]
theorem wfI {n : Int} (h1 : -9223372036854775808 ≤ n) (h2 : n ≤ 9223372036854775807) : (Lit.int .i64 n).wf = true := by
  have a : IntKind.i64.min = -9223372036854775808 := by decide
  have b : IntKind.i64.max = 9223372036854775807 := by decide
  simp only [Lit.wf, a, b]
  simp
  omega
theorem mapR_lt {w : World} {b n : Nat} {D : DataW Unit} (h : mapR w b n D) : b < w.heap.size := by
  obtain ⟨o, ho, _⟩ := mapR_obj h
  exact (Array.getElem?_eq_some_iff.1 ho).1
/-- a live clause of the memory, by its number -/
theorem lv_at {S : List Seg} {i : Nat} (hi : i < (lv 0 S).length) : ∃ (P : Nat) (ls : List Int) (l : Bool), (lv 0 S)[i] = ((P : Int), ls, l) ∧ find S P = some ⟨ls, l, true⟩ ∧ (lv 0 S).take (i + 1) = (lv 0 S).take i ++ [((P : Int), ls, l)] ∧ ∀ y ∈ (lv 0 S).take i, y.1 ≠ (P : Int) := by
  have hm : (lv 0 S)[i] ∈ lv 0 S := List.getElem_mem hi
  have hf := lv_find hm
  have hg := lv_ge hm
  have hr := lv_rises S 0
  rw [Int.sub_zero] at hf
  obtain ⟨P, hP⟩ : ∃ P : Nat, (lv 0 S)[i].1 = P := ⟨(lv 0 S)[i].1.toNat, by omega⟩
  refine ⟨P, (lv 0 S)[i].2.1, (lv 0 S)[i].2.2, by rw [← hP], by rw [← hP]; exact hf, by rw [← hP, List.take_succ_eq_append_getElem hi], fun y hy e => ?_⟩
  obtain ⟨j, hj, rfl⟩ := List.getElem_of_mem hy
  have hj' : j < i := by rw [List.length_take] at hj; omega
  have := List.pairwise_iff_getElem.1 hr j i (by omega) hi hj'
  rw [List.getElem_take] at e
  omega
theorem wordsL_le (S : List Seg) (i : Nat) : (wordsL ((lv 0 S).take i)).length ≤ (flat S).length := by
  have h1 : (wordsL ((lv 0 S).take i)).length ≤ (wordsL (lv 0 S)).length := by
    have e : wordsL (lv 0 S) = wordsL ((lv 0 S).take i) ++ wordsL ((lv 0 S).drop i) := by
      unfold wordsL; rw [← List.flatMap_append, List.take_append_drop]
    rw [e, List.length_append]; omega
  have h2 : wordsL (lv 0 S) = flat (swp S) := (flat_swp S 0).symm
  have h3 : ∀ S : List Seg, (flat (swp S)).length ≤ (flat S).length := by
    intro S
    induction S with
    | nil => simp [swp, flat]
    | cons x r ih =>
      cases hx : x.live
      · have : swp (x :: r) = swp r := by simp [swp, hx]
        rw [this, flat_len]; omega
      · have : swp (x :: r) = x :: swp r := by simp [swp, hx]
        rw [this, flat_len, flat_len]; omega
  rw [h2] at h1
  exact Nat.le_trans h1 (h3 S)
theorem rowsC_len (g : Nat) (L : LvL) : (rowsC g L).length = L.length * 2 := by
  induction L with
  | nil => rfl
  | cons x r ih => rw [show rowsC g (x :: r) = [.int .i64 x.1, cutV g x.1.toNat x.2.1.length] ++ rowsC g r from rfl]; simp [ih]; omega
theorem rowsC_at {g : Nat} {L : LvL} {i : Nat} (hi : i < L.length) : (rowsC g L)[i * 2]? = some (.int .i64 L[i].1) ∧ (rowsC g L)[i * 2 + 1]? = some (cutV g L[i].1.toNat L[i].2.1.length) := by
  induction L generalizing i with
  | nil => simp at hi
  | cons x r ih =>
    rw [show rowsC g (x :: r) = .int .i64 x.1 :: cutV g x.1.toNat x.2.1.length :: rowsC g r from rfl]
    cases i with
    | zero => simp
    | succ j =>
      have := ih (i := j) (by simpa using hi)
      rw [show (j + 1) * 2 = j * 2 + 1 + 1 by omega, show j * 2 + 1 + 1 + 1 = (j * 2 + 1) + 1 + 1 by omega]
      simpa using this

theorem row_form2 {B K : Nat} {e : TypeId} {w : World} {x : Value} {xs : List Value} (h : w.ownsRow B e 2 x K xs) : ∃ a c, x = .slice a K c := by
  rcases h.2 with ⟨rfl, rfl⟩ | ⟨g, cap, cur, rfl, _⟩
  · exact ⟨none, 0, rfl⟩
  · exact ⟨_, _, rfl⟩
set_option maxRecDepth 4000 in
theorem sweep2_any (b : Nat) (v : Value) (S : List Seg) (w : World) (h : Ar w b v S) (hl : (flat S).length * 8 ≤ 140737488351232) (hl2 : (flat S).length * 32 ≤ 140737488351232) :
    Calls Try.prog 24 #[.pointer (some ⟨b, 0, none⟩)] w fun e w' => SweepT w b v S e w' := by
  have hlv := lv_len_le S 0
  have c1 := h.box.c1
  have HA : Hid (Ar w b v S) := h
  have hmk := run_mkmap (lv 0 S).length w
  have HFin : Hid (∀ (W W' : World) (g0 : Nat) (u : Value) (ws : Value), SwI w W g0 w.heap.size (w.heap.size + 1) u ws (lv 0 S) (lv 0 S).length → W' = W.setCell ⟨b, 0, none⟩ ws → SweepT w b v S (.returned (.func (.func 37) #[] #[.pointer (some ⟨w.heap.size + 1, 0, none⟩)])) W') := by
    rintro W W' g0 u ws hI rfl
    have hA := h.below hI.bel
    obtain ⟨D, hD, hT⟩ := hI.mp
    have hown := hI.own
    have hbx : b < w.heap.size := h.box.lt
    rw [List.take_length] at hown hT
    have hg := grown_set W ⟨b, 0, none⟩ ws
    refine ⟨w.heap.size + 1, w.heap.size, ws, rfl, ⟨?_, ?_, swp_ok h.ok⟩, ?_, by omega, by omega, ⟨hI.box.kept hg (by simp; omega), ⟨_, D, World.ownsMap.kept hD hg (by simp; omega), hT⟩⟩, fun g hg' => (hown.lt g hg').1, fun k hk hkb => (hg.block k (Nat.lt_of_lt_of_le hk hI.bel.size) (by simpa using hkb)).trans (hI.bel.block k hk)⟩
    · rw [swp_lv S 0 0, show (renum 0 (lv 0 S)).length = (lv 0 S).length from ?_]
      · exact hA.box.set0 ws
      · have : ∀ (L : LvL) (q : Int), (renum q L).length = L.length := by
          intro L
          induction L with
          | nil => intro q; rfl
          | cons x r ih => intro q; simp [renum, ih]
        exact this _ _
    · rw [flat_swp S 0]
      exact row_mono (World.ownsRow.kept hown hg (.inr (fun e => by have := (hown.lt b e).1; omega))) (Nat.zero_le _)
    · have := hI.bel
      refine ⟨this.os, this.tape, this.output, by simpa using this.size, fun k hk h1 h2 => ?_, .inr (fun g hg' => (hown.lt g hg').1)⟩
      rw [hg.block k (Nat.lt_of_lt_of_le hk this.size) (by simpa using h1)]
      exact this.block k hk
  generalize hPS : SweepT w b v S = PS at *
  clear h
  go_enter Try.func24, Try.ntmps24
  go_wp2_with fail
  have HB1 : Hid (Below w.heap.size w ((w.alloc (.map #[] 0)).alloc (.cells #[.map (some w.heap.size)] 80))) := ((Below.refl _ w).alloc (Nat.le_refl _) _).alloc (by simp) _
  have HM1 : Hid (mapR ((w.alloc (.map #[] 0)).alloc (.cells #[.map (some w.heap.size)] 80)) w.heap.size 0 (.map [])) := (World.ownsMap_made w _ _ _).alloc _
  have HX1 : Hid (Bx1 ((w.alloc (.map #[] 0)).alloc (.cells #[.map (some w.heap.size)] 80)) (w.heap.size + 1) 80 (.map (some w.heap.size))) := by
    have := World.alloc_heap_new (w.alloc (.map #[] 0)) (.cells #[.map (some w.heap.size)] 80 (0, 0))
    rw [show (w.alloc (.map #[] 0)).heap.size = w.heap.size + 1 by simp] at this
    exact this
  generalize ((w.alloc (.map #[] 0)).alloc (.cells #[.map (some w.heap.size)] 80)) = W1 at *
  refine (standing_any b v S W1 (HA.out.below HB1.out) hl hl2).mono ?_
  rintro e W2 ⟨u, g0, rfl, row2, bel2, hg0⟩
  have HG0 : Hid (S = [] ∨ ∃ c, v = .slice (some ⟨g0, 0, none⟩) (flat S).length c) := hg0
  have HI2 : Hid (SwI w W2 g0 w.heap.size (w.heap.size + 1) u (.slice none 0 0) (lv 0 S) 0) := ⟨HB1.out.trans (bel2.mono HB1.out.size), Nat.le_refl _, HX1.out.below bel2, ⟨_, World.ownsMap.kept HM1.out (grown_below bel2) (by simp), by simpa using Tells.nil⟩, World.ownsRow_nil _ _ _ _, row_mono row2 HB1.out.size⟩
  obtain ⟨ua, uc, hu⟩ := row_form2 row2
  subst hu
  clear row2 bel2 hg0 HB1 HM1 HX1 c1 hmk
  clear hPS
  go_wp2
  go_loopg [4, 15] (lv 0 S).length (fun g s4 s15 wr => ∃ i : Nat, i + g = (lv 0 S).length ∧ s15 = .int .i64 i ∧ Hid (SwI w wr g0 w.heap.size (w.heap.size + 1) (.slice ua (lv 0 S).length uc) s4 (lv 0 S) i))
  case atStart => exact ⟨0, by omega, rfl, HI2⟩
  case round =>
    obtain ⟨i, hi, rfl, HI⟩ := hrel
    by_cases hlt : i < (lv 0 S).length
    · obtain ⟨P, ls, l, hx, hfd, htk, hne⟩ := lv_at hlt
      have HTk : Hid ((lv 0 S).take (i + 1) = (lv 0 S).take i ++ [((P : Int), ls, l)]) := htk
      have HNe : Hid (∀ y ∈ (lv 0 S).take i, y.1 ≠ (P : Int)) := hne
      have HI' : Hid (i + gk = (lv 0 S).length) := hi
      have HSne : S ≠ [] := by rintro rfl; simp [lv] at hlt
      obtain ⟨vc, hv⟩ := HG0.out.resolve_left HSne
      subst hv
      have HAr : Hid (∀ X, Below w.heap.size w X → Ar X b (.slice (some ⟨g0, 0, none⟩) (flat S).length vc) S) := fun X hX => HA.out.below hX
      obtain ⟨q1, q2, q3, q4, q5, q6⟩ := find_get hfd
      have hP : P < (flat S).length := by simp at q5; omega
      have hwl := wordsL_le S (i + 1)
      rw [htk, wordsL_snoc] at hwl
      simp only [List.length_append, List.length_cons, List.length_nil] at hwl
      obtain ⟨r1, r2⟩ := rowsC_at (g := g0) hlt
      rw [hx] at r1 r2
      simp only [Int.toNat_natCast] at r1 r2 q3
      have hd1 : hdOf ⟨ls, l, true⟩ = hd0 ls.length l := rfl
      rw [hd1] at q3
      have HCell : Hid (∀ X, Below w.heap.size w X → X.cell? ⟨g0, P, none⟩ = some (.int .i64 (hd0 ls.length l)) ∧ g0 < w.heap.size ∧ (flat S).length ≤ vc ∧ Rd X (cutV g0 P ls.length) ls) := fun X hX => by
        have hA := HAr.out X hX
        have hrd := hA.rd hl
        obtain ⟨b2, off, c2, e, hpos, hc, hm, hb, hcell⟩ := hrd.cases.resolve_left (by rintro ⟨e, _⟩; rw [e] at hP; simp at hP)
        injection e with e1 e2 e3
        injection e1 with e1
        injection e1 with e1 e4
        subst e1; subst e4
        have := hcell P hP
        rw [Nat.zero_add, q3] at this
        have h0 := (HA.out.own.lt g0 rfl).2
        exact ⟨this, h0, by rw [e3]; exact hc, cut_rd hrd hfd⟩
      have hcap := (HCell.out wr HI.out.bel).2.2.1
      have HRow : Hid (∃ g cap, ua = some ⟨g, 0, none⟩ ∧ uc = cap ∧ (lv 0 S).length ≤ cap ∧ wr.cell? ⟨g, i * 2, none⟩ = some (.int .i64 (P : Int)) ∧ wr.cell? ⟨g, i * 2 + 1, none⟩ = some (cutV g0 P ls.length)) := by
        have hrow := HI.out.row
        rcases hrow.2 with ⟨e, e2⟩ | ⟨g, cap, cur, e, hbg, hh, hnc, _⟩
        · omega
        · injection e with e1 e2 e3
          have hc := World.ownsRow.cells hrow (g := g) (by rw [e1]; rfl)
          have a1 := hc (i * 2) _ r1
          have a2 := hc (i * 2 + 1) _ r2
          rw [Addr.add_lit] at a1 a2
          rw [Nat.zero_add] at a1 a2
          exact ⟨g, cap, e1, e3, hnc, a1, a2⟩
      obtain ⟨ug, ucap, e1, e2, hucap, hc0, hc1⟩ := HRow.out
      subst e1; subst e2
      obtain ⟨of, hof⟩ : ∃ of, cutV g0 P ls.length = .slice (some ⟨g0, of, none⟩) ls.length ls.length := ⟨_, rfl⟩
      rw [hof] at hc1
      have HOf : Hid (cutV g0 P ls.length = .slice (some ⟨g0, of, none⟩) ls.length ls.length) := hof
      clear hof
      have hmb := HI.out.box.c0
      have hmb2 := (HI.out.box.below (below_box wr (.cells #[.int .i64 (P : Int), .slice (some ⟨g0, of, none⟩) ls.length ls.length] 73))).c0
      obtain ⟨wa, wc, hws⟩ := own_form HI.out.own
      clear hx hfd htk hne q1 q2 q3 q4 q5 q6 r1 r2 HRow hi hd1
      subst hws
      have hw1 : (Lit.int .i64 (P : Int)).wf = true := wfI (by omega) (by omega)
      have hw2 : (Lit.int .i64 ((wordsL ((lv 0 S).take i)).length : Int)).wf = true := wfI (by omega) (by omega)
      have HKY : Hid (keyOf Try.prog 41 (.int .i64 (P : Int)) = some (.int .i64 (P : Int))) := keyOf_int_mk Try.underlying41 hw1
      have HVL : Hid (plainElem (H := Unit) Try.prog 41 (.int .i64 ((wordsL ((lv 0 S).take i)).length : Int)) = some (.lit (.int .i64 ((wordsL ((lv 0 S).take i)).length : Int)), [])) := plainElem_int Try.underlying41 hw2
      obtain ⟨D, hD0, hT⟩ := HI.out.mp
      have hil : i < 4611686018427387904 := by omega
      have HD0 : Hid (mapR wr w.heap.size i D) := hD0
      have HT : Hid (Tells D ((lv 0 S).take i)) := hT
      have HIa : Hid (SwI w (wr.alloc (.cells #[.int .i64 (P : Int), .slice (some ⟨g0, of, none⟩) ls.length ls.length] 73)) g0 w.heap.size (w.heap.size + 1) (.slice (some ⟨ug, 0, none⟩) (lv 0 S).length uc) (.slice wa (wordsL ((lv 0 S).take i)).length wc) (lv 0 S) i) := HI.out.below (below_box _ _)
      have HDa : Hid (mapR (wr.alloc (.cells #[.int .i64 (P : Int), .slice (some ⟨g0, of, none⟩) ls.length ls.length] 73)) w.heap.size i D) := World.ownsMap.alloc HD0.out _
      have HB6 : Hid (Bx2 (wr.alloc (.cells #[.int .i64 (P : Int), .slice (some ⟨g0, of, none⟩) ls.length ls.length] 73)) wr.heap.size 73 (.int .i64 (P : Int)) (.slice (some ⟨g0, of, none⟩) ls.length ls.length)) := Bx2.new _ _ _ _
      have HLt : Hid (w.heap.size < wr.heap.size) := mapR_lt HD0.out
      have HR1 : Hid (∀ W : World, Rd (W.alloc (.cells #[.int .i64 (hd0 ls.length l)] 3)) (.slice (some ⟨W.heap.size, 0, none⟩) 1 1) [hd0 ls.length l]) := fun W => rd_one W _
      have HWS : Hid (wordsL ((lv 0 S).take (i + 1)) = wordsL ((lv 0 S).take i) ++ [hd0 ls.length l] ++ ls) := by show _ = _; rw [HTk.out, wordsL_snoc]
      have HB0 := HI.out.bel
      clear hD0 hT hw1 hw2
      generalize hWL : wordsL ((lv 0 S).take i) = wl at *
      generalize hHD : hd0 ls.length l = hd at *
      go_wp2_with (at_mapUpdate; refine wpList_mapUpdate_own _ rfl _ _ _ 80 rfl 41 41 lawR Try.underlying80 _ w.heap.size i D rfl HDa.out (by unfold maxLen; omega) _ _ (.int .i64 (P : Int)) rfl rfl HKY.out (.lit (.int .i64 (wl.length : Int))) [] HVL.out ?_; intro X own1 gr1; have HM1 : Hid (mapR X w.heap.size (i + 1) (D.put (.int .i64 (P : Int)) (.lit (.int .i64 (wl.length : Int))))) := own1; have HG1 : Hid ((wr.alloc (.cells #[.int .i64 (P : Int), .slice (some ⟨g0, of, none⟩) ls.length ls.length] 73)).grownBy X (some w.heap.size)) := gr1; clear own1 gr1)
      have HBX : Hid (Below w.heap.size w X) := HIa.out.bel.grown HG1.out HIa.out.bel.size (fun k e => by cases e; exact Nat.le_refl _)
      have HOX : Hid (Own w.heap.size X (.slice wa wl.length wc) wl) := by
        have := HIa.out.own
        rw [hWL] at this
        exact World.ownsRow.kept this HG1.out (.inr (fun e => mapR_row HDa.out this e.symm))
      have H6X : Hid (Bx2 X wr.heap.size 73 (.int .i64 (P : Int)) (.slice (some ⟨g0, of, none⟩) ls.length ls.length)) := HB6.out.kept HG1.out (by have := HLt.out; simp; omega)
      have b0 := (HAr.out X HBX.out).box.c0
      have b1 := (HCell.out X HBX.out).1
      have b2 := H6X.out.c0
      have hsX : w.heap.size ≤ X.heap.size := HBX.out.size
      clear hc0 hc1 hmb hmb2 HB0
      go_region_law (refine step_app_rd rfl (.tmp 24) (.tmp 33) rfl w.heap.size (.slice wa wl.length wc) (.slice (some ⟨X.heap.size, 0, none⟩) 1 1) wl [hd] (by simp [Act.eval, Act.put]) (by simp [Act.eval, Act.put]) (HOX.out.below (Below.step (Below.refl _ _).drew (below_box _ _))) (HR1.out X.drew) (by simp; omega) (Nat.le_trans hsX (by simp)) ?_; intro v7 w7 own7 ap7; obtain ⟨a7, c7, hv7⟩ := own_form own7; simp only [List.length_append, List.length_cons, List.length_nil, Nat.zero_add] at hv7; subst hv7; have HO7 : Hid (Own w.heap.size w7 (.slice a7 (wl.length + 1) c7) (wl ++ [hd])) := own7; have HP7 : Hid (Ap (X.drew.alloc (.cells #[.int .i64 hd] 3)) (.slice wa wl.length wc) w7 (.slice a7 (wl.length + 1) c7)) := ap7; clear own7 ap7)
      all_goals
        have HBA : Hid (Below X.heap.size X (X.drew.alloc (.cells #[.int .i64 hd] 3))) := Below.step (Below.refl _ _).drew (below_box _ _)
        have HOA : Hid (Own w.heap.size (X.drew.alloc (.cells #[.int .i64 hd] 3)) (.slice wa wl.length wc) wl) := HOX.out.below HBA.out
        have HB7 : Hid (Below w.heap.size w w7) := (HBX.out.trans (HBA.out.mono hsX)).grown HP7.out.grown (Nat.le_trans hsX HBA.out.size) (fun k e => (HOA.out.lt k e).1)
        have H67 : Hid (Bx2 w7 wr.heap.size 73 (.int .i64 (P : Int)) (.slice (some ⟨g0, of, none⟩) ls.length ls.length)) := (H6X.out.below HBA.out).kept HP7.out.grown (own_ne HOA.out (H6X.out.below HBA.out) (by decide))
        have p1 := H67.out.c1
        have HL7 : Hid (Rd w7 (.slice (some ⟨g0, of, none⟩) ls.length ls.length) ls) := by
          have := (HCell.out w7 HB7.out).2.2.2
          rw [HOf.out] at this; exact this
        clear b0 b1 b2
        go_wp2_with (at_builtin; refine wpList_app_rd rfl _ _ rfl w.heap.size (.slice a7 (wl.length + 1) c7) (.slice (some ⟨g0, of, none⟩) ls.length ls.length) (wl ++ [hd]) ls rfl rfl HO7.out HL7.out (by simp; omega) HB7.out.size ?_; intro v8 w8 own8 ap8; obtain ⟨a8, c8, hv8⟩ := own_form own8; simp only [List.length_append, List.length_cons, List.length_nil, Nat.zero_add] at hv8; subst hv8; have HO8 : Hid (Own w.heap.size w8 (.slice a8 (wl.length + 1 + ls.length) c8) (wl ++ [hd] ++ ls)) := own8; have HP8 : Hid (Ap w7 (.slice a7 (wl.length + 1) c7) w8 (.slice a8 (wl.length + 1 + ls.length) c8)) := ap8; clear own8 ap8)
        go_roundg (gk - 1)
        case measure => have := HI'.out; omega
        case rel =>
          refine ⟨i + 1, by have := HI'.out; omega, by go_num, ?_⟩
          refine SwI.step (ws2 := .slice none 0 0) (x := ((P : Int), ls, l)) (D := D) (W1 := X) (W2 := X.drew.alloc (.cells #[.int .i64 hd] 3)) HIa.out HDa.out HT.out HTk.out HNe.out ?_ HG1.out HBA.out ?_ ⟨w7, .slice a7 (wl.length + 1) c7, ?_, ?_, ?_⟩
          · rw [hWL]; exact HM1.out
          · rw [HWS.out]; exact HO8.out
          · exact HP7.out
          · rw [hWL, hHD]; exact HO7.out
          · exact HP8.out
    · obtain rfl : i = (lv 0 S).length := by omega
      have HArw : Hid (Ar wr b v S) := HA.out.below HI.out.bel
      have f0 := HArw.out.box.f0
      have c0 := HArw.out.box.c0
      obtain ⟨wa, wc, hws⟩ := own_form HI.out.own
      subst hws
      clear hi
      go_wp2
      refine HFin.out wr _ g0 _ _ HI.out ?_
      rw [List.take_length]

theorem sweep_any (b : Nat) (v : Value) (S : List Seg) (w : World) (h : Ar w b v S) (hl : (flat S).length * 8 ≤ 140737488351232) (hl2 : (flat S).length * 32 ≤ 140737488351232) :
    Calls Try.prog 24 #[.pointer (some ⟨b, 0, none⟩)] w fun e w' => SweepS w b v S e w' :=
  (sweep2_any b v S w h hl hl2).mono fun e w' ⟨m, mb, v', q1, q2, q3, q4, q5, q6, q7, _⟩ => ⟨m, mb, v', q1, q2, q3, q4, q5, q6, q7⟩
theorem zeroR (w : World) : (zeroValue 41).run Try.prog w = .ok (.int .i64 0) w := by rfl
/-- the function of a Sweep -/
theorem tells_any (m mb : Nat) (L : LvL) (k : Int) (w : World) (h : TellsAt w m mb L) (h1 : -9223372036854775808 ≤ k) (h2 : k ≤ 9223372036854775807) :
    Calls Try.prog 37 #[.int .i64 k, .pointer (some ⟨m, 0, none⟩)] w fun e w' => e = .returned (.tuple #[.int .i64 ((went 0 L k).getD 0), .bool (went 0 L k).isSome]) ∧ w' = w := by
  obtain ⟨n, D, hD, hT⟩ := h.map
  have c0 := h.box.c0
  have HD : Hid (mapR w mb n D) := hD
  have HKY : Hid (keyOf Try.prog 41 (.int .i64 k) = some (.int .i64 k)) := keyOf_int_mk Try.underlying41 (wfI h1 h2)
  have HT : Hid (Maps.has D (.int .i64 k) = (went 0 L k).isSome ∧ D.atKey (.int .i64 k) (.lit (.int .i64 0)) = .lit (.int .i64 ((went 0 L k).getD 0))) := hT k
  clear h hD hT
  go_enter Try.func37, Try.ntmps37
  go_wp2_with (at_lookup; refine wpList_lookup_own_ok_int _ rfl _ _ 80 rfl 41 41 .i64 lawR Try.underlying80 Try.underlying41 (zeroR _) mb n D rfl HD.out _ _ rfl HKY.out ?_; intro c hat _; rw [HT.out.1]; rw [HT.out.2] at hat; injection hat with hat; injection hat with _ hat; rw [← hat]; clear hat)
  go_returns
  exact ⟨rfl, rfl⟩

end Go.Proofs.Ytbhjpahieghepaa

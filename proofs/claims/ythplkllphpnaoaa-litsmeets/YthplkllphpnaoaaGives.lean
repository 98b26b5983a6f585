/-
  gives of the laws: a sequence held against a row of pairs, what it gives written over.
-/
import Derived.Test.YthplkllphpnaoaaRefF
import Derived.Test.YthplkllphpnaoaaMarks
import Derived.Sort.CutIn
set_option linter.unusedSimpArgs false
set_option linter.unusedVariables false
namespace Go.Proofs.Ythplkllphpnaoaa
open Go Go.RowKit Go.Shelf

attribute [local go_sem] Oper.semAt_some

theorem refEqual_self (va vb : Value) (a : List Int) (w : World) (ha : Rd w va a) (hb : Rd w vb a) :
    Calls Try.prog 31 #[va, vb] w fun e w' => e = .returned (.bool true) ∧ Below w.heap.size w w' := by
  have := refEqual_any va vb a a w ha hb
  rw [show (a == a) = true from beq_self_eq_true a] at this
  exact this

theorem prow_at : ∀ (ws : List Itm) (i : Nat) (x : Itm), ws[i]? = some x → (prow ws)[i * 2]? = some (.int .i64 x.1) ∧ (prow ws)[i * 2 + 1]? = some x.2.1
  | [], i, x, h => by simp at h
  | y :: r, 0, x, h => by simp at h; subst h; exact ⟨rfl, rfl⟩
  | y :: r, i + 1, x, h => by
    have := prow_at r i x (by simpa using h)
    have e : prow (y :: r) = .int .i64 y.1 :: y.2.1 :: prow r := rfl
    rw [e, show (i + 1) * 2 = i * 2 + 1 + 1 by omega]
    simpa using this
theorem pair_at {w : World} {u : Value} {ws : List Itm} (h : OwnP 0 w u ws) {i : Nat} {x : Itm} (hx : ws[i]? = some x) :
    ∃ g cap, u = .slice (some ⟨g, 0, none⟩) ws.length cap ∧ g < w.heap.size ∧ w.cell? ⟨g, i * 2, none⟩ = some (.int .i64 x.1) ∧ w.cell? ⟨g, i * 2 + 1, none⟩ = some x.2.1 ∧ Own 0 w x.2.1 x.2.2 ∧ x.2.2.length ≤ 2097152 ∧ ws.length ≤ cap := by
  have hi : i < ws.length := (List.getElem?_eq_some_iff.1 hx).1
  have hm := List.mem_of_getElem? hx
  obtain ⟨e1, e2⟩ := prow_at ws i x hx
  have h1 := h.1
  rcases h.1.2 with ⟨_, hn⟩ | ⟨g, cap, cur, hv, hb, hh, hnc, hcm, hcs, ht⟩
  · omega
  · subst hv
    exact ⟨g, cap, rfl, (Array.getElem?_eq_some_iff.1 hh).1, (h1.cellAt (i * 2) (by omega)).trans e1, (h1.cellAt (i * 2 + 1) (by omega)).trans e2, (h.2 x hm).1, (h.2 x hm).2, hnc⟩
theorem ownP_slice {base : Nat} {w : World} {u : Value} {ws : List Itm} (h : OwnP base w u ws) : ∃ au cu, u = .slice au ws.length cu := by
  rcases h.1.2 with ⟨hv, hn⟩ | ⟨g, cap, cur, hv, _⟩
  · exact ⟨none, 0, by rw [hv, hn]⟩
  · exact ⟨_, _, hv⟩
/-- the item that comes next -/
theorem next_item {R : List (Int × List Int)} {ws pre : List Itm} {x : Itm} (hp : ws.map Itm.proj = R) (h : (pre ++ [x]).map Itm.proj <+: R) : ∃ y, ws[pre.length]? = some y ∧ x.1 = y.1 ∧ x.2.2 = y.2.2 := by
  have hl := h.length_le
  simp only [List.map_append, List.length_append, List.length_map, List.map_cons, List.map_nil, List.length_cons, List.length_nil] at hl
  have e : R[pre.length]? = some (Itm.proj x) := by
    obtain ⟨t, rfl⟩ := h
    simp
  rw [← hp, List.getElem?_map] at e
  cases hy : ws[pre.length]? with
  | none => rw [hy] at e; cases e
  | some y =>
    rw [hy] at e
    have e' : Itm.proj y = Itm.proj x := by simpa using e
    exact ⟨y, rfl, (congrArg Prod.fst e').symm, (congrArg Prod.snd e').symm⟩
/-- three boxes -/
theorem boxes3 (w : World) (x y z : Value) (t1 t2 t3 : TypeId) :
    (((w.alloc (.cells #[x] t1)).alloc (.cells #[y] t2)).alloc (.cells #[z] t3)).cell? ⟨w.heap.size, 0, none⟩ = some x ∧
    (((w.alloc (.cells #[x] t1)).alloc (.cells #[y] t2)).alloc (.cells #[z] t3)).cell? ⟨w.heap.size + 1, 0, none⟩ = some y ∧
    (((w.alloc (.cells #[x] t1)).alloc (.cells #[y] t2)).alloc (.cells #[z] t3)).frozen? ⟨w.heap.size + 1, 0, none⟩ = false ∧
    (((w.alloc (.cells #[x] t1)).alloc (.cells #[y] t2)).alloc (.cells #[z] t3)).cell? ⟨w.heap.size + 1 + 1, 0, none⟩ = some z ∧
    (((w.alloc (.cells #[x] t1)).alloc (.cells #[y] t2)).alloc (.cells #[z] t3)).frozen? ⟨w.heap.size + 1 + 1, 0, none⟩ = false ∧
    (((w.alloc (.cells #[x] t1)).alloc (.cells #[y] t2)).alloc (.cells #[z] t3)).heap.size = w.heap.size + 1 + 1 + 1 ∧
    Below w.heap.size w (((w.alloc (.cells #[x] t1)).alloc (.cells #[y] t2)).alloc (.cells #[z] t3)) := by
  have e1 := box_new (w.alloc (.cells #[x] t1)) y t2
  have e2 := box_new ((w.alloc (.cells #[x] t1)).alloc (.cells #[y] t2)) z t3
  have f1 : ((w.alloc (.cells #[x] t1)).alloc (.cells #[y] t2)).frozen? ⟨(w.alloc (.cells #[x] t1)).heap.size, 0, none⟩ = false := World.frozen?_alloc_at _ _ _ _ rfl
  simp only [World.size_alloc] at e1 e2 f1
  exact ⟨box_old (box_old (box_new w x t1) _) _, box_old e1 _, frozen_old e1 f1 _, e2, World.frozen?_alloc_at _ _ _ _ (by simp), by simp,
    (((Below.refl _ w).alloc (Nat.le_refl _) _).alloc (by simp) _).alloc (by simp; omega) _⟩

set_option maxRecDepth 100000 in
set_option maxHeartbeats 4000000 in
theorem gives_any (lo : Nat) (R : List (Int × List Int)) (f u : Value) (ws : List Itm) (w0 w : World) (hg : GivesV lo R f w0) (hm : Mid lo w0.heap.size w0 w) (hu : OwnP 0 w u ws) (hp : ws.map Itm.proj = R) (hR : R.length ≤ 2097152) :
    Calls Try.prog 39 #[f, u] w fun e w' => e = .returned (.bool true) ∧ Below w.heap.size w w' := by
  obtain ⟨au, cu, rfl⟩ : ∃ au cu, u = .slice au ws.length cu := ownP_slice hu
  have hl : ws.length ≤ 2097152 := by rw [← hp] at hR; simpa using hR
  have HG : Hid (GivesV lo R f w0) := hg
  have HU : Hid (∀ W, Below w.heap.size w W → OwnP 0 W (.slice au ws.length cu) ws) := fun W h => hu.below h
  obtain ⟨gf, lb, rfl, -, -⟩ := hg
  clear hu hR
  refine calls_marks 12 Try.func39 rfl ?_
  simp only [Try.ntmps39, List.size_toArray, List.length_cons, List.length_nil, Nat.reduceAdd, Nat.reduceSub, Array.replicate_succ, Array.replicate_zero, List.push_toArray, List.append_toArray, List.nil_append, List.cons_append]
  go_wp2
  have bx := boxes3 w (.slice au ws.length cu) (.bool false) (.int .i64 0) 37 4 3
  generalize (((w.alloc (.cells #[.slice au ws.length cu] 37)).alloc (.cells #[.bool false] 4)).alloc (.cells #[.int .i64 0] 3)) = W0 at *
  obtain ⟨cU, cR, fR, cN, fN, sz, B0⟩ := bx
  have M0 : Mid lo w0.heap.size w0 W0 := hm.trans (Mid.of_below B0 hm.size)
  have hsz : w0.heap.size ≤ w.heap.size := hm.size
  obtain ⟨gf', lb', e', heg, hseq⟩ := HG.out
  cases e'
  refine (wpIn_wide (n := 12)).1 ?_
  refine' wpIn_rangeV rfl (by omega) (gf := gf) (lb := lb) rfl trivial heg (hseq (12 - 1) (by omega)) Mid.trans (midK_b (by omega)) (fun W o h => h.alloc (Nat.le_refl _) o) M0 (fun _ => rfl)
    (fun pre W => (W.cell? ⟨w.heap.size + 1 + 1, 0, none⟩ = some (.int .i64 (pre.length : Nat)) ∧ W.frozen? ⟨w.heap.size + 1 + 1, 0, none⟩ = false ∧ W0.heap.size ≤ W.heap.size ∧ W.cell? ⟨w.heap.size, 0, none⟩ = some (.slice au ws.length cu) ∧ W.cell? ⟨w.heap.size + 1, 0, none⟩ = some (.bool false) ∧ W.frozen? ⟨w.heap.size + 1, 0, none⟩ = false) ∧ Below w.heap.size w W)
    (fun c pre W => False)
    (OwnFrom.and (Own.from (fun s A B row hs hg hr => ⟨cell_kept hs.1 hg hr, (frozen_kept hs.1 hg hr).trans hs.2.1, Nat.le_trans hs.2.2.1 hg.size, cell_kept hs.2.2.2.1 hg hr, cell_kept hs.2.2.2.2.1 hg hr, (frozen_kept hs.2.2.2.2.1 hg hr).trans hs.2.2.2.2.2⟩) _) (ownFrom_below (Nat.le_refl _) B0.size))
    (fun c s A B row hs hg hr => hs)
    (fun m pre => VV_from _ _ _ pre)
    ⟨⟨cN, fN, Nat.le_refl _, cU, cR, fR⟩, B0⟩
    _ ?assign ?body ?done ?stop
  case assign =>
    intro l x W K hK
    gi_wp2
    exact hK
  case body =>
    rintro l pre ⟨xv, xs, xl⟩ W ⟨⟨g0, g1, hsw, g2, g3, g4⟩, hB⟩ ⟨hpx, ho, hxl⟩
    obtain ⟨⟨yv, ys, yl⟩, hy, e1, e2⟩ := next_item hp hpx
    dsimp only at e1 e2 ho hxl
    subst e1
    subst e2
    obtain ⟨gu, cap, eu, hgu, q1, q2, oy, -, hcap⟩ := pair_at (HU.out W hB) hy
    dsimp only at q1 q2 oy
    simp only [Value.slice.injEq, true_and] at eu
    obtain ⟨rfl, rfl⟩ := eu
    have hlt : pre.length < ws.length := (List.getElem?_eq_some_iff.1 hy).1
    have HL : Hid ((pre ++ [((xv, xs, xl) : Itm)]).length = pre.length + 1) := by show _ = _; simp
    have hx8 : xl.length * 8 ≤ 140737488351232 := by omega
    have rx := Own.rd ho hx8
    have ry := Own.rd oy hx8
    obtain ⟨_, ax, cx, ex, -⟩ := id rx
    subst ex
    have RX : Hid (Rd W (.slice ax xl.length cx) xl) := rx
    have RY : Hid (Rd W ys xl) := ry
    obtain ⟨_, ay, cy, ey, -⟩ := id ry
    subst ey
    have OX : Hid (Own (W0.heap.size + 2) W (.slice ax xl.length cx) xl) := ho
    clear rx ry ho oy hpx hy
    generalize pre.length = m at *
    have hd : decide (ws.length ≤ m) = false := decide_eq_false (by omega)
    gi_wp2_with fail
    refine ⟨trivial, ?_⟩
    refine ((callsIn_wide.2 (refEqual_self _ _ xl W RX.out RY.out)).inRound l).mono ?_
    rintro e w9 ⟨rfl, bel9⟩
    have g09 := (bel9.cell (p := ⟨w.heap.size + 1 + 1, 0, none⟩) (by show w.heap.size + 1 + 1 < _; omega)).trans g0
    have g19 := (bel9.frozen (p := ⟨w.heap.size + 1 + 1, 0, none⟩) (by show w.heap.size + 1 + 1 < _; omega)).trans g1
    have g29 := (bel9.cell (p := ⟨w.heap.size, 0, none⟩) (by show w.heap.size < _; omega)).trans g2
    have g39 := (bel9.cell (p := ⟨w.heap.size + 1, 0, none⟩) (by show w.heap.size + 1 < _; omega)).trans g3
    have g49 := (bel9.frozen (p := ⟨w.heap.size + 1, 0, none⟩) (by show w.heap.size + 1 < _; omega)).trans g4
    have OX9 : Own (W0.heap.size + 2) w9 (.slice ax xl.length cx) xl := OX.out.below bel9
    have HB9 : Hid (Below w.heap.size w w9) := hB.trans (bel9.mono hB.size)
    have HM9 : Hid (Mid lo w0.heap.size W w9) := Mid.of_below bel9 (by omega)
    have HK9 : Hid (KeepsOthers W w9) := keeps_below bel9
    have HZ9 : Hid (W0.heap.size ≤ w9.heap.size) := Nat.le_trans hsw bel9.size
    clear bel9 hB g0 g1 g2 g3 g4 q1 q2
    gi_wp2
    gi_loopg [8] xl.length (fun g i wq => ∃ (k : Nat) (Y : List Int), k + g = xl.length ∧ i = .int .i64 k ∧ Y.length = xl.length ∧ Own (W0.heap.size + 2) wq (.slice ax xl.length cx) Y ∧ Below (W0.heap.size + 2) w9 wq ∧ KeepsOthers w9 wq)
    case atStart => exact ⟨0, xl, by omega, rfl, rfl, OX9, Below.refl _ _, KeepsOthers.refl _⟩
    case round =>
      obtain ⟨k, Y, hk, rfl, hY, ox, bel, kp⟩ := hrel
      have HK : Hid (k + gk = xl.length) := hk
      have gq0 := (bel.cell (p := ⟨w.heap.size + 1 + 1, 0, none⟩) (by show w.heap.size + 1 + 1 < _; omega)).trans g09
      have gq1 := (bel.frozen (p := ⟨w.heap.size + 1 + 1, 0, none⟩) (by show w.heap.size + 1 + 1 < _; omega)).trans g19
      by_cases hkl : k < xl.length
      · obtain ⟨g, cap, e, hH, hg, hbase, hncap, hmm⟩ := own_holds ox (by intro h; rw [h] at hY; simp at hY; omega)
        simp only [Value.slice.injEq] at e
        obtain ⟨e1, e2, e3⟩ := e
        subst e1
        subst e3
        clear e2
        have hfr : wr.frozen? ⟨g, k, none⟩ = false := by have := (hH k (by simpa using (show k < Y.length by omega))).2; simpa using this
        have hcg : wr.cell? ⟨g, k, none⟩ = some (.int .i64 (Y.getD k 0)) := by
          have := (hH k (by simpa using (show k < Y.length by omega))).1
          simpa [List.getD_eq_getElem?_getD, getElem!_def, Array.getElem?_eq_getElem, show k < Y.length by omega] using this
        have SX : Hid (∀ z, Own (W0.heap.size + 2) (wr.setCell ⟨g, k, none⟩ (.int .i64 z)) (.slice (some ⟨g, 0, none⟩) xl.length cx) (Y.set k z)) := fun z => own_store ox hY
        have SB : Hid (∀ x, Below (W0.heap.size + 2) w9 (wr.setCell ⟨g, k, none⟩ x)) := fun x => bel.setCell (p := ⟨g, k, none⟩) hbase x
        have SK : Hid (∀ x, KeepsOthers w9 (wr.setCell ⟨g, k, none⟩ x)) := fun x => kp.trans (KeepsOthers.setCell _ _ _)
        clear hk hH ox bel kp
        generalize Y.getD k 0 = yy at *
        gi_wp2
        gi_roundg (gk - 1)
        case measure => have := HK.out; omega
        case rel => exact ⟨k + 1, _, by have := HK.out; omega, by go_num, by rw [List.length_set]; exact hY, SX.out _, SB.out _, SK.out _⟩
      · obtain rfl : k = xl.length := by omega
        clear hk hkl
        have gq2 := (bel.cell (p := ⟨w.heap.size, 0, none⟩) (by show w.heap.size < _; omega)).trans g29
        have gq3 := (bel.cell (p := ⟨w.heap.size + 1, 0, none⟩) (by show w.heap.size + 1 < _; omega)).trans g39
        have gq4 := (bel.frozen (p := ⟨w.heap.size + 1, 0, none⟩) (by show w.heap.size + 1 < _; omega)).trans g49
        have hne1 : w.heap.size ≠ w.heap.size + 1 + 1 := by omega
        have hne2 : w.heap.size + 1 ≠ w.heap.size + 1 + 1 := by omega
        gi_wp2
        have K9 : Mid lo w0.heap.size w9 (wr.setCell ⟨w.heap.size + 1 + 1, 0, none⟩ (.int .i64 (↑m + 1))) := (Mid.of_below bel (by omega)).trans ⟨by simp [World.setCell], fun k h1 h2 => Below.heap_setCell _ _ _ _ (by show k ≠ w.heap.size + 1 + 1; omega)⟩
        exact ⟨HK9.out.trans (kp.trans (KeepsOthers.setCell _ _ _)), HM9.out.trans K9,
          ⟨by rw [HL.out]; exact World.cell?_setCell_same' _ _ _ (by rw [gq0]; rfl), by rw [World.frozen?_setCell]; exact gq1, by rw [World.size_setCell]; exact Nat.le_trans HZ9.out bel.size,
            (World.cell?_of_block (Below.heap_setCell _ _ _ _ hne1)).trans gq2, (World.cell?_of_block (Below.heap_setCell _ _ _ _ hne2)).trans gq3, by rw [World.frozen?_setCell]; exact gq4⟩,
          (HB9.out.trans (bel.mono (by omega))).setCell (p := ⟨w.heap.size + 1 + 1, 0, none⟩) (by show w.heap.size ≤ w.heap.size + 1 + 1; omega) _⟩
  case done =>
    rintro D ys W hD hS ⟨⟨g0, g1, hsw, g2, g3, g4⟩, hB⟩ hK
    have hn : ys.length = ws.length := by have := congrArg List.length (hS.trans hp.symm); simpa using this
    rw [hn] at g0
    go_wp2
    have k4 := World.cell?_setCell_same' W ⟨w.heap.size + 1, 0, none⟩ (.bool true) (by rw [g3]; rfl)
    have hK' := (KeepsOthers.setCell W ⟨w.heap.size + 1, 0, none⟩ (.bool true)).same D _ hK rfl
    refine ⟨by simp, .inl ⟨_, _, rfl, run_takeDeferred hK', ?_⟩⟩
    have k5 := cell_kept k4 (grownBy_putObj' _ D (.deferred none)) (fun r e => by cases e; exact ⟨_, hK', rfl⟩)
    have bb : Below w.heap.size w (W.setCell ⟨w.heap.size + 1, 0, none⟩ (.bool true)) := hB.setCell (p := ⟨w.heap.size + 1, 0, none⟩) (by show w.heap.size ≤ w.heap.size + 1; omega) _
    exact ⟨.bool true, by simp [results, Try.f39, go_sem, k5], rfl, bb.trans (belowK_b (w := w) (Nat.le_refl _) _ D _ _ (by omega) hK' rfl rfl)⟩
  case stop =>
    rintro D c pre W hD hSp h hK
    exact h.elim

end Go.Proofs.Ythplkllphpnaoaa

/-
  CnfLives, walked.
-/
import Derived.Test.YtbphbnfnolgkfaaDoorMarks0
import Derived.Deep.QuietTactic
set_option linter.unusedSimpArgs false
set_option linter.unusedVariables false
namespace Go.Proofs.YtbphbnfnolgkfaaDoor.cnfLives
open Go Go.RowKit Go.Shelf

attribute [local go_sem] Oper.semAt_some

set_option maxRecDepth 20000 in
theorem fn_not_nil (gf : Nat) (lb : Array Value) (w : World) : (binOp BinOp.eql 29 (Value.func (Fn.func gf) #[] lb) Value.nilFunc).run Tryd.prog w = .ok (.bool false) w := by rfl
theorem both : modF 1 [] = [[false], [true]] := by decide
theorem next_two {pre : List Itb} {x : Itb} (h : (pre ++ [x]).map Prod.snd <+: [[false], [true]]) : (pre.length = 0 ∧ x.2 = [false]) ∨ (pre.length = 1 ∧ x.2 = [true]) := by
  have hl := h.length_le
  simp at hl
  match pre, hl with
  | [], _ =>
    left
    obtain ⟨t, ht⟩ := h
    simp at ht
    exact ⟨rfl, ht.1⟩
  | [y], _ =>
    right
    obtain ⟨t, ht⟩ := h
    simp at ht
    exact ⟨rfl, ht.2.1⟩
theorem res_cell {fn : Func} {p : Tmp} {tmps : Array Value} {W : World} {D1 : Nat} {x : Value} (h : fn.results = #[.cell p 4]) (hp : tmps.getD p undef = .pointer (some ⟨D1, 0, none⟩)) (h1 : W.cell? ⟨D1, 0, none⟩ = some x) : (results fn tmps).run Tryd.prog W = .ok x W := by
  have hp' : tmps[p]?.getD undef = .pointer (some ⟨D1, 0, none⟩) := by simpa using hp
  simp only [results, h]
  simp [go_sem, hp', h1]

set_option maxRecDepth 100000 in
set_option maxHeartbeats 1600000 in
theorem walk (w : World) (ht : Tens w) : Calls Tryd.prog 4 #[] w fun e w' => e = .returned (.bool true) ∧ Below w.heap.size w w' := by
  have HB : Hid (B1 ((w.alloc (.cells #[.bool false] 4)).alloc (.cells #[.int .i64 0] 3)) w.heap.size (.bool false) ∧ B1 ((w.alloc (.cells #[.bool false] 4)).alloc (.cells #[.int .i64 0] 3)) (w.heap.size + 1) (.int .i64 0) ∧ Below w.heap.size w ((w.alloc (.cells #[.bool false] 4)).alloc (.cells #[.int .i64 0] 3))) := by
    have e2 := B1.new (w.alloc (.cells #[.bool false] 4)) 3 (.int .i64 0)
    simp only [World.size_alloc] at e2
    exact ⟨(B1.new w 4 (.bool false)).below (below_box _ _), e2, Below.step (below_box _ _) (below_box _ _)⟩
  have HT : Hid (Tens w) := ht
  clear ht
  refine calls_marks 12 Tryd.func4 rfl ?_
  simp only [Tryd.ntmps4, List.size_toArray, List.length_cons, List.length_nil, Nat.reduceAdd, Nat.reduceSub, Array.replicate_succ, Array.replicate_zero, List.push_toArray, List.append_toArray, List.nil_append, List.cons_append]
  go_wp2_with fail
  refine (models_any 1 (.slice none 0 0) [] _ (Rds.nil _) (HT.out.below HB.out.2.2)).mono ?_
  rw [both]
  rintro e w3 ⟨f, rfl, hg, bel3⟩
  have h0 := HB.out.1.below bel3
  have h1 := HB.out.2.1.below bel3
  have hB3 : Below w.heap.size w w3 := HB.out.2.2.trans (bel3.mono HB.out.2.2.size)
  have HG : Hid (GivesB ((w.alloc (.cells #[.bool false] 4)).alloc (.cells #[.int .i64 0] 3)).heap.size [[false], [true]] f w3) := hg
  obtain ⟨gf, lb, rfl, -, -⟩ := hg
  have hnn := fn_not_nil gf lb w3
  have hs3 : w.heap.size + 1 + 1 ≤ w3.heap.size := by have := bel3.size; simpa using this
  clear HB
  go_wp2
  obtain ⟨gf', lb', e', heg, hseq⟩ := HG.out
  cases e'
  refine (wpIn_wide (n := 12)).1 ?_
  refine' wpIn_rangeN rfl (by omega) (gf := gf) (lb := lb) rfl trivial heg (hseq (12 - 1) (by omega) _) Mid.trans (midK_b (Nat.le_refl _)) (fun W o h => h.alloc (Nat.le_refl _) o) (Mid.refl _ _ _) (fun _ => rfl)
    (fun pre W => B1 W (w.heap.size + 1) (.int .i64 (pre.length : Nat)) ∧ B1 W w.heap.size (.bool false) ∧ Below w.heap.size w W ∧ w3.heap.size ≤ W.heap.size)
    (fun c pre W => False)
    (OwnFrom.and (B1.own _ _ (fun s : List Itb => .int .i64 (s.length : Nat))) (OwnFrom.and (B1.own _ _ (fun _ => .bool false)) (OwnFrom.and (own_below (by omega) (Nat.le_refl _)) (fun s A B row hs hg hr => Nat.le_trans hs hg.size))))
    (fun s A B h hg => ⟨h.1.kept hg (by intro e; have := Option.some.inj e; omega), h.2.1.kept hg (by intro e; have := Option.some.inj e; omega), below_grown h.2.2.1 hg h.2.2.1.size (fun r e => by cases e; omega), Nat.le_trans h.2.2.2 hg.size⟩)
    (fun c s A B row hs hg hr => hs)
    (fun m pre => VB.own _ _ _ pre)
    ⟨h1, h0, hB3, Nat.le_refl _⟩
    _ ?assign ?body ?done ?stop
  case assign =>
    intro l x W K hK
    gi_wp2
    exact hK
  case body =>
    rintro l pre ⟨xv, xm⟩ S0 W ⟨h1, h2, h3, h4⟩ hsz hS0 hV
    obtain ⟨hpx, -, g, hg, hx, hbt⟩ := hV
    have hc := next_two hpx
    dsimp only at hx hbt hc
    have HL : Hid (((pre ++ [((xv, xm) : Itb)]).length : Int) = (pre.length : Int) + 1) := by show _ = _; simp
    have HFin : Hid (∀ (W' : World) (z : Int), Below W.heap.size W W' → ((pre ++ [((xv, xm) : Itb)]).length : Int) = z → (KeepsOthers W (W'.setCell ⟨w.heap.size + 1, 0, none⟩ (.int .i64 z)) ∧ (Mid ((w.alloc (.cells #[.bool false] 4)).alloc (.cells #[.int .i64 0] 3)).heap.size w3.heap.size W (W'.setCell ⟨w.heap.size + 1, 0, none⟩ (.int .i64 z)) ∧ (W'.setCell ⟨w.heap.size + 1, 0, none⟩ (.int .i64 z)).heap[w3.heap.size + 2]? = W.heap[w3.heap.size + 2]?) ∧ B1 (W'.setCell ⟨w.heap.size + 1, 0, none⟩ (.int .i64 z)) (w.heap.size + 1) (.int .i64 ((pre ++ [((xv, xm) : Itb)]).length : Nat)) ∧ B1 (W'.setCell ⟨w.heap.size + 1, 0, none⟩ (.int .i64 z)) w.heap.size (.bool false) ∧ Below w.heap.size w (W'.setCell ⟨w.heap.size + 1, 0, none⟩ (.int .i64 z)) ∧ w3.heap.size ≤ (W'.setCell ⟨w.heap.size + 1, 0, none⟩ (.int .i64 z)).heap.size)) := by
      intro W' z hb hz
      have hbs := hb.size
      refine ⟨(keeps_below hb).trans (KeepsOthers.setCell _ _ _), ⟨⟨by rw [World.size_setCell]; exact hb.size, fun k q1 q2 => (Below.heap_setCell _ _ _ _ (by show k ≠ w.heap.size + 1; simp at q1; omega)).trans (hb.block k (by omega))⟩, (Below.heap_setCell _ _ _ _ (by show w3.heap.size + 2 ≠ w.heap.size + 1; omega)).trans (hb.block _ hsz)⟩, ?_, ?_, ?_, ?_⟩
      · rw [hz]; exact (h1.below hb).set _
      · exact (h2.below hb).kept (grown_set W' ⟨w.heap.size + 1, 0, none⟩ _) (by simp)
      · exact (h3.trans (hb.mono h3.size)).setCell (p := ⟨w.heap.size + 1, 0, none⟩) (by show w.heap.size ≤ w.heap.size + 1; omega) _
      · rw [World.size_setCell]; omega
    have g0 := h1.c
    have g1 := h1.f
    rcases hc with ⟨hpl, rfl⟩ | ⟨hpl, rfl⟩
    · subst hx
      have hcell := hbt.cell (k := 0) (by omega)
      rw [hpl] at g0 HL
      have hcell' : W.cell? ⟨g, 0, none⟩ = some (.bool false) := hcell
      clear hcell hbt hpx
      gi_wp2
      gi_region_with (fail)
      all_goals
        gi_wp2
        exact HFin.out _ _ ((Below.refl _ _).drew) HL.out
    · subst hx
      have hcell := hbt.cell (k := 0) (by omega)
      rw [hpl] at g0 HL
      have hcell' : W.cell? ⟨g, 0, none⟩ = some (.bool true) := hcell
      clear hcell hbt hpx
      gi_wp2
      gi_region_with (fail)
      all_goals
        gi_wp2
        exact HFin.out _ _ ((Below.refl _ _).drew) HL.out
  case done =>
    rintro D xs W hD hS ⟨h1, h2, h3, h4⟩ hK
    have hn : xs.length = 2 := by have := congrArg List.length hS; simpa using this
    rw [hn] at h1
    have g0 := h1.c
    have f0 := h2.f
    have c0 := h2.c
    have k0 := h2.set (.bool true)
    go_wp2
    have hK' := (KeepsOthers.setCell W ⟨w.heap.size, 0, none⟩ (.bool true)).same D _ hK rfl
    refine ⟨by simp, .inl ⟨_, _, rfl, run_takeDeferred hK', ?_⟩⟩
    have k1 := cell_kept k0.c (grownBy_putObj' _ D (.deferred none)) (fun r e => by cases e; exact ⟨_, hK', rfl⟩)
    have bb : Below w.heap.size w (W.setCell ⟨w.heap.size, 0, none⟩ (.bool true)) := h3.setCell (p := ⟨w.heap.size, 0, none⟩) (Nat.le_refl _) _
    exact ⟨_, res_cell rfl rfl k1, rfl, bb.trans (belowK_b (w := w) (Nat.le_refl _) _ D _ _ (by omega) hK' rfl rfl)⟩
  case stop =>
    rintro D c pre W hD hSp h hK
    exact h.elim

end Go.Proofs.YtbphbnfnolgkfaaDoor.cnfLives

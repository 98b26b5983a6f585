/-
  cnf.Count, walked.
-/
import Derived.Test.YtfklgfdkpmfdnaaDoorMarks0
set_option linter.unusedSimpArgs false
set_option linter.unusedVariables false
namespace Go.Proofs.YtfklgfdkpmfdnaaDoor
open Go Go.RowKit Go.Shelf

attribute [local go_sem] Oper.semAt_some

/-- the error of Count -/
def cntE (n : Int) (css : List (List Int)) : Int := if frm n css then (if 16 < n then 4 else 0) else 1
theorem mods_len (n : Nat) (css : List (List Int)) : (mods n css).length ≤ 2 ^ n := by
  unfold mods modsTo
  refine Nat.le_trans (List.length_filter_le _ _) ?_
  simp
theorem modF_len (n : Int) (css : List (List Int)) : (modF n css).length ≤ 65536 := by
  unfold modF; split
  · rename_i h
    simp only [Bool.and_eq_true, decide_eq_true_eq] at h
    have h1 := mods_len n.toNat css
    have h2 : 2 ^ n.toNat ≤ 2 ^ 16 := Nat.pow_le_pow_right (by omega) (by omega)
    omega
  · simp

set_option maxRecDepth 100000 in
set_option maxHeartbeats 1600000 in
theorem cnfCount_any (n : Int) (s : Value) (css : List (List Int)) (w : World) (hr : Rds w s css) (ht : Tens w) :
    Calls Tryd.prog 16 #[.agg #[.int .i64 n, s]] w fun e w' => e = .returned (.tuple #[.int .i64 (modF n css).length, .int .i64 (cntE n css)]) ∧ Below w.heap.size w w' := by
  have HX : Hid (Bx w n s css (w.alloc (.cells #[.int .i64 n, s] 24))) := Bx.new hr _
  have HT : Hid (Tens w) := ht
  obtain ⟨a, c, rfl, hc, hm, _⟩ := hr.form
  clear hr ht
  cases hf : frm n css
  · have HR : Hid (modF n css = [] ∧ cntE n css = 1) := by unfold modF cntE Hid; rw [hf]; exact ⟨rfl, rfl⟩
    go_enter Tryd.func16, Tryd.ntmps16
    go_wp2_with fail
    refine (cnfFormed_any n _ css _ HX.out.rd).mono ?_
    rw [hf]
    rintro e w1 ⟨rfl, bel1⟩
    have HX1 : Hid (Bx w n (.slice a css.length c) css w1) := HX.out.on bel1
    go_wp2
    go_returns
    rw [HR.out.1, HR.out.2]
    exact ⟨rfl, HX1.out.bel⟩
  have HF : Hid (frm n css = true) := hf
  cases h16 : decide (16 < n)
  case true =>
    have HR : Hid (modF n css = [] ∧ cntE n css = 4) := by
      have h : 16 < n := of_decide_eq_true h16
      unfold modF cntE Hid; rw [hf, decide_eq_false (by omega : ¬ n ≤ 16), if_pos h]; exact ⟨rfl, rfl⟩
    go_enter Tryd.func16, Tryd.ntmps16
    go_wp2_with fail
    refine (cnfFormed_any n _ css _ HX.out.rd).mono ?_
    rw [hf]
    rintro e w1 ⟨rfl, bel1⟩
    have HX1 : Hid (Bx w n (.slice a css.length c) css w1) := HX.out.on bel1
    have c0 := HX1.out.c0
    go_wp2
    go_returns
    rw [HR.out.1, HR.out.2]
    exact ⟨rfl, HX1.out.bel⟩
  have HE : Hid (cntE n css = 0) := by
    have h : ¬ 16 < n := of_decide_eq_false h16
    unfold cntE Hid; rw [hf, if_neg h]; rfl
  have hML := modF_len n css
  refine calls_marks 12 Tryd.func16 rfl ?_
  simp only [Tryd.ntmps16, List.size_toArray, List.length_cons, List.length_nil, Nat.reduceAdd, Nat.reduceSub, Array.replicate_succ, Array.replicate_zero, List.push_toArray, List.append_toArray, List.nil_append, List.cons_append]
  go_wp2_with fail
  refine (cnfFormed_any n _ css _ HX.out.rd).mono ?_
  rw [hf]
  rintro e w1 ⟨rfl, bel1⟩
  have HX1 : Hid (Bx w n (.slice a css.length c) css w1) := HX.out.on bel1
  have c0 := HX1.out.c0
  have hs1 : w.heap.size < w1.heap.size := World.block_lt_of_cell? w1 _ c0
  have HX2 : Hid (Bx w n (.slice a css.length c) css (w1.alloc (.cells #[.int .i64 0] 3))) := HX1.out.on (below_box _ _)
  have d0 := HX2.out.c0
  have d1 := HX2.out.c1
  have HN : Hid (B1 (w1.alloc (.cells #[.int .i64 0] 3)) w1.heap.size (.int .i64 0)) := B1.new _ _ _
  clear HX hf
  go_wp2_with fail
  refine (models_any n _ css _ HX2.out.rd (HT.out.below HX2.out.bel)).mono ?_
  rintro e w3 ⟨f, rfl, hg, bel3⟩
  have HX3 : Hid (Bx w n (.slice a css.length c) css w3) := HX2.out.on bel3
  have hN3 := HN.out.below bel3
  have HG : Hid (GivesB (w1.alloc (.cells #[.int .i64 0] 3)).heap.size (modF n css) f w3) := hg
  obtain ⟨gf, lb, rfl, -, -⟩ := hg
  clear HN d0 d1 c0 bel1 HX1 HX2
  have hsz3 : w1.heap.size + 1 ≤ w3.heap.size := by have := bel3.size; rwa [World.size_alloc] at this
  go_wp2
  obtain ⟨gf', lb', e', heg, hseq⟩ := HG.out
  cases e'
  have hB3 := HX3.out.bel
  refine (wpIn_wide (n := 12)).1 ?_
  refine' wpIn_rangeN rfl (by omega) (gf := gf) (lb := lb) rfl trivial heg (hseq (12 - 1) (by omega) _) Mid.trans (midK_b (Nat.le_refl _)) (fun W o h => h.alloc (Nat.le_refl _) o) (Mid.refl _ _ _) (fun _ => rfl)
    (fun pre W => B1 W w1.heap.size (.int .i64 (pre.length : Nat)) ∧ Below w.heap.size w W ∧ w3.heap.size ≤ W.heap.size)
    (fun c pre W => False)
    (OwnFrom.and (B1.own _ _ (fun s : List Itb => .int .i64 (s.length : Nat))) (OwnFrom.and (own_below (by omega) (Nat.le_refl _)) (fun s A B row hs hg hr => Nat.le_trans hs hg.size)))
    (fun s A B h hg => ⟨h.1.kept hg (by intro e; have := Option.some.inj e; omega), below_grown h.2.1 hg h.2.1.size (fun r e => by cases e; omega), Nat.le_trans h.2.2 hg.size⟩)
    (fun c s A B row hs hg hr => hs)
    (fun m pre => VB.own _ _ _ pre)
    ⟨hN3, hB3, Nat.le_refl _⟩
    _ ?assign ?body ?done ?stop
  case assign =>
    intro l x W K hK
    gi_wp2
    exact hK
  case body =>
    rintro l pre ⟨xv, xm⟩ S0 W ⟨h1, h2, h3⟩ hsz hS0 ⟨hpx, -⟩
    have hpl := hpx.length_le
    simp only [List.map_append, List.length_append, List.length_map, List.map_cons, List.map_nil, List.length_cons, List.length_nil] at hpl
    have HL : Hid (((pre ++ [((xv, xm) : Itb)]).length : Int) = (pre.length : Int) + 1) := by show _ = _; simp
    have g0 := h1.c
    have g1 := h1.f
    have HB1 : Hid (B1 W w1.heap.size (.int .i64 (pre.length : Nat))) := h1
    clear hpx h1
    generalize pre.length = m at *
    gi_wp2
    refine ⟨KeepsOthers.setCell _ _ _, ⟨⟨by rw [World.size_setCell]; exact Nat.le_refl _, fun k q1 q2 => Below.heap_setCell _ _ _ _ (by show k ≠ w1.heap.size; have := bel3.size; rw [World.size_alloc] at this q1; omega)⟩, Below.heap_setCell _ _ _ _ (by show w3.heap.size + 2 ≠ w1.heap.size; omega)⟩, ?_, ?_, ?_⟩
    · rw [HL.out]; exact HB1.out.set _
    · exact h2.setCell (p := ⟨w1.heap.size, 0, none⟩) (by show w.heap.size ≤ w1.heap.size; omega) _
    · rw [World.size_setCell]; exact h3
  case done =>
    rintro D xs W hD hS ⟨h1, h2, h3⟩ hK
    have hn : xs.length = (modF n css).length := by have := congrArg List.length hS; simpa using this
    rw [hn] at h1
    have g0 := h1.c
    go_wp2
    refine ⟨by simp, .inl ⟨_, _, rfl, run_takeDeferred hK, ?_⟩⟩
    refine ⟨.tuple #[.int .i64 (modF n css).length, .int .i64 0], by simp [results, Tryd.f16, go_sem], ?_, h2.trans (belowK_b (w := w) (Nat.le_refl _) _ D _ _ (by omega) hK rfl rfl)⟩
    rw [HE.out]
  case stop =>
    rintro D c pre W hD hSp h hK
    exact h.elim

end Go.Proofs.YtfklgfdkpmfdnaaDoor

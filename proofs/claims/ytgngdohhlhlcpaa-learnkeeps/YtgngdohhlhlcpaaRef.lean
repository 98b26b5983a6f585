/-
  The document's answer, walked: merged.
-/
import Derived.Test.YtgngdohhlhlcpaaLists
import Derived.Test.YtgngdohhlhlcpaaPlainRef
import Derived.WalkSpells
import Derived.Deep.LoopGhost
set_option linter.unusedSimpArgs false
set_option linter.unusedVariables false
namespace Go.Proofs.Ytgngdohhlhlcpaa
open Go.RowKit

/-- a cell of a list that is read, in a world that has grown -/
theorem cell_in {w wr : World} {b off k : Nat} {zs : List Int} (hb : b < w.heap.size) (bel : Below w.heap.size w wr) (hc : ∀ j, j < zs.length → w.cell? ⟨b, off + j, none⟩ = some (.int .i64 (zs.getD j 0))) (hk : k < zs.length) : wr.cell? ⟨b, off + k, none⟩ = some (.int .i64 (zs.getD k 0)) :=
  (bel.cell (p := ⟨b, off + k, none⟩) hb).trans (hc k hk)
theorem own_grow1 {base : Nat} {w : World} {v : Value} {out : List Int} {x : Int} (h : w.ownsRow base 3 1 v (out.length + 1) (out.map (Value.int .i64) ++ [.int .i64 x])) : Own base w v (out ++ [x]) := by
  simpa [Own] using h

/-- the address behind a list that is not empty -/
def AddrOf (w : World) (a : Option Addr) (zs : List Int) : Prop := zs ≠ [] → ∃ b off, a = some ⟨b, off, none⟩ ∧ b < w.heap.size ∧ ∀ j, j < zs.length → w.cell? ⟨b, off + j, none⟩ = some (.int .i64 (zs.getD j 0))

set_option maxHeartbeats 3200000 in
set_option maxRecDepth 100000 in
theorem merged_any (va vb : Value) (a b : List Int) (w : World) (ha : Rd w va a) (hb : Rd w vb b) (ra : a.Pairwise (fun x y => idx x < idx y)) (rb : b.Pairwise (fun x y => idx x < idx y)) (fa : ∀ x ∈ a, fmd x = true) (fb : ∀ x ∈ b, fmd x = true) :
    Calls Try.prog 57 #[va, vb] w fun e w' => ∃ v', e = .returned v' ∧ Own w.heap.size w' v' (tid (a ++ b)) ∧ Below w.heap.size w w' := by
  obtain ⟨hla, aa, ca, rfl, hca, hma, hna, h2a⟩ := ha
  obtain ⟨hlb, ab, cb, rfl, hcb, hmb, hnb, h2b⟩ := hb
  obtain ⟨i0, hi, hz0, hz1, hz2⟩ := info_parts Try.info3
  have H2a : Hid (AddrOf w aa a) := h2a
  have H2b : Hid (AddrOf w ab b) := h2b
  have RA : Hid (a.Pairwise (fun x y => idx x < idx y)) := ra
  have RB : Hid (b.Pairwise (fun x y => idx x < idx y)) := rb
  have FA : Hid (∀ x ∈ a, fmd x = true) := fa
  have FB : Hid (∀ x ∈ b, fmd x = true) := fb
  clear h2a h2b ra rb fa fb hna hnb
  go_enter Try.func57, Try.ntmps57
  go_wp2
  go_loopg [5, 6, 7] (a.length + b.length) (fun g v s6 s7 wr => ∃ (i j : Nat) (out : List Int), s6 = .int .i64 i ∧ s7 = .int .i64 j ∧ a.length + b.length ≤ i + j + g ∧ MI a b i j out ∧ Own w.heap.size wr v out ∧ Below w.heap.size w wr)
  case atStart => exact ⟨0, 0, [], rfl, rfl, by omega, MI.start a b, World.ownsRow_nil _ _ _ _, Below.refl _ _⟩
  case round =>
    obtain ⟨i, j, out, rfl, rfl, hg, mi, own, bel⟩ := hrel
    have hil := mi.hi
    have hjl := mi.hj
    have hol := mi.len FA.out FB.out
    have MIH : Hid (MI a b i j out) := mi
    clear mi
    by_cases hlt : i < a.length ∨ j < b.length
    · have hpos : i + j < a.length + b.length := by omega
      clear hlt
      by_cases hj' : j < b.length
      · by_cases hi' : i < a.length
        · rcases Int.lt_trichotomy (idx (a.getD i 0)) (idx (b.getD j 0)) with hc | hc | hc
          · obtain ⟨ba, oa, ea, hba, cela⟩ := H2a.out (by intro h; rw [h] at hi'; simp at hi')
            have hcx : wr.cell? ⟨ba, oa + i, none⟩ = some (.int .i64 (a.getD i 0)) := cell_in hba bel cela hi'
            clear cela
            subst ea
            obtain ⟨bb, ob, eb, hbb, celb⟩ := H2b.out (by intro h; rw [h] at hj'; simp at hj')
            have hcy : wr.cell? ⟨bb, ob + j, none⟩ = some (.int .i64 (b.getD j 0)) := cell_in hbb bel celb hj'
            clear celb
            subst eb
            have ST : Hid (MI a b (i + 1) j (out ++ [a.getD i 0])) := MIH.out.stepA RA.out hi' (fun _ => hc)
            have g1 : ((j : Int) == (b.length : Int)) = false := beq_eq_false_iff_ne.2 (by omega)
            generalize a.getD i 0 = x at *
            generalize b.getD j 0 = y at *
            go_wp2
            go_quiet ((go_at_call 61; exact Calls.quiet_of_same (refIndex_any _ _)))
            go_wp2_with (at_builtin; refine wpList_append_own _ rfl _ _ 23 rfl w.heap.size 3 i0 (.int .i64 0) 1 8 Try.underlying23 hi hz0 hz1 hz2 rfl (by decide) _ out.length (out.map (Value.int .i64)) rfl (World.ownsRow.alloc (own.below (below_drewN _ _)) _) _ 1 1 [.int .i64 x] rfl rfl (cell_one_new _ _ _) (by simp [Value.oneCell']) (by unfold maxLen; omega) (by omega) (by have := bel.size; simp; omega) ?_; intro v2 w2 own2 gr2 hn2)
            go_roundg (gk - 1)
            case measure => omega
            case rel => exact ⟨i + 1, j, _, by go_num, by go_num, by omega, ST.out, own_grow1 own2, (bel.trans ((below_drewN wr _).mono bel.size)).alloc (by have := bel.size; simp; omega) _ |>.grown gr2 (by have := bel.size; simp; omega) (fun k hk => (own.lt k hk).1)⟩
          · obtain ⟨ba, oa, ea, hba, cela⟩ := H2a.out (by intro h; rw [h] at hi'; simp at hi')
            have hcx : wr.cell? ⟨ba, oa + i, none⟩ = some (.int .i64 (a.getD i 0)) := cell_in hba bel cela hi'
            clear cela
            subst ea
            obtain ⟨bb, ob, eb, hbb, celb⟩ := H2b.out (by intro h; rw [h] at hj'; simp at hj')
            have hcy : wr.cell? ⟨bb, ob + j, none⟩ = some (.int .i64 (b.getD j 0)) := cell_in hbb bel celb hj'
            clear celb
            subst eb
            have he : a.getD i 0 = b.getD j 0 := idx_inj (FA.out _ (by rw [List.getD_eq_getElem?_getD, List.getElem?_eq_getElem hi']; exact List.getElem_mem hi')) (FB.out _ (by rw [List.getD_eq_getElem?_getD, List.getElem?_eq_getElem hj']; exact List.getElem_mem hj')) hc
            have ST : Hid (MI a b (i + 1) (j + 1) (out ++ [a.getD i 0])) := MIH.out.stepAB RA.out RB.out hi' hj' he
            have g1 : ((j : Int) == (b.length : Int)) = false := beq_eq_false_iff_ne.2 (by omega)
            have g2 : ((i : Int) == (a.length : Int)) = false := beq_eq_false_iff_ne.2 (by omega)
            rw [← he] at hcy
            clear he hc
            generalize a.getD i 0 = x at *
            go_wp2
            go_quiet ((go_at_call 61; exact Calls.quiet_of_same (refIndex_any _ _)))
            have hcx2 : (wr.drewN nq).cell? ⟨ba, oa + i, none⟩ = some (.int .i64 x) := hcx
            have hcy2 : (wr.drewN nq).cell? ⟨bb, ob + j, none⟩ = some (.int .i64 x) := hcy
            have own3 := own.below (below_drewN wr nq)
            have bel3 : Below w.heap.size w (wr.drewN nq) := bel.trans ((below_drewN wr nq).mono bel.size)
            clear hcx hcy own bel
            generalize wr.drewN nq = wq at *
            go_wp2
            go_quiet ((go_at_call 61; exact Calls.quiet_of_same (refIndex_any _ _)))
            go_wp2_with (at_builtin; refine wpList_append_own _ rfl _ _ 23 rfl w.heap.size 3 i0 (.int .i64 0) 1 8 Try.underlying23 hi hz0 hz1 hz2 rfl (by decide) _ out.length (out.map (Value.int .i64)) rfl (World.ownsRow.alloc (own3.below (below_drewN _ _)) _) _ 1 1 [.int .i64 x] rfl rfl (cell_one_new _ _ _) (by simp [Value.oneCell']) (by unfold maxLen; omega) (by omega) (by have := bel3.size; simp; omega) ?_; intro v2 w2 own2 gr2 hn2)
            go_roundg (gk - 1)
            case measure => omega
            case rel => exact ⟨i + 1, j + 1, _, by go_num, by go_num, by omega, ST.out, own_grow1 own2, (bel3.trans ((below_drewN wq _).mono bel3.size)).alloc (by have := bel3.size; simp; omega) _ |>.grown gr2 (by have := bel3.size; simp; omega) (fun k hk => (own3.lt k hk).1)⟩
          · obtain ⟨ba, oa, ea, hba, cela⟩ := H2a.out (by intro h; rw [h] at hi'; simp at hi')
            have hcx : wr.cell? ⟨ba, oa + i, none⟩ = some (.int .i64 (a.getD i 0)) := cell_in hba bel cela hi'
            clear cela
            subst ea
            obtain ⟨bb, ob, eb, hbb, celb⟩ := H2b.out (by intro h; rw [h] at hj'; simp at hj')
            have hcy : wr.cell? ⟨bb, ob + j, none⟩ = some (.int .i64 (b.getD j 0)) := cell_in hbb bel celb hj'
            clear celb
            subst eb
            have ST : Hid (MI a b i (j + 1) (out ++ [b.getD j 0])) := MIH.out.stepB RB.out hj' (fun _ => hc)
            have g1 : ((j : Int) == (b.length : Int)) = false := beq_eq_false_iff_ne.2 (by omega)
            have g2 : ((i : Int) == (a.length : Int)) = false := beq_eq_false_iff_ne.2 (by omega)
            generalize a.getD i 0 = x at *
            generalize b.getD j 0 = y at *
            have g3 : decide (idx x < idx y) = false := decide_eq_false (by omega)
            go_wp2
            go_quiet ((go_at_call 61; exact Calls.quiet_of_same (refIndex_any _ _)))
            have hcx2 : (wr.drewN nq).cell? ⟨ba, oa + i, none⟩ = some (.int .i64 x) := hcx
            have hcy2 : (wr.drewN nq).cell? ⟨bb, ob + j, none⟩ = some (.int .i64 y) := hcy
            have own3 := own.below (below_drewN wr nq)
            have bel3 : Below w.heap.size w (wr.drewN nq) := bel.trans ((below_drewN wr nq).mono bel.size)
            clear hcx hcy own bel
            generalize wr.drewN nq = wq at *
            go_wp2
            go_quiet ((go_at_call 61; exact Calls.quiet_of_same (refIndex_any _ _)))
            go_wp2_with (at_builtin; refine wpList_append_own _ rfl _ _ 23 rfl w.heap.size 3 i0 (.int .i64 0) 1 8 Try.underlying23 hi hz0 hz1 hz2 rfl (by decide) _ out.length (out.map (Value.int .i64)) rfl (World.ownsRow.alloc (own3.below (below_drewN _ _)) _) _ 1 1 [.int .i64 y] rfl rfl (cell_one_new _ _ _) (by simp [Value.oneCell']) (by unfold maxLen; omega) (by omega) (by have := bel3.size; simp; omega) ?_; intro v2 w2 own2 gr2 hn2)
            go_roundg (gk - 1)
            case measure => omega
            case rel => exact ⟨i, j + 1, _, by go_num, by go_num, by omega, ST.out, own_grow1 own2, (bel3.trans ((below_drewN wq _).mono bel3.size)).alloc (by have := bel3.size; simp; omega) _ |>.grown gr2 (by have := bel3.size; simp; omega) (fun k hk => (own3.lt k hk).1)⟩
        · obtain ⟨bb, ob, eb, hbb, celb⟩ := H2b.out (by intro h; rw [h] at hj'; simp at hj')
          have hcy : wr.cell? ⟨bb, ob + j, none⟩ = some (.int .i64 (b.getD j 0)) := cell_in hbb bel celb hj'
          clear celb
          subst eb
          have ST : Hid (MI a b i (j + 1) (out ++ [b.getD j 0])) := MIH.out.stepB RB.out hj' (fun h => absurd h hi')
          obtain rfl : i = a.length := by omega
          have g1 : ((j : Int) == (b.length : Int)) = false := beq_eq_false_iff_ne.2 (by omega)
          have g2 : decide ((a.length : Int) < (a.length : Int)) = false := by simp
          generalize b.getD j 0 = y at *
          go_wp2
          go_quiet (fail)
          go_wp2
          go_quiet (fail)
          go_wp2_with (at_builtin; refine wpList_append_own _ rfl _ _ 23 rfl w.heap.size 3 i0 (.int .i64 0) 1 8 Try.underlying23 hi hz0 hz1 hz2 rfl (by decide) _ out.length (out.map (Value.int .i64)) rfl (World.ownsRow.alloc (own.below (below_drewN _ _)) _) _ 1 1 [.int .i64 y] rfl rfl (cell_one_new _ _ _) (by simp [Value.oneCell']) (by unfold maxLen; omega) (by omega) (by have := bel.size; simp; omega) ?_; intro v2 w2 own2 gr2 hn2)
          go_roundg (gk - 1)
          case measure => omega
          case rel => exact ⟨a.length, j + 1, _, by go_num, by go_num, by omega, ST.out, own_grow1 own2, (bel.trans ((below_drewN wr _).mono bel.size)).alloc (by have := bel.size; simp; omega) _ |>.grown gr2 (by have := bel.size; simp; omega) (fun k hk => (own.lt k hk).1)⟩
      · have hi' : i < a.length := by omega
        obtain ⟨ba, oa, ea, hba, cela⟩ := H2a.out (by intro h; rw [h] at hi'; simp at hi')
        have hcx : wr.cell? ⟨ba, oa + i, none⟩ = some (.int .i64 (a.getD i 0)) := cell_in hba bel cela hi'
        clear cela
        subst ea
        have ST : Hid (MI a b (i + 1) j (out ++ [a.getD i 0])) := MIH.out.stepA RA.out hi' (fun h => absurd h hj')
        obtain rfl : j = b.length := by omega
        generalize a.getD i 0 = x at *
        go_wp2
        go_quiet (fail)
        go_wp2_with (at_builtin; refine wpList_append_own _ rfl _ _ 23 rfl w.heap.size 3 i0 (.int .i64 0) 1 8 Try.underlying23 hi hz0 hz1 hz2 rfl (by decide) _ out.length (out.map (Value.int .i64)) rfl (World.ownsRow.alloc (own.below (below_drewN _ _)) _) _ 1 1 [.int .i64 x] rfl rfl (cell_one_new _ _ _) (by simp [Value.oneCell']) (by unfold maxLen; omega) (by omega) (by have := bel.size; simp; omega) ?_; intro v2 w2 own2 gr2 hn2)
        go_roundg (gk - 1)
        case measure => omega
        case rel => exact ⟨i + 1, b.length, _, by go_num, by go_num, by omega, ST.out, own_grow1 own2, (bel.trans ((below_drewN wr _).mono bel.size)).alloc (by have := bel.size; simp; omega) _ |>.grown gr2 (by have := bel.size; simp; omega) (fun k hk => (own.lt k hk).1)⟩
    · obtain rfl : i = a.length := by omega
      obtain rfl : j = b.length := by omega
      have HE : Hid (out = tid (a ++ b)) := MIH.out.fin FA.out FB.out
      go_wp2
      go_ret
      exact ⟨_, rfl, by rw [← HE.out]; exact own, bel⟩

end Go.Proofs.Ytgngdohhlhlcpaa

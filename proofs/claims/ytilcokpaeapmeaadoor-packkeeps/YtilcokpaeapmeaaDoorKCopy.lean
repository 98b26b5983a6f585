/-
  CopyInts, CopyClauses, CopyFormula, walked; a formula that is built on from what was copied.
-/
import Derived.Test.YtilcokpaeapmeaaDoorKFormAns
import Derived.Laws.Rows
import Derived.Lib.Hide
set_option linter.unusedSimpArgs false
set_option linter.unusedVariables false
namespace Go.Proofs.YtilcokpaeapmeaaDoor
open Go.RowKit

theorem own_one_more {base : Nat} {w : World} {v : Value} {out : List Int} {x : Int} (h : w.ownsRow base 3 1 v (out.length + 1) (out.map (Value.int .i64) ++ [.int .i64 x])) : Own base w v (out ++ [x]) := by
  unfold Own; simpa using h
theorem rds_each {w : World} {v : Value} {css : List (List Int)} (h : Rds w v css) : ∀ z ∈ css, z.length * 8 ≤ 140737488351232 := fun z hz => by
  obtain ⟨k, hk, rfl⟩ := List.getElem_of_mem hz
  obtain ⟨_, _, _, _, _, hc⟩ := h.form
  obtain ⟨_, _, u, _, _, hr⟩ := hc k hk
  have := hr.len
  simpa [List.getD_eq_getElem?_getD, hk] using this
theorem ownf_form {B : Nat} {W : World} {s : Value} {css : List (List Int)} (h : OwnF B W s css) : ∃ a c, s = .slice a css.length c := by
  obtain ⟨L, h, rfl⟩ := h
  obtain ⟨a, c, e⟩ := row_form h.row
  exact ⟨a, c, by rw [e]; simp⟩

set_option maxHeartbeats 1600000 in
theorem copyInts_any (v : Value) (zs : List Int) (w : World) (hr : Rd w v zs) :
    Calls Tryd.prog 36 #[v] w fun e w' => ∃ u, e = .returned u ∧ Own w.heap.size w' u zs ∧ Below w.heap.size w w' := by
  have hl := hr.len
  have HR : Hid (Rd w v zs) := hr
  obtain ⟨a, c, rfl, hc, hm, _⟩ := hr.form
  obtain ⟨i0, hi, hz0, hz1, hz2⟩ := info_parts Tryd.info3
  clear hr
  go_enter Tryd.func36, Tryd.ntmps36
  go_wp2
  go_loopg [3, 4] zs.length (fun g u i wr => ∃ k : Nat, k + g = zs.length ∧ i = .int .i64 k ∧ Own w.heap.size wr u (zs.take k) ∧ Below w.heap.size w wr)
  case atStart => exact ⟨0, by omega, rfl, World.ownsRow_nil _ _ _ _, Below.refl _ _⟩
  case round =>
    obtain ⟨k, hk, rfl, own, bel⟩ := hrel
    have HK : Hid (k + gk = zs.length) := hk
    have hs := bel.size
    by_cases hlt : k < zs.length
    · obtain ⟨a', c', e', _, _, hcell⟩ := (HR.out.below bel).form
      have e3 : a' = a ∧ c' = c := by injection e' with q1 q2 q3; exact ⟨q1.symm, q3.symm⟩
      obtain ⟨rfl, rfl⟩ := e3
      obtain ⟨b, off, rfl, hck⟩ := hcell k hlt
      have HS : Hid (zs.take (k + 1) = zs.take k ++ [zs.getD k 0]) := take_succ_getD zs 0 k hlt
      have hlk : (zs.take k).length ≤ k := by simp; omega
      clear hk hcell e'
      generalize zs.take k = out at *
      generalize zs.getD k 0 = z at *
      go_wp2_with (at_builtin; refine wpList_append_own _ rfl _ _ 58 rfl w.heap.size 3 i0 (.int .i64 0) 1 8 Tryd.underlying58 hi hz0 hz1 hz2 rfl (by decide) _ out.length (out.map (Value.int .i64)) rfl (World.ownsRow.alloc own _) _ 1 1 [.int .i64 z] rfl rfl (cell_one_new _ _ _) (by simp [Value.oneCell']) (by unfold maxLen; omega) (by omega) (by simp; omega) ?_; intro v2 w2 own2 gr2 hn2)
      go_roundg (gk - 1)
      case measure => have := HK.out; omega
      case rel => exact ⟨k + 1, by have := HK.out; omega, by go_num, by rw [HS.out]; exact own_one_more own2, (bel.alloc hs _).grown gr2 (by simp; omega) (fun j hj => (own.lt j hj).1)⟩
    · obtain rfl : k = zs.length := by omega
      rw [List.take_length] at own
      clear hk
      go_wp2
      go_ret
      exact ⟨_, rfl, own, bel⟩

end Go.Proofs.YtilcokpaeapmeaaDoor

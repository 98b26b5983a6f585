/-
  CopyBools, walked.
-/
import Derived.Test.YtpebpnbikdahkaaDoorTruth
import Derived.Deep.LoopGhost
import Derived.Laws.OwnMore
import Derived.Lib.Hide
set_option linter.unusedSimpArgs false
set_option linter.unusedVariables false
namespace Go.Proofs.YtpebpnbikdahkaaDoor
open Go Go.RowKit

theorem infoBo : (Tryd.prog.info? 4).map (fun i => (i.zero, i.size, i.bytes)) = some (some (.bool false), 1, 1) := by kernel_rfl
/-- a list of truths of the call's own -/
def OwnBo (base : Nat) (w : World) (v : Value) (ms : List Bool) : Prop := w.ownsRow base 4 1 v ms.length (ms.map Value.bool)
theorem OwnBo.one {base : Nat} {w : World} {v : Value} {ms : List Bool} {b : Bool} (h : w.ownsRow base 4 1 v (ms.length + 1) (ms.map Value.bool ++ [.bool b])) : OwnBo base w v (ms ++ [b]) := by
  unfold OwnBo; simpa using h
theorem OwnBo.rd {base : Nat} {w : World} {v : Value} {ms : List Bool} (h : OwnBo base w v ms) (hl : ms.length ≤ 140737488351232) : RdB w v ms := by
  rcases h.2 with ⟨rfl, h0⟩ | ⟨g, cap, cur, rfl, hb, hg, hn, hc, hs, ht⟩
  · have : ms = [] := List.length_eq_zero_iff.1 h0
    subst this; exact RdB.nil w
  · refine ⟨hl, some ⟨g, 0, none⟩, cap, rfl, fun hne => ⟨g, 0, rfl, (Array.getElem?_eq_some_iff.1 hg).1, fun k hk => ?_⟩⟩
    have h' : w.ownsRow base 4 1 (.slice (some ⟨g, 0, none⟩) ms.length cap) ms.length (ms.map Value.bool) := h
    rw [Nat.zero_add, World.ownsRow.cellAt h' k (by omega)]
    simp [List.getD_eq_getElem?_getD, hk]

set_option maxHeartbeats 1600000 in
theorem copyBools_any (v : Value) (ms : List Bool) (w : World) (hr : RdB w v ms) (hl : ms.length ≤ 70368744177664) :
    Calls Tryd.prog 5 #[v] w fun e w' => ∃ u, e = .returned u ∧ OwnBo w.heap.size w' u ms ∧ Below w.heap.size w w' := by
  have HR : Hid (RdB w v ms) := hr
  obtain ⟨a, c, rfl, _⟩ := hr.form
  obtain ⟨i0, hi, hz0, hz1, hz2⟩ := info_parts infoBo
  clear hr
  go_enter Tryd.func5, Tryd.ntmps5
  go_wp2
  go_loopg [3, 4] ms.length (fun g u i wr => ∃ k : Nat, k + g = ms.length ∧ i = .int .i64 k ∧ OwnBo w.heap.size wr u (ms.take k) ∧ Below w.heap.size w wr)
  case atStart => exact ⟨0, by omega, rfl, World.ownsRow_nil _ _ _ _, Below.refl _ _⟩
  case round =>
    obtain ⟨k, hk, rfl, own, bel⟩ := hrel
    have HK : Hid (k + gk = ms.length) := hk
    have hs := bel.size
    by_cases hlt : k < ms.length
    · obtain ⟨a', c', e', hcell⟩ := (HR.out.below bel).form
      have e3 : a' = a ∧ c' = c := by injection e' with q1 q2 q3; exact ⟨q1.symm, q3.symm⟩
      obtain ⟨rfl, rfl⟩ := e3
      obtain ⟨b, off, rfl, hck⟩ := hcell k hlt
      have HS : Hid (ms.take (k + 1) = ms.take k ++ [ms.getD k false]) := take_succ_getD ms false k hlt
      have hlk : (ms.take k).length ≤ k := by simp; omega
      clear hk hcell e'
      generalize ms.take k = out at *
      generalize ms.getD k false = z at *
      go_wp2_with (at_builtin; refine wpList_append_own _ rfl _ _ 22 rfl w.heap.size 4 i0 (.bool false) 1 1 Tryd.underlying22 hi hz0 hz1 hz2 rfl (by decide) _ out.length (out.map Value.bool) rfl (World.ownsRow.alloc own _) _ 1 1 [.bool z] rfl rfl (cell_one_new _ _ _) (by simp [Value.oneCell']) (by unfold maxLen; omega) (by omega) (by simp; omega) ?_; intro v2 w2 own2 gr2 hn2)
      go_roundg (gk - 1)
      case measure => have := HK.out; omega
      case rel => exact ⟨k + 1, by have := HK.out; omega, by go_num, by rw [HS.out]; exact OwnBo.one own2, (bel.alloc hs _).grown gr2 (by simp; omega) (fun j hj => (own.lt j hj).1)⟩
    · obtain rfl : k = ms.length := by omega
      rw [List.take_length] at own
      clear hk
      go_wp2
      go_ret
      exact ⟨_, rfl, own, bel⟩

end Go.Proofs.YtpebpnbikdahkaaDoor

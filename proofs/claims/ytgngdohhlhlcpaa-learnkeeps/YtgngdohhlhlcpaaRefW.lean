/-
  The document's Without, walked (for a seat without lits.find).
-/
import Derived.Test.YtgngdohhlhlcpaaRefB
set_option linter.unusedSimpArgs false
set_option linter.unusedVariables false
namespace Go.Proofs.Ytgngdohhlhlcpaa
open Go.RowKit

def wout (t : List Int) (l : Int) : List Int := t.filter (fun x => x != l)
theorem wout_take_yes {t : List Int} {l : Int} {k : Nat} (h : k < t.length) (hf : (t.getD k 0 == l) = false) : wout (t.take (k + 1)) l = wout (t.take k) l ++ [t.getD k 0] := by
  unfold wout
  rw [List.take_succ_eq_append_getElem h, List.filter_append]
  have e : t.getD k 0 = t[k] := by simp [List.getD_eq_getElem?_getD, List.getElem?_eq_getElem h]
  rw [e] at hf ⊢
  have hb : (t[k] != l) = true := by rw [bne_iff_ne]; exact beq_eq_false_iff_ne.1 hf
  rw [List.filter_cons_of_pos (by exact hb)]
  rfl
theorem wout_take_no {t : List Int} {l : Int} {k : Nat} (h : k < t.length) (hf : (t.getD k 0 == l) = true) : wout (t.take (k + 1)) l = wout (t.take k) l := by
  unfold wout
  rw [List.take_succ_eq_append_getElem h, List.filter_append]
  have e : t.getD k 0 = t[k] := by simp [List.getD_eq_getElem?_getD, List.getElem?_eq_getElem h]
  rw [e] at hf
  have hb : ¬ (t[k] != l) = true := by rw [bne_iff_ne]; simp [beq_iff_eq.1 hf]
  rw [List.filter_cons_of_neg (by exact hb)]
  simp
theorem wout_len (t : List Int) (l : Int) : (wout t l).length ≤ t.length := List.length_filter_le _ _

set_option maxHeartbeats 800000 in
theorem refWithout_any (v : Value) (zs : List Int) (l : Int) (w : World) (hr : Rd w v zs) :
    Calls Try.prog 39 #[v, .int .i64 l] w fun e w' => ∃ v', e = .returned v' ∧ Own w.heap.size w' v' (wout (tid zs) l) ∧ Below w.heap.size w w' := by
  have HT : Hid (Calls Try.prog 34 #[v] w fun e w' => ∃ v', e = .returned v' ∧ Own w.heap.size w' v' (tid zs) ∧ Below w.heap.size w w') := refTidy v zs w hr
  have hl := tid_len zs
  clear hr
  generalize tid zs = t at *
  obtain ⟨i0, hi, hz0, hz1, hz2⟩ := info_parts Try.info3
  go_enter Try.func39, Try.ntmps39
  go_wp2_with fail
  refine HT.out.mono ?_
  rintro e w1 ⟨v1, rfl, own, bel⟩
  have hrd := own.rd (by omega)
  clear own HT
  rcases hrd.cases with ⟨rfl, a, c, rfl, _, _⟩ | ⟨b, off, c, rfl, hpos, hc, hm, hb, hcell⟩
  · go_wp2
    refine wp_loop_rounds 1 ?_
    rw [rounds_succ]
    go_wp2
    go_ret
    exact ⟨_, rfl, World.ownsRow_nil _ _ _ _, bel⟩
  · have HC : Hid (∀ j, j < t.length → w1.cell? ⟨b, off + j, none⟩ = some (.int .i64 (t.getD j 0))) := hcell
    clear hcell hrd
    go_wp2
    go_loopg [6, 7] t.length (fun g v i wr => ∃ k : Nat, k + g = t.length ∧ i = .int .i64 k ∧ Own w1.heap.size wr v (wout (t.take k) l) ∧ Below w1.heap.size w1 wr)
    case atStart => exact ⟨0, by omega, rfl, World.ownsRow_nil _ _ _ _, Below.refl _ _⟩
    case round =>
      obtain ⟨k, hk, rfl, own, bel2⟩ := hrel
      have HK : Hid (k + gk = t.length) := hk
      by_cases hlt : k < t.length
      · have hck : wr.cell? ⟨b, off + k, none⟩ = some (.int .i64 (t.getD k 0)) := cell_in hb bel2 HC.out hlt
        have hwl : (wout (t.take k) l).length ≤ 2097152 := by have h3 := wout_len (t.take k) l; rw [List.length_take] at h3; omega
        clear hk
        cases hq : (t.getD k 0 == l)
        · have HW : Hid (wout (t.take (k + 1)) l = wout (t.take k) l ++ [t.getD k 0]) := wout_take_yes hlt hq
          have hq' : (t.getD k 0 != l) = true := by rw [bne_iff_ne]; exact beq_eq_false_iff_ne.1 hq
          generalize t.getD k 0 = z at *
          generalize wout (t.take k) l = out at *
          go_wp2_with (at_builtin; refine wpList_append_own _ rfl _ _ 23 rfl w1.heap.size 3 i0 (.int .i64 0) 1 8 Try.underlying23 hi hz0 hz1 hz2 rfl (by decide) _ out.length (out.map (Value.int .i64)) rfl (World.ownsRow.alloc own _) _ 1 1 [.int .i64 z] rfl rfl (cell_one_new _ _ _) (by simp [Value.oneCell']) (by unfold maxLen; omega) (by omega) (by have := bel2.size; simp; omega) ?_; intro v2 w2 own2 gr2 hn2)
          go_roundg (gk - 1)
          case measure => have := HK.out; omega
          case rel => exact ⟨k + 1, by have := HK.out; omega, by go_num, by rw [HW.out]; exact own_grow1 own2, (bel2.alloc bel2.size _).grown gr2 (by have := bel2.size; simp; omega) (fun j hj => (own.lt j hj).1)⟩
        · have HW : Hid (wout (t.take (k + 1)) l = wout (t.take k) l) := wout_take_no hlt hq
          have hq' : (t.getD k 0 != l) = false := by rw [bne_eq_false_iff_eq]; exact beq_iff_eq.1 hq
          generalize t.getD k 0 = z at *
          go_wp2
          go_roundg (gk - 1)
          case measure => have := HK.out; omega
          case rel => exact ⟨k + 1, by have := HK.out; omega, by go_num, by rw [HW.out]; exact own, bel2⟩
      · obtain rfl : k = t.length := by omega
        rw [List.take_length] at own
        clear hk
        go_wp2
        go_ret
        exact ⟨_, rfl, own.mono bel.size, Below.step bel bel2⟩

end Go.Proofs.Ytgngdohhlhlcpaa

/-
  (truths).after, walked.
-/
import Derived.Test.YtfklgfdkpmfdnaaDoorBits
import Derived.Test.YtfklgfdkpmfdnaaDoorGrow
import Derived.Deep.WholeRow
import Derived.Laws.ResultCell
import Derived.Lib.Hide
import Derived.Lib.SmallJoins
import Derived.Deep.LoopGhost
import Derived.Deep.CutRange
import Derived.Handy
set_option linter.unusedSimpArgs false
set_option linter.unusedVariables false
namespace Go.Proofs.YtfklgfdkpmfdnaaDoor
open Go Go.RowKit Go.Joins

/-- sixteen truths in cells -/
def bc (L : List Bool) : Array Value := (L.map Value.bool).toArray
theorem bc_size {L : List Bool} (h : L.length = 16) : (bc L).size = 16 := by simp [bc, h]
/-- a box of sixteen truths -/
def Bt (W : World) (D : Nat) (L : List Bool) : Prop := W.heap[D]? = some (.cells (bc L) 65 (0, 0)) ∧ L.length = 16

theorem infoTr : (Tryd.prog.info? 65).map (fun i => (i.zero, i.size)) = some (some (.agg (Array.replicate 16 (.bool false))), 16) := by kernel_rfl
theorem sizeTr : (Tryd.prog.info? 65).map (·.size) = some 16 := (zero_of_info infoTr).2
theorem undTr : ∃ e, Tryd.prog.underlying 65 = some (.array 16 e) := ⟨_, Tryd.underlying65⟩
theorem Bt.len {W : World} {D : Nat} {L : List Bool} (h : Bt W D L) : L.length = 16 := h.2
theorem Bt.lt {W : World} {D : Nat} {L : List Bool} (h : Bt W D L) : D < W.heap.size := (Array.getElem?_eq_some_iff.1 h.1).1
theorem Bt.load {W : World} {D : Nat} {L : List Bool} (h : Bt W D L) : (loadVar 65 ⟨D, 0, none⟩).run Tryd.prog W = .ok (.agg (bc L)) W := by
  obtain ⟨e, hu⟩ := undTr
  exact run_loadVar_row W D 65 65 (bc L) (0, 0) _ h.1 hu rfl (by rw [sizeTr, bc_size h.2])
theorem Bt.loadAt {W : World} {D : Nat} {L : List Bool} (h : Bt W D L) : (Instr.loadAt 65 (.pointer (some ⟨D, 0, none⟩))).run Tryd.prog W = .ok (.agg (bc L)) W := by
  simp only [Instr.loadAt, Instr.sureAddr, Sem.run_bind, Sem.run_pure, Result.andThen]
  exact h.load
theorem bc_one (L : List Bool) : (bc L).all (·.oneCell') = true := by
  rw [Array.all_eq_true_iff_forall_mem]
  intro x hx
  simp only [bc, List.mem_toArray, List.mem_map] at hx
  obtain ⟨b, _, rfl⟩ := hx; rfl
theorem Bt.store {W : World} {D : Nat} {L L' : List Bool} (h : Bt W D L) (hL : L'.length = 16) : (storeVar 65 ⟨D, 0, none⟩ (.agg (bc L'))).run Tryd.prog W = .ok () (W.setRow D (bc L')) :=
  run_storeVar_row W D 65 65 (bc L) (bc L') h.1 (by rw [sizeTr, bc_size hL]) (by rw [bc_size h.2, bc_size hL]) (bc_one L')
theorem Bt.storeAt {W : World} {D : Nat} {L L' : List Bool} (h : Bt W D L) (hL : L'.length = 16) : (Instr.storeAt 65 (.pointer (some ⟨D, 0, none⟩)) (.agg (bc L'))).run Tryd.prog W = .ok () (W.setRow D (bc L')) := by
  simp only [Instr.storeAt, Instr.sureAddr, Sem.run_bind, Sem.run_pure, Result.andThen]
  exact h.store hL
theorem Bt.row {W : World} {D : Nat} {L L' : List Bool} (h : Bt W D L) (hL : L'.length = 16) : Bt (W.setRow D (bc L')) D L' := ⟨setRow_heap W D _ _ _ _ h.1, hL⟩
theorem Bt.set {W : World} {D k : Nat} {L : List Bool} (h : Bt W D L) (b : Bool) : Bt (W.setCell ⟨D, k, none⟩ (.bool b)) D (L.set k b) := by
  refine ⟨?_, by rw [List.length_set]; exact h.2⟩
  rw [block_setCell h.1]
  simp [bc, List.map_set]
theorem Bt.cell {W : World} {D k : Nat} {L : List Bool} (h : Bt W D L) (hk : k < 16) : W.cell? ⟨D, k, none⟩ = some (.bool (L.getD k false)) := by
  rw [cell_of_block h.1]
  have : k < L.length := by rw [h.2]; exact hk
  simp [bc, List.getD_eq_getElem?_getD, this]
theorem Bt.free {W : World} {D k : Nat} {L : List Bool} (h : Bt W D L) : W.frozen? ⟨D, k, none⟩ = false := unfrozen_of_block h.1 k
theorem Bt.kept {W W' : World} {row : Option Nat} {D : Nat} {L : List Bool} (h : Bt W D L) (hg : W.grownBy W' row) (hne : some D ≠ row) : Bt W' D L := ⟨(hg.block D h.lt hne).trans h.1, h.2⟩
theorem Bt.below {W W' : World} {D : Nat} {L : List Bool} (h : Bt W D L) (hb : Below W.heap.size W W') : Bt W' D L := ⟨(hb.block D h.lt).trans h.1, h.2⟩
theorem wpList_load_tr {ops : Array Oper} {rest : List Oper} {op : Oper} {a : Act} {W : World} {Q : Exit → Act → World → Prop} (hgd : op.guard = none) (x : Operand) (ho : op.op = .load 65 x) {D : Nat} {L : List Bool}
    (hx : a.eval x = .pointer (some ⟨D, 0, none⟩)) (hB : Bt W D L) (h : wpList Tryd.prog ops Q rest (a.put op.dst (.agg (bc L))) W) : wpList Tryd.prog ops Q (op :: rest) a W := by
  refine wpList_plain hgd fun K hK => ?_
  unfold Oper.wp execOp
  simp only [ho, hx, hB.loadAt, Sem.run_bind, Sem.run_pure, Result.andThen_ok]
  exact hK _ _ h
theorem wpList_store_tr {ops : Array Oper} {rest : List Oper} {op : Oper} {a : Act} {W : World} {Q : Exit → Act → World → Prop} (hgd : op.guard = none) (x y : Operand) (ho : op.op = .store 65 x y) {D : Nat} {L L' : List Bool}
    (hx : a.eval x = .pointer (some ⟨D, 0, none⟩)) (hy : a.eval y = .agg (bc L')) (hB : Bt W D L) (hL : L'.length = 16) (h : wpList Tryd.prog ops Q rest (a.put op.dst undef) (W.setRow D (bc L'))) : wpList Tryd.prog ops Q (op :: rest) a W := by
  refine wpList_plain hgd fun K hK => ?_
  unfold Oper.wp execOp
  simp only [ho, hx, hy, hB.storeAt hL, Sem.run_bind, Sem.run_pure, Result.andThen_ok]
  exact hK _ _ h
theorem ret_tr {fn : Func} {p u : Tmp} {tmps : Array Value} {W : World} {D : Nat} {L : List Bool} (h : fn.results = #[.cell p 65, .tmp u]) (hp : tmps.getD p undef = .pointer (some ⟨D, 0, none⟩)) (hb : Bt W D L) : (results fn tmps).run Tryd.prog W = .ok (.tuple #[.agg (bc L), tmps.getD u undef]) W := by
  rw [results_cell_tmp h, hp]
  simp [asAddr, Result.andThen, hb.load]
theorem grown_setRow (W : World) (D : Nat) (c : Array Value) : W.grownBy (W.setRow D c) (some D) := by
  refine ⟨rfl, rfl, rfl, by simp [World.setRow], fun k hk hne => ?_⟩
  simp only [World.setRow]
  rw [Array.getElem?_modify, if_neg (fun e => hne (by rw [e]))]

theorem below_row {B D : Nat} {w W : World} (h : Below B w W) (hD : B ≤ D) (hs : B ≤ W.heap.size) (c : Array Value) : Below B w (W.setRow D c) := h.grown (grown_setRow W D c) hs (fun k e => by cases e; exact hD)

set_option maxRecDepth 100000 in
set_option maxHeartbeats 3200000 in
theorem after_any (L : List Bool) (n : Nat) (hL : L.length = 16) (hn : n ≤ 16) (w : World) :
    Calls Tryd.prog 35 #[.agg (bc L), .int .i64 n] w fun e w' => e = .returned (.tuple #[.agg (bc ((inc (L.take n)).1 ++ L.drop n)), .bool (inc (L.take n)).2]) ∧ Below w.heap.size w w' := by
  have hA : Bt (w.alloc (.cells (bc L) 65)) w.heap.size L := ⟨World.alloc_heap_new w _, hL⟩
  have hA2 : Bt ((w.alloc (.cells (bc L) 65)).alloc (.cells #[.bool false, .bool false, .bool false, .bool false, .bool false, .bool false, .bool false, .bool false, .bool false, .bool false, .bool false, .bool false, .bool false, .bool false, .bool false, .bool false] 65)) w.heap.size L := hA.below (below_box _ _)
  have hR2 : Bt ((w.alloc (.cells (bc L) 65)).alloc (.cells #[.bool false, .bool false, .bool false, .bool false, .bool false, .bool false, .bool false, .bool false, .bool false, .bool false, .bool false, .bool false, .bool false, .bool false, .bool false, .bool false] 65)) (w.heap.size + 1) (List.replicate 16 false) := ⟨by have := World.alloc_heap_new (w.alloc (.cells (bc L) 65)) (.cells #[.bool false, .bool false, .bool false, .bool false, .bool false, .bool false, .bool false, .bool false, .bool false, .bool false, .bool false, .bool false, .bool false, .bool false, .bool false, .bool false] 65); rwa [World.size_alloc] at this, rfl⟩
  have hB2 : Below w.heap.size w ((w.alloc (.cells (bc L) 65)).alloc (.cells #[.bool false, .bool false, .bool false, .bool false, .bool false, .bool false, .bool false, .bool false, .bool false, .bool false, .bool false, .bool false, .bool false, .bool false, .bool false, .bool false] 65)) := Below.step (below_box _ _) (below_box _ _)
  have HL : Hid (L.length = 16) := hL
  clear hA hL
  go_enter Tryd.func35, Tryd.ntmps35
  go_wp2
  generalize (w.alloc (.cells (bc L) 65)).alloc (.cells #[.bool false, .bool false, .bool false, .bool false, .bool false, .bool false, .bool false, .bool false, .bool false, .bool false, .bool false, .bool false, .bool false, .bool false, .bool false, .bool false] 65) = W2 at *
  go_loopg [8] n (fun g i wr => ∃ k : Nat, k + g = n ∧ i = .int .i64 k ∧ L.take k = List.replicate k true ∧ Bt wr w.heap.size (List.replicate k false ++ L.drop k) ∧ Bt wr (w.heap.size + 1) (List.replicate 16 false) ∧ Below w.heap.size w wr)
  case atStart => exact ⟨0, by omega, rfl, rfl, by simpa using hA2, hR2, hB2⟩
  case round =>
    clear hA2 hR2 hB2
    obtain ⟨k, hk, rfl, hT, hA, hR, bel⟩ := hrel
    have HK : Hid (k + gk = n) := hk
    by_cases hlt : k < n
    · have hk16 : (k : Int) < 16 := by omega
      have hk0 : (0 : Int) ≤ k := by omega
      have hcell := hA.cell (k := k) (by omega)
      have hfz := hA.free (k := k)
      have hget : (List.replicate k false ++ L.drop k).getD k false = L.getD k false := by
        simp [List.getD_eq_getElem?_getD, List.getElem?_append_right]
      rw [hget] at hcell
      have hdrop : L.drop k = L.getD k false :: L.drop (k + 1) := by
        have hh : k < L.length := by rw [HL.out]; omega
        rw [List.drop_eq_getElem_cons hh]; simp [List.getD_eq_getElem?_getD, hh]
      have hset : ∀ b, (List.replicate k false ++ L.drop k).set k b = List.replicate k false ++ b :: L.drop (k + 1) := fun b => by
        rw [hdrop, List.set_append_right _ _ (by simp)]; simp
      have htk : L.take (k + 1) = L.take k ++ [L.getD k false] := take_succ_getD L false k (by rw [HL.out]; omega)
      cases hb : L.getD k false
      · have h2 := hA.set (k := k) true
        rw [hset true] at h2
        have hR' := hR.kept (grown_set wr ⟨w.heap.size, k, none⟩ (.bool true)) (by simp)
        rw [hb] at hcell
        go_upto_region 6 with fail
        refine wp_region_lit ?_
        refine wpList_load_tr rfl _ rfl rfl h2 ?_
        refine wpList_store_tr rfl _ _ rfl rfl rfl hR' h2.len ?_
        go_wp2
        refine bodyPost_ret (ret_tr rfl rfl (hR'.row h2.len)) rfl ⟨?_, ?_⟩
        · have hi : inc (L.take n) = (List.replicate k false ++ true :: (L.drop (k + 1)).take (n - (k + 1)), true) := by
            have e : L.take n = List.replicate k true ++ false :: (L.drop (k + 1)).take (n - (k + 1)) := by
              have e1 : L.take n = L.take k ++ (L.drop k).take (n - k) := by
                conv => lhs; rw [← List.take_append_drop k (L.take n)]
                rw [List.take_take, Nat.min_eq_left (by omega), List.drop_take]
              rw [e1, hT, hdrop, hb, show n - k = (n - (k + 1)) + 1 by omega]; rfl
            rw [e, inc_carry]
          rw [hi]
          have e2 : (List.replicate k false ++ true :: (L.drop (k + 1)).take (n - (k + 1))) ++ L.drop n = List.replicate k false ++ true :: L.drop (k + 1) := by
            rw [List.append_assoc, List.cons_append]
            congr 2
            conv => rhs; rw [← List.take_append_drop (n - (k + 1)) (L.drop (k + 1))]
            rw [List.drop_drop, show k + 1 + (n - (k + 1)) = n by omega]
          rw [e2]; rfl
        · exact below_row (bel.setCell (p := ⟨w.heap.size, k, none⟩) (Nat.le_refl _) _) (by omega) (by rw [World.size_setCell]; exact bel.size) _
      · have h2 := hA.set (k := k) false
        rw [hset false] at h2
        have hR' := hR.kept (grown_set wr ⟨w.heap.size, k, none⟩ (.bool false)) (by simp)
        rw [hb] at hcell htk
        have e3 : List.replicate (k + 1) false ++ L.drop (k + 1) = List.replicate k false ++ false :: L.drop (k + 1) := by
          rw [List.replicate_succ', List.append_assoc]; rfl
        go_wp2
        go_roundg (gk - 1)
        case measure => have := HK.out; omega
        case rel => exact ⟨k + 1, by have := HK.out; omega, by go_num, by rw [htk, hT, List.replicate_succ'], by rw [e3]; exact h2, hR', bel.setCell (p := ⟨w.heap.size, k, none⟩) (Nat.le_refl _) _⟩
    · obtain rfl : k = n := by omega
      clear hk
      go_upto_region 8 with fail
      refine wp_region_lit ?_
      refine wpList_load_tr rfl _ rfl rfl hA ?_
      refine wpList_store_tr rfl _ _ rfl rfl rfl hR hA.len ?_
      go_wp2
      refine bodyPost_ret (ret_tr rfl rfl (hR.row hA.len)) rfl ⟨?_, ?_⟩
      · rw [hT, inc_full]; rfl
      · exact below_row bel (by omega) bel.size _

end Go.Proofs.YtfklgfdkpmfdnaaDoor

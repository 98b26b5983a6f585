/-
  The iterator of cnf.Models: the models that satisfy, in the order of counting, each in a box of its own.
-/
import Derived.Test.YtfklgfdkpmfdnaaDoorRangeN
import Derived.Test.YtfklgfdkpmfdnaaDoorAfter
import Derived.Test.YtfklgfdkpmfdnaaDoorSatT
import Derived.Stop.RegionWithIn
import Derived.Sort.LoopGhostIn
import Derived.Sort.AtCallIn
import Derived.Sort.CutIn
import Derived.Lib.Hide
set_option linter.unusedSimpArgs false
set_option linter.unusedVariables false
namespace Go.Proofs.YtfklgfdkpmfdnaaDoor
open Go Go.RowKit Go.Shelf Go.Joins

attribute [local go_sem] Oper.semAt_some

section
variable {F : Fence} {m : Nat} {ops : Array Oper} {rest : List Oper} {op : Oper} {a : Act} {W : World} {Q : Exit → Act → World → Prop}
theorem wpListIn_load_tr (hgd : op.guard = none) (x : Operand) (ho : op.op = .load 65 x) {D : Nat} {L : List Bool}
    (hx : a.eval x = .pointer (some ⟨D, 0, none⟩)) (hB : Bt W D L) (h : wpListIn F m Tryd.prog ops Q rest (a.put op.dst (.agg (bc L))) W) : wpListIn F m Tryd.prog ops Q (op :: rest) a W := by
  refine wpListIn_plain hgd fun K hK => ?_
  unfold Oper.wpIn
  refine ⟨by simp [Oper.about, ho], ?_⟩
  rw [Oper.semAt_plain F _ _ (by rw [ho]; intro c hc'; cases hc')]
  simp only [execOp, ho, hx, hB.loadAt, Sem.run_bind, Sem.run_pure, Result.andThen_ok]
  exact hK _ _ h
theorem wpListIn_store_tr (hgd : op.guard = none) (x y : Operand) (ho : op.op = .store 65 x y) {D : Nat} {L L' : List Bool}
    (hx : a.eval x = .pointer (some ⟨D, 0, none⟩)) (hy : a.eval y = .agg (bc L')) (hB : Bt W D L) (hL : L'.length = 16) (h : wpListIn F m Tryd.prog ops Q rest (a.put op.dst undef) (W.setRow D (bc L'))) : wpListIn F m Tryd.prog ops Q (op :: rest) a W := by
  refine wpListIn_plain hgd fun K hK => ?_
  unfold Oper.wpIn
  refine ⟨by simp [Oper.about, ho], ?_⟩
  rw [Oper.semAt_plain F _ _ (by rw [ho]; intro c hc'; cases hc')]
  simp only [execOp, ho, hx, hy, hB.storeAt hL, Sem.run_bind, Sem.run_pure, Result.andThen_ok]
  exact hK _ _ h
theorem wpListIn_alloc_tr (hgd : op.guard = none) (ho : op.op = .alloc 65)
    (h : wpListIn F m Tryd.prog ops Q rest (a.put op.dst (.pointer (some ⟨W.heap.size, 0, none⟩))) (W.alloc (.cells (bc (List.replicate 16 false)) 65))) : wpListIn F m Tryd.prog ops Q (op :: rest) a W := by
  refine wpListIn_plain hgd fun K hK => ?_
  unfold Oper.wpIn
  refine ⟨by simp [Oper.about, ho], ?_⟩
  rw [Oper.semAt_plain F _ _ (by rw [ho]; intro c hc'; cases hc')]
  have hz := (zero_of_info infoTr).1
  simp [execOp, ho, go_sem, hz, Value.cells]
  exact hK _ _ h
end
theorem abides_alloc {β : Type} {B : Nat} {J : β → World → Prop} (hJ : AbidesFrom B J) {s : β} {w : World} (h : J s w) (o : Obj) : J s (w.alloc o) := hJ s w _ none h (World.grownBy_alloc w o none) (fun r e => by cases e)
theorem abides_lower {β : Type} {B : Nat} {J : β → World → Prop} (hJ : AbidesFrom B J) {s : β} {w w' : World} (h : J s w) (hb : Below w.heap.size w w') : J s w' := hJ s w w' none h (grown_below hb) (fun r e => by cases e)
theorem Bt.loadCells {W : World} {D : Nat} {L : List Bool} (h : Bt W D L) : (loadCellsFrom ⟨D, 0, none⟩ 0 16 #[]).run Tryd.prog W = .ok (bc L) W := by
  have hs : (bc L).toList.length = 16 := by rw [Array.length_toList]; exact bc_size h.2
  have := run_loadCells_list (P := Tryd.prog) W ⟨D, 0, none⟩ (bc L).toList (fun j v hv => by
    have hadd : (⟨D, 0, none⟩ : Addr).add j = ⟨D, j, none⟩ := by unfold Addr.add; split <;> simp_all
    rw [hadd, cell_of_block h.1]
    simpa using hv)
  rw [hs] at this
  simpa [Go.loadCells] using this
theorem Bt.storeCells {W : World} {D : Nat} {L L' : List Bool} (h : Bt W D L) (hL : L'.length = 16) : (storeCells ⟨D, 0, none⟩ (bc L').toList 0).run Tryd.prog W = .ok () (W.setRow D (bc L')) := by
  have := h.store hL
  cases hq : Tryd.prog.info? 65 with
  | none => have := sizeTr; simp [hq] at this
  | some i =>
    have hs : (bc L').size = i.size := by have := sizeTr; simp [hq] at this; rw [bc_size hL, this]
    simpa [storeVar, sizeOf, typeInfo, hq, Value.cells, hs] using this
theorem grown_some {w w' : World} {r : Option Nat} (h : w.grownBy w' none) : w.grownBy w' r := ⟨h.os, h.tape, h.output, h.size, fun k hk _ => h.block k hk (by simp)⟩
theorem bt_new (W : World) : Bt (W.alloc (.cells (bc (List.replicate 16 false)) 65)) W.heap.size (List.replicate 16 false) := ⟨World.alloc_heap_new W _, rfl⟩

theorem two_ends {e : Ending} {P1 P2 : Prop} (h : (e = .returned (.bool true) ∧ P1) ∨ (e = .returned (.bool false) ∧ P2)) : ∃ b : Bool, e = .returned (.bool b) ∧ (b = true → P1) ∧ (b = false → P2) := by
  rcases h with ⟨rfl, h⟩ | ⟨rfl, h⟩
  · exact ⟨true, rfl, fun _ => h, fun e => by cases e⟩
  · exact ⟨false, rfl, (fun e => by cases e), fun _ => h⟩
/-- a slice value, and the model that it reads -/
abbrev Itb := Value × List Bool
/-- what is yielded: the next of the models; its slice lies in a new box -/
def VB (R : List (List Bool)) (S0 : Nat) (pre : List Itb) (x : Itb) (W : World) : Prop :=
  (pre ++ [x]).map Prod.snd <+: R ∧ x.2.length ≤ 16 ∧ ∃ g, S0 ≤ g ∧ x.1 = .slice (some ⟨g, 0, none⟩) x.2.length 16 ∧ Bt W g (x.2 ++ List.replicate (16 - x.2.length) false)
theorem Bt.rd {W : World} {g : Nat} {L r : List Bool} (h : Bt W g (L ++ r)) : RdB W (.slice (some ⟨g, 0, none⟩) L.length 16) L := by
  have hl := h.len
  rw [List.length_append] at hl
  refine ⟨by omega, some ⟨g, 0, none⟩, 16, rfl, fun hne => ⟨g, 0, rfl, h.lt, fun k hk => ?_⟩⟩
  have := h.cell (k := 0 + k) (by omega)
  rw [this]
  simp [List.getD_eq_getElem?_getD, List.getElem?_append_left hk]
theorem VB.rd {R : List (List Bool)} {S0 : Nat} {pre : List Itb} {x : Itb} {W : World} (h : VB R S0 pre x W) : RdB W x.1 x.2 := by
  obtain ⟨_, _, g, _, e, hb⟩ := h
  rw [e]; exact hb.rd
theorem VB.own (R : List (List Bool)) (S0 B : Nat) (pre : List Itb) : OwnFrom B (VB R S0 pre) := by
  rintro x A A' row ⟨h1, h2, g, h3, h4, h5⟩ hg hr
  refine ⟨h1, h2, g, h3, h4, h5.kept hg ?_⟩
  intro e
  obtain ⟨_, o, ho, hc⟩ := hr g e.symm
  rw [h5.1] at ho
  cases ho
  simp [Obj.isCells] at hc
/-- the count as it stands when j models were asked -/
def cur (n j : Nat) : List Bool := (if j < 2 ^ n then bt n j else bt n 0) ++ List.replicate (16 - n) false
theorem cur_len {n : Nat} (j : Nat) (h : n ≤ 16) : (cur n j).length = 16 := by
  unfold cur; split <;> simp [bt_len] <;> omega
theorem cur_after {n j : Nat} (h : n ≤ 16) (hj : j < 2 ^ n) : (inc ((cur n j).take n)).1 ++ (cur n j).drop n = cur n (j + 1) ∧ (inc ((cur n j).take n)).2 = decide (j + 1 < 2 ^ n) := by
  have e1 : (cur n j).take n = bt n j := by
    unfold cur; rw [if_pos hj, List.take_append_of_le_length (by rw [bt_len]; exact Nat.le_refl _), List.take_of_length_le (by rw [bt_len]; exact Nat.le_refl _)]
  have e2 : (cur n j).drop n = List.replicate (16 - n) false := by
    unfold cur; rw [if_pos hj, List.drop_append_of_le_length (by rw [bt_len]; exact Nat.le_refl _), List.drop_of_length_le (by rw [bt_len]; exact Nat.le_refl _)]; rfl
  rw [e1, e2, inc_bt n j hj]
  exact ⟨rfl, rfl⟩
theorem modsTo_prefix (n : Nat) (css : List (List Int)) {k : Nat} (h : k ≤ 2 ^ n) : modsTo n css k <+: mods n css := by
  unfold mods
  obtain ⟨d, hd⟩ : ∃ d, 2 ^ n = k + d := ⟨2 ^ n - k, by omega⟩
  rw [hd]
  have : ∀ d, modsTo n css k <+: modsTo n css (k + d) := by
    intro d
    induction d with
    | zero => exact List.prefix_refl _
    | succ d ih =>
      rw [← Nat.add_assoc, modsTo_succ]
      exact ih.trans (List.prefix_append _ _)
  exact this d

set_option maxRecDepth 100000 in
set_option maxHeartbeats 1600000 in
theorem iterM_in (k : Nat) (hk : 1 ≤ k) (l Bf lo n₀ n N : Nat) (hn : n ≤ 16) (s : Value) (css : List (List Int)) (hf : frm n css = true) (W : World) (hN : W.heap.size = N)
    (J Jx : List Itb → World → Prop) (hJ : AbidesFrom N J) (hJ2 : ∀ s A B, J s A → A.grownBy B (some N) → J s B)
    (hY : ∀ pre x W0 W1, J pre W0 → N < W0.heap.size → W0.grownBy W1 (some N) → N < W1.heap.size → VB (mods n css) W0.heap.size pre x W1 → YieldAt Fence.wide (k - 1) Tryd.prog l #[x.1] W1 fun e W' =>
      (e = .returned (.bool true) ∧ J (pre ++ [x]) W' ∧ Mid lo n₀ W1 W' ∧ W'.heap[N]? = W1.heap[N]?) ∨ (e = .returned (.bool false) ∧ Jx (pre ++ [x]) W'))
    (hn0 : n₀ ≤ N) (hBf : Bf < n₀) (lBf : lo ≤ Bf) (c0 : W.cell? ⟨Bf, 0, none⟩ = some (.int .i64 n)) (c1 : W.cell? ⟨Bf, 1, none⟩ = some s) (hos : ∀ W', Mid lo n₀ W W' → Rds W' s css) (h0 : J [] W) :
    CallsIn Fence.wide k Tryd.prog 34 #[.func (.yield l) #[] #[], .pointer (some ⟨Bf, 0, none⟩)] W fun e W' => (∃ v, e = .returned v) ∧
      ((∃ xs : List Itb, xs.map Prod.snd = mods n css ∧ J xs W') ∨ (∃ pre : List Itb, pre.map Prod.snd <+: mods n css ∧ Jx pre W')) := by
  have HY : Hid (∀ pre x W0 W1, J pre W0 → N < W0.heap.size → W0.grownBy W1 (some N) → N < W1.heap.size → VB (mods n css) W0.heap.size pre x W1 → YieldAt Fence.wide (k - 1) Tryd.prog l #[x.1] W1 fun e W' =>
      (e = .returned (.bool true) ∧ J (pre ++ [x]) W' ∧ Mid lo n₀ W1 W' ∧ W'.heap[N]? = W1.heap[N]?) ∨ (e = .returned (.bool false) ∧ Jx (pre ++ [x]) W')) := hY
  have HJ : Hid (AbidesFrom N J) := hJ
  have HJ2 : Hid (∀ s A B, J s A → A.grownBy B (some N) → J s B) := hJ2
  have HOS : Hid (∀ W', Mid lo n₀ W W' → Rds W' s css) := hos
  have HF : Hid (frm n css = true) := hf
  have hp : 0 < 2 ^ n := Nat.pos_of_ne_zero (by simp)
  have hal : Tryd.prog.arrayLen 65 = 16 := by simp [Program.arrayLen, Tryd.underlying65]
  have hsl : ∀ (D : Nat) (W : World), (Instr.sliceAt 65 (.pointer (some ⟨D, 0, none⟩)) none (some (.int .i64 (n : Int))) none).run Tryd.prog W = .ok (.slice (some ⟨D, 0, none⟩) n 16) W := fun D W => by
    rw [run_sliceAt_array_h W 65 ⟨D, 0, none⟩ (by simp [Program.arrayLen, Program.elem, Tryd.underlying65]) .i64 (n : Int) (by omega) (by rw [hal]; omega)]
    go_simp
  have hB0 : Bt (W.alloc (.cells (bc (List.replicate 16 false)) 65)) N (cur n 0) := by
    rw [← hN]
    have e : cur n 0 = List.replicate 16 false := by unfold cur; rw [if_pos hp, bt_zero, List.replicate_append_replicate]; congr 1; omega
    rw [e]; exact bt_new W
  have hJ0 : J [] (W.alloc (.cells (bc (List.replicate 16 false)) 65)) := abides_alloc hJ h0 _
  have hM0 : Mid lo n₀ W (W.alloc (.cells (bc (List.replicate 16 false)) 65)) := (Mid.refl _ _ _).alloc (by omega) _
  obtain ⟨as', cs', rfl, _⟩ := (hos W (Mid.refl _ _ _)).form
  clear hY hJ hJ2 hos hal
  refine callsIn_of_wp Tryd.func34 rfl trivial ?_ rfl
  simp only [Tryd.ntmps34, List.size_toArray, List.length_cons, List.length_nil, Nat.reduceAdd, Nat.reduceSub, Array.replicate_succ, Array.replicate_zero, List.push_toArray, List.append_toArray, List.nil_append, List.cons_append]
  gi_upto_region 0 with fail
  refine wpIn_region_lit ?_
  refine wpListIn_alloc_tr rfl rfl ?_
  subst hN
  generalize W.alloc (.cells (bc (List.replicate 16 false)) 65) = Wa at *
  gi_wp2
  gi_loopg [4] (2 ^ n) (fun g mo wr => ∃ (j : Nat) (pre : List Itb), j + g = 2 ^ n ∧ mo = .bool (decide (j < 2 ^ n)) ∧ pre.map Prod.snd = modsTo n css j ∧ J pre wr ∧ Mid lo n₀ W wr ∧ Bt wr W.heap.size (cur n j))
  case atStart => exact ⟨0, [], by omega, by simp [hp], by simp [modsTo], hJ0, hM0, hB0⟩
  case round =>
    clear hB0 hJ0 hM0 h0
    obtain ⟨j, pre, hj, rfl, hpre, hJs, mid, hB⟩ := hrel
    have HK : Hid (j + gk = 2 ^ n) := hj
    have HP : Hid (pre.map Prod.snd = modsTo n css j) := hpre
    clear hpre
    by_cases hlt : j < 2 ^ n
    · rw [show decide (j < 2 ^ n) = true from decide_eq_true hlt]
      have d0 : wr.cell? ⟨Bf, 0, none⟩ = some (.int .i64 n) := (mid.cell (p := ⟨Bf, 0, none⟩) lBf hBf).trans c0
      have d1 : wr.cell? ⟨Bf, 1, none⟩ = some (.slice as' css.length cs') := (mid.cell (p := ⟨Bf, 1, none⟩) lBf hBf).trans c1
      have HSat : Hid (∀ w2, Below wr.heap.size wr w2 → Calls Tryd.prog 36 #[.agg #[.int .i64 n, .slice as' css.length cs'], .slice (some ⟨W.heap.size, 0, none⟩) n 16] w2 fun e w' => e = .returned (.bool (satT (bt n j) css)) ∧ Below w2.heap.size w2 w') := fun w2 h => by
        have hB2 := hB.below h
        rw [show cur n j = bt n j ++ List.replicate (16 - n) false by unfold cur; rw [if_pos hlt]] at hB2
        have hrd := hB2.rd
        rw [bt_len] at hrd
        exact satisfies_any n _ _ css (bt n j) w2 (HOS.out w2 (mid.step h (by have := mid.size; omega))) hrd (by unfold mdl; rw [HF.out, bt_len]; simp)
      obtain ⟨C', hC'⟩ : ∃ C', C' = cur n (j + 1) := ⟨_, rfl⟩
      obtain ⟨mo, hmo⟩ : ∃ mo, mo = decide (j + 1 < 2 ^ n) := ⟨_, rfl⟩
      have hl' : C'.length = 16 := by rw [hC']; exact cur_len _ hn
      have HAft : Hid (∀ w2, Calls Tryd.prog 35 #[.agg (bc (cur n j)), .int .i64 n] w2 fun e w' => e = .returned (.tuple #[.agg (bc C'), .bool mo]) ∧ Below w2.heap.size w2 w') := fun w2 => by
        have := after_any (cur n j) n (cur_len j hn) hn w2
        rw [(cur_after hn hlt).1, (cur_after hn hlt).2, ← hC', ← hmo] at this
        exact this
      have HC' : Hid (C' = cur n (j + 1)) := hC'
      have HMo : Hid (mo = decide (j + 1 < 2 ^ n)) := hmo
      have HB1 : Hid (∀ w2, Below wr.heap.size wr w2 → J pre w2 ∧ Mid lo n₀ W w2 ∧ Bt w2 W.heap.size (cur n j)) := fun w2 h => ⟨abides_lower HJ.out hJs h, mid.step h (by have := mid.size; omega), hB.below h⟩
      have HE : Hid (cur n j = bt n j ++ List.replicate (16 - n) false) := by show cur n j = _; unfold cur; rw [if_pos hlt]
      have hs1 := hB.lt
      have HM : Hid (modsTo n css (j + 1) = modsTo n css j ++ (if satT (bt n j) css then [bt n j] else [])) := modsTo_succ n css j
      have HLT : Hid (j < 2 ^ n) := hlt
      have hml := mid.size
      clear hj hC' hmo hlt hB hJs mid
      generalize cur n j = C at *
      generalize hbt : bt n j = ms at *
      cases hq : satT ms css
      · rw [hq] at HSat
        gi_wp2
        gi_region_with (first
          | (refine ⟨trivial, ?_⟩; gi_at_call 36; refine (callsIn_wide.2 (HSat.out _ (Below.refl _ _).drew)).mono ?_; rintro e w2 ⟨rfl, bel2⟩))
        all_goals
          obtain ⟨J2, mid2, hB2⟩ := HB1.out w2 (Below.step (Below.refl _ _).drew bel2)
          have e0 : w2.cell? ⟨Bf, 0, none⟩ = some (.int .i64 n) := (mid2.cell (p := ⟨Bf, 0, none⟩) lBf hBf).trans c0
          have hsz' := bc_size hl'
          have HST : Hid (∀ w3, Below w2.heap.size w2 w3 → (storeCells ⟨W.heap.size, 0, none⟩ (bc C').toList 0).run Tryd.prog w3 = .ok () (w3.setRow W.heap.size (bc C'))) := fun w3 h => (hB2.below h).storeCells hl'
          gi_upto_region 3 with fail
          refine wpIn_region_lit ?_
          refine wpListIn_load_tr rfl _ rfl rfl hB2 ?_
          gi_wp2_with (refine ⟨trivial, ?_⟩; gi_at_call 35; refine (callsIn_wide.2 (HAft.out w2)).mono ?_; rintro e w3 ⟨rfl, bel3⟩; have hst := HST.out w3 bel3)
          gi_roundg (gk - 1)
          case measure => have := HK.out; have := HLT.out; omega
          case rel =>
            have hg3 : w3.grownBy (w3.setRow W.heap.size (bc C')) (some W.heap.size) := grown_setRow _ _ _
            refine ⟨j + 1, pre, by have := HK.out; have := HLT.out; omega, by rw [HMo.out], by rw [HM.out, hq]; simpa using HP.out, HJ2.out _ _ _ (abides_lower HJ.out J2 bel3) hg3, ?_, ?_⟩
            · exact (mid2.step bel3 (by omega)).trans ⟨by rw [setRow_size]; exact Nat.le_refl _, fun q h1 h2 => hg3.block q (by have := mid2.size; have := bel3.size; omega) (by intro e; cases e; omega)⟩
            · have := (hB2.below bel3).row hl'
              rw [HC'.out] at this ⊢
              exact this
      · rw [hq] at HSat
        have hms : ms.length = n := by rw [← hbt]; exact bt_len n j
        have hlC : C.length = 16 := by rw [HE.out]; simp [hms]; omega
        have HPX : Hid (pre.map Prod.snd ++ [ms] = modsTo n css (j + 1)) := by show _ = _; rw [HM.out, hq, HP.out]; simp
        have HPP : Hid (modsTo n css (j + 1) <+: mods n css) := modsTo_prefix n css (by have := HLT.out; omega)
        gi_wp2
        gi_region_with (first
          | (refine ⟨trivial, ?_⟩; gi_at_call 36; refine (callsIn_wide.2 (HSat.out _ (Below.refl _ _).drew)).mono ?_; rintro e w2 ⟨rfl, bel2⟩))
        all_goals
          obtain ⟨J2, mid2, hB2⟩ := HB1.out w2 (Below.step (Below.refl _ _).drew bel2)
          gi_upto_region 5 with fail
          refine wpIn_region_lit ?_
          refine wpListIn_load_tr rfl _ rfl rfl hB2 ?_
          refine wpListIn_alloc_tr rfl rfl ?_
          refine wpListIn_store_tr rfl _ _ rfl rfl rfl (bt_new w2) hlC ?_
          have hB3 := (bt_new w2).row hlC
          have bel3 : Below w2.heap.size w2 ((w2.alloc (.cells (bc (List.replicate 16 false)) 65)).setRow w2.heap.size (bc C)) := below_row (below_box _ _) (Nat.le_refl _) (by simp) _
          have hs3 : ((w2.alloc (.cells (bc (List.replicate 16 false)) 65)).setRow w2.heap.size (bc C)).heap.size = w2.heap.size + 1 := by rw [setRow_size, World.size_alloc]
          generalize (w2.alloc (.cells (bc (List.replicate 16 false)) 65)).setRow w2.heap.size (bc C) = w3 at *
          have mid3 := mid2.step bel3 (by omega)
          have hB3n := hB2.below bel3
          have e0 : w3.cell? ⟨Bf, 0, none⟩ = some (.int .i64 n) := (mid3.cell (p := ⟨Bf, 0, none⟩) lBf hBf).trans c0
          have hm2 := mid2.size
          obtain ⟨fn, tmps, assign, body, hy, hR⟩ := HY.out pre (.slice (some ⟨w2.heap.size, 0, none⟩) n 16, ms) w2 w3 J2 (by have := hB2.lt; omega) (grown_some (grown_below bel3)) (by omega) ⟨by rw [List.map_append]; show pre.map Prod.snd ++ [ms] <+: _; rw [HPX.out]; exact HPP.out, by show ms.length ≤ 16; omega, w2.heap.size, Nat.le_refl _, by rw [hms], by show Bt w3 w2.heap.size (ms ++ List.replicate (16 - ms.length) false); rw [hms, ← HE.out]; exact hB3⟩
          dsimp only at hy
          gi_wp2_with (refine hR.mono ?_; rintro e w7 h7; obtain ⟨q7, rfl, h8, h9⟩ := two_ends h7; clear h7 hR hy; refine Hid.out ?_)
          refine Lib.hid ?_
          cases q7
          · have hx := h9 rfl
            clear h8 h9
            gi_wp2
            refine bodyPost_ret (results_none rfl _ _ _) rfl ?_
            exact ⟨⟨_, rfl⟩, .inr ⟨_, by rw [List.map_append]; show pre.map Prod.snd ++ [ms] <+: _; rw [HPX.out]; exact HPP.out, hx⟩⟩
          · obtain ⟨hJ7, hk7, hN7⟩ := h8 rfl
            have mid7 := mid3.trans hk7
            have hB7 : Bt w7 W.heap.size C := ⟨hN7.trans hB3n.1, hB3n.2⟩
            have f0 : w7.cell? ⟨Bf, 0, none⟩ = some (.int .i64 n) := (mid7.cell (p := ⟨Bf, 0, none⟩) lBf hBf).trans c0
            have hm7 := mid7.size
            have hsz' := bc_size hl'
            have HST : Hid (∀ w8, Below w7.heap.size w7 w8 → (storeCells ⟨W.heap.size, 0, none⟩ (bc C').toList 0).run Tryd.prog w8 = .ok () (w8.setRow W.heap.size (bc C'))) := fun w8 h => (hB7.below h).storeCells hl'
            clear h8 h9
            gi_upto_region 3 with fail
            refine wpIn_region_lit ?_
            refine wpListIn_load_tr rfl _ rfl rfl hB7 ?_
            gi_wp2_with (refine ⟨trivial, ?_⟩; gi_at_call 35; refine (callsIn_wide.2 (HAft.out w7)).mono ?_; rintro e w8 ⟨rfl, bel8⟩; have hst := HST.out w8 bel8)
            gi_roundg (gk - 1)
            case measure => have := HK.out; have := HLT.out; omega
            case rel =>
              have hg3 : w8.grownBy (w8.setRow W.heap.size (bc C')) (some W.heap.size) := grown_setRow _ _ _
              refine ⟨j + 1, pre ++ [(.slice (some ⟨w2.heap.size, 0, none⟩) n 16, ms)], by have := HK.out; have := HLT.out; omega, by rw [HMo.out], by rw [List.map_append]; exact HPX.out, HJ2.out _ _ _ (abides_lower HJ.out hJ7 bel8) hg3, ?_, ?_⟩
              · exact (mid7.step bel8 (by omega)).trans ⟨by rw [setRow_size]; exact Nat.le_refl _, fun q h1 h2 => hg3.block q (by have := bel8.size; omega) (by intro e; cases e; omega)⟩
              · have := (hB7.below bel8).row hl'
                rw [HC'.out] at this ⊢
                exact this
    · obtain rfl : j = 2 ^ n := by omega
      have HE : Hid (pre.map Prod.snd = mods n css) := HP.out
      clear hj
      rw [show decide (2 ^ n < 2 ^ n) = false from decide_eq_false (Nat.lt_irrefl _)]
      gi_wp2
      go_end0
      exact ⟨⟨_, rfl⟩, .inl ⟨pre, HE.out, hJs⟩⟩

end Go.Proofs.YtfklgfdkpmfdnaaDoor

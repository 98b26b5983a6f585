/-
  joined: PkN NumY
-/
import Derived.Test.YtilcokpaeapmeaaDoorJText
import Derived.Test.YtilcokpaeapmeaaDoorKByT
import Derived.Test.YtilcokpaeapmeaaDoorKNum
import Derived.Laws.Bits64b
import Derived.Deep.WholeRow
import Derived.Deep.LoopGhost
import Derived.BigCall
import Derived.Handy
import Derived.Lib.SmallJoins
import Derived.Deep.CutRange
import Derived.Deep.Cut
set_option linter.unusedSimpArgs false
set_option linter.unusedVariables false
namespace Go.Proofs.YtilcokpaeapmeaaDoor
open Go Go.RowKit

theorem infoA : (Tryd.prog.info? 78).map (fun i => (i.zero, i.size)) = some (some (.agg #[.int .u8 0, .int .u8 0, .int .u8 0, .int .u8 0, .int .u8 0, .int .u8 0, .int .u8 0, .int .u8 0, .int .u8 0, .int .u8 0]), 10) := by kernel_rfl
/-- an array of ten that begins with T -/
def padA (T : List UInt8) : Array Value := (Lib.byteCells T ++ List.replicate (10 - T.length) (Value.int .u8 0)).toArray
theorem padA_nil : padA [] = #[.int .u8 0, .int .u8 0, .int .u8 0, .int .u8 0, .int .u8 0, .int .u8 0, .int .u8 0, .int .u8 0, .int .u8 0, .int .u8 0] := rfl
theorem padA_size {T : List UInt8} (h : T.length ≤ 10) : (padA T).size = 10 := by simp [padA, Lib.byteCells]; omega
theorem padA_one (T : List UInt8) : (padA T).all (·.oneCell') = true := by
  rw [Array.all_eq_true]
  intro i hi
  have : ∀ v ∈ (padA T).toList, ∃ n, v = Value.int .u8 n := fun v hv => by
    simp only [padA, Lib.byteCells, List.mem_append, List.mem_map, List.mem_replicate] at hv
    rcases hv with ⟨b, _, rfl⟩ | ⟨_, rfl⟩
    · exact ⟨_, rfl⟩
    · exact ⟨_, rfl⟩
  obtain ⟨n, hn⟩ := this (padA T)[i] (by simp)
  rw [hn]; rfl
theorem padA_set {T : List UInt8} (h : T.length < 10) (b : UInt8) : (padA T).setIfInBounds T.length (.int .u8 b.toNat) = padA (T ++ [b]) := by
  have e : 10 - T.length = (10 - (T ++ [b]).length) + 1 := by simp; omega
  unfold padA
  rw [bytes_app, e, List.replicate_succ]
  simp [Lib.byteCells]

theorem padA_cell (w : World) {P : List UInt8} (h : P.length < 10) : (w.alloc (.cells (padA P) 78)).cell? ⟨w.heap.size, P.length, none⟩ = some (.int .u8 0) := by
  rw [World.cell?_alloc_mark]
  obtain ⟨k, hk⟩ : ∃ k, 10 - P.length = k + 1 := ⟨9 - P.length, by omega⟩
  simp [padA, Lib.byteCells, hk, List.replicate_succ]
theorem sizeA : (Tryd.prog.info? 78).map (·.size) = some 10 := (zero_of_info infoA).2
theorem wpList_val {ops : Array Oper} {rest : List Oper} {op : Oper} {a : Act} {W : World} {Q : Exit → Act → World → Prop} (hgd : op.guard = none) {v : Value} (hx : (execOp a.eval op).run Tryd.prog W = .ok (.value v) W) (h : wpList Tryd.prog ops Q rest (a.put op.dst v) W) : wpList Tryd.prog ops Q (op :: rest) a W := by
  refine wpList_plain hgd fun K hK => ?_
  unfold Oper.wp
  rw [hx]
  exact hK _ _ h
theorem wpList_load_a {ops : Array Oper} {rest : List Oper} {op : Oper} {a : Act} {w : World} {Q : Exit → Act → World → Prop} (hgd : op.guard = none) (x : Operand) (ho : op.op = .load 78 x) {T : List UInt8}
    (hx : a.eval x = .pointer (some ⟨w.heap.size, 0, none⟩)) (hT : T.length ≤ 10) (h : wpList Tryd.prog ops Q rest (a.put op.dst (.agg (padA T))) (w.alloc (.cells (padA T) 78))) : wpList Tryd.prog ops Q (op :: rest) a (w.alloc (.cells (padA T) 78)) := by
  refine wpList_plain hgd fun K hK => ?_
  unfold Oper.wp execOp
  simp only [ho, hx, run_loadAt_new w 78 (padA T) 10 5 Tryd.underlying78 (by rw [padA_size hT]; exact sizeA), Sem.run_bind, Sem.run_pure, Result.andThen_ok]
  exact hK _ _ h
theorem wpList_store_a {ops : Array Oper} {rest : List Oper} {op : Oper} {a : Act} {w : World} {Q : Exit → Act → World → Prop} (hgd : op.guard = none) (x y : Operand) (ho : op.op = .store 78 x y) {T T' : List UInt8}
    (hx : a.eval x = .pointer (some ⟨w.heap.size, 0, none⟩)) (hy : a.eval y = .agg (padA T')) (hT : T.length ≤ 10) (hT' : T'.length ≤ 10) (h : wpList Tryd.prog ops Q rest (a.put op.dst undef) (w.alloc (.cells (padA T') 78))) : wpList Tryd.prog ops Q (op :: rest) a (w.alloc (.cells (padA T) 78)) := by
  refine wpList_plain hgd fun K hK => ?_
  unfold Oper.wp execOp
  simp only [ho, hx, hy, run_storeAt_new w 78 (padA T) (padA T') (by rw [padA_size hT']; exact sizeA) (by rw [padA_size hT, padA_size hT']) (padA_one T'), Sem.run_bind, Sem.run_pure, Result.andThen_ok]
  exact hK _ _ h
theorem ret_a {fn : Func} {p u : Tmp} {tmps : Array Value} {w : World} {T : List UInt8} (h : fn.results = #[.cell p 78, .tmp u]) (hp : tmps.getD p undef = .pointer (some ⟨w.heap.size, 0, none⟩)) (hT : T.length ≤ 10) : (results fn tmps).run Tryd.prog (w.alloc (.cells (padA T) 78)) = .ok (.tuple #[.agg (padA T), tmps.getD u undef]) (w.alloc (.cells (padA T) 78)) := by
  rw [results_cell_tmp h, hp]
  simp [asAddr, Result.andThen, run_loadVar_new w 78 (padA T) 10 5 Tryd.underlying78 (by rw [padA_size hT]; exact sizeA)]
theorem u8_small {x : Int} (h0 : 0 ≤ x) (h1 : x < 256) : IntKind.u8.wrap x = x := by rw [IntKind.wrap_u8]; omega

set_option maxHeartbeats 1600000 in
set_option maxRecDepth 100000 in
theorem lay_any (n : Nat) (w : World) (hn : n < 18446744073709551616) :
    Calls Tryd.prog 47 #[.int .u64 n] w fun e w' => e = .returned (.tuple #[.agg (padA (numB n)), .int .i64 (numB n).length]) ∧ Below w.heap.size w w' := by
  have H10 : Hid ((numB n).length ≤ 10) := numB_10 hn
  have hz := (zero_of_info infoA).1
  have hsz := (zero_of_info infoA).2
  go_enter Tryd.func47, Tryd.ntmps47
  go_wp2
  go_loopg [0, 3] n (fun g x i wr => ∃ (m : Nat) (P : List UInt8), m ≤ g ∧ x = .int .u64 m ∧ i = .int .i64 P.length ∧ P ++ numB m = numB n ∧ m ≤ n ∧ wr = w.alloc (.cells (padA P) 78))
  case atStart => exact ⟨n, [], Nat.le_refl _, rfl, rfl, rfl, Nat.le_refl _, rfl⟩
  case round =>
    obtain ⟨m, P, hg, rfl, rfl, hP, hmn, rfl⟩ := hrel
    have h10 := H10.out
    rw [← hP, List.length_append] at h10
    have hp := numB_pos m
    have hP9 : P.length < 10 := by omega
    have hcell := padA_cell w hP9
    have hfro : (w.alloc (.cells (padA P) 78)).frozen? ⟨w.heap.size, P.length, none⟩ = false := Joins.unfrozen_of_block (heap_alloc_last w _) _
    by_cases hm : m < 128
    · have HN : Hid (numB m = [UInt8.ofNat m]) := numB_small hm
      have HP : Hid (P ++ numB m = numB n) := hP
      have hb : (UInt8.ofNat m).toNat = m := by simp [UInt8.toNat_ofNat']; omega
      have HA : Hid ((padA P).setIfInBounds P.length (.int .u8 (m : Int)) = padA (P ++ [UInt8.ofNat m])) := by
        have := padA_set hP9 (UInt8.ofNat m)
        rw [hb] at this; exact this
      clear hP h10 hp hb
      go_upto_region 6 with fail
      rw [HA.out]
      have hPl : (P ++ [UInt8.ofNat m]).length ≤ 10 := by simp; omega
      refine wp_region_lit ?_
      refine wpList_load_a rfl _ rfl rfl hPl ?_
      refine wpList_val rfl (v := .int .i64 (P.length : Int)) rfl ?_
      refine wpList_val rfl (v := .int .i64 ((P.length : Int) + 1)) ?_ ?_
      · have hw : IntKind.i64.wrap ((P.length : Int) + 1) = (P.length : Int) + 1 := by rw [IntKind.wrap_i64]; omega
        show (execOp _ _).run _ _ = _
        unfold execOp
        simp [Act.eval, Act.put, eqGuard, binOp, Op.intArith, hw]
      refine wpList_store_a rfl _ _ rfl rfl rfl hPl hPl ?_
      go_wp2
      refine bodyPost_ret (ret_a rfl rfl hPl) rfl ⟨?_, Below.alloc (Below.refl _ _) (Nat.le_refl _) _⟩
      have e : P ++ [UInt8.ofNat m] = numB n := by rw [← HP.out, HN.out]
      have e2 : ((P.length : Int) + 1) = ((numB n).length : Int) := by rw [← e]; simp
      rw [e]
      show Ending.returned (.tuple #[.agg (padA (numB n)), .int .i64 ((P.length : Int) + 1)]) = _
      rw [e2]
    · have HN : Hid (numB m = UInt8.ofNat (m % 128 + 128) :: numB (m / 128)) := numB_big (by omega)
      have HP : Hid (P ++ numB m = numB n) := hP
      have hb : (UInt8.ofNat (m % 128 + 128)).toNat = m % 128 + 128 := by simp [UInt8.toNat_ofNat']; omega
      have HA : Hid ((padA P).setIfInBounds P.length (.int .u8 ((m : Int) % 128 + 128)) = padA (P ++ [UInt8.ofNat (m % 128 + 128)])) := by
        have := padA_set hP9 (UInt8.ofNat (m % 128 + 128))
        rw [hb] at this; exact this
      clear hP h10 hp hb
      go_wp2
      go_roundg (m / 128)
      case measure => omega
      case rel => exact ⟨m / 128, P ++ [UInt8.ofNat (m % 128 + 128)], Nat.le_refl _, by go_num, by simp, by rw [← HP.out, HN.out]; simp, by omega, by rw [HA.out]⟩


theorem slice_a (W : World) (g : Nat) (T : List UInt8) (hT : T.length ≤ 10) : (Instr.sliceAt 78 (.pointer (some ⟨g, 0, none⟩)) none (some (.int .i64 (T.length : Int))) none).run Tryd.prog W = .ok (.slice (some ⟨g, 0, none⟩) T.length 10) W := by
  have hal : Tryd.prog.arrayLen 78 = 10 := by simp [Program.arrayLen, Tryd.underlying78]
  rw [run_sliceAt_array_h W 78 ⟨g, 0, none⟩ (by simp [Program.arrayLen, Program.elem, Tryd.underlying78]) .i64 (T.length : Int) (by omega) (by rw [hal]; omega)]
  go_simp
theorem store_a (T : List UInt8) (hT : T.length ≤ 10) (W : World) : (storeCells ⟨W.heap.size, 0, none⟩ (padA T).toList 0).run Tryd.prog (W.alloc (.cells #[.int .u8 0, .int .u8 0, .int .u8 0, .int .u8 0, .int .u8 0, .int .u8 0, .int .u8 0, .int .u8 0, .int .u8 0, .int .u8 0] 78)) = .ok () (W.alloc (.cells (padA T) 78)) :=
  run_storeCells_new W 78 _ (padA T) (by rw [padA_size hT]; exact sizeA) (by rw [padA_size hT]; rfl) (padA_one T)
theorem rdy_pad (W : World) (T : List UInt8) (hT : T.length ≤ 10) : RdY (W.alloc (.cells (padA T) 78)) (.slice (some ⟨W.heap.size, 0, none⟩) T.length 10) T := by
  refine ⟨by omega, _, 10, rfl, hT, by unfold maxLen; omega, fun h => (by cases h), fun _ => ⟨W.heap.size, 0, rfl, by simp, fun j hj => ?_⟩⟩
  rw [World.cell?_alloc_mark]
  simp [padA, Lib.byteCells, List.getD_eq_getElem?_getD, hj]
  rw [List.getElem?_append_left (by simpa using hj)]
  simp [hj]

set_option maxHeartbeats 1600000 in
set_option maxRecDepth 100000 in
theorem number_any (n : Nat) (w : World) (hn : n < 18446744073709551616) :
    Calls Tryd.prog 23 #[.int .u64 n] w fun e w' => ∃ g, e = .returned (.slice (some ⟨g, 0, none⟩) (numB n).length 10) ∧ w.heap.size ≤ g ∧ RdY w' (.slice (some ⟨g, 0, none⟩) (numB n).length 10) (numB n) ∧ Below w.heap.size w w' := by
  have h10 := numB_10 hn
  have hst := store_a (numB n) h10
  have hps := padA_size h10
  have hsl := fun W g => slice_a W g (numB n) h10
  have HL : Hid (∀ W, Calls Tryd.prog 47 #[.int .u64 n] W fun e w' => e = .returned (.tuple #[.agg (padA (numB n)), .int .i64 (numB n).length]) ∧ Below W.heap.size W w') := fun W => lay_any n W hn
  go_enter Tryd.func23, Tryd.ntmps23
  go_wp2_with (go_at_call 47; refine (HL.out _).mono ?_; rintro e w1 ⟨rfl, bel1⟩)
  go_ret
  exact ⟨_, rfl, bel1.size, rdy_pad _ _ h10, bel1.alloc bel1.size _⟩

theorem numberOf_any (l : Int) (w : World) (hf : fmd l = true) :
    Calls Tryd.prog 59 #[.int .i64 l] w fun e w' => e = .returned (.int .u64 (litN l)) ∧ w' = w := by
  have hr := idx_range hf
  have hx : ((litN l : Nat) : Int) = idx l + 2 := by unfold litN; omega
  go_enter Tryd.func59, Tryd.ntmps59
  go_wp2_with (go_at_call 68; refine (index_any _ _).mono ?_; rintro e w' ⟨rfl, rfl⟩)
  go_ret
  exact ⟨ret_int hx.symm, rfl⟩
theorem literalOf_any (n : Nat) (w : World) (hn : n < 18446744073709551616) :
    Calls Tryd.prog 69 #[.int .u64 n] w fun e w' => e = .returned (.int .i64 (litO n)) ∧ w' = w := by
  by_cases h : 2097153 < n
  · have hx : litO n = 0 := by unfold litO; rw [if_pos h]
    go_enter Tryd.func69, Tryd.ntmps69
    go_wp2
    go_ret
    exact ⟨ret_int hx.symm, rfl⟩
  · have HX : Hid (litO n = litAt ((n : Int) - 2)) := by show _ = _; unfold litO; rw [if_neg h]
    go_enter Tryd.func69, Tryd.ntmps69
    go_wp2_with (go_at_call 76; refine (at_any _ _).mono ?_; rintro e w' ⟨rfl, rfl⟩)
    go_ret
    exact ⟨ret_int HX.out.symm, rfl⟩

theorem drop_cons_getD {T : List UInt8} {k : Nat} (h : k < T.length) : T.drop k = T.getD k 0 :: T.drop (k + 1) := by
  rw [List.drop_eq_getElem_cons h]; simp [List.getD_eq_getElem?_getD, h]
theorem or_add {a b k : Nat} (ha : a < 128 ^ k) (hk : k ≤ 9) (hb : a + b * 128 ^ k < 18446744073709551616) : bits .or .u64 (a : Int) (IntKind.u64.wrap ((b : Int) * 2 ^ (7 * k))) = ((a + b * 128 ^ k : Nat) : Int) := by
  have e : (128 : Nat) ^ k = 2 ^ (7 * k) := by rw [Nat.pow_mul]
  have e2 : ((b : Int) * 2 ^ (7 * k)) = ((b * 128 ^ k : Nat) : Int) := by rw [e]; simp
  rw [e2, IntKind.wrap_u64, show (((b * 128 ^ k : Nat) : Int) % 18446744073709551616) = ((b * 128 ^ k : Nat) : Int) by omega, bits_or_u64_nat a (b * 128 ^ k) (by omega) (by omega)]
  congr 1
  rw [e] at ha ⊢
  rw [Nat.or_comm, ← Nat.shiftLeft_eq, ← Nat.shiftLeft_add_eq_or_of_lt ha, Nat.add_comm]

set_option maxHeartbeats 1600000 in
set_option maxRecDepth 100000 in
theorem take_any (v : Value) (T : List UInt8) (w : World) (hr : RdY w v T) :
    Calls Tryd.prog 22 #[v] w fun e w' => e = .returned (.tuple #[.int .u64 (tkB 0 0 T).1, .int .i64 (tkB 0 0 T).2.1, .int .i64 (tkB 0 0 T).2.2]) ∧ w' = w := by
  have hl := hr.len
  have HR : Hid (RdY w v T) := hr
  obtain ⟨a, c, rfl, hc, hm, _⟩ := hr.form
  clear hr
  generalize hX : tkB 0 0 T = X
  have HX : Hid (tkB 0 0 T = X) := hX
  clear hX
  go_enter Tryd.func22, Tryd.ntmps22
  go_wp2
  go_loopg [2, 9] T.length (fun g x i wr => ∃ (k n : Nat), k + g = T.length ∧ i = .int .i64 k ∧ x = .int .u64 n ∧ n < 128 ^ k ∧ k ≤ 9 ∧ tkB k n (T.drop k) = X ∧ wr = w)
  case atStart => exact ⟨0, 0, by omega, rfl, rfl, by simp, by omega, HX.out, rfl⟩
  case round =>
    obtain ⟨k, n, hk, rfl, rfl, hn, hk9, hT, rfl⟩ := hrel
    have HK : Hid (k + gk = T.length) := hk
    have HN : Hid (n < 128 ^ k) := hn
    have HT : Hid (tkB k n (T.drop k) = X) := hT
    clear hn hT
    by_cases hlt : k < T.length
    · obtain ⟨a', c', e', _, _, hcell⟩ := HR.out.form
      have e3 : a' = a ∧ c' = c := by injection e' with q1 q2 q3; exact ⟨q1.symm, q3.symm⟩
      obtain ⟨rfl, rfl⟩ := e3
      obtain ⟨b, off, rfl, hbl, hck⟩ := hcell k hlt
      have HD : Hid (T.drop k = T.getD k 0 :: T.drop (k + 1)) := drop_cons_getD hlt
      clear hk hcell e'
      generalize T.getD k 0 = y at *
      have hy : y.toNat < 256 := y.toNat_lt
      have hb0 : ((y.toNat : Int) == 0) = decide (y.toNat = 0) := by rw [Bool.eq_iff_iff]; simp
      have hb9 : ((k : Int) == 9) = decide (k = 9) := by rw [Bool.eq_iff_iff]; simp; omega
      by_cases h1 : (k = 9 ∧ 1 < y.toNat) ∨ (0 < k ∧ y.toNat = 0)
      · have hX : X = (0, 0, 101) := by rw [← HT.out, HD.out, tkB, if_pos h1]
        subst hX
        by_cases hy0 : y.toNat = 0
        · have hk0 : 0 < k := by omega
          simp only [hy0, decide_true] at hb0
          by_cases h9 : k = 9
          · subst h9
            clear hb9
            go_wp2
            all_goals (go_returns; exact ⟨rfl, rfl⟩)
          · simp only [h9, decide_false] at hb9
            go_wp2
            all_goals (go_returns; exact ⟨rfl, rfl⟩)
        · have hk9 : k = 9 ∧ 1 < y.toNat := by omega
          obtain ⟨rfl, hy1⟩ := hk9
          go_wp2
          all_goals (go_returns; exact ⟨rfl, rfl⟩)
      · by_cases h2 : y.toNat < 128
        · have hX : X = (n + y.toNat * 128 ^ k, k + 1, 0) := by rw [← HT.out, HD.out, tkB, if_neg h1, if_pos h2]
          subst hX
          have hsz : n + y.toNat * 128 ^ k < 18446744073709551616 := by
            have h3 := HN.out
            have h4 := pow_le_64 hk9
            rcases Nat.lt_or_ge k 9 with h9 | h9
            · have h5 : 128 ^ k ≤ 128 ^ 8 := Nat.pow_le_pow_right (by omega) (by omega)
              have h6 : y.toNat * 128 ^ k ≤ 127 * 128 ^ 8 := Nat.mul_le_mul (by omega) h5
              omega
            · obtain rfl : k = 9 := by omega
              have h6 : y.toNat * 128 ^ 9 ≤ 1 * 128 ^ 9 := Nat.mul_le_mul_right _ (by omega)
              omega
          have HO : Hid (bits .or .u64 (n : Int) (IntKind.u64.wrap ((y.toNat : Int) * 2 ^ (7 * k))) = ((n + y.toNat * 128 ^ k : Nat) : Int)) := or_add HN.out hk9 hsz
          have HO9 : Hid (k = 9 → bits .or .u64 (n : Int) ((y.toNat : Int) * 9223372036854775808) = ((n + y.toNat * 128 ^ 9 : Nat) : Int)) := fun e => by
            subst e
            have h3 := HO.out
            rw [IntKind.wrap_u64] at h3
            rw [show ((y.toNat : Int) * 2 ^ (7 * 9) % 18446744073709551616) = (y.toNat : Int) * 9223372036854775808 by omega] at h3
            exact h3
          clear hsz
          go_wp2
          all_goals (go_returns; first | exact ⟨by rw [HO.out]; simp, rfl⟩ | (have h9 : k = 9 := by assumption
                                                                              subst h9
                                                                              exact ⟨by rw [HO9.out rfl]; simp, rfl⟩))
        · have hX : X = tkB (k + 1) (n + (y.toNat - 128) * 128 ^ k) (T.drop (k + 1)) := by rw [← HT.out, HD.out, tkB, if_neg h1, if_neg h2]
          have HX2 : Hid (X = tkB (k + 1) (n + (y.toNat - 128) * 128 ^ k) (T.drop (k + 1))) := hX
          have hk8 : k ≤ 8 := by omega
          have hsz : n + (y.toNat - 128) * 128 ^ k < 128 ^ (k + 1) := by
            have h3 := HN.out
            have : (y.toNat - 128) * 128 ^ k ≤ 127 * 128 ^ k := Nat.mul_le_mul_right _ (by omega)
            rw [pow128]; omega
          have HZ : Hid (n + (y.toNat - 128) * 128 ^ k < 128 ^ (k + 1)) := hsz
          have h9 := pow_le_64 (show k + 1 ≤ 9 by omega)
          have HO : Hid (bits .or .u64 (n : Int) (IntKind.u64.wrap (((y.toNat : Int) - 128) * 2 ^ (7 * k))) = ((n + (y.toNat - 128) * 128 ^ k : Nat) : Int)) := by
            have := or_add (b := y.toNat - 128) HN.out hk9 (by omega)
            rw [show ((y.toNat - 128 : Nat) : Int) = (y.toNat : Int) - 128 by omega] at this
            exact this
          clear hsz hX h9
          go_wp2
          all_goals
            go_roundg (gk - 1)
            case measure => have := HK.out; omega
            case rel => exact ⟨k + 1, n + (y.toNat - 128) * 128 ^ k, by have := HK.out; omega, by go_num, by rw [HO.out], HZ.out, by omega, HX2.out.symm, rfl⟩
    · have hX : X = (0, 0, 33) := by rw [← HT.out, List.drop_eq_nil_of_le (by omega)]; rfl
      subst hX
      go_wp2
      go_returns
      exact ⟨rfl, rfl⟩

end Go.Proofs.YtilcokpaeapmeaaDoor
set_option linter.unusedSimpArgs false
set_option linter.unusedVariables false
namespace Go.Proofs.YtilcokpaeapmeaaDoor
open Go Go.RowKit

set_option maxHeartbeats 1600000 in
set_option maxRecDepth 100000 in
theorem number2_any (n : Nat) (w : World) (hn : n < 18446744073709551616) :
    Calls Tryd.prog 23 #[.int .u64 n] w fun e w' => ∃ g, e = .returned (.slice (some ⟨g, 0, none⟩) (numB n).length 10) ∧ w.heap.size ≤ g ∧ w'.heap[g]? = some (.cells (padA (numB n)) 78 (0, 0)) ∧ RdY w' (.slice (some ⟨g, 0, none⟩) (numB n).length 10) (numB n) ∧ Below w.heap.size w w' := by
  have h10 := numB_10 hn
  have hst := store_a (numB n) h10
  have hps := padA_size h10
  have hsl := fun W g => slice_a W g (numB n) h10
  have HL : Hid (∀ W, Calls Tryd.prog 47 #[.int .u64 n] W fun e w' => e = .returned (.tuple #[.agg (padA (numB n)), .int .i64 (numB n).length]) ∧ Below W.heap.size W w') := fun W => lay_any n W hn
  go_enter Tryd.func23, Tryd.ntmps23
  go_wp2_with (go_at_call 47; refine (HL.out _).mono ?_; rintro e w1 ⟨rfl, bel1⟩)
  go_ret
  exact ⟨_, rfl, bel1.size, World.alloc_heap_new _ _, rdy_pad _ _ h10, bel1.alloc bel1.size _⟩

end Go.Proofs.YtilcokpaeapmeaaDoor

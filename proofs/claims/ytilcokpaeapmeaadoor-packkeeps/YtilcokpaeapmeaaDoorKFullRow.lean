/-
  '[]byte("..")' of a constant: a row without room, marked behind its end: what is appended to it comes to a new row; strconv.AppendInt onto it.
  KEEP: grown below mono set on app nil text own rd rds new kept form lt trans refl rdb tens rdz len cut push whole start row
-/
import Derived.Test.YtilcokpaeapmeaaDoorJText
import Derived.Test.YtilcokpaeapmeaaDoorKByT
import Derived.Test.YtilcokpaeapmeaaDoorShelf
import Derived.Lib.SlBytesConst
import Derived.Lib.SmallJoins
import Derived.Lib.AppendStr
import Derived.Lib.AppendIntMem
import Derived.Lib.ItoaMem
import Derived.Lib.ItoaWalk
import Derived.Lib.BufferKept
import Derived.Lib.OwnKind
import Derived.Lib.Slices
import Derived.Lib.Hide
import Derived.Lib.Walk
import Derived.Laws.IdiomStrings
import Derived.Laws.OwnMore
import Derived.OwnWalk
import Derived.WalkKit
import Derived.BigCall
import Derived.BigGuard
import Derived.CellFam
import Derived.Maps.AppendAt
import Derived.Deep.LoopGhost
set_option linter.unusedSimpArgs false
set_option linter.unusedVariables false
namespace Go.Proofs.YtilcokpaeapmeaaDoor
open Go Go.RowKit Go.Shelf Go.Lib Go.Sort

/-- the library's table of tens, as the program's text lays it -/
abbrev TensY (w : World) : Prop := Lib.TabIs Tryd.prog w "internal/strconv.uint64pow10" .u64 Lib.pow10Tab
theorem TensY.below {w w' : World} (h : TensY w) (hb : Below w.heap.size w w') : TensY w' := (Lib.tabBelow_of_tabIs h) w' hb
theorem strCells_bytes (D : List UInt8) : strCells ⟨D.toArray⟩ = Lib.byteCells D := by simp [strCells, Lib.byteCells]

/-- a row without room: its cells -/
structure Full (w : World) (v : Value) (T : List UInt8) : Prop where
  ne : T ≠ []
  ex : ∃ g, v = .slice (some ⟨g, 0, none⟩) T.length T.length ∧ ∀ j u, (Lib.byteCells T)[j]? = some u → w.cell? ((⟨g, 0, none⟩ : Addr).add j) = some u
theorem Full.grown {w w' : World} {v : Value} {T : List UInt8} (h : Full w v T) (hb : Below w.heap.size w w') : Full w' v T := by
  obtain ⟨g, hv, hc⟩ := h.ex
  refine ⟨h.ne, g, hv, fun j u hj => ?_⟩
  have := hc j u hj
  exact (hb.cell (World.block_lt_of_cell? w _ this)).trans this
theorem Full.new (w : World) (T : List UInt8) (hne : T ≠ []) (fr : Nat × Nat) : Full (w.alloc (.cells (Lib.byteCells T).toArray 5 fr)) (.slice (some ⟨w.heap.size, 0, none⟩) T.length T.length) T := by
  refine ⟨hne, w.heap.size, rfl, fun j u hj => ?_⟩
  have hadd : (⟨w.heap.size, 0, none⟩ : Addr).add j = ⟨w.heap.size, j, none⟩ := by unfold Addr.add; split <;> simp_all
  rw [hadd, World.cell?_alloc_mark]
  simpa using hj

theorem grown_row (w : World) (B n m old : Nat) (xs news : List Value) (hx : xs.length = n) (hl : news.length = m) (ho : old < n + m) (h63 : n + m ≤ maxLen) (hbase : B ≤ w.heap.size) :
    (w.drew.alloc (.cells (xs.toArray ++ news.toArray ++ Builtin.zeroCells (Value.int .u8 0).cells (grownCap w (n + m) old 5 - (n + m))) 5)).ownsRow B 5 1 (.slice (some ⟨w.heap.size, 0, none⟩) (n + m) (grownCap w (n + m) old 5)) (n + m) (xs ++ news) ∧
      w.grownBy (w.drew.alloc (.cells (xs.toArray ++ news.toArray ++ Builtin.zeroCells (Value.int .u8 0).cells (grownCap w (n + m) old 5 - (n + m))) 5)) none := by
  have hge := grownCap_ge w (n + m) old 5
  have hcm : grownCap w (n + m) old 5 ≤ maxLen := grownCap_le_maxLen w (n + m) old 5 h63
  have hlen : (xs ++ news).length = (n + m) * 1 := by rw [List.length_append, hx, hl, Nat.mul_one]
  refine ⟨⟨hlen, .inr ⟨w.heap.size, _, _, rfl, hbase, heap_alloc_new w.drew _, hge, hcm, ?_, ?_⟩⟩, ⟨rfl, rfl, rfl, by simp, fun k hk _ => heap_alloc_old w.drew _ hk⟩⟩
  · have hz1 : (Value.int IntKind.u8 0).cells.size = 1 := rfl
    simp only [Array.size_append, List.size_toArray, size_zeroCells, hz1, hx, hl]
    omega
  · simp only [Array.toList_append, List.append_assoc]
    rw [← List.append_assoc, ← hlen]
    exact List.take_left

theorem wpList_append_full {w : World} {ops : Array Oper} {rest : List Oper} {o : Oper} {a : Act} {Q : Exit → Act → World → Prop} (hgd : o.guard = none) (s x : Operand)
    (ho : o.op = .call { callee := .builtin .append, args := #[s, x], argTypes := #[44, 44] }) (B : Nat) (v : Value) (T : List UInt8) (hs : a.eval s = v) (hf : Full w v T)
    (ad : Addr) (m c : Nat) (D : List UInt8) (hx : a.eval x = .slice (some ad) m c) (hl : D.length = m) (hnews : ∀ j u, (Lib.byteCells D)[j]? = some u → w.cell? (ad.add j) = some u) (hm : 0 < m) (hb : T.length + m ≤ 70368744177664) (hbase : B ≤ w.heap.size)
    (h : ∀ v' w', OwnT B w' v' (T ++ D) → w.grownBy w' none → wpList Tryd.prog ops Q rest (a.put o.dst v') w') : wpList Tryd.prog ops Q (o :: rest) a w := by
  obtain ⟨i0, hi, hz0, hz1, hz2⟩ := info_parts infoY
  obtain ⟨g, rfl, hc⟩ := hf.ex
  refine wpList_plain hgd fun K hK => ?_
  have h63 : T.length + m ≤ maxLen := by unfold maxLen; omega
  have hr := run_append_grow (P := Tryd.prog) w 44 o.type 5 i0 (.int .u8 0) Tryd.underlying44 hi hz0 ⟨g, 0, none⟩ T.length T.length (Lib.byteCells T) (by rw [hz1, Lib.byteCells_length, Nat.mul_one]) hc ad m c (Lib.byteCells D) (by rw [hz1, Lib.byteCells_length, hl, Nat.mul_one]) hnews (by omega) (by omega) (by rw [hz2]; exact growslice_fits (by omega) (by omega))
  obtain ⟨h1, h2⟩ := grown_row w B T.length m T.length (Lib.byteCells T) (Lib.byteCells D) (Lib.byteCells_length _) (by rw [Lib.byteCells_length, hl]) (by omega) h63 hbase
  unfold Oper.wp execOp
  simp only [ho, resolve, invoke, builtin, Sem.run_bind, Sem.run_pure, Result.andThen_ok, List.map_toArray, List.map_cons, List.map_nil, hs, hx, hr]
  refine hK _ _ (h _ _ ?_ h2)
  exact OwnT.more (by rw [hl]; exact h1)
theorem wpList_append_full_string {w : World} {ops : Array Oper} {rest : List Oper} {o : Oper} {a : Act} {Q : Exit → Act → World → Prop} (hgd : o.guard = none) (s x : Operand)
    (ho : o.op = .call { callee := .builtin .append, args := #[s, x], argTypes := #[44, 9] }) (B : Nat) (v : Value) (T : List UInt8) (hs : a.eval s = v) (hf : Full w v T)
    (D : List UInt8) (hx : a.eval x = .string ⟨D.toArray⟩) (hm : D ≠ []) (hb : T.length + D.length ≤ 70368744177664) (hbase : B ≤ w.heap.size)
    (h : ∀ v' w', OwnT B w' v' (T ++ D) → w.grownBy w' none → wpList Tryd.prog ops Q rest (a.put o.dst v') w') : wpList Tryd.prog ops Q (o :: rest) a w := by
  obtain ⟨i0, hi, hz0, hz1, hz2⟩ := info_parts infoY
  obtain ⟨g, rfl, hc⟩ := hf.ex
  refine wpList_plain hgd fun K hK => ?_
  have hpos : 0 < D.length := List.length_pos_iff.2 hm
  have hsz : (⟨D.toArray⟩ : ByteArray).size = D.length := by simp [ByteArray.size]
  have h63 : T.length + D.length ≤ maxLen := by unfold maxLen; omega
  have hr := run_append_grow_string (P := Tryd.prog) (w := w) 44 9 o.type 5 i0 (.int .u8 0) Tryd.underlying44 Tryd.underlying9 hi hz0 ⟨g, 0, none⟩ T.length T.length (Lib.byteCells T) (by rw [hz1, Lib.byteCells_length, Nat.mul_one]) hc ⟨D.toArray⟩ (by rw [hsz]; omega) (by rw [hsz]; omega) (by rw [hz2, hsz]; exact growslice_fits (by omega) (by omega))
  obtain ⟨h1, h2⟩ := grown_row w B T.length D.length T.length (Lib.byteCells T) (Lib.byteCells D) (Lib.byteCells_length _) (Lib.byteCells_length _) (by omega) h63 hbase
  rw [hsz, strCells_bytes] at hr
  unfold Oper.wp execOp
  simp only [ho, resolve, invoke, builtin, Sem.run_bind, Sem.run_pure, Result.andThen_ok, List.map_toArray, List.map_cons, List.map_nil, hs, hx, hr]
  exact hK _ _ (h _ _ (OwnT.more h1) h2)

set_option maxHeartbeats 6400000 in
set_option maxRecDepth 100000 in
theorem uint_full_small (B u : Nat) (hu : u < 100) (sv : Value) (T : List UInt8) (w : World) (hf : Full w sv T) (hBw : B ≤ w.heap.size) (hlim : T.length ≤ 1048576) :
    Calls Tryd.prog 61 #[sv, .int .u64 u, .int .i64 10] w fun e w' => ∃ v', e = .returned v' ∧ OwnT B w' v' (T ++ Lib.decDigits u) ∧ Below w.heap.size w w' := by
  have hlen : (Lib.decDigits u).length ≤ 20 := by
    rw [Lib.decDigits_length]
    by_cases h10 : u < 10
    · rw [Lib.nDigits_small h10]; omega
    · rw [Lib.nDigits_big h10, Lib.nDigits_small (show u / 10 < 10 by omega)]; omega
  obtain ⟨g, rfl, _⟩ := hf.ex
  have HF : Hid (Full w (.slice (some ⟨g, 0, none⟩) T.length T.length) T) := hf
  have hne := dec_ne u
  clear hf
  go_enter Tryd.func61, Tryd.ntmps61
  go_wp2_with (first
    | (go_at_call 70; refine (Tryd.internal_strconv_small u hu _).mono ?_; rintro e w' ⟨rfl, rfl⟩)
    | (at_builtin; refine wpList_append_full_string rfl _ _ rfl B _ T rfl HF.out (Lib.decDigits u) rfl hne (by omega) hBw ?_; intro v' w1 own1 gr1))
  go_ret
  exact ⟨_, rfl, own1, (Below.refl _ _).grown gr1 (Nat.le_refl _) (fun k hk => by cases hk)⟩

set_option maxHeartbeats 12800000 in
set_option maxRecDepth 100000 in
theorem uint_full_big (B u : Nat) (hu : 100 ≤ u) (hu64 : u < 18446744073709551616) (sv : Value) (T : List UInt8) (w : World) (hf : Full w sv T) (hBw : B ≤ w.heap.size) (hlim : T.length ≤ 1048576) (htab : TensY w) :
    Calls Tryd.prog 61 #[sv, .int .u64 u, .int .i64 10] w fun e w' => ∃ v', e = .returned v' ∧ OwnT B w' v' (T ++ Lib.decDigits u) ∧ Below w.heap.size w w' := by
  have hu1 : 1 ≤ u := by omega
  have hnd20 : Lib.nDigits u ≤ 20 := by have := Lib.numDigits_eq u hu1 hu64; split at this <;> omega
  have hnd0 : 0 < Lib.nDigits u := by rw [← Lib.decDigits_length]; exact List.length_pos_iff.2 (dec_ne u)
  have hal : Tryd.prog.arrayLen 107 = 24 := by simp [Program.arrayLen, Tryd.underlying107]
  have hsl : ∀ W, (Instr.sliceAt 107 (.pointer (some ⟨w.heap.size, 0, none⟩)) none (some (.int .i64 (Lib.nDigits u : Int))) none).run Tryd.prog W = .ok (.slice (some ⟨w.heap.size, 0, none⟩) (Lib.nDigits u) 24) W := fun W => by
    rw [run_sliceAt_array_h W 107 ⟨w.heap.size, 0, none⟩ (by simp [Program.arrayLen, Program.elem, Tryd.underlying107]) .i64 (Lib.nDigits u : Int) (by omega) (by rw [hal]; omega)]
    go_simp
  have hH0 := Lib.holds_zero0 w 107 (Lib.nDigits u) (by omega)
  have hfmt := Tryd.internal_strconv_formatBase10 w.heap.size 0 24 u (Array.replicate (Lib.nDigits u) 0) (w.alloc (.cells Lib.zeros24 107)) hH0 (by rw [Array.size_replicate]; exact Lib.lt_pow_nDigits u) hu64 (by rw [Array.size_replicate]; omega)
  rw [Array.size_replicate] at hfmt
  have HH0 := Lib.hid hH0
  obtain ⟨g, rfl, _⟩ := hf.ex
  have HF : Hid (Full w (.slice (some ⟨g, 0, none⟩) T.length T.length) T) := hf
  have iu : (100 : Int) ≤ (u : Int) := by omega
  clear hH0 hal hf
  go_enter Tryd.func61, Tryd.ntmps61
  go_wp2_with (first
    | (go_at_call 71; refine (Tryd.internal_strconv_numDigits u hu1 hu64 _ (Lib.tabIs_alloc htab _)).mono ?_; rintro e w' ⟨rfl, rfl⟩))
  go_at_call 72
  refine hfmt.mono ?_
  rintro e w' ⟨rfl, k, v', dk, rfl, hF⟩
  have hcells : ∀ j u', (Lib.byteCells (Lib.decDigits u))[j]? = some u' → ((putRow (fun (b : UInt8) => Value.int .u8 (b.toNat : Int)) (w.alloc (.cells Lib.zeros24 107)) w.heap.size 0 dk).drewN k).cell? ((⟨w.heap.size, 0, none⟩ : Addr).add j) = some u' := by
    intro j u' hj
    have hjl : j < (Lib.decDigits u).length := by
      have h5 := (List.getElem?_eq_some_iff.1 hj).1
      rwa [Lib.byteCells_length] at h5
    have e5 : (Lib.byteCells (Lib.decDigits u))[j]? = some (Value.int .u8 ((Lib.decDigits u)[j].toNat : Int)) := by simp [Lib.byteCells, hjl]
    rw [e5] at hj
    cases hj
    rw [Lib.row_is_numeral hF j hjl, Lib.add_plain, World.cell?_drewN]
    exact cell?_putRow (fun (b : UInt8) => Value.int .u8 (b.toNat : Int)) _ w.heap.size 0 _ dk HH0.out (by rw [hF.size, Array.size_replicate]) j (by rw [hF.size]; rw [Lib.decDigits_length] at hjl; exact hjl)
  obtain ⟨os, eo⟩ := Lib.fin_at w (.cells Lib.zeros24 107) dk k 0
  have hnx2 : Below w.heap.size w ((putRow (fun (b : UInt8) => Value.int .u8 (b.toNat : Int)) (w.alloc (.cells Lib.zeros24 107)) w.heap.size 0 dk).drewN k) := by rw [eo]; exact Lib.below_grow w.heap.size w (Nat.le_refl _) k os
  generalize (putRow (fun (b : UInt8) => Value.int .u8 (b.toNat : Int)) (w.alloc (.cells Lib.zeros24 107)) w.heap.size 0 dk).drewN k = W2 at hcells hnx2 ⊢
  have HF2 : Hid (Full W2 (.slice (some ⟨g, 0, none⟩) T.length T.length) T) := HF.out.grown hnx2
  have hs2 := hnx2.size
  clear eo HH0 hfmt
  go_wp2_with (at_builtin; refine wpList_append_full rfl _ _ rfl B _ T rfl HF2.out ⟨w.heap.size, 0, none⟩ (Lib.nDigits u) 24 (Lib.decDigits u) rfl (Lib.decDigits_length u) hcells hnd0 (by omega) (by omega) ?_; intro v2 w3 own3 gr3)
  go_ret
  exact ⟨_, rfl, own3, hnx2.grown gr3 (by omega) (fun k hk => by cases hk)⟩

set_option maxHeartbeats 6400000 in
set_option maxRecDepth 100000 in
/-- strconv.AppendInt onto such a row: a number from 0 on -/
theorem int_full (B u : Nat) (hu : u < 9223372036854775808) (sv : Value) (T : List UInt8) (w : World) (hf : Full w sv T) (hBw : B ≤ w.heap.size) (hlim : T.length ≤ 1048576) (htab : TensY w) :
    Calls Tryd.prog 32 #[sv, .int .i64 u, .int .i64 10] w fun e w' => ∃ v', e = .returned v' ∧ OwnT B w' v' (T ++ Lib.itoa u) ∧ Below w.heap.size w w' := by
  have hU : Calls Tryd.prog 61 #[sv, .int .u64 u, .int .i64 10] w fun e w' => ∃ v', e = .returned v' ∧ OwnT B w' v' (T ++ Lib.decDigits u) ∧ Below w.heap.size w w' := by
    by_cases h : u < 100
    · exact uint_full_small B u h sv T w hf hBw hlim
    · exact uint_full_big B u (by omega) (by omega) sv T w hf hBw hlim htab
  have hwr : IntKind.u64.wrap (u : Int) = (u : Int) := by rw [IntKind.wrap_u64]; omega
  have HE : Hid (Lib.itoa (u : Int) = Lib.decDigits u) := Lib.itoa_nonneg u
  have hI : Calls Tryd.prog 49 #[sv, .int .i64 u, .int .i64 10] w fun e w' => ∃ v', e = .returned v' ∧ OwnT B w' v' (T ++ Lib.itoa u) ∧ Below w.heap.size w w' := by
    rw [HE.out]
    obtain ⟨g, rfl, _⟩ := hf.ex
    clear hf
    go_enter Tryd.func49, Tryd.ntmps49
    go_wp2_with (go_at_call 61; refine hU.mono ?_; rintro e w2 ⟨v2, rfl, own2, bel2⟩)
    go_ret
    exact ⟨_, rfl, own2, bel2⟩
  obtain ⟨g, rfl, _⟩ := hf.ex
  clear hf hU
  go_enter Tryd.func32, Tryd.ntmps32
  go_wp2_with (go_at_call 49; refine hI.mono ?_; rintro e w2 ⟨v2, rfl, own2, bel2⟩)
  go_ret
  exact ⟨_, rfl, own2, bel2⟩

end Go.Proofs.YtilcokpaeapmeaaDoor

/-
  '[]byte("..")' of a constant: a row without room, marked behind its end: what is appended to it comes to a new row; strconv.AppendInt onto it.
  KEEP: grown below mono set on app nil text own rd rds new kept form lt trans refl rdb tens rdz len cut push whole start row
-/
import Derived.Test.YtpebpnbikdahkaaDoorRdP
import Derived.Test.YtpebpnbikdahkaaDoorByT
import Derived.Test.YtpebpnbikdahkaaDoorShelf
import Derived.Lib.SlBytesConst
import Derived.Lib.SmallJoins
import Derived.Lib.AppendStr
import Derived.Lib.AppendIntMem
import Derived.Lib.ItoaMem
import Derived.Lib.ItoaWalk
import Derived.Lib.BufferKept
import Derived.Lib.OwnKind
import Derived.Lib.Slices
import Derived.Lib.Hide
import Derived.Lib.Walk
import Derived.Laws.IdiomStrings
import Derived.Laws.OwnMore
import Derived.OwnWalk
import Derived.WalkKit
import Derived.BigCall
import Derived.BigGuard
import Derived.CellFam
import Derived.Maps.AppendAt
import Derived.Deep.LoopGhost
set_option linter.unusedSimpArgs false
set_option linter.unusedVariables false
namespace Go.Proofs.YtpebpnbikdahkaaDoor
open Go Go.RowKit Go.Shelf Go.Lib Go.Sort

/-- the library's table of tens, as the program's text lays it -/
abbrev TensY (w : World) : Prop := Lib.TabIs Tryd.prog w "internal/strconv.uint64pow10" .u64 Lib.pow10Tab
theorem TensY.below {w w' : World} (h : TensY w) (hb : Below w.heap.size w w') : TensY w' := (Lib.tabBelow_of_tabIs h) w' hb
theorem strCells_bytes (D : List UInt8) : strCells ⟨D.toArray⟩ = Lib.byteCells D := by simp [strCells, Lib.byteCells]

/-- a row without room: its cells -/
structure Full (w : World) (v : Value) (T : List UInt8) : Prop where
  ne : T ≠ []
  ex : ∃ g, v = .slice (some ⟨g, 0, none⟩) T.length T.length ∧ ∀ j u, (Lib.byteCells T)[j]? = some u → w.cell? ((⟨g, 0, none⟩ : Addr).add j) = some u
theorem Full.grown {w w' : World} {v : Value} {T : List UInt8} (h : Full w v T) (hb : Below w.heap.size w w') : Full w' v T := by
  obtain ⟨g, hv, hc⟩ := h.ex
  refine ⟨h.ne, g, hv, fun j u hj => ?_⟩
  have := hc j u hj
  exact (hb.cell (World.block_lt_of_cell? w _ this)).trans this
theorem Full.new (w : World) (T : List UInt8) (hne : T ≠ []) (fr : Nat × Nat) : Full (w.alloc (.cells (Lib.byteCells T).toArray 5 fr)) (.slice (some ⟨w.heap.size, 0, none⟩) T.length T.length) T := by
  refine ⟨hne, w.heap.size, rfl, fun j u hj => ?_⟩
  have hadd : (⟨w.heap.size, 0, none⟩ : Addr).add j = ⟨w.heap.size, j, none⟩ := by unfold Addr.add; split <;> simp_all
  rw [hadd, World.cell?_alloc_mark]
  simpa using hj

theorem grown_row (w : World) (B n m old : Nat) (xs news : List Value) (hx : xs.length = n) (hl : news.length = m) (ho : old < n + m) (h63 : n + m ≤ maxLen) (hbase : B ≤ w.heap.size) :
    (w.drew.alloc (.cells (xs.toArray ++ news.toArray ++ Builtin.zeroCells (Value.int .u8 0).cells (grownCap w (n + m) old 5 - (n + m))) 5)).ownsRow B 5 1 (.slice (some ⟨w.heap.size, 0, none⟩) (n + m) (grownCap w (n + m) old 5)) (n + m) (xs ++ news) ∧
      w.grownBy (w.drew.alloc (.cells (xs.toArray ++ news.toArray ++ Builtin.zeroCells (Value.int .u8 0).cells (grownCap w (n + m) old 5 - (n + m))) 5)) none := by
  have hge := grownCap_ge w (n + m) old 5
  have hcm : grownCap w (n + m) old 5 ≤ maxLen := grownCap_le_maxLen w (n + m) old 5 h63
  have hlen : (xs ++ news).length = (n + m) * 1 := by rw [List.length_append, hx, hl, Nat.mul_one]
  refine ⟨⟨hlen, .inr ⟨w.heap.size, _, _, rfl, hbase, heap_alloc_new w.drew _, hge, hcm, ?_, ?_⟩⟩, ⟨rfl, rfl, rfl, by simp, fun k hk _ => heap_alloc_old w.drew _ hk⟩⟩
  · have hz1 : (Value.int IntKind.u8 0).cells.size = 1 := rfl
    simp only [Array.size_append, List.size_toArray, size_zeroCells, hz1, hx, hl]
    omega
  · simp only [Array.toList_append, List.append_assoc]
    rw [← List.append_assoc, ← hlen]
    exact List.take_left

theorem wpList_append_full {w : World} {ops : Array Oper} {rest : List Oper} {o : Oper} {a : Act} {Q : Exit → Act → World → Prop} (hgd : o.guard = none) (s x : Operand)
    (ho : o.op = .call { callee := .builtin .append, args := #[s, x], argTypes := #[30, 30] }) (B : Nat) (v : Value) (T : List UInt8) (hs : a.eval s = v) (hf : Full w v T)
    (ad : Addr) (m c : Nat) (D : List UInt8) (hx : a.eval x = .slice (some ad) m c) (hl : D.length = m) (hnews : ∀ j u, (Lib.byteCells D)[j]? = some u → w.cell? (ad.add j) = some u) (hm : 0 < m) (hb : T.length + m ≤ 70368744177664) (hbase : B ≤ w.heap.size)
    (h : ∀ v' w', OwnT B w' v' (T ++ D) → w.grownBy w' none → wpList Tryd.prog ops Q rest (a.put o.dst v') w') : wpList Tryd.prog ops Q (o :: rest) a w := by
  obtain ⟨i0, hi, hz0, hz1, hz2⟩ := info_parts infoY
  obtain ⟨g, rfl, hc⟩ := hf.ex
  refine wpList_plain hgd fun K hK => ?_
  have h63 : T.length + m ≤ maxLen := by unfold maxLen; omega
  have hr := run_append_grow (P := Tryd.prog) w 30 o.type 5 i0 (.int .u8 0) Tryd.underlying30 hi hz0 ⟨g, 0, none⟩ T.length T.length (Lib.byteCells T) (by rw [hz1, Lib.byteCells_length, Nat.mul_one]) hc ad m c (Lib.byteCells D) (by rw [hz1, Lib.byteCells_length, hl, Nat.mul_one]) hnews (by omega) (by omega) (by rw [hz2]; exact growslice_fits (by omega) (by omega))
  obtain ⟨h1, h2⟩ := grown_row w B T.length m T.length (Lib.byteCells T) (Lib.byteCells D) (Lib.byteCells_length _) (by rw [Lib.byteCells_length, hl]) (by omega) h63 hbase
  unfold Oper.wp execOp
  simp only [ho, resolve, invoke, builtin, Sem.run_bind, Sem.run_pure, Result.andThen_ok, List.map_toArray, List.map_cons, List.map_nil, hs, hx, hr]
  refine hK _ _ (h _ _ ?_ h2)
  exact OwnT.more (by rw [hl]; exact h1)
theorem wpList_append_full_string {w : World} {ops : Array Oper} {rest : List Oper} {o : Oper} {a : Act} {Q : Exit → Act → World → Prop} (hgd : o.guard = none) (s x : Operand)
    (ho : o.op = .call { callee := .builtin .append, args := #[s, x], argTypes := #[30, 9] }) (B : Nat) (v : Value) (T : List UInt8) (hs : a.eval s = v) (hf : Full w v T)
    (D : List UInt8) (hx : a.eval x = .string ⟨D.toArray⟩) (hm : D ≠ []) (hb : T.length + D.length ≤ 70368744177664) (hbase : B ≤ w.heap.size)
    (h : ∀ v' w', OwnT B w' v' (T ++ D) → w.grownBy w' none → wpList Tryd.prog ops Q rest (a.put o.dst v') w') : wpList Tryd.prog ops Q (o :: rest) a w := by
  obtain ⟨i0, hi, hz0, hz1, hz2⟩ := info_parts infoY
  obtain ⟨g, rfl, hc⟩ := hf.ex
  refine wpList_plain hgd fun K hK => ?_
  have hpos : 0 < D.length := List.length_pos_iff.2 hm
  have hsz : (⟨D.toArray⟩ : ByteArray).size = D.length := by simp [ByteArray.size]
  have h63 : T.length + D.length ≤ maxLen := by unfold maxLen; omega
  have hr := run_append_grow_string (P := Tryd.prog) (w := w) 30 9 o.type 5 i0 (.int .u8 0) Tryd.underlying30 Tryd.underlying9 hi hz0 ⟨g, 0, none⟩ T.length T.length (Lib.byteCells T) (by rw [hz1, Lib.byteCells_length, Nat.mul_one]) hc ⟨D.toArray⟩ (by rw [hsz]; omega) (by rw [hsz]; omega) (by rw [hz2, hsz]; exact growslice_fits (by omega) (by omega))
  obtain ⟨h1, h2⟩ := grown_row w B T.length D.length T.length (Lib.byteCells T) (Lib.byteCells D) (Lib.byteCells_length _) (Lib.byteCells_length _) (by omega) h63 hbase
  rw [hsz, strCells_bytes] at hr
  unfold Oper.wp execOp
  simp only [ho, resolve, invoke, builtin, Sem.run_bind, Sem.run_pure, Result.andThen_ok, List.map_toArray, List.map_cons, List.map_nil, hs, hx, hr]
  exact hK _ _ (h _ _ (OwnT.more h1) h2)

end Go.Proofs.YtpebpnbikdahkaaDoor

/-
  The table of operators; ofOp, ofText, walked.
  KEEP: off c0 c1 c2 c3 c4 s0 s1 s2 s3 s4 newS rds lt f t q x len below nil form rd mono on app start at new trans refl kept own row out grown rdz set one more lt size cell some none letL tail next step go add put del get look no yes e c f b k n m box blw c0 c1 s0 s1 s2 s3
-/
import Derived.Test.YtmfcaoacklbkoaaDoorRlM
import Derived.Deep.WholeRow
import Derived.Laws.ResultCell
set_option linter.unusedSimpArgs false
set_option linter.unusedVariables false
namespace Go.Proofs.YtmfcaoacklbkoaaDoor
open Go Go.RowKit

/-- the table's cells -/
def opsC (T1 T2 T3 T4 T5 : ByteArray) : Array Value :=
  #[.int .i64 1, .string T1, .int .i64 (-1), .int .i64 (-1), .int .i64 2, .string T2, .int .i64 (-1), .int .i64 0, .int .i64 3, .string T3, .int .i64 0, .int .i64 0, .int .i64 4, .string T4, .int .i64 0, .int .i64 1, .int .i64 5, .string T5, .int .i64 1, .int .i64 1]
/-- the table lies as its initialiser lays it -/
def OpT (W : World) : Prop := ∃ t, W.heap[0]? = some (.cells (opsC ⟨#[60, 60]⟩ ⟨#[60, 61]⟩ ⟨#[61]⟩ ⟨#[62, 61]⟩ ⟨#[62, 62]⟩) t (0, 0))
theorem OpT.lt {W : World} (h : OpT W) : 0 < W.heap.size := by
  obtain ⟨t, h⟩ := h
  exact (Array.getElem?_eq_some_iff.1 h).1
theorem OpT.blw {W W' : World} (h : OpT W) (hb : Below W.heap.size W W') : OpT W' := by
  obtain ⟨t, e⟩ := h
  exact ⟨t, (hb.block _ (OpT.lt ⟨t, e⟩)).trans e⟩
theorem infoOps : (Tryd.prog.info? 93).map (·.size) = some 20 := by kernel_rfl
theorem infoOp22 : (Tryd.prog.info? 76).map (fun i => (i.zero, i.size, i.bytes)) = some (some (.agg #[.int .i64 0, .string ⟨#[]⟩, .int .i64 0, .int .i64 0]), 4, 40) := by kernel_rfl
theorem undOps : ∃ e, Tryd.prog.underlying 93 = some (.array 5 e) := ⟨_, Tryd.underlying93⟩
theorem OpT.load {W : World} (h : OpT W) : (Instr.loadAt 93 (.pointer (some ⟨0, 0, none⟩))).run Tryd.prog W = .ok (.agg (opsC ⟨#[60, 60]⟩ ⟨#[60, 61]⟩ ⟨#[61]⟩ ⟨#[62, 61]⟩ ⟨#[62, 62]⟩)) W := by
  obtain ⟨t, h⟩ := h
  obtain ⟨e, hu⟩ := undOps
  simp only [Instr.loadAt, Instr.sureAddr, Sem.run_bind, Sem.run_pure, Result.andThen]
  exact run_loadVar_row W 0 t 93 _ (0, 0) _ h hu rfl infoOps
theorem wpList_load_op {ops : Array Oper} {rest : List Oper} {op : Oper} {a : Act} {W : World} {Q : Exit → Act → World → Prop} (hgd : op.guard = none) (x : Operand) (ho : op.op = .load 93 x)
    (hx : a.eval x = .pointer (some ⟨0, 0, none⟩)) (hB : OpT W) (h : wpList Tryd.prog ops Q rest (a.put op.dst (.agg (opsC ⟨#[60, 60]⟩ ⟨#[60, 61]⟩ ⟨#[61]⟩ ⟨#[62, 61]⟩ ⟨#[62, 62]⟩))) W) : wpList Tryd.prog ops Q (op :: rest) a W := by
  refine wpList_plain hgd fun K hK => ?_
  unfold Oper.wp execOp
  simp only [ho, hx, hB.load, Sem.run_bind, Sem.run_pure, Result.andThen_ok]
  exact hK _ _ h
/-- an operator's box -/
def Oq (W : World) (D : Nat) (o : Int) (t : ByteArray) (l m : Int) : Prop := W.heap[D]? = some (.cells #[.int .i64 o, .string t, .int .i64 l, .int .i64 m] 76 (0, 0))
section
variable {W : World} {D : Nat} {o l m : Int} {t : ByteArray}
theorem Oq.lt (h : Oq W D o t l m) : D < W.heap.size := (Array.getElem?_eq_some_iff.1 h).1
theorem Oq.c0 (h : Oq W D o t l m) : W.cell? ⟨D, 0, none⟩ = some (.int .i64 o) := by simp [World.cell?, show W.heap[D]? = _ from h]
theorem Oq.c1 (h : Oq W D o t l m) : W.cell? ⟨D, 1, none⟩ = some (.string t) := by simp [World.cell?, show W.heap[D]? = _ from h]
theorem Oq.c2 (h : Oq W D o t l m) : W.cell? ⟨D, 2, none⟩ = some (.int .i64 l) := by simp [World.cell?, show W.heap[D]? = _ from h]
theorem Oq.c3 (h : Oq W D o t l m) : W.cell? ⟨D, 3, none⟩ = some (.int .i64 m) := by simp [World.cell?, show W.heap[D]? = _ from h]
theorem Oq.f (h : Oq W D o t l m) (k : Nat) : W.frozen? ⟨D, k, none⟩ = false := by simp [World.frozen?, show W.heap[D]? = _ from h]
theorem Oq.newS (W : World) (o : Int) (t : ByteArray) (l m : Int) : Oq (W.alloc (.cells #[.int .i64 o, .string t, .int .i64 l, .int .i64 m] 76)) W.heap.size o t l m := World.alloc_heap_new W _
theorem Oq.blw {W' : World} (h : Oq W D o t l m) (hb : Below W.heap.size W W') : Oq W' D o t l m := (hb.block D h.lt).trans h
theorem Oq.set (h : Oq W D o t l m) (k : Nat) (z : Value) : (W.setCell ⟨D, k, none⟩ z).heap[D]? = some (.cells (#[.int .i64 o, .string t, .int .i64 l, .int .i64 m].set! k z) 76 (0, 0)) := by
  obtain ⟨hlt, hk⟩ := Array.getElem?_eq_some_iff.1 h
  show (W.heap.modify D _)[D]? = _
  rw [Array.getElem?_eq_getElem (by rw [Array.size_modify]; exact hlt), Array.getElem_modify_self, hk]
  rfl
theorem Oq.s0 (h : Oq W D o t l m) (z : Int) : Oq (W.setCell ⟨D, 0, none⟩ (.int .i64 z)) D z t l m := h.set 0 _
theorem Oq.s1 (h : Oq W D o t l m) (z : ByteArray) : Oq (W.setCell ⟨D, 1, none⟩ (.string z)) D o z l m := h.set 1 _
theorem Oq.s2 (h : Oq W D o t l m) (z : Int) : Oq (W.setCell ⟨D, 2, none⟩ (.int .i64 z)) D o t z m := h.set 2 _
theorem Oq.s3 (h : Oq W D o t l m) (z : Int) : Oq (W.setCell ⟨D, 3, none⟩ (.int .i64 z)) D o t l z := h.set 3 _
end
theorem ret_oq {fn : Func} {p u : Tmp} {tmps : Array Value} {W : World} {D : Nat} {t : ByteArray} {o l m : Int} (h : fn.results = #[.cell p 76, .tmp u]) (hp : tmps.getD p undef = .pointer (some ⟨D, 0, none⟩)) (hb : Oq W D o t l m) :
    (results fn tmps).run Tryd.prog W = .ok (.tuple #[.agg #[.int .i64 o, .string t, .int .i64 l, .int .i64 m], tmps.getD u undef]) W := by
  have c0 := hb.c0
  have c1 := hb.c1
  have c2 := hb.c2
  have c3 := hb.c3
  simp only [Array.getD_eq_getD_getElem?] at hp ⊢
  simp [results, h, hp, go_sem, c0, c1, c2, c3]
theorem blw_set22 {B : Nat} {w W : World} (hb : Below B w W) {D : Nat} (hD : B ≤ D) (k : Nat) (x : Value) : Below B w (W.setCell ⟨D, k, none⟩ x) := hb.setCell hD _
/-- all four cells are laid -/
def st4 (W : World) (D : Nat) (o : Int) (t : ByteArray) (l m : Int) : World := (((W.setCell ⟨D, 0, none⟩ (.int .i64 o)).setCell ⟨D, 1, none⟩ (.string t)).setCell ⟨D, 2, none⟩ (.int .i64 l)).setCell ⟨D, 3, none⟩ (.int .i64 m)
theorem st4_q {W : World} {D : Nat} {o l m o' l' m' : Int} {t t' : ByteArray} (h : Oq W D o t l m) : Oq (st4 W D o' t' l' m') D o' t' l' m' := (((h.s0 _).s1 _).s2 _).s3 _
theorem st4_b {B : Nat} {w W : World} (hb : Below B w W) {D : Nat} (hD : B ≤ D) (o : Int) (t : ByteArray) (l m : Int) : Below B w (st4 W D o t l m) := blw_set22 (blw_set22 (blw_set22 (blw_set22 hb hD _ _) hD _ _) hD _ _) hD _ _

/-- is there such an operator -/
def opK (z : Int) : Bool := decide (1 ≤ z ∧ z ≤ 5)
def OpAns (w w' : World) (e : Ending) (o : Int) (t : ByteArray) (ok : Bool) : Prop := ∃ l m, e = .returned (.tuple #[.agg #[.int .i64 o, .string t, .int .i64 l, .int .i64 m], .bool ok]) ∧ Below w.heap.size w w'

theorem szOp22 : Tryd.prog.cellsOf 76 = 4 := by kernel_rfl
/-- an element of the table -/
theorem ix_op22 {T1 T2 T3 T4 T5 : ByteArray} {W : World} : ∀ k, k < 5 → (Instr.index 93 (.agg #[.int .i64 1, .string T1, .int .i64 (-1), .int .i64 (-1), .int .i64 2, .string T2, .int .i64 (-1), .int .i64 0, .int .i64 3, .string T3, .int .i64 0, .int .i64 0, .int .i64 4, .string T4, .int .i64 0, .int .i64 1, .int .i64 5, .string T5, .int .i64 1, .int .i64 1]) (.int .i64 (k : Nat))).run Tryd.prog W = .ok (.agg ((opsC T1 T2 T3 T4 T5).extract (k * 4) (k * 4 + 4))) W := by
  intro k hk
  have h5 : k = 0 ∨ k = 1 ∨ k = 2 ∨ k = 3 ∨ k = 4 := by omega
  rcases h5 with rfl | rfl | rfl | rfl | rfl
  all_goals
    simp [Instr.index, run_underlying Tryd.underlying93, asIntOf, go_sem, opsC]
theorem ba22n {a b : ByteArray} (h : ¬ a = b) : (a.toList == b.toList) = false := beq_eq_false_iff_ne.2 fun e => h (by
  rw [ByteArray.toList_eq, ByteArray.toList_eq] at e
  cases a with | mk x => cases b with | mk y => exact congrArg ByteArray.mk (by cases x with | mk l => cases y with | mk m => exact congrArg Array.mk e))

set_option maxHeartbeats 6400000 in
set_option maxRecDepth 20000 in
theorem ofOp22 (z : Int) (w : World) (hT : OpT w) :
    Calls Tryd.prog 37 #[.int .i64 z] w fun e w' => OpAns w w' e (if opK z = true then z else 0) (sgF z) (opK z) := by
  obtain ⟨K, hK⟩ : ∃ K, K = opK z := ⟨_, rfl⟩
  obtain ⟨O, hO⟩ : ∃ O, O = (if opK z = true then z else 0) := ⟨_, rfl⟩
  obtain ⟨S, hS⟩ : ∃ S, S = sgF z := ⟨_, rfl⟩
  have HYes : Hid (∀ (j : Int), z = j → 1 ≤ j → j ≤ 5 → K = true ∧ O = z ∧ S = sgF j) := fun j e h1 h2 => by
    subst e
    have : opK z = true := by unfold opK; simp; omega
    exact ⟨hK.trans this, by rw [hO, if_pos this], hS⟩
  have HNo : Hid (¬ (1 ≤ z ∧ z ≤ 5) → K = false ∧ O = 0 ∧ S = ⟨#[]⟩) := fun h => by
    have : opK z = false := by unfold opK; simpa using h
    refine ⟨hK.trans this, by rw [hO, if_neg (by rw [this]; simp)], ?_⟩
    rw [hS]; unfold sgF
    repeat' split
    all_goals first | rfl | omega
  rw [← hK, ← hS]
  have hO2 : (if K = true then z else 0) = O := by rw [hO, hK]
  rw [hO2]
  clear hK hO hS hO2
  obtain ⟨i0, hi, hz0, hz1, hz2⟩ := info_parts infoOp22
  have HT : Hid (OpT (w.alloc (.cells #[.int .i64 0, .string ⟨#[]⟩, .int .i64 0, .int .i64 0] 76))) := hT.blw (Below.alloc (Below.refl _ _) (Nat.le_refl _) _)
  have HB : Hid (Below w.heap.size w (w.alloc (.cells #[.int .i64 0, .string ⟨#[]⟩, .int .i64 0, .int .i64 0] 76))) := Below.alloc (Below.refl _ _) (Nat.le_refl _) _
  have HQ : Hid (Oq (w.alloc (.cells #[.int .i64 0, .string ⟨#[]⟩, .int .i64 0, .int .i64 0] 76)) w.heap.size 0 ⟨#[]⟩ 0 0) := Oq.newS _ _ _ _ _
  clear hT
  go_enter Tryd.func37, Tryd.ntmps37
  go_upto_region 1 with fail
  generalize w.alloc (.cells #[.int .i64 0, .string ⟨#[]⟩, .int .i64 0, .int .i64 0] 76) = W0 at *
  refine wp_region_lit ?_
  refine wpList_load_op rfl _ rfl (by simp [Act.eval, Act.put]) HT.out ?_
  obtain ⟨T1, hT1⟩ : ∃ T, T = (⟨#[60, 60]⟩ : ByteArray) := ⟨_, rfl⟩
  obtain ⟨T2, hT2⟩ : ∃ T, T = (⟨#[60, 61]⟩ : ByteArray) := ⟨_, rfl⟩
  obtain ⟨T3, hT3⟩ : ∃ T, T = (⟨#[61]⟩ : ByteArray) := ⟨_, rfl⟩
  obtain ⟨T4, hT4⟩ : ∃ T, T = (⟨#[62, 61]⟩ : ByteArray) := ⟨_, rfl⟩
  obtain ⟨T5, hT5⟩ : ∃ T, T = (⟨#[62, 62]⟩ : ByteArray) := ⟨_, rfl⟩
  rw [← hT1, ← hT2, ← hT3, ← hT4, ← hT5]
  have HTs : Hid (sgF 1 = T1 ∧ sgF 2 = T2 ∧ sgF 3 = T3 ∧ sgF 4 = T4 ∧ sgF 5 = T5) := ⟨hT1.symm, hT2.symm, hT3.symm, hT4.symm, hT5.symm⟩
  clear hT1 hT2 hT3 hT4 hT5 HT
  unfold opsC
  go_wp2
  go_loopg [7] 5 (fun g i wr => ∃ k : Nat, k + g = 5 ∧ i = .int .i64 k ∧ Hid (¬ (1 ≤ z ∧ z ≤ k)) ∧ Hid (Oq wr w.heap.size 0 ⟨#[]⟩ 0 0) ∧ Hid (Below w.heap.size w wr))
  case atStart => exact ⟨0, rfl, rfl, (fun h => by omega), HQ.out, HB.out⟩
  case round =>
    obtain ⟨k, hk, rfl, HZ, HQr, HBr⟩ := hrel
    clear HQ HB
    have HG : Hid (k + gk = 5) := hk
    by_cases hk5 : k = 5
    · subst hk5
      obtain ⟨rfl, rfl, rfl⟩ := HNo.out (fun h => HZ.out (by omega))
      have hD := HQr.out.lt
      have f0 := HQr.out.f 0
      have f1 := HQr.out.f 1
      have f2 := HQr.out.f 2
      have f3 := HQr.out.f 3
      have q0 := HQr.out.c0
      have q1 := HQr.out.c1
      have q2 := HQr.out.c2
      have q3 := HQr.out.c3
      clear HNo HYes hk
      go_wp2
      have Z : Hid (Oq (st4 wr w.heap.size 0 ⟨#[]⟩ 0 0) w.heap.size 0 ⟨#[]⟩ 0 0) := st4_q HQr.out
      have ZB : Hid (Below w.heap.size w (st4 wr w.heap.size 0 ⟨#[]⟩ 0 0)) := st4_b HBr.out (Nat.le_refl _) _ _ _ _
      refine bodyPost_ret (ret_oq rfl rfl Z.out) rfl ?_
      exact ⟨0, 0, rfl, ZB.out⟩
    · have hk4 : k = 0 ∨ k = 1 ∨ k = 2 ∨ k = 3 ∨ k = 4 := by omega
      have hD := HQr.out.lt
      rcases hk4 with rfl | rfl | rfl | rfl | rfl
      · have HQb : Hid (Oq (wr.alloc (.cells #[.int .i64 1, .string T1, .int .i64 (-1), .int .i64 (-1)] 76)) wr.heap.size 1 T1 (-1) (-1)) := Oq.newS _ _ _ _ _
        have HQ0 : Hid (Oq (wr.alloc (.cells #[.int .i64 1, .string T1, .int .i64 (-1), .int .i64 (-1)] 76)) w.heap.size 0 ⟨#[]⟩ 0 0) := HQr.out.blw (Below.alloc (Below.refl _ _) (Nat.le_refl _) _)
        have HB0 : Hid (Below w.heap.size w (wr.alloc (.cells #[.int .i64 1, .string T1, .int .i64 (-1), .int .i64 (-1)] 76))) := Below.alloc HBr.out HBr.out.size _
        have hix : (Instr.index 93 (.agg #[.int .i64 1, .string T1, .int .i64 (-1), .int .i64 (-1), .int .i64 2, .string T2, .int .i64 (-1), .int .i64 0, .int .i64 3, .string T3, .int .i64 0, .int .i64 0, .int .i64 4, .string T4, .int .i64 0, .int .i64 1, .int .i64 5, .string T5, .int .i64 1, .int .i64 1]) (.int .i64 0)).run Tryd.prog wr = .ok (.agg #[.int .i64 1, .string T1, .int .i64 (-1), .int .i64 (-1)]) wr := ix_op22 0 (by decide)
        by_cases hz : z = 1
        · have hb : ((1 : Int) == z) = true := by simp; omega
          obtain ⟨e1, e2, e3⟩ := HYes.out 1 hz (by decide) (by decide)
          subst e1
          clear HNo HYes HZ HQr HBr hk5 hk
          go_upto_region 5 with fail
          have q0 := HQb.out.c0
          have q1 := HQb.out.c1
          have q2 := HQb.out.c2
          have q3 := HQb.out.c3
          have g0 := HQ0.out.f 0
          have g1 := HQ0.out.f 1
          have g2 := HQ0.out.f 2
          have g3 := HQ0.out.f 3
          have p0 := HQ0.out.c0
          have p1 := HQ0.out.c1
          have p2 := HQ0.out.c2
          have p3 := HQ0.out.c3
          have hD2 := HQ0.out.lt
          generalize wr.alloc (.cells #[.int .i64 1, .string T1, .int .i64 (-1), .int .i64 (-1)] 76) = wb at *
          generalize wr.heap.size = Db at *
          go_wp2
          have Z : Hid (Oq (st4 wb w.heap.size 1 T1 (-1) (-1)) w.heap.size 1 T1 (-1) (-1)) := st4_q HQ0.out
          have ZB : Hid (Below w.heap.size w (st4 wb w.heap.size 1 T1 (-1) (-1))) := st4_b HB0.out (Nat.le_refl _) _ _ _ _
          refine bodyPost_ret (ret_oq rfl rfl Z.out) rfl ?_
          exact ⟨_, _, by rw [e2, e3, HTs.out.1, hz]; rfl, ZB.out⟩
        · have hb : ((1 : Int) == z) = false := by simp; omega
          have HZ2 : Hid (¬ (1 ≤ z ∧ z ≤ 1)) := fun h => HZ.out (by omega)
          clear HNo HYes HZ HQr HBr hk5 hk
          go_wp2
          go_roundg (gk - 1)
          case measure => have := HG.out; omega
          case rel => exact ⟨1, by have := HG.out; omega, by first | rfl | go_num, HZ2.out, HQ0.out, HB0.out⟩
      · have HQb : Hid (Oq (wr.alloc (.cells #[.int .i64 2, .string T2, .int .i64 (-1), .int .i64 0] 76)) wr.heap.size 2 T2 (-1) 0) := Oq.newS _ _ _ _ _
        have HQ0 : Hid (Oq (wr.alloc (.cells #[.int .i64 2, .string T2, .int .i64 (-1), .int .i64 0] 76)) w.heap.size 0 ⟨#[]⟩ 0 0) := HQr.out.blw (Below.alloc (Below.refl _ _) (Nat.le_refl _) _)
        have HB0 : Hid (Below w.heap.size w (wr.alloc (.cells #[.int .i64 2, .string T2, .int .i64 (-1), .int .i64 0] 76))) := Below.alloc HBr.out HBr.out.size _
        have hix : (Instr.index 93 (.agg #[.int .i64 1, .string T1, .int .i64 (-1), .int .i64 (-1), .int .i64 2, .string T2, .int .i64 (-1), .int .i64 0, .int .i64 3, .string T3, .int .i64 0, .int .i64 0, .int .i64 4, .string T4, .int .i64 0, .int .i64 1, .int .i64 5, .string T5, .int .i64 1, .int .i64 1]) (.int .i64 1)).run Tryd.prog wr = .ok (.agg #[.int .i64 2, .string T2, .int .i64 (-1), .int .i64 0]) wr := ix_op22 1 (by decide)
        by_cases hz : z = 2
        · have hb : ((2 : Int) == z) = true := by simp; omega
          obtain ⟨e1, e2, e3⟩ := HYes.out 2 hz (by decide) (by decide)
          subst e1
          clear HNo HYes HZ HQr HBr hk5 hk
          go_upto_region 5 with fail
          have q0 := HQb.out.c0
          have q1 := HQb.out.c1
          have q2 := HQb.out.c2
          have q3 := HQb.out.c3
          have g0 := HQ0.out.f 0
          have g1 := HQ0.out.f 1
          have g2 := HQ0.out.f 2
          have g3 := HQ0.out.f 3
          have p0 := HQ0.out.c0
          have p1 := HQ0.out.c1
          have p2 := HQ0.out.c2
          have p3 := HQ0.out.c3
          have hD2 := HQ0.out.lt
          generalize wr.alloc (.cells #[.int .i64 2, .string T2, .int .i64 (-1), .int .i64 0] 76) = wb at *
          generalize wr.heap.size = Db at *
          go_wp2
          have Z : Hid (Oq (st4 wb w.heap.size 2 T2 (-1) 0) w.heap.size 2 T2 (-1) 0) := st4_q HQ0.out
          have ZB : Hid (Below w.heap.size w (st4 wb w.heap.size 2 T2 (-1) 0)) := st4_b HB0.out (Nat.le_refl _) _ _ _ _
          refine bodyPost_ret (ret_oq rfl rfl Z.out) rfl ?_
          exact ⟨_, _, by rw [e2, e3, HTs.out.2.1, hz]; rfl, ZB.out⟩
        · have hb : ((2 : Int) == z) = false := by simp; omega
          have HZ2 : Hid (¬ (1 ≤ z ∧ z ≤ 2)) := fun h => HZ.out (by omega)
          clear HNo HYes HZ HQr HBr hk5 hk
          go_wp2
          go_roundg (gk - 1)
          case measure => have := HG.out; omega
          case rel => exact ⟨2, by have := HG.out; omega, by first | rfl | go_num, HZ2.out, HQ0.out, HB0.out⟩
      · have HQb : Hid (Oq (wr.alloc (.cells #[.int .i64 3, .string T3, .int .i64 0, .int .i64 0] 76)) wr.heap.size 3 T3 0 0) := Oq.newS _ _ _ _ _
        have HQ0 : Hid (Oq (wr.alloc (.cells #[.int .i64 3, .string T3, .int .i64 0, .int .i64 0] 76)) w.heap.size 0 ⟨#[]⟩ 0 0) := HQr.out.blw (Below.alloc (Below.refl _ _) (Nat.le_refl _) _)
        have HB0 : Hid (Below w.heap.size w (wr.alloc (.cells #[.int .i64 3, .string T3, .int .i64 0, .int .i64 0] 76))) := Below.alloc HBr.out HBr.out.size _
        have hix : (Instr.index 93 (.agg #[.int .i64 1, .string T1, .int .i64 (-1), .int .i64 (-1), .int .i64 2, .string T2, .int .i64 (-1), .int .i64 0, .int .i64 3, .string T3, .int .i64 0, .int .i64 0, .int .i64 4, .string T4, .int .i64 0, .int .i64 1, .int .i64 5, .string T5, .int .i64 1, .int .i64 1]) (.int .i64 2)).run Tryd.prog wr = .ok (.agg #[.int .i64 3, .string T3, .int .i64 0, .int .i64 0]) wr := ix_op22 2 (by decide)
        by_cases hz : z = 3
        · have hb : ((3 : Int) == z) = true := by simp; omega
          obtain ⟨e1, e2, e3⟩ := HYes.out 3 hz (by decide) (by decide)
          subst e1
          clear HNo HYes HZ HQr HBr hk5 hk
          go_upto_region 5 with fail
          have q0 := HQb.out.c0
          have q1 := HQb.out.c1
          have q2 := HQb.out.c2
          have q3 := HQb.out.c3
          have g0 := HQ0.out.f 0
          have g1 := HQ0.out.f 1
          have g2 := HQ0.out.f 2
          have g3 := HQ0.out.f 3
          have p0 := HQ0.out.c0
          have p1 := HQ0.out.c1
          have p2 := HQ0.out.c2
          have p3 := HQ0.out.c3
          have hD2 := HQ0.out.lt
          generalize wr.alloc (.cells #[.int .i64 3, .string T3, .int .i64 0, .int .i64 0] 76) = wb at *
          generalize wr.heap.size = Db at *
          go_wp2
          have Z : Hid (Oq (st4 wb w.heap.size 3 T3 0 0) w.heap.size 3 T3 0 0) := st4_q HQ0.out
          have ZB : Hid (Below w.heap.size w (st4 wb w.heap.size 3 T3 0 0)) := st4_b HB0.out (Nat.le_refl _) _ _ _ _
          refine bodyPost_ret (ret_oq rfl rfl Z.out) rfl ?_
          exact ⟨_, _, by rw [e2, e3, HTs.out.2.2.1, hz]; rfl, ZB.out⟩
        · have hb : ((3 : Int) == z) = false := by simp; omega
          have HZ2 : Hid (¬ (1 ≤ z ∧ z ≤ 3)) := fun h => HZ.out (by omega)
          clear HNo HYes HZ HQr HBr hk5 hk
          go_wp2
          go_roundg (gk - 1)
          case measure => have := HG.out; omega
          case rel => exact ⟨3, by have := HG.out; omega, by first | rfl | go_num, HZ2.out, HQ0.out, HB0.out⟩
      · have HQb : Hid (Oq (wr.alloc (.cells #[.int .i64 4, .string T4, .int .i64 0, .int .i64 1] 76)) wr.heap.size 4 T4 0 1) := Oq.newS _ _ _ _ _
        have HQ0 : Hid (Oq (wr.alloc (.cells #[.int .i64 4, .string T4, .int .i64 0, .int .i64 1] 76)) w.heap.size 0 ⟨#[]⟩ 0 0) := HQr.out.blw (Below.alloc (Below.refl _ _) (Nat.le_refl _) _)
        have HB0 : Hid (Below w.heap.size w (wr.alloc (.cells #[.int .i64 4, .string T4, .int .i64 0, .int .i64 1] 76))) := Below.alloc HBr.out HBr.out.size _
        have hix : (Instr.index 93 (.agg #[.int .i64 1, .string T1, .int .i64 (-1), .int .i64 (-1), .int .i64 2, .string T2, .int .i64 (-1), .int .i64 0, .int .i64 3, .string T3, .int .i64 0, .int .i64 0, .int .i64 4, .string T4, .int .i64 0, .int .i64 1, .int .i64 5, .string T5, .int .i64 1, .int .i64 1]) (.int .i64 3)).run Tryd.prog wr = .ok (.agg #[.int .i64 4, .string T4, .int .i64 0, .int .i64 1]) wr := ix_op22 3 (by decide)
        by_cases hz : z = 4
        · have hb : ((4 : Int) == z) = true := by simp; omega
          obtain ⟨e1, e2, e3⟩ := HYes.out 4 hz (by decide) (by decide)
          subst e1
          clear HNo HYes HZ HQr HBr hk5 hk
          go_upto_region 5 with fail
          have q0 := HQb.out.c0
          have q1 := HQb.out.c1
          have q2 := HQb.out.c2
          have q3 := HQb.out.c3
          have g0 := HQ0.out.f 0
          have g1 := HQ0.out.f 1
          have g2 := HQ0.out.f 2
          have g3 := HQ0.out.f 3
          have p0 := HQ0.out.c0
          have p1 := HQ0.out.c1
          have p2 := HQ0.out.c2
          have p3 := HQ0.out.c3
          have hD2 := HQ0.out.lt
          generalize wr.alloc (.cells #[.int .i64 4, .string T4, .int .i64 0, .int .i64 1] 76) = wb at *
          generalize wr.heap.size = Db at *
          go_wp2
          have Z : Hid (Oq (st4 wb w.heap.size 4 T4 0 1) w.heap.size 4 T4 0 1) := st4_q HQ0.out
          have ZB : Hid (Below w.heap.size w (st4 wb w.heap.size 4 T4 0 1)) := st4_b HB0.out (Nat.le_refl _) _ _ _ _
          refine bodyPost_ret (ret_oq rfl rfl Z.out) rfl ?_
          exact ⟨_, _, by rw [e2, e3, HTs.out.2.2.2.1, hz]; rfl, ZB.out⟩
        · have hb : ((4 : Int) == z) = false := by simp; omega
          have HZ2 : Hid (¬ (1 ≤ z ∧ z ≤ 4)) := fun h => HZ.out (by omega)
          clear HNo HYes HZ HQr HBr hk5 hk
          go_wp2
          go_roundg (gk - 1)
          case measure => have := HG.out; omega
          case rel => exact ⟨4, by have := HG.out; omega, by first | rfl | go_num, HZ2.out, HQ0.out, HB0.out⟩
      · have HQb : Hid (Oq (wr.alloc (.cells #[.int .i64 5, .string T5, .int .i64 1, .int .i64 1] 76)) wr.heap.size 5 T5 1 1) := Oq.newS _ _ _ _ _
        have HQ0 : Hid (Oq (wr.alloc (.cells #[.int .i64 5, .string T5, .int .i64 1, .int .i64 1] 76)) w.heap.size 0 ⟨#[]⟩ 0 0) := HQr.out.blw (Below.alloc (Below.refl _ _) (Nat.le_refl _) _)
        have HB0 : Hid (Below w.heap.size w (wr.alloc (.cells #[.int .i64 5, .string T5, .int .i64 1, .int .i64 1] 76))) := Below.alloc HBr.out HBr.out.size _
        have hix : (Instr.index 93 (.agg #[.int .i64 1, .string T1, .int .i64 (-1), .int .i64 (-1), .int .i64 2, .string T2, .int .i64 (-1), .int .i64 0, .int .i64 3, .string T3, .int .i64 0, .int .i64 0, .int .i64 4, .string T4, .int .i64 0, .int .i64 1, .int .i64 5, .string T5, .int .i64 1, .int .i64 1]) (.int .i64 4)).run Tryd.prog wr = .ok (.agg #[.int .i64 5, .string T5, .int .i64 1, .int .i64 1]) wr := ix_op22 4 (by decide)
        by_cases hz : z = 5
        · have hb : ((5 : Int) == z) = true := by simp; omega
          obtain ⟨e1, e2, e3⟩ := HYes.out 5 hz (by decide) (by decide)
          subst e1
          clear HNo HYes HZ HQr HBr hk5 hk
          go_upto_region 5 with fail
          have q0 := HQb.out.c0
          have q1 := HQb.out.c1
          have q2 := HQb.out.c2
          have q3 := HQb.out.c3
          have g0 := HQ0.out.f 0
          have g1 := HQ0.out.f 1
          have g2 := HQ0.out.f 2
          have g3 := HQ0.out.f 3
          have p0 := HQ0.out.c0
          have p1 := HQ0.out.c1
          have p2 := HQ0.out.c2
          have p3 := HQ0.out.c3
          have hD2 := HQ0.out.lt
          generalize wr.alloc (.cells #[.int .i64 5, .string T5, .int .i64 1, .int .i64 1] 76) = wb at *
          generalize wr.heap.size = Db at *
          go_wp2
          have Z : Hid (Oq (st4 wb w.heap.size 5 T5 1 1) w.heap.size 5 T5 1 1) := st4_q HQ0.out
          have ZB : Hid (Below w.heap.size w (st4 wb w.heap.size 5 T5 1 1)) := st4_b HB0.out (Nat.le_refl _) _ _ _ _
          refine bodyPost_ret (ret_oq rfl rfl Z.out) rfl ?_
          exact ⟨_, _, by rw [e2, e3, HTs.out.2.2.2.2, hz]; rfl, ZB.out⟩
        · have hb : ((5 : Int) == z) = false := by simp; omega
          have HZ2 : Hid (¬ (1 ≤ z ∧ z ≤ 5)) := fun h => HZ.out (by omega)
          clear HNo HYes HZ HQr HBr hk5 hk
          go_wp2
          go_roundg (gk - 1)
          case measure => have := HG.out; omega
          case rel => exact ⟨5, by have := HG.out; omega, by first | rfl | go_num, HZ2.out, HQ0.out, HB0.out⟩

theorem opTs {j : Int} (h1 : 1 ≤ j) (h2 : j ≤ 5) : opF (sgF j) = j := by
  have h5 : j = 1 ∨ j = 2 ∨ j = 3 ∨ j = 4 ∨ j = 5 := by omega
  rcases h5 with rfl | rfl | rfl | rfl | rfl
  all_goals rfl
theorem opT0 {z : ByteArray} (h : ∀ j : Int, 1 ≤ j → j ≤ 5 → sgF j ≠ z) : opF z = 0 := by
  unfold opF
  rw [if_neg (fun e => h 1 (by decide) (by decide) e.symm), if_neg (fun e => h 2 (by decide) (by decide) e.symm), if_neg (fun e => h 3 (by decide) (by decide) e.symm), if_neg (fun e => h 4 (by decide) (by decide) e.symm), if_neg (fun e => h 5 (by decide) (by decide) e.symm)]
set_option maxHeartbeats 6400000 in
set_option maxRecDepth 20000 in
theorem ofText22 (z : ByteArray) (w : World) (hT : OpT w) :
    Calls Tryd.prog 55 #[.string z] w fun e w' => OpAns w w' e (opF z) (sgF (opF z)) (decide (opF z ≠ 0)) := by
  obtain ⟨K, hK⟩ : ∃ K, K = decide (opF z ≠ 0) := ⟨_, rfl⟩
  obtain ⟨O, hO⟩ : ∃ O, O = opF z := ⟨_, rfl⟩
  obtain ⟨S, hS⟩ : ∃ S, S = sgF O := ⟨_, rfl⟩
  have HYes : Hid (∀ (j : Int), sgF j = z → 1 ≤ j → j ≤ 5 → K = true ∧ O = j ∧ S = sgF j) := fun j e h1 h2 => by
    have h3 : opF z = j := by rw [← e]; exact opTs h1 h2
    refine ⟨by rw [hK, h3]; simp; omega, hO.trans h3, by rw [hS, hO, h3]⟩
  have HNo : Hid ((∀ j : Int, 1 ≤ j → j ≤ 5 → sgF j ≠ z) → K = false ∧ O = 0 ∧ S = ⟨#[]⟩) := fun h => by
    have h3 : opF z = 0 := opT0 h
    exact ⟨by rw [hK, h3]; rfl, hO.trans h3, by rw [hS, hO, h3]; rfl⟩
  rw [← hK, ← hO, ← hS]
  clear hK hO hS
  obtain ⟨i0, hi, hz0, hz1, hz2⟩ := info_parts infoOp22
  have HT : Hid (OpT (w.alloc (.cells #[.int .i64 0, .string ⟨#[]⟩, .int .i64 0, .int .i64 0] 76))) := hT.blw (Below.alloc (Below.refl _ _) (Nat.le_refl _) _)
  have HB : Hid (Below w.heap.size w (w.alloc (.cells #[.int .i64 0, .string ⟨#[]⟩, .int .i64 0, .int .i64 0] 76))) := Below.alloc (Below.refl _ _) (Nat.le_refl _) _
  have HQ : Hid (Oq (w.alloc (.cells #[.int .i64 0, .string ⟨#[]⟩, .int .i64 0, .int .i64 0] 76)) w.heap.size 0 ⟨#[]⟩ 0 0) := Oq.newS _ _ _ _ _
  clear hT
  go_enter Tryd.func55, Tryd.ntmps55
  go_upto_region 1 with fail
  generalize w.alloc (.cells #[.int .i64 0, .string ⟨#[]⟩, .int .i64 0, .int .i64 0] 76) = W0 at *
  refine wp_region_lit ?_
  refine wpList_load_op rfl _ rfl (by simp [Act.eval, Act.put]) HT.out ?_
  obtain ⟨T1, hT1⟩ : ∃ T, T = (⟨#[60, 60]⟩ : ByteArray) := ⟨_, rfl⟩
  obtain ⟨T2, hT2⟩ : ∃ T, T = (⟨#[60, 61]⟩ : ByteArray) := ⟨_, rfl⟩
  obtain ⟨T3, hT3⟩ : ∃ T, T = (⟨#[61]⟩ : ByteArray) := ⟨_, rfl⟩
  obtain ⟨T4, hT4⟩ : ∃ T, T = (⟨#[62, 61]⟩ : ByteArray) := ⟨_, rfl⟩
  obtain ⟨T5, hT5⟩ : ∃ T, T = (⟨#[62, 62]⟩ : ByteArray) := ⟨_, rfl⟩
  rw [← hT1, ← hT2, ← hT3, ← hT4, ← hT5]
  have HTs : Hid (sgF 1 = T1 ∧ sgF 2 = T2 ∧ sgF 3 = T3 ∧ sgF 4 = T4 ∧ sgF 5 = T5) := ⟨hT1.symm, hT2.symm, hT3.symm, hT4.symm, hT5.symm⟩
  clear hT1 hT2 hT3 hT4 hT5 HT
  unfold opsC
  go_wp2
  go_loopg [7] 5 (fun g i wr => ∃ k : Nat, k + g = 5 ∧ i = .int .i64 k ∧ Hid (∀ j : Int, 1 ≤ j → j ≤ k → sgF j ≠ z) ∧ Hid (Oq wr w.heap.size 0 ⟨#[]⟩ 0 0) ∧ Hid (Below w.heap.size w wr))
  case atStart => exact ⟨0, rfl, rfl, (fun j h1 h2 => by omega), HQ.out, HB.out⟩
  case round =>
    obtain ⟨k, hk, rfl, HZ, HQr, HBr⟩ := hrel
    clear HQ HB
    have HG : Hid (k + gk = 5) := hk
    by_cases hk5 : k = 5
    · subst hk5
      obtain ⟨rfl, rfl, rfl⟩ := HNo.out (fun j h1 h2 => HZ.out j h1 h2)
      have hD := HQr.out.lt
      have f0 := HQr.out.f 0
      have f1 := HQr.out.f 1
      have f2 := HQr.out.f 2
      have f3 := HQr.out.f 3
      have q0 := HQr.out.c0
      have q1 := HQr.out.c1
      have q2 := HQr.out.c2
      have q3 := HQr.out.c3
      clear HNo HYes hk
      go_wp2
      have Z : Hid (Oq (st4 wr w.heap.size 0 ⟨#[]⟩ 0 0) w.heap.size 0 ⟨#[]⟩ 0 0) := st4_q HQr.out
      have ZB : Hid (Below w.heap.size w (st4 wr w.heap.size 0 ⟨#[]⟩ 0 0)) := st4_b HBr.out (Nat.le_refl _) _ _ _ _
      refine bodyPost_ret (ret_oq rfl rfl Z.out) rfl ?_
      exact ⟨0, 0, rfl, ZB.out⟩
    · have hk4 : k = 0 ∨ k = 1 ∨ k = 2 ∨ k = 3 ∨ k = 4 := by omega
      have hD := HQr.out.lt
      rcases hk4 with rfl | rfl | rfl | rfl | rfl
      · have HQb : Hid (Oq (wr.alloc (.cells #[.int .i64 1, .string T1, .int .i64 (-1), .int .i64 (-1)] 76)) wr.heap.size 1 T1 (-1) (-1)) := Oq.newS _ _ _ _ _
        have HQ0 : Hid (Oq (wr.alloc (.cells #[.int .i64 1, .string T1, .int .i64 (-1), .int .i64 (-1)] 76)) w.heap.size 0 ⟨#[]⟩ 0 0) := HQr.out.blw (Below.alloc (Below.refl _ _) (Nat.le_refl _) _)
        have HB0 : Hid (Below w.heap.size w (wr.alloc (.cells #[.int .i64 1, .string T1, .int .i64 (-1), .int .i64 (-1)] 76))) := Below.alloc HBr.out HBr.out.size _
        have hix : (Instr.index 93 (.agg #[.int .i64 1, .string T1, .int .i64 (-1), .int .i64 (-1), .int .i64 2, .string T2, .int .i64 (-1), .int .i64 0, .int .i64 3, .string T3, .int .i64 0, .int .i64 0, .int .i64 4, .string T4, .int .i64 0, .int .i64 1, .int .i64 5, .string T5, .int .i64 1, .int .i64 1]) (.int .i64 0)).run Tryd.prog wr = .ok (.agg #[.int .i64 1, .string T1, .int .i64 (-1), .int .i64 (-1)]) wr := ix_op22 0 (by decide)
        by_cases hz : T1 = z
        · have hb : (T1.toList == z.toList) = true := by rw [hz]; simp
          obtain ⟨e1, e2, e3⟩ := HYes.out 1 (by rw [HTs.out.1]; exact hz) (by decide) (by decide)
          subst e1
          subst hz
          clear HNo HYes HZ HQr HBr hk5 hk
          go_upto_region 5 with fail
          have q0 := HQb.out.c0
          have q1 := HQb.out.c1
          have q2 := HQb.out.c2
          have q3 := HQb.out.c3
          have g0 := HQ0.out.f 0
          have g1 := HQ0.out.f 1
          have g2 := HQ0.out.f 2
          have g3 := HQ0.out.f 3
          have p0 := HQ0.out.c0
          have p1 := HQ0.out.c1
          have p2 := HQ0.out.c2
          have p3 := HQ0.out.c3
          have hD2 := HQ0.out.lt
          generalize wr.alloc (.cells #[.int .i64 1, .string T1, .int .i64 (-1), .int .i64 (-1)] 76) = wb at *
          generalize wr.heap.size = Db at *
          go_wp2
          have Z : Hid (Oq (st4 wb w.heap.size 1 T1 (-1) (-1)) w.heap.size 1 T1 (-1) (-1)) := st4_q HQ0.out
          have ZB : Hid (Below w.heap.size w (st4 wb w.heap.size 1 T1 (-1) (-1))) := st4_b HB0.out (Nat.le_refl _) _ _ _ _
          refine bodyPost_ret (ret_oq rfl rfl Z.out) rfl ?_
          exact ⟨_, _, by rw [e2, e3, HTs.out.1]; rfl, ZB.out⟩
        · have hb : (T1.toList == z.toList) = false := ba22n hz
          have HZ2 : Hid (∀ j : Int, 1 ≤ j → j ≤ 1 → sgF j ≠ z) := fun j h1 h2 => by
            by_cases hj : j = 1
            · subst hj; rw [HTs.out.1]; exact hz
            · exact HZ.out j h1 (by omega)
          clear HNo HYes HZ HQr HBr hk5 hk
          go_wp2
          go_roundg (gk - 1)
          case measure => have := HG.out; omega
          case rel => exact ⟨1, by have := HG.out; omega, by first | rfl | go_num, HZ2.out, HQ0.out, HB0.out⟩
      · have HQb : Hid (Oq (wr.alloc (.cells #[.int .i64 2, .string T2, .int .i64 (-1), .int .i64 0] 76)) wr.heap.size 2 T2 (-1) 0) := Oq.newS _ _ _ _ _
        have HQ0 : Hid (Oq (wr.alloc (.cells #[.int .i64 2, .string T2, .int .i64 (-1), .int .i64 0] 76)) w.heap.size 0 ⟨#[]⟩ 0 0) := HQr.out.blw (Below.alloc (Below.refl _ _) (Nat.le_refl _) _)
        have HB0 : Hid (Below w.heap.size w (wr.alloc (.cells #[.int .i64 2, .string T2, .int .i64 (-1), .int .i64 0] 76))) := Below.alloc HBr.out HBr.out.size _
        have hix : (Instr.index 93 (.agg #[.int .i64 1, .string T1, .int .i64 (-1), .int .i64 (-1), .int .i64 2, .string T2, .int .i64 (-1), .int .i64 0, .int .i64 3, .string T3, .int .i64 0, .int .i64 0, .int .i64 4, .string T4, .int .i64 0, .int .i64 1, .int .i64 5, .string T5, .int .i64 1, .int .i64 1]) (.int .i64 1)).run Tryd.prog wr = .ok (.agg #[.int .i64 2, .string T2, .int .i64 (-1), .int .i64 0]) wr := ix_op22 1 (by decide)
        by_cases hz : T2 = z
        · have hb : (T2.toList == z.toList) = true := by rw [hz]; simp
          obtain ⟨e1, e2, e3⟩ := HYes.out 2 (by rw [HTs.out.2.1]; exact hz) (by decide) (by decide)
          subst e1
          subst hz
          clear HNo HYes HZ HQr HBr hk5 hk
          go_upto_region 5 with fail
          have q0 := HQb.out.c0
          have q1 := HQb.out.c1
          have q2 := HQb.out.c2
          have q3 := HQb.out.c3
          have g0 := HQ0.out.f 0
          have g1 := HQ0.out.f 1
          have g2 := HQ0.out.f 2
          have g3 := HQ0.out.f 3
          have p0 := HQ0.out.c0
          have p1 := HQ0.out.c1
          have p2 := HQ0.out.c2
          have p3 := HQ0.out.c3
          have hD2 := HQ0.out.lt
          generalize wr.alloc (.cells #[.int .i64 2, .string T2, .int .i64 (-1), .int .i64 0] 76) = wb at *
          generalize wr.heap.size = Db at *
          go_wp2
          have Z : Hid (Oq (st4 wb w.heap.size 2 T2 (-1) 0) w.heap.size 2 T2 (-1) 0) := st4_q HQ0.out
          have ZB : Hid (Below w.heap.size w (st4 wb w.heap.size 2 T2 (-1) 0)) := st4_b HB0.out (Nat.le_refl _) _ _ _ _
          refine bodyPost_ret (ret_oq rfl rfl Z.out) rfl ?_
          exact ⟨_, _, by rw [e2, e3, HTs.out.2.1]; rfl, ZB.out⟩
        · have hb : (T2.toList == z.toList) = false := ba22n hz
          have HZ2 : Hid (∀ j : Int, 1 ≤ j → j ≤ 2 → sgF j ≠ z) := fun j h1 h2 => by
            by_cases hj : j = 2
            · subst hj; rw [HTs.out.2.1]; exact hz
            · exact HZ.out j h1 (by omega)
          clear HNo HYes HZ HQr HBr hk5 hk
          go_wp2
          go_roundg (gk - 1)
          case measure => have := HG.out; omega
          case rel => exact ⟨2, by have := HG.out; omega, by first | rfl | go_num, HZ2.out, HQ0.out, HB0.out⟩
      · have HQb : Hid (Oq (wr.alloc (.cells #[.int .i64 3, .string T3, .int .i64 0, .int .i64 0] 76)) wr.heap.size 3 T3 0 0) := Oq.newS _ _ _ _ _
        have HQ0 : Hid (Oq (wr.alloc (.cells #[.int .i64 3, .string T3, .int .i64 0, .int .i64 0] 76)) w.heap.size 0 ⟨#[]⟩ 0 0) := HQr.out.blw (Below.alloc (Below.refl _ _) (Nat.le_refl _) _)
        have HB0 : Hid (Below w.heap.size w (wr.alloc (.cells #[.int .i64 3, .string T3, .int .i64 0, .int .i64 0] 76))) := Below.alloc HBr.out HBr.out.size _
        have hix : (Instr.index 93 (.agg #[.int .i64 1, .string T1, .int .i64 (-1), .int .i64 (-1), .int .i64 2, .string T2, .int .i64 (-1), .int .i64 0, .int .i64 3, .string T3, .int .i64 0, .int .i64 0, .int .i64 4, .string T4, .int .i64 0, .int .i64 1, .int .i64 5, .string T5, .int .i64 1, .int .i64 1]) (.int .i64 2)).run Tryd.prog wr = .ok (.agg #[.int .i64 3, .string T3, .int .i64 0, .int .i64 0]) wr := ix_op22 2 (by decide)
        by_cases hz : T3 = z
        · have hb : (T3.toList == z.toList) = true := by rw [hz]; simp
          obtain ⟨e1, e2, e3⟩ := HYes.out 3 (by rw [HTs.out.2.2.1]; exact hz) (by decide) (by decide)
          subst e1
          subst hz
          clear HNo HYes HZ HQr HBr hk5 hk
          go_upto_region 5 with fail
          have q0 := HQb.out.c0
          have q1 := HQb.out.c1
          have q2 := HQb.out.c2
          have q3 := HQb.out.c3
          have g0 := HQ0.out.f 0
          have g1 := HQ0.out.f 1
          have g2 := HQ0.out.f 2
          have g3 := HQ0.out.f 3
          have p0 := HQ0.out.c0
          have p1 := HQ0.out.c1
          have p2 := HQ0.out.c2
          have p3 := HQ0.out.c3
          have hD2 := HQ0.out.lt
          generalize wr.alloc (.cells #[.int .i64 3, .string T3, .int .i64 0, .int .i64 0] 76) = wb at *
          generalize wr.heap.size = Db at *
          go_wp2
          have Z : Hid (Oq (st4 wb w.heap.size 3 T3 0 0) w.heap.size 3 T3 0 0) := st4_q HQ0.out
          have ZB : Hid (Below w.heap.size w (st4 wb w.heap.size 3 T3 0 0)) := st4_b HB0.out (Nat.le_refl _) _ _ _ _
          refine bodyPost_ret (ret_oq rfl rfl Z.out) rfl ?_
          exact ⟨_, _, by rw [e2, e3, HTs.out.2.2.1]; rfl, ZB.out⟩
        · have hb : (T3.toList == z.toList) = false := ba22n hz
          have HZ2 : Hid (∀ j : Int, 1 ≤ j → j ≤ 3 → sgF j ≠ z) := fun j h1 h2 => by
            by_cases hj : j = 3
            · subst hj; rw [HTs.out.2.2.1]; exact hz
            · exact HZ.out j h1 (by omega)
          clear HNo HYes HZ HQr HBr hk5 hk
          go_wp2
          go_roundg (gk - 1)
          case measure => have := HG.out; omega
          case rel => exact ⟨3, by have := HG.out; omega, by first | rfl | go_num, HZ2.out, HQ0.out, HB0.out⟩
      · have HQb : Hid (Oq (wr.alloc (.cells #[.int .i64 4, .string T4, .int .i64 0, .int .i64 1] 76)) wr.heap.size 4 T4 0 1) := Oq.newS _ _ _ _ _
        have HQ0 : Hid (Oq (wr.alloc (.cells #[.int .i64 4, .string T4, .int .i64 0, .int .i64 1] 76)) w.heap.size 0 ⟨#[]⟩ 0 0) := HQr.out.blw (Below.alloc (Below.refl _ _) (Nat.le_refl _) _)
        have HB0 : Hid (Below w.heap.size w (wr.alloc (.cells #[.int .i64 4, .string T4, .int .i64 0, .int .i64 1] 76))) := Below.alloc HBr.out HBr.out.size _
        have hix : (Instr.index 93 (.agg #[.int .i64 1, .string T1, .int .i64 (-1), .int .i64 (-1), .int .i64 2, .string T2, .int .i64 (-1), .int .i64 0, .int .i64 3, .string T3, .int .i64 0, .int .i64 0, .int .i64 4, .string T4, .int .i64 0, .int .i64 1, .int .i64 5, .string T5, .int .i64 1, .int .i64 1]) (.int .i64 3)).run Tryd.prog wr = .ok (.agg #[.int .i64 4, .string T4, .int .i64 0, .int .i64 1]) wr := ix_op22 3 (by decide)
        by_cases hz : T4 = z
        · have hb : (T4.toList == z.toList) = true := by rw [hz]; simp
          obtain ⟨e1, e2, e3⟩ := HYes.out 4 (by rw [HTs.out.2.2.2.1]; exact hz) (by decide) (by decide)
          subst e1
          subst hz
          clear HNo HYes HZ HQr HBr hk5 hk
          go_upto_region 5 with fail
          have q0 := HQb.out.c0
          have q1 := HQb.out.c1
          have q2 := HQb.out.c2
          have q3 := HQb.out.c3
          have g0 := HQ0.out.f 0
          have g1 := HQ0.out.f 1
          have g2 := HQ0.out.f 2
          have g3 := HQ0.out.f 3
          have p0 := HQ0.out.c0
          have p1 := HQ0.out.c1
          have p2 := HQ0.out.c2
          have p3 := HQ0.out.c3
          have hD2 := HQ0.out.lt
          generalize wr.alloc (.cells #[.int .i64 4, .string T4, .int .i64 0, .int .i64 1] 76) = wb at *
          generalize wr.heap.size = Db at *
          go_wp2
          have Z : Hid (Oq (st4 wb w.heap.size 4 T4 0 1) w.heap.size 4 T4 0 1) := st4_q HQ0.out
          have ZB : Hid (Below w.heap.size w (st4 wb w.heap.size 4 T4 0 1)) := st4_b HB0.out (Nat.le_refl _) _ _ _ _
          refine bodyPost_ret (ret_oq rfl rfl Z.out) rfl ?_
          exact ⟨_, _, by rw [e2, e3, HTs.out.2.2.2.1]; rfl, ZB.out⟩
        · have hb : (T4.toList == z.toList) = false := ba22n hz
          have HZ2 : Hid (∀ j : Int, 1 ≤ j → j ≤ 4 → sgF j ≠ z) := fun j h1 h2 => by
            by_cases hj : j = 4
            · subst hj; rw [HTs.out.2.2.2.1]; exact hz
            · exact HZ.out j h1 (by omega)
          clear HNo HYes HZ HQr HBr hk5 hk
          go_wp2
          go_roundg (gk - 1)
          case measure => have := HG.out; omega
          case rel => exact ⟨4, by have := HG.out; omega, by first | rfl | go_num, HZ2.out, HQ0.out, HB0.out⟩
      · have HQb : Hid (Oq (wr.alloc (.cells #[.int .i64 5, .string T5, .int .i64 1, .int .i64 1] 76)) wr.heap.size 5 T5 1 1) := Oq.newS _ _ _ _ _
        have HQ0 : Hid (Oq (wr.alloc (.cells #[.int .i64 5, .string T5, .int .i64 1, .int .i64 1] 76)) w.heap.size 0 ⟨#[]⟩ 0 0) := HQr.out.blw (Below.alloc (Below.refl _ _) (Nat.le_refl _) _)
        have HB0 : Hid (Below w.heap.size w (wr.alloc (.cells #[.int .i64 5, .string T5, .int .i64 1, .int .i64 1] 76))) := Below.alloc HBr.out HBr.out.size _
        have hix : (Instr.index 93 (.agg #[.int .i64 1, .string T1, .int .i64 (-1), .int .i64 (-1), .int .i64 2, .string T2, .int .i64 (-1), .int .i64 0, .int .i64 3, .string T3, .int .i64 0, .int .i64 0, .int .i64 4, .string T4, .int .i64 0, .int .i64 1, .int .i64 5, .string T5, .int .i64 1, .int .i64 1]) (.int .i64 4)).run Tryd.prog wr = .ok (.agg #[.int .i64 5, .string T5, .int .i64 1, .int .i64 1]) wr := ix_op22 4 (by decide)
        by_cases hz : T5 = z
        · have hb : (T5.toList == z.toList) = true := by rw [hz]; simp
          obtain ⟨e1, e2, e3⟩ := HYes.out 5 (by rw [HTs.out.2.2.2.2]; exact hz) (by decide) (by decide)
          subst e1
          subst hz
          clear HNo HYes HZ HQr HBr hk5 hk
          go_upto_region 5 with fail
          have q0 := HQb.out.c0
          have q1 := HQb.out.c1
          have q2 := HQb.out.c2
          have q3 := HQb.out.c3
          have g0 := HQ0.out.f 0
          have g1 := HQ0.out.f 1
          have g2 := HQ0.out.f 2
          have g3 := HQ0.out.f 3
          have p0 := HQ0.out.c0
          have p1 := HQ0.out.c1
          have p2 := HQ0.out.c2
          have p3 := HQ0.out.c3
          have hD2 := HQ0.out.lt
          generalize wr.alloc (.cells #[.int .i64 5, .string T5, .int .i64 1, .int .i64 1] 76) = wb at *
          generalize wr.heap.size = Db at *
          go_wp2
          have Z : Hid (Oq (st4 wb w.heap.size 5 T5 1 1) w.heap.size 5 T5 1 1) := st4_q HQ0.out
          have ZB : Hid (Below w.heap.size w (st4 wb w.heap.size 5 T5 1 1)) := st4_b HB0.out (Nat.le_refl _) _ _ _ _
          refine bodyPost_ret (ret_oq rfl rfl Z.out) rfl ?_
          exact ⟨_, _, by rw [e2, e3, HTs.out.2.2.2.2]; rfl, ZB.out⟩
        · have hb : (T5.toList == z.toList) = false := ba22n hz
          have HZ2 : Hid (∀ j : Int, 1 ≤ j → j ≤ 5 → sgF j ≠ z) := fun j h1 h2 => by
            by_cases hj : j = 5
            · subst hj; rw [HTs.out.2.2.2.2]; exact hz
            · exact HZ.out j h1 (by omega)
          clear HNo HYes HZ HQr HBr hk5 hk
          go_wp2
          go_roundg (gk - 1)
          case measure => have := HG.out; omega
          case rel => exact ⟨5, by have := HG.out; omega, by first | rfl | go_num, HZ2.out, HQ0.out, HB0.out⟩

end Go.Proofs.YtmfcaoacklbkoaaDoor

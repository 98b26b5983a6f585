/-
  Bytes in memory: a row of a call's own; what a slice of bytes reads.
  KEEP: len below nil form rd mono
-/
import Derived.Test.YtbeaoekbppdlmaaDoorGrow
import Derived.Lib.SlBytesConst
import Derived.Lib.UnsafeStr
import Derived.Lib.AppendStr
import Derived.Lib.Hide
import Derived.OwnWalk
set_option linter.unusedSimpArgs false
set_option linter.unusedVariables false
namespace Go.Proofs.YtbeaoekbppdlmaaDoor
open Go Go.RowKit

theorem infoY : (Tryd.prog.info? 5).map (fun i => (i.zero, i.size, i.bytes)) = some (some (.int .u8 0), 1, 1) := by kernel_rfl
theorem bytes_app (a b : List UInt8) : Lib.byteCells (a ++ b) = Lib.byteCells a ++ Lib.byteCells b := by simp [Lib.byteCells]
/-- a text that is being built, in a block of the call's own -/
def OwnT (B : Nat) (w : World) (v : Value) (T : List UInt8) : Prop := w.ownsRow B 5 1 v T.length (Lib.byteCells T)
theorem OwnT.one {B : Nat} {w : World} {v : Value} {T : List UInt8} {b : UInt8} (h : w.ownsRow B 5 1 v (T.length + 1) (Lib.byteCells T ++ [.int .u8 b.toNat])) : OwnT B w v (T ++ [b]) := by
  unfold OwnT; rw [bytes_app]; simpa [Lib.byteCells] using h
theorem OwnT.more {B : Nat} {w : World} {v : Value} {T D : List UInt8} (h : w.ownsRow B 5 1 v (T.length + D.length) (Lib.byteCells T ++ Lib.byteCells D)) : OwnT B w v (T ++ D) := by
  unfold OwnT; rw [bytes_app, List.length_append]; exact h
theorem OwnT.below {B : Nat} {w w' : World} {v : Value} {T : List UInt8} (h : OwnT B w v T) (hb : Below w.heap.size w w') : OwnT B w' v T := World.ownsRow.kept h (grown_below hb) (one_or _)
theorem OwnT.mono {B B' : Nat} {w : World} {v : Value} {T : List UInt8} (h : OwnT B w v T) (hb : B' ≤ B) : OwnT B' w v T := row_mono h hb
theorem OwnT.nil (B : Nat) (w : World) : OwnT B w (.slice none 0 0) [] := World.ownsRow_nil _ _ _ _
theorem OwnT.form {B : Nat} {w : World} {v : Value} {T : List UInt8} (h : OwnT B w v T) : ∃ a c, v = .slice a T.length c := row_form h

/-- the slice reads the bytes T -/
def RdY (w : World) (v : Value) (T : List UInt8) : Prop :=
  T.length ≤ 140737488355328 ∧ ∃ a c, v = .slice a T.length c ∧ T.length ≤ c ∧ c ≤ maxLen ∧ (a = none → c = 0) ∧
    (T ≠ [] → ∃ b off, a = some ⟨b, off, none⟩ ∧ b < w.heap.size ∧ ∀ j, j < T.length → w.cell? ⟨b, off + j, none⟩ = some (.int .u8 (T.getD j 0).toNat))
theorem RdY.len {w : World} {v : Value} {T : List UInt8} (h : RdY w v T) : T.length ≤ 140737488355328 := h.1
theorem RdY.below {w w' : World} {v : Value} {T : List UInt8} (h : RdY w v T) (hb : Below w.heap.size w w') : RdY w' v T := by
  obtain ⟨h1, a, c, rfl, hc, hm, hn, h2⟩ := h
  refine ⟨h1, a, c, rfl, hc, hm, hn, fun hne => ?_⟩
  obtain ⟨b, off, rfl, hlt, hcell⟩ := h2 hne
  exact ⟨b, off, rfl, Nat.lt_of_lt_of_le hlt hb.size, fun j hj => (hb.cell (p := ⟨b, off + j, none⟩) hlt).trans (hcell j hj)⟩
theorem RdY.nil (w : World) : RdY w (.slice none 0 0) [] := ⟨by simp, none, 0, rfl, Nat.le_refl _, Nat.zero_le _, fun _ => rfl, fun h => absurd rfl h⟩
theorem RdY.form {w : World} {v : Value} {T : List UInt8} (h : RdY w v T) : ∃ a c, v = .slice a T.length c ∧ T.length ≤ c ∧ c ≤ maxLen ∧ ∀ k, k < T.length → ∃ b off, a = some ⟨b, off, none⟩ ∧ b < w.heap.size ∧ w.cell? ⟨b, off + k, none⟩ = some (.int .u8 (T.getD k 0).toNat) := by
  obtain ⟨h1, a, c, rfl, hc, hm, hn, h2⟩ := h
  refine ⟨a, c, rfl, hc, hm, fun k hk => ?_⟩
  obtain ⟨b, off, e, hb, hcell⟩ := h2 (by intro e; subst e; simp at hk)
  exact ⟨b, off, e, hb, hcell k hk⟩
theorem OwnT.rd {B : Nat} {w : World} {v : Value} {T : List UInt8} (h : OwnT B w v T) (hl : T.length ≤ 140737488355328) : RdY w v T := by
  rcases h.2 with ⟨rfl, hn⟩ | ⟨g, cap, cur, hv, hg, hh, hn, hm, hs, ht⟩
  · have : T = [] := List.length_eq_zero_iff.1 hn
    subst this; exact RdY.nil w
  · subst hv
    refine ⟨hl, _, cap, rfl, hn, hm, fun h => (by cases h), fun _ => ⟨g, 0, rfl, (Array.getElem?_eq_some_iff.1 hh).1, fun j hj => ?_⟩⟩
    rw [Nat.zero_add, World.ownsRow.cellAt h j (by omega)]
    simp [Lib.byteCells, hj]
/-- the cells that an appended slice of bytes holds -/
theorem RdY.news {w : World} {T : List UInt8} {b off n c : Nat} (h : RdY w (.slice (some ⟨b, off, none⟩) n c) T) : ∀ j u, (Lib.byteCells T)[j]? = some u → w.cell? ((⟨b, off, none⟩ : Addr).add j) = some u := by
  obtain ⟨h1, a, c', e, hc, hm, hn, h2⟩ := h
  intro j u hu
  have hj : j < T.length := by
    have := (List.getElem?_eq_some_iff.1 hu).1
    simpa [Lib.byteCells] using this
  obtain ⟨b', off', e', hlt, hcell⟩ := h2 (by intro e; subst e; simp at hj)
  have e2 : b' = b ∧ off' = off := by
    injection e with q1 q2 q3
    rw [e'] at q1
    injection q1 with q1
    injection q1 with q1 q2
    exact ⟨q1.symm, q2.symm⟩
  obtain ⟨rfl, rfl⟩ := e2
  have hadd : (⟨b', off', none⟩ : Addr).add j = ⟨b', off' + j, none⟩ := by unfold Addr.add; split <;> simp_all
  rw [hadd, hcell j hj]
  simp [Lib.byteCells, hj] at hu
  simp [List.getD_eq_getElem?_getD, hj, hu]

end Go.Proofs.YtbeaoekbppdlmaaDoor

/-
  pace.Formed and the document's Formed.
-/
import Derived.Test.YthmejmnbbbiemaaPcL
import Derived.WalkLawsBesides
import Derived.Below
import Derived.RangeFuncBox
import Derived.Deep.RegionHeld
set_option linter.unusedSimpArgs false
set_option linter.unusedVariables false
namespace Go.Proofs.Ythmejmnbbbiemaa
open Go Go.RowKit

theorem nat_swap (a b : Nat) : compare a b = (compare b a).swap := Std.OrientedCmp.eq_swap
theorem int_swap (a b : Int) : compare a b = (compare b a).swap := Std.OrientedCmp.eq_swap
theorem ord_swap : ∀ x y : Ieee.Datum, x.order y = (y.order x).map Ordering.swap
  | .nan .., y => by cases y <;> rfl
  | .infinity s, .nan .. => rfl
  | .infinity s, .infinity t => by cases s <;> cases t <;> rfl
  | .infinity s, .number .. => by cases s <;> rfl
  | .number .., .nan .. => rfl
  | .number .., .infinity t => by cases t <;> rfl
  | .number s m i, .number t n j => by
    simp only [Ieee.Datum.order, Option.map_some]
    rw [Int.min_comm j i, int_swap]
/-- a decay as it should be -/
def dcy (d : Nat) : Bool := (FloatKind.f64.format.order 4602678819172646912 d == some .lt || FloatKind.f64.format.order 4602678819172646912 d == some .eq) && (FloatKind.f64.format.order d 4607182418800017408 == some .lt || FloatKind.f64.format.order d 4607182418800017408 == some .eq)
theorem ge_swap (a b : Nat) : (FloatKind.f64.format.order a b == some .gt || FloatKind.f64.format.order a b == some .eq) = (FloatKind.f64.format.order b a == some .lt || FloatKind.f64.format.order b a == some .eq) := by
  unfold Ieee.Format.order
  rw [ord_swap]
  cases (Ieee.Datum.order (FloatKind.f64.format.read b) (FloatKind.f64.format.read a)) with
  | none => rfl
  | some o => cases o <;> rfl
/-- may so many conflicts lie ahead -/
def cnB (n : Int) : Bool := decide (1 ≤ n ∧ n ≤ 1048576)
theorem cnB_true {n : Int} : cnB n = true ↔ 1 ≤ n ∧ n ≤ 1048576 := by simp [cnB]
theorem cnB_false {n : Int} : cnB n = false ↔ (n < 1 ∨ 1048576 < n) := by simp [cnB]; omega
def phB (p : Int) : Bool := decide (p = 1 ∨ p = 2 ∨ p = 3)
/-- a config that is formed -/
def fmC (b f g : Int) (d : Nat) (p : Int) : Bool := cnB b && cnB f && cnB g && dcy d && phB p
/-- a config's value -/
def cfV (b f g : Int) (d : Nat) (p u : Int) : Value := .agg #[.int .i64 b, .int .i64 f, .int .i64 g, .float .f64 d, .int .i64 p, .int .i64 u]

theorem counts_any (n : Int) (w : World) :
    Calls Try.prog 17 #[.int .i64 n] w fun e w' => e = .returned (.bool (cnB n)) ∧ w' = w := by
  go_enter Try.func17, Try.ntmps17
  go_wp2
  all_goals (go_ret; exact ⟨ret_bool13 (by rw [Bool.eq_iff_iff]; simp [cnB]; try omega), rfl⟩)

set_option maxHeartbeats 1600000 in
theorem formed_any (b f g : Int) (d : Nat) (p u : Int) (w : World) :
    Calls Try.prog 8 #[.agg #[.int .i64 b, .int .i64 f, .int .i64 g, .float .f64 d, .int .i64 p, .int .i64 u]] w fun e w' => e = .returned (.bool (fmC b f g d p)) ∧ Below w.heap.size w w' := by
  cases hb : cnB b
  · have HF : Hid (fmC b f g d p = false) := by show _ = _; unfold fmC; rw [hb]; rfl
    go_enter Try.func8, Try.ntmps8
    go_wp2_with (go_at_call 17; refine (counts_any _ _).mono ?_; rintro e w' ⟨rfl, rfl⟩)
    go_ret
    exact ⟨ret_bool13 HF.out.symm, (Below.refl _ _).alloc (Nat.le_refl _) _⟩
  cases hf : cnB f
  · have HF : Hid (fmC b f g d p = false) := by show _ = _; unfold fmC; rw [hb, hf]; rfl
    go_enter Try.func8, Try.ntmps8
    go_wp2_with (go_at_call 17; refine (counts_any _ _).mono ?_; rintro e w' ⟨rfl, rfl⟩)
    go_ret
    exact ⟨ret_bool13 HF.out.symm, (Below.refl _ _).alloc (Nat.le_refl _) _⟩
  cases hg : cnB g
  · have HF : Hid (fmC b f g d p = false) := by show _ = _; unfold fmC; rw [hb, hf, hg]; rfl
    go_enter Try.func8, Try.ntmps8
    go_wp2_with (go_at_call 17; refine (counts_any _ _).mono ?_; rintro e w' ⟨rfl, rfl⟩)
    go_ret
    exact ⟨ret_bool13 HF.out.symm, (Below.refl _ _).alloc (Nat.le_refl _) _⟩
  have HF : Hid (fmC b f g d p = (dcy d && phB p)) := by show _ = _; unfold fmC; rw [hb, hf, hg]; simp
  go_enter Try.func8, Try.ntmps8
  go_wp2_with (go_at_call 17; refine (counts_any _ _).mono ?_; rintro e w' ⟨rfl, rfl⟩)
  all_goals
    go_ret
    refine ⟨ret_bool13 ?_, (Below.refl _ _).alloc (Nat.le_refl _) _⟩
    rw [HF.out]
    unfold dcy phB
    generalize FloatKind.f64.format.order 4602678819172646912 d = A at *
    generalize FloatKind.f64.format.order d 4607182418800017408 = B at *
    rw [Bool.eq_iff_iff]
    rcases A with _ | A <;> rcases B with _ | B <;> (try cases A) <;> (try cases B) <;> simp_all

/-- a config's box -/
def Cb (W : World) (B : Nat) (b f g : Int) (d : Nat) (p u : Int) : Prop := W.heap[B]? = some (.cells #[.int .i64 b, .int .i64 f, .int .i64 g, .float .f64 d, .int .i64 p, .int .i64 u] 24 (0, 0))
theorem cell_at {W : World} {D : Nat} {cs : Array Value} {ty : TypeId} (h : W.heap[D]? = some (.cells cs ty (0, 0))) {j : Nat} {v : Value} (hj : cs[j]? = some v) : W.cell? ⟨D, j, none⟩ = some v := by simp [World.cell?, h, hj]
theorem Cb.cells {W : World} {B : Nat} {b f g : Int} {d : Nat} {p u : Int} (h : Cb W B b f g d p u) : W.cell? ⟨B, 0, none⟩ = some (.int .i64 b) ∧ W.cell? ⟨B, 1, none⟩ = some (.int .i64 f) ∧ W.cell? ⟨B, 2, none⟩ = some (.int .i64 g) ∧ W.cell? ⟨B, 3, none⟩ = some (.float .f64 d) ∧ W.cell? ⟨B, 4, none⟩ = some (.int .i64 p) ∧ W.cell? ⟨B, 5, none⟩ = some (.int .i64 u) :=
  ⟨cell_at h rfl, cell_at h rfl, cell_at h rfl, cell_at h rfl, cell_at h rfl, cell_at h rfl⟩
theorem Cb.on {W W' : World} {N B : Nat} {b f g : Int} {d : Nat} {p u : Int} (h : Cb W B b f g d p u) (hb : Below N W W') (hN : B < N) : Cb W' B b f g d p u := (hb.block _ hN).trans h
theorem heap_new (w : World) (o : Obj) : (w.alloc o).heap[w.heap.size]? = some o := World.alloc_heap_new w o
theorem Cb.new (w : World) (b f g : Int) (d : Nat) (p u : Int) : Cb (w.alloc (.cells #[.int .i64 b, .int .i64 f, .int .i64 g, .float .f64 d, .int .i64 p, .int .i64 u] 24)) w.heap.size b f g d p u := heap_new w _
theorem Cb.lt {W : World} {B : Nat} {b f g : Int} {d : Nat} {p u : Int} (h : Cb W B b f g d p u) : B < W.heap.size := by
  unfold Cb at h
  exact (Array.getElem?_eq_some_iff.1 h).1

end Go.Proofs.Ythmejmnbbbiemaa
namespace Go.Proofs.Ythmejmnbbbiemaa.paceFormed
open Go Go.RowKit
end Go.Proofs.Ythmejmnbbbiemaa.paceFormed

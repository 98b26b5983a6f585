/-
  Formed and Size, the program's and the document's, and the law's small formula, walked.
-/
import Derived.Test.YtmfcaoacklbkoaaDoorForms
import Derived.Test.YtmfcaoacklbkoaaDoorNum
import Derived.BigQuiet
import Derived.Deep.QuietTactic
set_option linter.unusedSimpArgs false
set_option linter.unusedVariables false
namespace Go.Proofs.YtmfcaoacklbkoaaDoor
open Go.RowKit

theorem fit1 (n : Int) (l : Int) : (fmd l && decide (varOf l ≤ n)) = (fmd l && (!decide (n < l) && !decide (n < -l))) := by
  unfold varOf
  rcases fmd_cases l with ⟨h, h0, h1, h2⟩ | ⟨h, h0⟩
  · rw [h, Bool.eq_iff_iff]
    by_cases hs : l < 0
    · simp only [hs, Bool.true_and, if_true, decide_eq_true_eq, Bool.and_eq_true, Bool.not_eq_true', decide_eq_false_iff_not]; omega
    · simp only [hs, Bool.true_and, if_true, if_false, decide_eq_true_eq, Bool.and_eq_true, Bool.not_eq_true', decide_eq_false_iff_not]; omega
  · rw [h]; rfl

theorem szs_step (css : List (List Int)) (k : Nat) (h : k < css.length) : szs (css.take (k + 1)) = wrap64 (szs (css.take k) + (css.getD k []).length) := by
  rw [take_succ_getD css [] k h]; unfold szs; rw [List.foldl_append]; rfl
theorem box0 (w : World) (x y : Value) (t : TypeId) : (w.alloc (.cells #[x, y] t)).cell? ⟨w.heap.size, 0, none⟩ = some x := by rw [World.cell?_alloc_at _ _ _ _ rfl]; rfl
theorem box1 (w : World) (x y : Value) (t : TypeId) : (w.alloc (.cells #[x, y] t)).cell? ⟨w.heap.size, 1, none⟩ = some y := by rw [World.cell?_alloc_at _ _ _ _ rfl]; rfl
theorem below_box (w : World) (o : Obj) : Below w.heap.size w (w.alloc o) := (Below.refl _ _).alloc (Nat.le_refl _) _

theorem fit2 {n l : Int} (h : fmd l = true) : wrap64 (-l) = -l := by
  have := fmd_range h; unfold wrap64; omega

theorem fits_of_sound {n : Int} {zs : List Int} (h : zs.all fmd = true) : fitsP n zs = zs.all (fun l => !decide (n < l) && !decide (n < -l)) := by
  unfold fitsP
  have h' := List.all_eq_true.1 h
  rw [Bool.eq_iff_iff, List.all_eq_true, List.all_eq_true]
  constructor
  · intro k l hl
    have := k l hl
    rw [fit1, h' l hl] at this; exact this
  · intro k l hl
    rw [fit1, h' l hl]; exact k l hl
theorem fits_not_sound {n : Int} {zs : List Int} (h : zs.all fmd = false) : fitsP n zs = false := by
  obtain ⟨l, hl, hf⟩ := List.all_eq_false.1 h
  rw [fitsP, List.all_eq_false]
  exact ⟨l, hl, by simp at hf; simp [hf]⟩

/-- a formula in its box, in a world that has grown -/
structure Bx (w : World) (n : Int) (s : Value) (css : List (List Int)) (wr : World) : Prop where
  bel : Below w.heap.size w wr
  c0 : wr.cell? ⟨w.heap.size, 0, none⟩ = some (.int .i64 n)
  c1 : wr.cell? ⟨w.heap.size, 1, none⟩ = some s
  rd : Rds wr s css
theorem Bx.new {w : World} {n : Int} {s : Value} {css : List (List Int)} (hr : Rds w s css) (t : TypeId) : Bx w n s css (w.alloc (.cells #[.int .i64 n, s] t)) :=
  ⟨below_box _ _, box0 _ _ _ _, box1 _ _ _ _, hr.below (below_box _ _)⟩
theorem Bx.on {w : World} {n : Int} {s : Value} {css : List (List Int)} {wr w' : World} (h : Bx w n s css wr) (hb : Below wr.heap.size wr w') : Bx w n s css w' :=
  ⟨h.bel.trans (hb.mono h.bel.size), (hb.cell (p := ⟨w.heap.size, 0, none⟩) (World.block_lt_of_cell? wr _ h.c0)).trans h.c0, (hb.cell (p := ⟨w.heap.size, 1, none⟩) (World.block_lt_of_cell? wr _ h.c1)).trans h.c1, h.rd.below hb⟩
theorem Bx.at {w : World} {n : Int} {a : Option Addr} {c : Nat} {css : List (List Int)} {wr : World} (h : Bx w n (.slice a css.length c) css wr) {k : Nat} (hk : k < css.length) :
    ∃ b off u, a = some ⟨b, off, none⟩ ∧ wr.cell? ⟨b, off + k, none⟩ = some u ∧ Rd wr u (css.getD k []) := by
  obtain ⟨a', c', e, _, _, hcell⟩ := h.rd.form
  obtain ⟨rfl, _, rfl⟩ : a' = a ∧ css.length = css.length ∧ c' = c := by
    injection e with e1 e2 e3; exact ⟨e1.symm, rfl, e3.symm⟩
  exact hcell k hk

end Go.Proofs.YtmfcaoacklbkoaaDoor

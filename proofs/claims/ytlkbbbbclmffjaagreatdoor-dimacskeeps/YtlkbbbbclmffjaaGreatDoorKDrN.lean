/-
  drat.number, walked.
  KEEP: below out mono nil form app grown rdz
-/
import Derived.Test.YtlkbbbbclmffjaaGreatDoorKItoaD
import Derived.Lib.AtoiTie
import Derived.Lib.AtoiErrMem
import Derived.Lib.AtoiAllMem
import Derived.Handy
import Derived.Deep.QuietTactic
import Derived.BigQuiet
set_option linter.unusedSimpArgs false
set_option linter.unusedVariables false
namespace Go.Proofs.YtlkbbbbclmffjaaGreatDoor
open Go Go.RowKit Go.Lib Go.Sort

theorem par_dec : ∀ (l : List UInt8) (acc : Nat), l.all isDg = true → l.foldl (fun a b => 10 * a + (b.toNat - 48)) acc < 9223372036854775808 → Lib.parseUint10 acc l = .ok (l.foldl (fun a b => 10 * a + (b.toNat - 48)) acc)
  | [], acc, _, _ => rfl
  | b :: r, acc, h, hv => by
    simp only [List.all_cons, Bool.and_eq_true] at h
    have hb := h.1
    simp only [isDg, Bool.and_eq_true, decide_eq_true_eq] at hb
    rw [List.foldl_cons] at hv
    have mono : ∀ (r : List UInt8) (a : Nat), a ≤ r.foldl (fun a b => 10 * a + (b.toNat - 48)) a := by
      intro r
      induction r with
      | nil => intro a; exact Nat.le_refl _
      | cons x r ih => intro a; rw [List.foldl_cons]; exact Nat.le_trans (by omega) (ih _)
    have hm := mono r (10 * acc + (b.toNat - 48))
    have ih := par_dec r (10 * acc + (b.toNat - 48)) h.2 hv
    rw [Lib.parseUint10, if_pos ⟨hb.1, hb.2⟩, if_neg (by omega), if_neg (by omega), List.foldl_cons, ← ih]
    congr 1; omega
theorem atoi_itoa9 {z : Int} (h : okN z = true) : Lib.atoiAll (Lib.itoa z) = .ok z := by
  have hr := okN_range h
  have key : ∀ u : Nat, u ≤ 1048576 → Lib.parseMag (Lib.decDigits u) = .ok u := fun u hu => by
    have h1 := par_dec (Lib.decDigits u) 0 (dec_all u) (by have := dec_val u; unfold decV at this; omega)
    have h2 : (Lib.decDigits u).foldl (fun a b => 10 * a + (b.toNat - 48)) 0 = u := dec_val u
    rw [h2] at h1
    unfold Lib.parseMag
    cases hd : Lib.decDigits u with
    | nil => exact absurd hd (dec_ne u)
    | cons b r => rw [hd] at h1; exact h1
  unfold Lib.itoa
  split
  · rename_i hn
    have hk := key z.natAbs (by omega)
    unfold Lib.atoiAll
    simp only [show (45 : UInt8).toNat = 45 from rfl, if_true, or_true]
    rw [hk]
    simp only [not_true_eq_false, false_and, if_false, true_and]
    rw [if_neg (by omega)]
    congr 1; omega
  · rename_i hn
    have hk := key z.toNat (by omega)
    cases hd : Lib.decDigits z.toNat with
    | nil => exact absurd hd (dec_ne _)
    | cons b r =>
      have hb := dec_bytes z.toNat b (by rw [hd]; simp)
      unfold Lib.atoiAll
      have e1 : ¬ (b.toNat = 43 ∨ b.toNat = 45) := by omega
      have e2 : ¬ b.toNat = 45 := by omega
      rw [hd] at hk
      simp only [e2, or_false]
      rw [if_neg (show ¬ b.toNat = 43 by omega), hk]
      simp only [not_false_eq_true, true_and, false_and, if_false]
      rw [if_neg (by omega)]
      congr 1; omega

/-- the library's errors, as the program's text lays them -/
def ErrsY (w : World) : Prop := (∃ tp p, w.var? Tryz.prog "strconv.ErrSyntax" = some #[.iface tp p]) ∧ (∃ tp p, w.var? Tryz.prog "strconv.ErrRange" = some #[.iface tp p])
theorem gES9 : Tryz.prog.globalNamed "strconv.ErrSyntax" = some 1 := by kernel_rfl
theorem gER9 : Tryz.prog.globalNamed "strconv.ErrRange" = some 2 := by kernel_rfl
theorem ErrsY.below {w w' : World} (h : ErrsY w) (hb : Below w.heap.size w w') : ErrsY w' := by
  obtain ⟨⟨t1, p1, h1⟩, ⟨t2, p2, h2⟩⟩ := h
  exact ⟨⟨t1, p1, Go.Joins.var_stays gES9 h1 hb (Nat.le_refl _)⟩, ⟨t2, p2, Go.Joins.var_stays gER9 h2 hb (Nat.le_refl _)⟩⟩
def Env (w : World) : Prop := TensY w ∧ ErrsY w
theorem Env.below {w w' : World} (h : Env w) (hb : Below w.heap.size w w') : Env w' := ⟨h.1.below hb, h.2.below hb⟩

theorem bytes_below (w : World) (t : ByteArray) : Below w.heap.size w (Lib.bytesWorld w 5 t) := Lib.bytesWorld_below _ _ _

theorem ba_ext {s : ByteArray} {l : List UInt8} (h : s.data.toList = l) : s = ⟨l.toArray⟩ := by
  cases s; subst h; simp

end Go.Proofs.YtlkbbbbclmffjaaGreatDoor

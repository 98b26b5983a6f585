/-
  SameInts, SameClauses, SameFormula, walked.
-/
import Derived.Test.YtfklgfdkpmfdnaaDoorShape
set_option linter.unusedSimpArgs false
set_option linter.unusedVariables false
namespace Go.Proofs.YtfklgfdkpmfdnaaDoor
open Go.RowKit

theorem take_eq_more {α : Type} {d : α} {a b : List α} {k : Nat} (ha : k < a.length) (hb : k < b.length) (h : a.take k = b.take k) (he : a.getD k d = b.getD k d) : a.take (k + 1) = b.take (k + 1) := by
  rw [take_succ_getD a d k ha, take_succ_getD b d k hb, h, he]
theorem beq_no_at {α : Type} [BEq α] [LawfulBEq α] {d : α} {a b : List α} {k : Nat} (h : a.getD k d ≠ b.getD k d) : (a == b) = false := by
  rw [beq_eq_false_iff_ne]; intro e; subst e; exact h rfl
theorem beq_no_len {α : Type} [BEq α] [LawfulBEq α] {a b : List α} (h : a.length ≠ b.length) : (a == b) = false := by
  rw [beq_eq_false_iff_ne]; intro e; subst e; exact h rfl

set_option maxHeartbeats 3200000 in
theorem sameInts_any (va vb : Value) (a b : List Int) (w : World) (ha : Rd w va a) (hb : Rd w vb b) :
    Calls Tryd.prog 25 #[va, vb] w fun e w' => e = .returned (.bool (a == b)) ∧ Below w.heap.size w w' := by
  have hla := ha.len
  have hlb := hb.len
  obtain ⟨aa, ca, rfl, hca, hma, hcella⟩ := ha.form
  obtain ⟨ab, cb, rfl, hcb, hmb, hcellb⟩ := hb.form
  by_cases hne : a.length = b.length
  case neg =>
    have HE : Hid ((a == b) = false) := beq_no_len hne
    have hd : ((a.length : Int) == (b.length : Int)) = false := beq_eq_false_iff_ne.2 (by omega)
    clear hcella hcellb ha hb
    go_enter Tryd.func25, Tryd.ntmps25
    go_wp2
    go_ret
    exact ⟨ret_bool HE.out.symm, Below.refl _ _⟩
  have HA : Hid (∀ k, k < a.length → ∃ b off, aa = some ⟨b, off, none⟩ ∧ w.cell? ⟨b, off + k, none⟩ = some (.int .i64 (a.getD k 0))) := hcella
  have HB : Hid (∀ k, k < b.length → ∃ b' off, ab = some ⟨b', off, none⟩ ∧ w.cell? ⟨b', off + k, none⟩ = some (.int .i64 (b.getD k 0))) := hcellb
  have HN : Hid (a.length = b.length) := hne
  have hd : ((a.length : Int) == (b.length : Int)) = true := beq_iff_eq.2 (by omega)
  clear hcella hcellb ha hb hne
  go_enter Tryd.func25, Tryd.ntmps25
  go_wp2
  go_loopg [5] a.length (fun g i wr => ∃ k : Nat, k + g = a.length ∧ i = .int .i64 k ∧ a.take k = b.take k ∧ Below w.heap.size w wr ∧ wr.heap = w.heap)
  case atStart => exact ⟨0, by omega, rfl, by simp, Below.refl _ _, rfl⟩
  case round =>
    obtain ⟨k, hk, rfl, hpre, bel, hheap⟩ := hrel
    have HK : Hid (k + gk = a.length) := hk
    have HP : Hid (a.take k = b.take k) := hpre
    have HB1 : Hid (Below w.heap.size w wr) := bel
    clear hpre
    by_cases hlt : k < a.length
    · obtain ⟨b1, o1, rfl, ck1⟩ := HA.out k hlt
      obtain ⟨b2, o2, rfl, ck2⟩ := HB.out k (by have := HN.out; omega)
      have hc1 : wr.cell? ⟨b1, o1 + k, none⟩ = some (.int .i64 (a.getD k 0)) := by rw [← ck1]; unfold World.cell?; rw [hheap]
      have hc2 : wr.cell? ⟨b2, o2 + k, none⟩ = some (.int .i64 (b.getD k 0)) := by rw [← ck2]; unfold World.cell?; rw [hheap]
      have HS : Hid (a.getD k 0 = b.getD k 0 → a.take (k + 1) = b.take (k + 1)) := fun h => take_eq_more hlt (by have := HN.out; omega) HP.out h
      have HF : Hid (a.getD k 0 ≠ b.getD k 0 → (a == b) = false) := fun h => beq_no_at (d := 0) h
      have hlt2 : k < b.length := by have := HN.out; omega
      have HH : Hid (wr.heap = w.heap) := hheap
      clear hk ck1 ck2 bel hheap
      generalize a.getD k 0 = x at *
      generalize b.getD k 0 = y at *
      by_cases he : x = y
      · have hb1 : (x == y) = true := beq_iff_eq.2 he
        have HE : Hid (x = y) := he
        clear he
        go_wp2_with fail
        go_quiet (fail)
        go_wp2
        go_roundg (gk - 1)
        case measure => have := HK.out; omega
        case rel => exact ⟨k + 1, by have := HK.out; omega, by go_num, HS.out HE.out, Below.step HB1.out (below_drewN _ _), HH.out⟩
      · have hb1 : (x == y) = false := beq_eq_false_iff_ne.2 he
        have HE : Hid (x ≠ y) := he
        clear he
        go_wp2_with fail
        go_quiet (fail)
        go_wp2
        go_ret
        exact ⟨ret_bool (HF.out HE.out).symm, Below.step HB1.out (below_drewN _ _)⟩
    · obtain rfl : k = a.length := by omega
      have HE : Hid ((a == b) = true) := by
        have := HP.out
        rw [List.take_length, HN.out, List.take_length] at this
        exact beq_iff_eq.2 this
      clear hk
      go_wp2
      go_ret
      exact ⟨ret_bool HE.out.symm, HB1.out⟩

theorem sameSelf_any (va vb : Value) (a : List Int) (w : World) (ha : Rd w va a) (hb : Rd w vb a) :
    Calls Tryd.prog 25 #[va, vb] w fun e w' => e = .returned (.bool true) ∧ Below w.heap.size w w' := by
  have := sameInts_any va vb a a w ha hb
  rw [show (a == a) = true from beq_self_eq_true a] at this
  exact this

end Go.Proofs.YtfklgfdkpmfdnaaDoor

/-
  SameBools and the law's order of models, walked.
-/
import Derived.Test.YtlkbbbbclmffjaaGreatDoorJTruth
import Derived.Deep.LoopGhost
import Derived.BigQuiet
import Derived.Lib.Hide
set_option linter.unusedSimpArgs false
set_option linter.unusedVariables false
namespace Go.Proofs.YtlkbbbbclmffjaaGreatDoor
open Go.RowKit

theorem num_split : ∀ (k : Nat) (l : List Bool), k ≤ l.length → num l = num (l.take k) + 2 ^ k * num (l.drop k)
  | 0, l, _ => by simp [num]
  | k + 1, [], h => by simp at h
  | k + 1, b :: r, h => by
    have ih := num_split k r (by simpa using h)
    simp only [num, List.take_succ_cons, List.drop_succ_cons, Nat.pow_succ, ih]
    have e : 2 ^ k * 2 * num (r.drop k) = 2 * (2 ^ k * num (r.drop k)) := by rw [Nat.mul_comm (2 ^ k) 2, Nat.mul_assoc]
    rw [e]; omega
theorem drop_one {l : List Bool} {k : Nat} (h : k < l.length) : l.drop k = l.getD k false :: l.drop (k + 1) := by
  rw [List.drop_eq_getElem_cons h]; simp [List.getD_eq_getElem?_getD, h]
/-- the first place from above where they differ says which is the lesser -/
theorem num_at {a b : List Bool} {k : Nat} (ha : k < a.length) (hb : k < b.length) (hd : a.drop (k + 1) = b.drop (k + 1)) (hne : a.getD k false ≠ b.getD k false) : decide (num a < num b) = b.getD k false := by
  have ea := num_split k a (by omega)
  have eb := num_split k b (by omega)
  rw [drop_one ha] at ea
  rw [drop_one hb] at eb
  have la := num_lt (a.take k)
  have lb := num_lt (b.take k)
  rw [List.length_take, Nat.min_eq_left (by omega)] at la lb
  simp only [num, hd] at ea eb
  generalize num (b.drop (k + 1)) = q at *
  have hp : 0 < 2 ^ k := Nat.pow_pos (by omega)
  cases h1 : a.getD k false <;> cases h2 : b.getD k false <;> rw [h1] at ea hne <;> rw [h2] at eb hne
  · exact absurd rfl hne
  · simp only [Bool.false_eq_true, if_false, if_true, Nat.zero_add, Nat.mul_add, Nat.mul_one] at ea eb
    exact decide_eq_true (by omega)
  · simp only [Bool.false_eq_true, if_false, if_true, Nat.zero_add, Nat.mul_add, Nat.mul_one] at ea eb
    exact decide_eq_false (by omega)
  · exact absurd rfl hne
theorem mods_sorted (n : Nat) (css : List (List Int)) : (mods n css).Pairwise (fun a b => num a < num b) := by
  unfold mods modsTo
  refine List.Pairwise.filter _ ?_
  rw [List.pairwise_map]
  refine List.Pairwise.imp_of_mem ?_ (List.pairwise_lt_range (n := 2 ^ n))
  intro a b ha hb h
  rw [num_bt n a (List.mem_range.1 ha), num_bt n b (List.mem_range.1 hb)]
  exact h

theorem takeB_more {a b : List Bool} {k : Nat} (ha : k < a.length) (hb : k < b.length) (h : a.take k = b.take k) (he : a.getD k false = b.getD k false) : a.take (k + 1) = b.take (k + 1) := by
  rw [take_succ_getD a false k ha, take_succ_getD b false k hb, h, he]
theorem beqB_at {a b : List Bool} {k : Nat} (h : a.getD k false ≠ b.getD k false) : (a == b) = false := by
  cases hq : a == b
  · rfl
  · exact absurd (by rw [beq_iff_eq.1 hq]) h
theorem beqB_len {a b : List Bool} (h : a.length ≠ b.length) : (a == b) = false := by
  cases hq : a == b
  · rfl
  · exact absurd (by rw [beq_iff_eq.1 hq]) h
theorem belowN (w : World) (n : Nat) : Below w.heap.size w (w.drewN n) := below_drewN w n

set_option maxHeartbeats 1600000 in
theorem sameBools_any (va vb : Value) (a b : List Bool) (w : World) (ha : RdB w va a) (hb : RdB w vb b) :
    Calls Tryz.prog 33 #[va, vb] w fun e w' => e = .returned (.bool (a == b)) ∧ Below w.heap.size w w' := by
  have hla := ha.len
  have hlb := hb.len
  obtain ⟨aa, ca, rfl, hcella⟩ := ha.form
  obtain ⟨ab, cb, rfl, hcellb⟩ := hb.form
  by_cases hne : a.length = b.length
  case neg =>
    have HE : Hid ((a == b) = false) := beqB_len hne
    have hd : ((a.length : Int) == (b.length : Int)) = false := beq_eq_false_iff_ne.2 (by omega)
    clear hcella hcellb ha hb
    go_enter Tryz.func33, Tryz.ntmps33
    go_wp2
    go_ret
    exact ⟨ret_bool HE.out.symm, Below.refl _ _⟩
  have HA : Hid (∀ k, k < a.length → ∃ b off, aa = some ⟨b, off, none⟩ ∧ w.cell? ⟨b, off + k, none⟩ = some (.bool (a.getD k false))) := hcella
  have HB : Hid (∀ k, k < b.length → ∃ b' off, ab = some ⟨b', off, none⟩ ∧ w.cell? ⟨b', off + k, none⟩ = some (.bool (b.getD k false))) := hcellb
  have HN : Hid (a.length = b.length) := hne
  have hd : ((a.length : Int) == (b.length : Int)) = true := beq_iff_eq.2 (by omega)
  clear hcella hcellb ha hb hne
  go_enter Tryz.func33, Tryz.ntmps33
  go_wp2
  go_loopg [5] a.length (fun g i wr => ∃ k : Nat, k + g = a.length ∧ i = .int .i64 k ∧ a.take k = b.take k ∧ Below w.heap.size w wr ∧ wr.heap = w.heap)
  case atStart => exact ⟨0, by omega, rfl, by simp, Below.refl _ _, rfl⟩
  case round =>
    obtain ⟨k, hk, rfl, hpre, bel, hheap⟩ := hrel
    have HK : Hid (k + gk = a.length) := hk
    have HP : Hid (a.take k = b.take k) := hpre
    have HB1 : Hid (Below w.heap.size w wr) := bel
    clear hpre
    by_cases hlt : k < a.length
    · obtain ⟨b1, o1, rfl, ck1⟩ := HA.out k hlt
      obtain ⟨b2, o2, rfl, ck2⟩ := HB.out k (by have := HN.out; omega)
      have hc1 : wr.cell? ⟨b1, o1 + k, none⟩ = some (.bool (a.getD k false)) := by rw [← ck1]; unfold World.cell?; rw [hheap]
      have hc2 : wr.cell? ⟨b2, o2 + k, none⟩ = some (.bool (b.getD k false)) := by rw [← ck2]; unfold World.cell?; rw [hheap]
      have HS : Hid (a.getD k false = b.getD k false → a.take (k + 1) = b.take (k + 1)) := fun h => takeB_more hlt (by have := HN.out; omega) HP.out h
      have HF : Hid (a.getD k false ≠ b.getD k false → (a == b) = false) := fun h => beqB_at h
      have hlt2 : k < b.length := by have := HN.out; omega
      have HH : Hid (wr.heap = w.heap) := hheap
      clear hk ck1 ck2 bel hheap
      generalize a.getD k false = x at *
      generalize b.getD k false = y at *
      by_cases he : x = y
      · have hb1 : (x == y) = true := beq_iff_eq.2 he
        have HE : Hid (x = y) := he
        clear he
        go_wp2_with fail
        go_quiet (fail)
        go_wp2
        go_roundg (gk - 1)
        case measure => have := HK.out; omega
        case rel => exact ⟨k + 1, by have := HK.out; omega, by go_num, HS.out HE.out, Below.step HB1.out (below_drewN _ _), HH.out⟩
      · have hb1 : (x == y) = false := beq_eq_false_iff_ne.2 he
        have HE : Hid (x ≠ y) := he
        clear he
        go_wp2_with fail
        go_quiet (fail)
        go_wp2
        go_ret
        exact ⟨ret_bool (HF.out HE.out).symm, Below.step HB1.out (below_drewN _ _)⟩
    · obtain rfl : k = a.length := by omega
      have HE : Hid ((a == b) = true) := by
        have := HP.out
        rw [List.take_length, HN.out, List.take_length] at this
        exact beq_iff_eq.2 this
      clear hk
      go_wp2
      go_ret
      exact ⟨ret_bool HE.out.symm, HB1.out⟩

end Go.Proofs.YtlkbbbbclmffjaaGreatDoor

/-
  The document's answer, walked: Sound, Has, Equal, Tidy.
-/
import Derived.Test.YtkinilhapgagcabDoorRef
import Derived.Test.YtkinilhapgagcabDoorTidy
set_option linter.unusedSimpArgs false
set_option linter.unusedVariables false
namespace Go.Proofs.YtkinilhapgagcabDoor
open Go.RowKit

theorem contains_take_succ (zs : List Int) (l : Int) (k : Nat) (h : k < zs.length) : (zs.take (k + 1)).contains l = ((zs.take k).contains l || (zs.getD k 0 == l)) := by
  rw [Bool.eq_iff_iff, Bool.or_eq_true, List.contains_iff_mem, List.contains_iff_mem, beq_iff_eq, mem_take_succ h l]
  constructor
  · rintro (p | p)
    · exact .inl p
    · exact .inr p.symm
  · rintro (p | p)
    · exact .inl p
    · exact .inr p.symm
theorem contains_true_of {zs : List Int} {l : Int} {k : Nat} (h : k < zs.length) (hf : (zs.getD k 0 == l) = true) : zs.contains l = true := by
  rw [List.contains_iff_mem]
  have e : zs[k] = l := by simpa [List.getD_eq_getElem?_getD, List.getElem?_eq_getElem h] using hf
  rw [← e]; exact List.getElem_mem h

theorem take_eq_succ {a b : List Int} {k : Nat} (ha : k < a.length) (hb : k < b.length) (h : a.take k = b.take k) (he : a.getD k 0 = b.getD k 0) : a.take (k + 1) = b.take (k + 1) := by
  have e : a[k] = b[k] := by simpa [List.getD_eq_getElem?_getD, List.getElem?_eq_getElem ha, List.getElem?_eq_getElem hb] using he
  rw [List.take_succ_eq_append_getElem ha, List.take_succ_eq_append_getElem hb, h, e]
theorem beq_false_at {a b : List Int} {k : Nat} (h : a.getD k 0 ≠ b.getD k 0) : (a == b) = false := by
  rw [beq_eq_false_iff_ne]; intro e; exact h (by rw [e])
theorem beq_false_len {a b : List Int} (h : a.length ≠ b.length) : (a == b) = false := by
  rw [beq_eq_false_iff_ne]; intro e; exact h (by rw [e])

theorem rd_take {w : World} {b off c : Nat} {zs : List Int} (h : Nat) (hh : h ≤ zs.length) (hl : zs.length * 8 ≤ 140737488351232) (hc : zs.length ≤ c) (hm : c ≤ maxLen) (hb : b < w.heap.size) (hcell : ∀ j, j < zs.length → w.cell? ⟨b, off + j, none⟩ = some (.int .i64 (zs.getD j 0))) : Rd w (.slice (some ⟨b, off, none⟩) h c) (zs.take h) := by
  have e : (zs.take h).length = h := by simp; omega
  refine ⟨by rw [e]; omega, _, c, by rw [e], by rw [e]; omega, hm, fun h => (by cases h), fun _ => ⟨b, off, rfl, hb, fun j hj => ?_⟩⟩
  rw [e] at hj
  rw [hcell j (by omega)]
  simp [List.getD_eq_getElem?_getD, List.getElem?_take, hj]
theorem rd_drop {w : World} {b off c : Nat} {zs : List Int} (h : Nat) (hh : h ≤ zs.length) (hl : zs.length * 8 ≤ 140737488351232) (hc : zs.length ≤ c) (hm : c ≤ maxLen) (hb : b < w.heap.size) (hcell : ∀ j, j < zs.length → w.cell? ⟨b, off + j, none⟩ = some (.int .i64 (zs.getD j 0))) : Rd w (.slice (some ⟨b, off + h, none⟩) (zs.length - h) (c - h)) (zs.drop h) := by
  have e : (zs.drop h).length = zs.length - h := by simp
  refine ⟨by rw [e]; omega, _, c - h, by rw [e], by rw [e]; omega, by omega, fun h => (by cases h), fun _ => ⟨b, off + h, rfl, hb, fun j hj => ?_⟩⟩
  rw [e] at hj
  rw [Nat.add_assoc, hcell (h + j) (by omega)]
  simp [List.getD_eq_getElem?_getD, List.getElem?_drop]
theorem tid_one_yes {z : Int} (h : fmd z = true) : tid [z] = [z] := by simp [tid, h, ins]
theorem tid_one_no {z : Int} (h : fmd z = false) : tid [z] = [] := by simp [tid, h]
theorem own_one (w : World) (z : Int) : Own w.heap.size (w.alloc (.cells #[.int .i64 z] 3)) (.slice (some ⟨w.heap.size, 0, none⟩) 1 1) [z] :=
  World.ownsRow_lit w #[.int .i64 z] 1 (Nat.le_refl _) (by unfold maxLen; omega) (by simp)

end Go.Proofs.YtkinilhapgagcabDoor

/-
  (*text).next, walked.
  KEEP: grown below mono set on app nil text own rd rds new kept form lt trans refl rdb tens rdz len cut push whole start row
-/
import Derived.Test.YtpebpnbikdahkaaDoorCutW
import Derived.Test.YtpebpnbikdahkaaDoorGrow
import Derived.Maps.AppendAt
set_option linter.unusedSimpArgs false
set_option linter.unusedVariables false
namespace Go.Proofs.YtpebpnbikdahkaaDoor
open Go Go.RowKit

theorem Tb.set0 {W : World} {b : Nat} {l r : ByteArray} {k : Int} (h : Tb W b l r k) (x : ByteArray) : Tb (W.setCell ⟨b, 0, none⟩ (.string x)) b x r k := by
  obtain ⟨hlt, hk⟩ := Array.getElem?_eq_some_iff.1 h
  show (W.heap.modify b _)[b]? = _
  rw [Array.getElem?_eq_getElem (by rw [Array.size_modify]; exact hlt), Array.getElem_modify_self, hk]
  rfl
theorem Tb.set1 {W : World} {b : Nat} {l r : ByteArray} {k : Int} (h : Tb W b l r k) (x : ByteArray) : Tb (W.setCell ⟨b, 1, none⟩ (.string x)) b l x k := by
  obtain ⟨hlt, hk⟩ := Array.getElem?_eq_some_iff.1 h
  show (W.heap.modify b _)[b]? = _
  rw [Array.getElem?_eq_getElem (by rw [Array.size_modify]; exact hlt), Array.getElem_modify_self, hk]
  rfl
theorem Tb.set2 {W : World} {b : Nat} {l r : ByteArray} {k : Int} (h : Tb W b l r k) (x : Int) : Tb (W.setCell ⟨b, 2, none⟩ (.int .i64 x)) b l r x := by
  obtain ⟨hlt, hk⟩ := Array.getElem?_eq_some_iff.1 h
  show (W.heap.modify b _)[b]? = _
  rw [Array.getElem?_eq_getElem (by rw [Array.size_modify]; exact hlt), Array.getElem_modify_self, hk]
  rfl
theorem cutN1_le : ∀ s : List UInt8, (cutN s).1.length ≤ s.length
  | [] => Nat.le_refl _
  | b :: r => by
    unfold cutN
    split
    · simp
    · have := cutN1_le r; simp; omega
theorem grown_some2 {w w' : World} {r : Option Nat} (h : w.grownBy w' none) : w.grownBy w' r := ⟨h.os, h.tape, h.output, h.size, fun k hk _ => h.block k hk (by simp)⟩
theorem cutN_len : ∀ s : List UInt8, (cutN s).1.length + (cutN s).2.length ≤ s.length
  | [] => Nat.le_refl _
  | b :: r => by
    unfold cutN
    split
    · simp
    · have := cutN_len r; simp; omega
theorem cutN_mem : ∀ {s : List UInt8} {x : UInt8}, x ∈ (cutN s).1 ∨ x ∈ (cutN s).2 → x ∈ s
  | [], x, h => by simp [cutN] at h
  | b :: r, x, h => by
    unfold cutN at h
    split at h
    · rcases h with h | h
      · cases h
      · exact List.mem_cons_of_mem _ h
    · rcases h with h | h
      · rcases List.mem_cons.1 h with rfl | h
        · exact List.mem_cons_self
        · exact List.mem_cons_of_mem _ (cutN_mem (.inl h))
      · exact List.mem_cons_of_mem _ (cutN_mem (.inr h))
/-- what next says and leaves -/
def NxtR (s0 : List UInt8) (b : Nat) (k : Nat) (ls : List (List UInt8)) (e : Ending) (w' : World) : Prop :=
  (∃ l k' r left, nxt k ls = some (l, k', r) ∧ e = .returned (.bool true) ∧ linesOf left.data.toList = r ∧ Tb w' b left ⟨l.toArray⟩ (k' : Int) ∧ l.length + left.data.toList.length ≤ s0.length ∧ (∀ x, x ∈ l ∨ x ∈ left.data.toList → x ∈ s0) ∧ k' + r.length < k + ls.length) ∨ (nxt k ls = none ∧ e = .returned (.bool false) ∧ ∃ rest, Tb w' b ⟨#[]⟩ rest ((k + ls.length : Nat) : Int))

set_option maxRecDepth 100000 in
set_option maxHeartbeats 1600000 in
theorem next_any (b : Nat) (l r : ByteArray) (k : Nat) (w : World) (h : Tb w b l r k) (hs : l.size ≤ 281474976710656) (hk : k + (linesOf l.data.toList).length < 4611686018427387904) :
    Calls Tryd.prog 12 #[.pointer (some ⟨b, 0, none⟩)] w fun e w' => NxtR l.data.toList b (k + 1) (linesOf l.data.toList) e w' ∧ w.grownBy w' (some b) := by
  have HT : Hid (Tb w b l r k) := h
  clear h
  go_enter Tryd.func12, Tryd.ntmps12
  go_wp2
  go_loopg [] l.size (fun g wr => ∃ (L R : ByteArray) (j : Nat), g = L.data.toList.length ∧ L.size ≤ 281474976710656 ∧ Hid (nxt (k + 1) (linesOf l.data.toList) = nxt (j + 1) (linesOf L.data.toList)) ∧ j + (linesOf L.data.toList).length = k + (linesOf l.data.toList).length ∧ Hid (L.data.toList.length ≤ l.data.toList.length ∧ ∀ x ∈ L.data.toList, x ∈ l.data.toList) ∧ Hid (Tb wr b L R j) ∧ Hid (w.grownBy wr (some b)))
  case atStart => exact ⟨l, r, k, by cases l; simp [ByteArray.size], hs, rfl, rfl, ⟨Nat.le_refl _, fun _ h => h⟩, HT.out, by exact ⟨rfl, rfl, rfl, Nat.le_refl _, fun _ _ _ => rfl⟩⟩
  case round =>
    obtain ⟨L, R, j, rfl, hL, HNx, hj, HSub, HTb, HGr⟩ := hrel
    have c0 := HTb.out.c0
    have c2 := HTb.out.c2
    by_cases he : L.data.toList = []
    · have hem : L.toList.isEmpty = true := by rw [ba_list, he]; rfl
      have f2 := HTb.out.f 2
      have HLe : Hid (linesOf L.data.toList = []) := by show _ = _; rw [he]; exact linesOf_nil
      have HL0 : Hid (L = ⟨#[]⟩) := ba_extW (by rw [he])
      have HSet := HTb.out.set2 ((j : Int) + 1)
      have HG2 := HGr.out.trans (grown_set wr ⟨b, 2, none⟩ (.int .i64 ((j : Int) + 1)))
      have hjb : j < 4611686018427387904 := by omega
      have HFin : Hid (NxtR l.data.toList b (k + 1) (linesOf l.data.toList) (.returned (.bool false)) (wr.setCell ⟨b, 2, none⟩ (.int .i64 ((j : Int) + 1))) ∧ w.grownBy (wr.setCell ⟨b, 2, none⟩ (.int .i64 ((j : Int) + 1))) (some b)) := by
        refine ⟨.inr ⟨by rw [HNx.out, HLe.out]; rfl, rfl, R, ?_⟩, HG2⟩
        rw [HL0.out] at HSet
        have e : ((k + 1 + (linesOf l.data.toList).length : Nat) : Int) = (j : Int) + 1 := by rw [HLe.out] at hj; simp at hj; omega
        rw [e]; exact HSet
      clear HSet HG2 he hj
      go_wp2
      go_ret
      exact HFin.out
    · have hem : L.toList.isEmpty = false := by rw [ba_list]; cases hl : L.data.toList with
        | nil => exact absurd hl he
        | cons x y => rfl
      have HCons : Hid (linesOf L.data.toList = (cutN L.data.toList).1 :: linesOf (cutN L.data.toList).2) := linesOf_cons he
      have HLt : Hid ((cutN L.data.toList).2.length < L.data.toList.length) := cutN_lt he
      have HCut : Hid (Calls Tryd.prog 17 #[.string L, .string ⟨#[10]⟩] wr fun e w' => (∃ b, e = .returned (.tuple #[.string ⟨(cutN L.data.toList).1.toArray⟩, .string ⟨(cutN L.data.toList).2.toArray⟩, .bool b])) ∧ Below wr.heap.size wr w') := cut_any L wr hL
      have HC1 : Hid ((cutN L.data.toList).1.length ≤ L.data.toList.length) := cutN1_le _
      have HC2 : Hid ((cutN L.data.toList).1.length + (cutN L.data.toList).2.length ≤ L.data.toList.length ∧ ∀ x, x ∈ (cutN L.data.toList).1 ∨ x ∈ (cutN L.data.toList).2 → x ∈ L.data.toList) := ⟨cutN_len _, fun x h => cutN_mem h⟩
      have HLs : Hid (L.data.toList.length = L.size) := by show _ = _; cases L; simp [ByteArray.size]
      generalize hC : cutN L.data.toList = C at *
      go_wp2_with fail
      refine HCut.out.mono ?_
      rintro e w2 ⟨⟨bb, rfl⟩, bel2⟩
      have T2 := HTb.out.below bel2
      have Ta := T2.set1 ⟨C.1.toArray⟩
      have Tc := Ta.set0 ⟨C.2.toArray⟩
      have Td := Tc.set2 ((j : Int) + 1)
      have a1 := T2.c1
      have af := T2.f 1
      have b0 := Ta.c0
      have bf := Ta.f 0
      have b2 := Tc.c2
      have b2f := Tc.f 2
      have d1 := Td.c1
      have HTd : Hid (Tb (((w2.setCell ⟨b, 1, none⟩ (.string ⟨C.1.toArray⟩)).setCell ⟨b, 0, none⟩ (.string ⟨C.2.toArray⟩)).setCell ⟨b, 2, none⟩ (.int .i64 ((j : Int) + 1))) b ⟨C.2.toArray⟩ ⟨C.1.toArray⟩ ((j : Int) + 1)) := Td
      have HG3 : Hid (w.grownBy (((w2.setCell ⟨b, 1, none⟩ (.string ⟨C.1.toArray⟩)).setCell ⟨b, 0, none⟩ (.string ⟨C.2.toArray⟩)).setCell ⟨b, 2, none⟩ (.int .i64 ((j : Int) + 1))) (some b)) := (((HGr.out.trans (grown_some2 (grown_below bel2))).trans (grown_set _ ⟨b, 1, none⟩ _)).trans (grown_set _ ⟨b, 0, none⟩ _)).trans (grown_set _ ⟨b, 2, none⟩ _)
      have hjb : j < 4611686018427387904 := by omega
      clear T2 Ta Tc Td bel2 c0 c2
      go_wp2_with fail
      generalize ((w2.setCell ⟨b, 1, none⟩ (.string ⟨C.1.toArray⟩)).setCell ⟨b, 0, none⟩ (.string ⟨C.2.toArray⟩)).setCell ⟨b, 2, none⟩ (.int .i64 ((j : Int) + 1)) = w3 at *
      refine (idle_any ⟨C.1.toArray⟩ w3 (by rw [mk_size]; have := HC1.out; have := HLs.out; omega)).mono ?_
      rw [mk_list]
      rintro e w4 ⟨rfl, bel4⟩
      have HT4 : Hid (Tb w4 b ⟨C.2.toArray⟩ ⟨C.1.toArray⟩ ((j + 1 : Nat) : Int)) := by show Tb _ _ _ _ _; have := HTd.out.below bel4; simpa using this
      have HG4 : Hid (w.grownBy w4 (some b)) := HG3.out.trans (grown_some2 (grown_below bel4))
      clear a1 af b0 bf b2 b2f d1 bel4
      cases hi : idleL C.1
      · have HFin : Hid (NxtR l.data.toList b (k + 1) (linesOf l.data.toList) (.returned (.bool true)) w4 ∧ w.grownBy w4 (some b)) := by
          refine ⟨.inl ⟨C.1, j + 1, linesOf C.2, ⟨C.2.toArray⟩, ?_, rfl, by rw [mk_list], HT4.out, by rw [mk_list]; have := HC2.out.1; have := HSub.out.1; omega, by rw [mk_list]; exact fun x h => HSub.out.2 x (HC2.out.2 x h), by rw [HCons.out] at hj; simp at hj; omega⟩, HG4.out⟩
          rw [HNx.out, HCons.out]
          simp only [nxt, hi]
          rfl
        go_wp2
        go_ret
        exact HFin.out
      · have HNx2 : Hid (nxt (k + 1) (linesOf l.data.toList) = nxt (j + 1 + 1) (linesOf C.2)) := by
          show _ = _
          rw [HNx.out, HCons.out]
          simp only [nxt, hi]
          rfl
        have HJ2 : Hid (j + 1 + (linesOf C.2).length = k + (linesOf l.data.toList).length) := by
          show _ = _
          rw [HCons.out] at hj; simp at hj; omega
        go_wp2
        go_roundg (C.2.length)
        case measure => exact HLt.out
        case rel => exact ⟨⟨C.2.toArray⟩, ⟨C.1.toArray⟩, j + 1, by rw [mk_list], by rw [mk_size]; have := HLt.out; have := HLs.out; omega, by rw [mk_list]; exact HNx2.out, by rw [mk_list]; exact HJ2.out, ⟨by rw [mk_list]; have := HLt.out; have := HSub.out.1; omega, by rw [mk_list]; exact fun x h => HSub.out.2 x (HC2.out.2 x (.inr h))⟩, HT4.out, HG4.out⟩

end Go.Proofs.YtpebpnbikdahkaaDoor

/-
  joined: NextW HeadW AnV
-/
import Derived.Test.YtlkbbbbclmffjaaGreatDoorJIxA
import Derived.Test.YtlkbbbbclmffjaaGreatDoorJGrow
import Derived.Maps.AppendAt
import Derived.Handy
import Derived.Test.YtlkbbbbclmffjaaGreatDoorJText
set_option linter.unusedSimpArgs false
set_option linter.unusedVariables false
namespace Go.Proofs.YtlkbbbbclmffjaaGreatDoor
open Go Go.RowKit

theorem Tb.set0 {W : World} {b : Nat} {l r : ByteArray} {k : Int} (h : Tb W b l r k) (x : ByteArray) : Tb (W.setCell ⟨b, 0, none⟩ (.string x)) b x r k := by
  obtain ⟨hlt, hk⟩ := Array.getElem?_eq_some_iff.1 h
  show (W.heap.modify b _)[b]? = _
  rw [Array.getElem?_eq_getElem (by rw [Array.size_modify]; exact hlt), Array.getElem_modify_self, hk]
  rfl
theorem Tb.set1 {W : World} {b : Nat} {l r : ByteArray} {k : Int} (h : Tb W b l r k) (x : ByteArray) : Tb (W.setCell ⟨b, 1, none⟩ (.string x)) b l x k := by
  obtain ⟨hlt, hk⟩ := Array.getElem?_eq_some_iff.1 h
  show (W.heap.modify b _)[b]? = _
  rw [Array.getElem?_eq_getElem (by rw [Array.size_modify]; exact hlt), Array.getElem_modify_self, hk]
  rfl
theorem Tb.set2 {W : World} {b : Nat} {l r : ByteArray} {k : Int} (h : Tb W b l r k) (x : Int) : Tb (W.setCell ⟨b, 2, none⟩ (.int .i64 x)) b l r x := by
  obtain ⟨hlt, hk⟩ := Array.getElem?_eq_some_iff.1 h
  show (W.heap.modify b _)[b]? = _
  rw [Array.getElem?_eq_getElem (by rw [Array.size_modify]; exact hlt), Array.getElem_modify_self, hk]
  rfl
theorem cutN1_le : ∀ s : List UInt8, (cutN s).1.length ≤ s.length
  | [] => Nat.le_refl _
  | b :: r => by
    unfold cutN
    split
    · simp
    · have := cutN1_le r; simp; omega
theorem grown_some2 {w w' : World} {r : Option Nat} (h : w.grownBy w' none) : w.grownBy w' r := ⟨h.os, h.tape, h.output, h.size, fun k hk _ => h.block k hk (by simp)⟩
theorem cutN_len : ∀ s : List UInt8, (cutN s).1.length + (cutN s).2.length ≤ s.length
  | [] => Nat.le_refl _
  | b :: r => by
    unfold cutN
    split
    · simp
    · have := cutN_len r; simp; omega
theorem cutN_mem : ∀ {s : List UInt8} {x : UInt8}, x ∈ (cutN s).1 ∨ x ∈ (cutN s).2 → x ∈ s
  | [], x, h => by simp [cutN] at h
  | b :: r, x, h => by
    unfold cutN at h
    split at h
    · rcases h with h | h
      · cases h
      · exact List.mem_cons_of_mem _ h
    · rcases h with h | h
      · rcases List.mem_cons.1 h with rfl | h
        · exact List.mem_cons_self
        · exact List.mem_cons_of_mem _ (cutN_mem (.inl h))
      · exact List.mem_cons_of_mem _ (cutN_mem (.inr h))
/-- what next says and leaves -/
def NxtR (s0 : List UInt8) (b : Nat) (k : Nat) (ls : List (List UInt8)) (e : Ending) (w' : World) : Prop :=
  (∃ l k' r left, nxt k ls = some (l, k', r) ∧ e = .returned (.bool true) ∧ linesOf left.data.toList = r ∧ Tb w' b left ⟨l.toArray⟩ (k' : Int) ∧ l.length + left.data.toList.length ≤ s0.length ∧ (∀ x, x ∈ l ∨ x ∈ left.data.toList → x ∈ s0) ∧ k' + r.length < k + ls.length) ∨ (nxt k ls = none ∧ e = .returned (.bool false) ∧ ∃ rest, Tb w' b ⟨#[]⟩ rest ((k + ls.length : Nat) : Int))

set_option maxRecDepth 100000 in
set_option maxHeartbeats 1600000 in
theorem next_any (b : Nat) (l r : ByteArray) (k : Nat) (w : World) (h : Tb w b l r k) (hs : l.size ≤ 281474976710656) (hk : k + (linesOf l.data.toList).length < 4611686018427387904) :
    Calls Tryz.prog 51 #[.pointer (some ⟨b, 0, none⟩)] w fun e w' => NxtR l.data.toList b (k + 1) (linesOf l.data.toList) e w' ∧ w.grownBy w' (some b) := by
  have HT : Hid (Tb w b l r k) := h
  clear h
  go_enter Tryz.func51, Tryz.ntmps51
  go_wp2
  go_loopg [] l.size (fun g wr => ∃ (L R : ByteArray) (j : Nat), g = L.data.toList.length ∧ L.size ≤ 281474976710656 ∧ Hid (nxt (k + 1) (linesOf l.data.toList) = nxt (j + 1) (linesOf L.data.toList)) ∧ j + (linesOf L.data.toList).length = k + (linesOf l.data.toList).length ∧ Hid (L.data.toList.length ≤ l.data.toList.length ∧ ∀ x ∈ L.data.toList, x ∈ l.data.toList) ∧ Hid (Tb wr b L R j) ∧ Hid (w.grownBy wr (some b)))
  case atStart => exact ⟨l, r, k, by cases l; simp [ByteArray.size], hs, rfl, rfl, ⟨Nat.le_refl _, fun _ h => h⟩, HT.out, by exact ⟨rfl, rfl, rfl, Nat.le_refl _, fun _ _ _ => rfl⟩⟩
  case round =>
    obtain ⟨L, R, j, rfl, hL, HNx, hj, HSub, HTb, HGr⟩ := hrel
    have c0 := HTb.out.c0
    have c2 := HTb.out.c2
    by_cases he : L.data.toList = []
    · have hem : L.toList.isEmpty = true := by rw [ba_list, he]; rfl
      have f2 := HTb.out.f 2
      have HLe : Hid (linesOf L.data.toList = []) := by show _ = _; rw [he]; exact linesOf_nil
      have HL0 : Hid (L = ⟨#[]⟩) := ba_extW (by rw [he])
      have HSet := HTb.out.set2 ((j : Int) + 1)
      have HG2 := HGr.out.trans (grown_set wr ⟨b, 2, none⟩ (.int .i64 ((j : Int) + 1)))
      have hjb : j < 4611686018427387904 := by omega
      have HFin : Hid (NxtR l.data.toList b (k + 1) (linesOf l.data.toList) (.returned (.bool false)) (wr.setCell ⟨b, 2, none⟩ (.int .i64 ((j : Int) + 1))) ∧ w.grownBy (wr.setCell ⟨b, 2, none⟩ (.int .i64 ((j : Int) + 1))) (some b)) := by
        refine ⟨.inr ⟨by rw [HNx.out, HLe.out]; rfl, rfl, R, ?_⟩, HG2⟩
        rw [HL0.out] at HSet
        have e : ((k + 1 + (linesOf l.data.toList).length : Nat) : Int) = (j : Int) + 1 := by rw [HLe.out] at hj; simp at hj; omega
        rw [e]; exact HSet
      clear HSet HG2 he hj
      go_wp2
      go_ret
      exact HFin.out
    · have hem : L.toList.isEmpty = false := by rw [ba_list]; cases hl : L.data.toList with
        | nil => exact absurd hl he
        | cons x y => rfl
      have HCons : Hid (linesOf L.data.toList = (cutN L.data.toList).1 :: linesOf (cutN L.data.toList).2) := linesOf_cons he
      have HLt : Hid ((cutN L.data.toList).2.length < L.data.toList.length) := cutN_lt he
      have HCut : Hid (Calls Tryz.prog 67 #[.string L, .string ⟨#[10]⟩] wr fun e w' => (∃ b, e = .returned (.tuple #[.string ⟨(cutN L.data.toList).1.toArray⟩, .string ⟨(cutN L.data.toList).2.toArray⟩, .bool b])) ∧ Below wr.heap.size wr w') := cut_any L wr hL
      have HC1 : Hid ((cutN L.data.toList).1.length ≤ L.data.toList.length) := cutN1_le _
      have HC2 : Hid ((cutN L.data.toList).1.length + (cutN L.data.toList).2.length ≤ L.data.toList.length ∧ ∀ x, x ∈ (cutN L.data.toList).1 ∨ x ∈ (cutN L.data.toList).2 → x ∈ L.data.toList) := ⟨cutN_len _, fun x h => cutN_mem h⟩
      have HLs : Hid (L.data.toList.length = L.size) := by show _ = _; cases L; simp [ByteArray.size]
      generalize hC : cutN L.data.toList = C at *
      go_wp2_with fail
      refine HCut.out.mono ?_
      rintro e w2 ⟨⟨bb, rfl⟩, bel2⟩
      have T2 := HTb.out.below bel2
      have Ta := T2.set1 ⟨C.1.toArray⟩
      have Tc := Ta.set0 ⟨C.2.toArray⟩
      have Td := Tc.set2 ((j : Int) + 1)
      have a1 := T2.c1
      have af := T2.f 1
      have b0 := Ta.c0
      have bf := Ta.f 0
      have b2 := Tc.c2
      have b2f := Tc.f 2
      have d1 := Td.c1
      have HTd : Hid (Tb (((w2.setCell ⟨b, 1, none⟩ (.string ⟨C.1.toArray⟩)).setCell ⟨b, 0, none⟩ (.string ⟨C.2.toArray⟩)).setCell ⟨b, 2, none⟩ (.int .i64 ((j : Int) + 1))) b ⟨C.2.toArray⟩ ⟨C.1.toArray⟩ ((j : Int) + 1)) := Td
      have HG3 : Hid (w.grownBy (((w2.setCell ⟨b, 1, none⟩ (.string ⟨C.1.toArray⟩)).setCell ⟨b, 0, none⟩ (.string ⟨C.2.toArray⟩)).setCell ⟨b, 2, none⟩ (.int .i64 ((j : Int) + 1))) (some b)) := (((HGr.out.trans (grown_some2 (grown_below bel2))).trans (grown_set _ ⟨b, 1, none⟩ _)).trans (grown_set _ ⟨b, 0, none⟩ _)).trans (grown_set _ ⟨b, 2, none⟩ _)
      have hjb : j < 4611686018427387904 := by omega
      clear T2 Ta Tc Td bel2 c0 c2
      go_wp2_with fail
      generalize ((w2.setCell ⟨b, 1, none⟩ (.string ⟨C.1.toArray⟩)).setCell ⟨b, 0, none⟩ (.string ⟨C.2.toArray⟩)).setCell ⟨b, 2, none⟩ (.int .i64 ((j : Int) + 1)) = w3 at *
      refine (idle_any ⟨C.1.toArray⟩ w3 (by rw [mk_size]; have := HC1.out; have := HLs.out; omega)).mono ?_
      rw [mk_list]
      rintro e w4 ⟨rfl, bel4⟩
      have HT4 : Hid (Tb w4 b ⟨C.2.toArray⟩ ⟨C.1.toArray⟩ ((j + 1 : Nat) : Int)) := by show Tb _ _ _ _ _; have := HTd.out.below bel4; simpa using this
      have HG4 : Hid (w.grownBy w4 (some b)) := HG3.out.trans (grown_some2 (grown_below bel4))
      clear a1 af b0 bf b2 b2f d1 bel4
      cases hi : idleL C.1
      · have HFin : Hid (NxtR l.data.toList b (k + 1) (linesOf l.data.toList) (.returned (.bool true)) w4 ∧ w.grownBy w4 (some b)) := by
          refine ⟨.inl ⟨C.1, j + 1, linesOf C.2, ⟨C.2.toArray⟩, ?_, rfl, by rw [mk_list], HT4.out, by rw [mk_list]; have := HC2.out.1; have := HSub.out.1; omega, by rw [mk_list]; exact fun x h => HSub.out.2 x (HC2.out.2 x h), by rw [HCons.out] at hj; simp at hj; omega⟩, HG4.out⟩
          rw [HNx.out, HCons.out]
          simp only [nxt, hi]
          rfl
        go_wp2
        go_ret
        exact HFin.out
      · have HNx2 : Hid (nxt (k + 1) (linesOf l.data.toList) = nxt (j + 1 + 1) (linesOf C.2)) := by
          show _ = _
          rw [HNx.out, HCons.out]
          simp only [nxt, hi]
          rfl
        have HJ2 : Hid (j + 1 + (linesOf C.2).length = k + (linesOf l.data.toList).length) := by
          show _ = _
          rw [HCons.out] at hj; simp at hj; omega
        go_wp2
        go_roundg (C.2.length)
        case measure => exact HLt.out
        case rel => exact ⟨⟨C.2.toArray⟩, ⟨C.1.toArray⟩, j + 1, by rw [mk_list], by rw [mk_size]; have := HLt.out; have := HLs.out; omega, by rw [mk_list]; exact HNx2.out, by rw [mk_list]; exact HJ2.out, ⟨by rw [mk_list]; have := HLt.out; have := HSub.out.1; omega, by rw [mk_list]; exact fun x h => HSub.out.2 x (HC2.out.2 x (.inr h))⟩, HT4.out, HG4.out⟩

end Go.Proofs.YtlkbbbbclmffjaaGreatDoor
set_option linter.unusedSimpArgs false
set_option linter.unusedVariables false
namespace Go.Proofs.YtlkbbbbclmffjaaGreatDoor
open Go Go.RowKit

theorem rest1_sub {R : List UInt8} {x : UInt8} (h : x ∈ rest1 R) : x ∈ R := (List.dropWhile_sublist isBl).subset ((List.dropWhile_sublist notBl).subset h)
theorem rest1_le (R : List UInt8) : (rest1 R).length ≤ R.length := Nat.le_trans (drop_le notBl _) (drop_le isBl R)
theorem word1_le (R : List UInt8) : (word1 R).length ≤ R.length := Nat.le_trans (List.takeWhile_sublist notBl).length_le (drop_le isBl R)
theorem ba_lenW (l : ByteArray) : l.data.toList.length = l.size := by cases l; simp [ByteArray.size]
/-- what word answers and leaves -/
def WdR (b : Nat) (l : ByteArray) (k : Int) (R : List UInt8) (w : World) (e : Ending) (w' : World) : Prop :=
  ∃ W R' : ByteArray, e = .returned (.string W) ∧ W.data.toList = word1 R ∧ R'.data.toList = rest1 R ∧ Tb w' b l R' k ∧ w.grownBy w' (some b)
theorem word_tb (b : Nat) (l r : ByteArray) (k : Int) (w : World) (h : Tb w b l r k) (hs : r.data.toList.length < 4294967281) (has : ∀ x ∈ r.data.toList, x.toNat < 256) :
    Calls Tryz.prog 58 #[.pointer (some ⟨b, 0, none⟩)] w fun e w' => WdR b l k r.data.toList w e w' := by
  refine (word_any b l r k w h (by rw [← ba_lenW]; exact hs) has).mono ?_
  rintro e w' ⟨rfl, w1, bel, rfl⟩
  exact ⟨_, _, rfl, mk_list _, mk_list _, (h.below bel).set1 _, (grown_some2 (grown_below bel)).trans (grown_set _ ⟨b, 1, none⟩ _)⟩
/-- a head, word by word -/
def hdC (l : List UInt8) : Option (Int × Int) :=
  if word1 l = [112] ∧ word1 (rest1 l) = [99, 110, 102] then
    match numW (word1 (rest1 (rest1 l))), numW (word1 (rest1 (rest1 (rest1 l)))) with
    | some v, some k => if (decide (0 ≤ v) && decide (v ≤ 1048576) && (decide (0 ≤ k) && decide (k ≤ 2147483647))) && (word1 (rest1 (rest1 (rest1 (rest1 l))))).isEmpty then some (v, k) else none
    | _, _ => none
  else none
theorem numW_nil : numW [] = none := rfl
theorem hdC_eq (l : List UInt8) : headW (wordsOf l) = hdC l := by
  unfold hdC
  by_cases h1 : word1 l = [112]
  · rw [words_word (by rw [h1]; simp), h1]
    by_cases h2 : word1 (rest1 l) = [99, 110, 102]
    · rw [words_word (by rw [h2]; simp), h2, if_pos ⟨rfl, rfl⟩]
      generalize rest1 (rest1 l) = l2
      by_cases h3 : word1 l2 = []
      · rw [words_none h3, h3, numW_nil]; rfl
      · rw [words_word h3]
        generalize word1 l2 = a
        generalize rest1 l2 = l3
        by_cases h4 : word1 l3 = []
        · rw [words_none h4, h4, numW_nil]
          cases numW a <;> rfl
        · rw [words_word h4]
          generalize word1 l3 = c
          generalize rest1 l3 = l4
          by_cases h5 : word1 l4 = []
          · rw [words_none h5, h5]
            simp only [headW, List.isEmpty_nil, Bool.and_true]
            rfl
          · rw [words_word h5]
            have : (word1 l4).isEmpty = false := by simpa using h5
            rw [this]
            simp only [headW, Bool.and_false]
            cases numW a <;> cases numW c <;> rfl
    · rw [if_neg (by simp [h2])]
      by_cases h3 : word1 (rest1 l) = []
      · rw [words_none h3]; rfl
      · rw [words_word h3]
        generalize wordsOf (rest1 (rest1 l)) = ws
        match ws with
        | [] => rfl
        | [_] => rfl
        | [a, c] =>
          have : ((word1 (rest1 l)) == [99, 110, 102]) = false := by simpa using h2
          simp [headW, this]
        | _ :: _ :: _ :: _ => rfl
  · rw [if_neg (by simp [h1])]
    by_cases h3 : word1 l = []
    · rw [words_none h3]; rfl
    · rw [words_word h3]
      generalize wordsOf (rest1 l) = ws
      match ws with
      | [] => rfl
      | [_] => rfl
      | [_, _] => rfl
      | [p, a, c] =>
        simp [headW]
        intro h; exact absurd h h1
      | _ :: _ :: _ :: _ :: _ => rfl
/-- what head answers and leaves -/
def HdR (s0 : List UInt8) (b k : Nat) (ls : List (List UInt8)) (e : Ending) (w' : World) : Prop :=
  (nxt k ls = none ∧ (∃ x y, e = .returned (.tuple #[.int .i64 x, .int .i64 y, .bool false])) ∧ ∃ left rest, Tb w' b left rest ((k + ls.length : Nat) : Int)) ∨
  ∃ l k' r left rest, nxt k ls = some (l, k', r) ∧ linesOf left.data.toList = r ∧ Tb w' b left rest (k' : Int) ∧ left.data.toList.length ≤ s0.length ∧ (∀ x ∈ left.data.toList, x ∈ s0) ∧ k' + r.length < k + ls.length ∧
    ((hdC l = none ∧ ∃ x y, e = .returned (.tuple #[.int .i64 x, .int .i64 y, .bool false])) ∨ ∃ v c, hdC l = some (v, c) ∧ e = .returned (.tuple #[.int .i64 v, .int .i64 c, .bool true]))

set_option maxRecDepth 100000 in
set_option maxHeartbeats 3200000 in
theorem dimHead_any (b : Nat) (l r : ByteArray) (k : Nat) (w : World) (h : Tb w b l r k) (hs : l.data.toList.length < 4294967281) (has : ∀ x ∈ l.data.toList, x.toNat < 256) (hk : k + (linesOf l.data.toList).length < 4611686018427387904) :
    Calls Tryz.prog 40 #[.pointer (some ⟨b, 0, none⟩)] w fun e w' => HdR l.data.toList b (k + 1) (linesOf l.data.toList) e w' ∧ w.grownBy w' (some b) := by
  have HN : Hid (Calls Tryz.prog 51 #[.pointer (some ⟨b, 0, none⟩)] w fun e w' => NxtR l.data.toList b (k + 1) (linesOf l.data.toList) e w' ∧ w.grownBy w' (some b)) := next_any b l r k w h (by rw [← ba_lenW]; omega) hk
  clear h
  go_enter Tryz.func40, Tryz.ntmps40
  go_wp2_with fail
  refine HN.out.mono ?_
  rintro e w1 ⟨hN, hG⟩
  rcases hN with ⟨ln, k', rs, left, q1, rfl, q3, q4, q5, q6, q7⟩ | ⟨q1, rfl, rest, q2⟩
  case inr =>
    have HF : Hid (HdR l.data.toList b (k + 1) (linesOf l.data.toList) (.returned (.tuple #[.int .i64 0, .int .i64 0, .bool false])) w1 ∧ w.grownBy w1 (some b)) := ⟨.inl ⟨q1, ⟨0, 0, rfl⟩, _, _, q2⟩, hG⟩
    clear q1 q2 hG
    go_wp2
    go_returns
    exact HF.out
  have HLn : Hid (ln.length < 4294967281 ∧ ∀ x ∈ ln, x.toNat < 256) := ⟨by omega, fun x hx => has x (q6 x (.inl hx))⟩
  have HFin : Hid (∀ (e : Ending) (w' : World) (rest : ByteArray), Tb w' b left rest (k' : Int) → w.grownBy w' (some b) → ((hdC ln = none ∧ ∃ x y, e = .returned (.tuple #[.int .i64 x, .int .i64 y, .bool false])) ∨ ∃ v c, hdC ln = some (v, c) ∧ e = .returned (.tuple #[.int .i64 v, .int .i64 c, .bool true])) → HdR l.data.toList b (k + 1) (linesOf l.data.toList) e w' ∧ w.grownBy w' (some b)) := fun e w' rest p1 p2 p3 =>
    ⟨.inr ⟨ln, k', rs, left, rest, q1, q3, p1, by omega, fun x hx => q6 x (.inr hx), q7, p3⟩, p2⟩
  have HT1 : Hid (Tb w1 b left ⟨ln.toArray⟩ (k' : Int)) := q4
  have HG1 : Hid (w.grownBy w1 (some b)) := hG
  have HPost : ∀ e w', (HdR l.data.toList b (k + 1) (linesOf l.data.toList) e w' ∧ w.grownBy w' (some b)) = (HdR l.data.toList b (k + 1) (linesOf l.data.toList) e w' ∧ w.grownBy w' (some b)) := fun _ _ => rfl
  clear HPost q1 q3 q4 q5 q6 q7 hG HN
  go_wp2_with fail
  refine (word_tb b left ⟨ln.toArray⟩ k' w1 HT1.out (by rw [mk_list]; exact HLn.out.1) (by rw [mk_list]; exact HLn.out.2)).mono ?_
  rw [mk_list]
  rintro e w2 ⟨W1, R1, rfl, hW1, hR1, T2, G2⟩
  have HT2 : Hid (Tb w2 b left R1 (k' : Int)) := T2
  have HG2 : Hid (w.grownBy w2 (some b)) := HG1.out.trans G2
  have HR1 : Hid (R1.data.toList = rest1 ln) := hR1
  clear T2 G2 HT1 HG1 hR1
  have hb1 := ba_list W1
  rw [hW1] at hb1
  by_cases e1 : word1 ln = [112]
  case neg =>
    have HC : Hid (hdC ln = none) := by show _ = _; unfold hdC; rw [if_neg (by simp [e1])]
    have hq : (W1.toList == [112]) = false := by rw [hb1]; simpa using e1
    clear hb1 hW1 e1
    go_wp2
    go_returns
    exact HFin.out _ _ _ HT2.out HG2.out (.inl ⟨HC.out, 0, 0, rfl⟩)
  have hq1 : (W1.toList == [112]) = true := by rw [hb1]; simpa using e1
  have HE1 : Hid (word1 ln = [112]) := e1
  clear hb1 hW1 e1
  have HL1 : Hid (R1.data.toList.length < 4294967281 ∧ ∀ x ∈ R1.data.toList, x.toNat < 256) := by
    rw [HR1.out]; exact ⟨by have := rest1_le ln; have := HLn.out.1; omega, fun x hx => HLn.out.2 x (rest1_sub hx)⟩
  go_wp2_with fail
  refine (word_tb b left R1 k' w2 HT2.out HL1.out.1 HL1.out.2).mono ?_
  rintro e w3 ⟨W2, R2, rfl, hW2, hR2, T3, G3⟩
  rw [HR1.out] at hW2 hR2
  have HT3 : Hid (Tb w3 b left R2 (k' : Int)) := T3
  have HG3 : Hid (w.grownBy w3 (some b)) := HG2.out.trans G3
  have HR2 : Hid (R2.data.toList = rest1 (rest1 ln)) := hR2
  clear T3 G3 HT2 HG2 hR2
  have hb2 := ba_list W2
  rw [hW2] at hb2
  by_cases e2 : word1 (rest1 ln) = [99, 110, 102]
  case neg =>
    have HC : Hid (hdC ln = none) := by show _ = _; unfold hdC; rw [if_neg (by simp [e2])]
    have hq : (W2.toList == [99, 110, 102]) = false := by rw [hb2]; simpa using e2
    clear hb2 hW2 e2
    go_wp2
    go_returns
    exact HFin.out _ _ _ HT3.out HG3.out (.inl ⟨HC.out, 0, 0, rfl⟩)
  have hq2 : (W2.toList == [99, 110, 102]) = true := by rw [hb2]; simpa using e2
  have HC : Hid (hdC ln = (match numW (word1 (rest1 (rest1 ln))), numW (word1 (rest1 (rest1 (rest1 ln)))) with
    | some v, some k => if (decide (0 ≤ v) && decide (v ≤ 1048576) && (decide (0 ≤ k) && decide (k ≤ 2147483647))) && (word1 (rest1 (rest1 (rest1 (rest1 ln))))).isEmpty then some (v, k) else none
    | _, _ => none)) := by show _ = _; unfold hdC; rw [if_pos ⟨HE1.out, e2⟩]
  clear hb2 hW2 e2 HE1
  have HL2 : Hid (R2.data.toList.length < 4294967281 ∧ ∀ x ∈ R2.data.toList, x.toNat < 256) := by
    rw [HR2.out]; exact ⟨by have := rest1_le (rest1 ln); have := rest1_le ln; have := HLn.out.1; omega, fun x hx => HLn.out.2 x (rest1_sub (rest1_sub hx))⟩
  go_wp2_with fail
  refine (word_tb b left R2 k' w3 HT3.out HL2.out.1 HL2.out.2).mono ?_
  rintro e w4 ⟨W3, R3, rfl, hW3, hR3, T4, G4⟩
  rw [HR2.out] at hW3 hR3
  have HT4 : Hid (Tb w4 b left R3 (k' : Int)) := T4
  have HG4 : Hid (w.grownBy w4 (some b)) := HG3.out.trans G4
  have HR3 : Hid (R3.data.toList = rest1 (rest1 (rest1 ln))) := hR3
  have HW3 : Hid (W3.data.toList = word1 (rest1 (rest1 ln))) := hW3
  have hz3 : W3.size ≤ 281474976710656 := by rw [← ba_lenW, hW3]; have := word1_le (rest1 (rest1 ln)); have := HL2.out.1; rw [HR2.out] at this; omega
  clear T4 G4 HT3 HG3 hR3 hW3 hq1 hq2
  have HL3 : Hid (R3.data.toList.length < 4294967281 ∧ ∀ x ∈ R3.data.toList, x.toNat < 256) := by
    rw [HR3.out]; rw [HR2.out] at HL2; exact ⟨by have := rest1_le (rest1 (rest1 ln)); have := HL2.out.1; omega, fun x hx => HL2.out.2 x (rest1_sub hx)⟩
  go_wp2_with fail
  refine (number_any W3 w4 hz3).mono ?_
  rw [HW3.out]
  rintro e w5 ⟨rfl, bel5⟩
  have HT5 : Hid (Tb w5 b left R3 (k' : Int)) := HT4.out.below bel5
  have HG5 : Hid (w.grownBy w5 (some b)) := HG4.out.trans (grown_some2 (grown_below bel5))
  clear bel5 HT4 HG4 HW3 hz3
  generalize hv3 : numW (word1 (rest1 (rest1 ln))) = n3 at *
  generalize hg3 : n3.getD 0 = z3 at *
  generalize hi3 : n3.isSome = b3 at *
  go_wp2_with fail
  refine (word_tb b left R3 k' w5 HT5.out HL3.out.1 HL3.out.2).mono ?_
  rintro e w6 ⟨W4, R4, rfl, hW4, hR4, T6, G6⟩
  rw [HR3.out] at hW4 hR4
  have HT6 : Hid (Tb w6 b left R4 (k' : Int)) := T6
  have HG6 : Hid (w.grownBy w6 (some b)) := HG5.out.trans G6
  have HR4 : Hid (R4.data.toList = rest1 (rest1 (rest1 (rest1 ln)))) := hR4
  have HW4 : Hid (W4.data.toList = word1 (rest1 (rest1 (rest1 ln)))) := hW4
  have hz4 : W4.size ≤ 281474976710656 := by rw [← ba_lenW, hW4]; have := word1_le (rest1 (rest1 (rest1 ln))); have := HL3.out.1; rw [HR3.out] at this; omega
  clear T6 G6 HT5 HG5 hR4 hW4
  have HL4 : Hid (R4.data.toList.length < 4294967281 ∧ ∀ x ∈ R4.data.toList, x.toNat < 256) := by
    rw [HR4.out]; rw [HR3.out] at HL3; exact ⟨by have := rest1_le (rest1 (rest1 (rest1 ln))); have := HL3.out.1; omega, fun x hx => HL3.out.2 x (rest1_sub hx)⟩
  go_wp2_with fail
  refine (number_any W4 w6 hz4).mono ?_
  rw [HW4.out]
  rintro e w7 ⟨rfl, bel7⟩
  have HT7 : Hid (Tb w7 b left R4 (k' : Int)) := HT6.out.below bel7
  have HG7 : Hid (w.grownBy w7 (some b)) := HG6.out.trans (grown_some2 (grown_below bel7))
  clear bel7 HT6 HG6 HW4 hz4
  generalize hv4 : numW (word1 (rest1 (rest1 (rest1 ln)))) = n4 at *
  generalize hg4 : n4.getD 0 = z4 at *
  generalize hi4 : n4.isSome = b4 at *
  have HBad : Hid ((b3 && decide (0 ≤ z3) && decide (z3 ≤ 1048576) && b4 && decide (0 ≤ z4) && decide (z4 ≤ 2147483647)) = false → hdC ln = none) := fun hb => by
    rw [HC.out]
    cases n3 with
    | none => rfl
    | some v =>
      cases n4 with
      | none => rfl
      | some c =>
        simp only [Option.getD_some, Option.isSome_some] at hg3 hi3 hg4 hi4
        subst hg3; subst hi3; subst hg4; subst hi4
        simp only [Bool.true_and, Bool.and_true] at hb
        have : (decide (0 ≤ v) && decide (v ≤ 1048576) && (decide (0 ≤ c) && decide (c ≤ 2147483647))) = false := by rw [← hb]; simp only [Bool.and_assoc]
        simp only [this, Bool.false_and]; rfl
  have HGood : Hid ((b3 && decide (0 ≤ z3) && decide (z3 ≤ 1048576) && b4 && decide (0 ≤ z4) && decide (z4 ≤ 2147483647)) = true → hdC ln = if (word1 (rest1 (rest1 (rest1 (rest1 ln))))).isEmpty then some (z3, z4) else none) := fun hb => by
    rw [HC.out]
    cases n3 with
    | none => simp at hi3; subst hi3; simp at hb
    | some v =>
      cases n4 with
      | none => simp at hi4; subst hi4; simp at hb
      | some c =>
        simp only [Option.getD_some, Option.isSome_some] at hg3 hi3 hg4 hi4
        subst hg3; subst hi3; subst hg4; subst hi4
        simp only [Bool.true_and, Bool.and_true] at hb
        have : (decide (0 ≤ v) && decide (v ≤ 1048576) && (decide (0 ≤ c) && decide (c ≤ 2147483647))) = true := by rw [← hb]; simp only [Bool.and_assoc]
        simp only [this, Bool.true_and]
  clear HC hv3 hv4 hg3 hg4 hi3 hi4
  cases b3
  case false =>
    have HC2 : Hid (hdC ln = none) := HBad.out (by simp)
    go_wp2
    go_returns
    exact HFin.out _ _ _ HT7.out HG7.out (.inl ⟨HC2.out, _, _, rfl⟩)
  by_cases h30 : 0 ≤ z3
  case neg =>
    have HC2 : Hid (hdC ln = none) := HBad.out (by simp [h30])
    go_wp2
    go_returns
    exact HFin.out _ _ _ HT7.out HG7.out (.inl ⟨HC2.out, _, _, rfl⟩)
  by_cases h31 : z3 ≤ 1048576
  case neg =>
    have HC2 : Hid (hdC ln = none) := HBad.out (by simp [h31])
    go_wp2
    go_returns
    exact HFin.out _ _ _ HT7.out HG7.out (.inl ⟨HC2.out, _, _, rfl⟩)
  cases b4
  case false =>
    have HC2 : Hid (hdC ln = none) := HBad.out (by simp)
    go_wp2
    go_returns
    exact HFin.out _ _ _ HT7.out HG7.out (.inl ⟨HC2.out, _, _, rfl⟩)
  by_cases h40 : 0 ≤ z4
  case neg =>
    have HC2 : Hid (hdC ln = none) := HBad.out (by simp [h40])
    go_wp2
    go_returns
    exact HFin.out _ _ _ HT7.out HG7.out (.inl ⟨HC2.out, _, _, rfl⟩)
  by_cases h41 : z4 ≤ 2147483647
  case neg =>
    have HC2 : Hid (hdC ln = none) := HBad.out (by simp [h41])
    go_wp2
    go_returns
    exact HFin.out _ _ _ HT7.out HG7.out (.inl ⟨HC2.out, _, _, rfl⟩)
  have HG : Hid (hdC ln = if (word1 (rest1 (rest1 (rest1 (rest1 ln))))).isEmpty then some (z3, z4) else none) := HGood.out (by simp [h30, h31, h40, h41])
  go_wp2_with fail
  refine (word_tb b left R4 k' w7 HT7.out HL4.out.1 HL4.out.2).mono ?_
  rintro e w8 ⟨W5, R5, rfl, hW5, hR5, T8, G8⟩
  rw [HR4.out] at hW5
  have HT8 : Hid (Tb w8 b left R5 (k' : Int)) := T8
  have HG8 : Hid (w.grownBy w8 (some b)) := HG7.out.trans G8
  clear T8 G8 hR5
  have hb5 := ba_list W5
  rw [hW5] at hb5
  rw [← hb5] at HG
  cases he5 : W5.toList.isEmpty
  case false =>
    have HC2 : Hid (hdC ln = none) := by show _ = _; rw [HG.out, he5]; rfl
    clear hb5 hW5
    go_wp2
    go_returns
    exact HFin.out _ _ _ HT8.out HG8.out (.inl ⟨HC2.out, _, _, rfl⟩)
  case true =>
    have HC2 : Hid (hdC ln = some (z3, z4)) := by show _ = _; rw [HG.out, he5]; rfl
    clear hb5 hW5
    go_wp2
    go_returns
    exact HFin.out _ _ _ HT8.out HG8.out (.inr ⟨_, _, HC2.out, rfl⟩)

end Go.Proofs.YtlkbbbbclmffjaaGreatDoor
set_option linter.unusedSimpArgs false
set_option linter.unusedVariables false
namespace Go.Proofs.YtlkbbbbclmffjaaGreatDoor
open Go Go.RowKit

/-- what an answer's first line says, word by word -/
def vdC (l : List UInt8) : Option Bool :=
  if word1 l = [115] ∧ (word1 (rest1 l) = yesW ∨ word1 (rest1 l) = noW) ∧ word1 (rest1 (rest1 l)) = [] then some (decide (word1 (rest1 l) = yesW)) else none
theorem toldW_len {ws : List (List UInt8)} (h : ws.length ≠ 2) : toldW ws = none := by
  unfold toldW
  rw [if_neg (fun e => h (by rw [e]; rfl)), if_neg (fun e => h (by rw [e]; rfl))]
theorem vdC_eq (l : List UInt8) : toldW (wordsOf l) = vdC l := by
  unfold vdC
  by_cases h1 : word1 l = []
  · rw [words_none h1, h1, if_neg (by simp)]; exact toldW_len (by simp)
  rw [words_word h1]
  by_cases h2 : word1 (rest1 l) = []
  · rw [words_none h2, h2, if_neg (by simp [yesW, noW])]; exact toldW_len (by simp)
  rw [words_word h2]
  by_cases h3 : word1 (rest1 (rest1 l)) = []
  · rw [words_none h3, h3]
    generalize word1 (rest1 l) = c
    generalize word1 l = a
    unfold toldW
    by_cases ha : a = [115]
    · subst ha
      by_cases hc : c = yesW
      · subst hc; simp
      · by_cases hn : c = noW
        · subst hn; simp [yesW, noW]
        · rw [if_neg (by simp [hc]), if_neg (by simp [hn]), if_neg (by simp [hc, hn])]
    · rw [if_neg (by simp [ha]), if_neg (by simp [ha]), if_neg (by simp [ha])]
  · rw [words_word h3, if_neg (by simp [h3])]; exact toldW_len (by simp)
/-- what verdict answers and leaves -/
def VdR (s0 : List UInt8) (b k : Nat) (ls : List (List UInt8)) (e : Ending) (w' : World) : Prop :=
  (nxt k ls = none ∧ e = .returned (.tuple #[.bool false, .int .i64 35]) ∧ ∃ left rest, Tb w' b left rest ((k + ls.length : Nat) : Int)) ∨
  ∃ l k' r left rest, nxt k ls = some (l, k', r) ∧ linesOf left.data.toList = r ∧ Tb w' b left rest (k' : Int) ∧ left.data.toList.length ≤ s0.length ∧ (∀ x ∈ left.data.toList, x ∈ s0) ∧ k' + r.length < k + ls.length ∧
    ((vdC l = none ∧ e = .returned (.tuple #[.bool false, .int .i64 35])) ∨ ∃ v, vdC l = some v ∧ e = .returned (.tuple #[.bool v, .int .i64 0]))

set_option maxRecDepth 100000 in
set_option maxHeartbeats 3200000 in
theorem verdict_any (b : Nat) (l r : ByteArray) (k : Nat) (w : World) (h : Tb w b l r k) (hs : l.data.toList.length < 4294967281) (has : ∀ x ∈ l.data.toList, x.toNat < 256) (hk : k + (linesOf l.data.toList).length < 4611686018427387904) :
    Calls Tryz.prog 49 #[.pointer (some ⟨b, 0, none⟩)] w fun e w' => VdR l.data.toList b (k + 1) (linesOf l.data.toList) e w' ∧ w.grownBy w' (some b) := by
  have HN : Hid (Calls Tryz.prog 51 #[.pointer (some ⟨b, 0, none⟩)] w fun e w' => NxtR l.data.toList b (k + 1) (linesOf l.data.toList) e w' ∧ w.grownBy w' (some b)) := next_any b l r k w h (by rw [← ba_lenW]; omega) hk
  clear h
  go_enter Tryz.func49, Tryz.ntmps49
  go_wp2_with fail
  refine HN.out.mono ?_
  rintro e w1 ⟨hN, hG⟩
  rcases hN with ⟨ln, k', rs, left, q1, rfl, q3, q4, q5, q6, q7⟩ | ⟨q1, rfl, rest, q2⟩
  case inr =>
    have HF : Hid (VdR l.data.toList b (k + 1) (linesOf l.data.toList) (.returned (.tuple #[.bool false, .int .i64 35])) w1 ∧ w.grownBy w1 (some b)) := ⟨.inl ⟨q1, rfl, _, _, q2⟩, hG⟩
    clear q1 q2 hG
    go_wp2
    go_returns
    exact HF.out
  have HLn : Hid (ln.length < 4294967281 ∧ ∀ x ∈ ln, x.toNat < 256) := ⟨by omega, fun x hx => has x (q6 x (.inl hx))⟩
  have HFin : Hid (∀ (e : Ending) (w' : World) (rest : ByteArray), Tb w' b left rest (k' : Int) → w.grownBy w' (some b) → ((vdC ln = none ∧ e = .returned (.tuple #[.bool false, .int .i64 35])) ∨ ∃ v, vdC ln = some v ∧ e = .returned (.tuple #[.bool v, .int .i64 0])) → VdR l.data.toList b (k + 1) (linesOf l.data.toList) e w' ∧ w.grownBy w' (some b)) := fun e w' rest p1 p2 p3 =>
    ⟨.inr ⟨ln, k', rs, left, rest, q1, q3, p1, by omega, fun x hx => q6 x (.inr hx), q7, p3⟩, p2⟩
  have HT1 : Hid (Tb w1 b left ⟨ln.toArray⟩ (k' : Int)) := q4
  have HG1 : Hid (w.grownBy w1 (some b)) := hG
  clear q1 q3 q4 q5 q6 q7 hG HN
  go_wp2_with fail
  refine (word_tb b left ⟨ln.toArray⟩ k' w1 HT1.out (by rw [mk_list]; exact HLn.out.1) (by rw [mk_list]; exact HLn.out.2)).mono ?_
  rw [mk_list]
  rintro e w2 ⟨W1, R1, rfl, hW1, hR1, T2, G2⟩
  have HT2 : Hid (Tb w2 b left R1 (k' : Int)) := T2
  have HG2 : Hid (w.grownBy w2 (some b)) := HG1.out.trans G2
  have HR1 : Hid (R1.data.toList = rest1 ln) := hR1
  clear T2 G2 HT1 HG1 hR1
  have hb1 := ba_list W1
  rw [hW1] at hb1
  by_cases e1 : word1 ln = [115]
  case neg =>
    have HC : Hid (vdC ln = none) := by show _ = _; unfold vdC; rw [if_neg (by simp [e1])]
    have hq : (W1.toList == [115]) = false := by rw [hb1]; simpa using e1
    have hqn : (W1.toList != [115]) = true := by rw [bne, hq]; rfl
    clear hb1 hW1 e1
    go_wp2
    go_returns
    exact HFin.out _ _ _ HT2.out HG2.out (.inl ⟨HC.out, rfl⟩)
  have hq1 : (W1.toList == [115]) = true := by rw [hb1]; simpa using e1
  have hq1n : (W1.toList != [115]) = false := by rw [bne, hq1]; rfl
  have HE1 : Hid (word1 ln = [115]) := e1
  clear hb1 hW1 e1
  have HL1 : Hid (R1.data.toList.length < 4294967281 ∧ ∀ x ∈ R1.data.toList, x.toNat < 256) := by
    rw [HR1.out]; exact ⟨by have := rest1_le ln; have := HLn.out.1; omega, fun x hx => HLn.out.2 x (rest1_sub hx)⟩
  go_wp2_with fail
  refine (word_tb b left R1 k' w2 HT2.out HL1.out.1 HL1.out.2).mono ?_
  rintro e w3 ⟨W2, R2, rfl, hW2, hR2, T3, G3⟩
  rw [HR1.out] at hW2 hR2
  have HT3 : Hid (Tb w3 b left R2 (k' : Int)) := T3
  have HG3 : Hid (w.grownBy w3 (some b)) := HG2.out.trans G3
  have HR2 : Hid (R2.data.toList = rest1 (rest1 ln)) := hR2
  clear T3 G3 HT2 HG2 hR2
  have hb2 := ba_list W2
  rw [hW2] at hb2
  have HL2 : Hid (R2.data.toList.length < 4294967281 ∧ ∀ x ∈ R2.data.toList, x.toNat < 256) := by
    rw [HR2.out]; exact ⟨by have := rest1_le (rest1 ln); have := rest1_le ln; have := HLn.out.1; omega, fun x hx => HLn.out.2 x (rest1_sub (rest1_sub hx))⟩
  clear hq1 hq1n
  by_cases e2 : word1 (rest1 ln) = yesW ∨ word1 (rest1 ln) = noW
  case neg =>
    have HC : Hid (vdC ln = none) := by show _ = _; unfold vdC; rw [if_neg (fun h => e2 h.2.1)]
    have hy : (W2.toList == [83, 65, 84, 73, 83, 70, 73, 65, 66, 76, 69]) = false := by rw [hb2]; exact beq_eq_false_iff_ne.2 (fun e => e2 (.inl e))
    have hn : (W2.toList == [85, 78, 83, 65, 84, 73, 83, 70, 73, 65, 66, 76, 69]) = false := by rw [hb2]; exact beq_eq_false_iff_ne.2 (fun e => e2 (.inr e))
    have hyn : (W2.toList != [83, 65, 84, 73, 83, 70, 73, 65, 66, 76, 69]) = true := by rw [bne, hy]; rfl
    have hnn : (W2.toList != [85, 78, 83, 65, 84, 73, 83, 70, 73, 65, 66, 76, 69]) = true := by rw [bne, hn]; rfl
    clear hb2 hW2 e2
    go_wp2
    go_returns
    exact HFin.out _ _ _ HT3.out HG3.out (.inl ⟨HC.out, rfl⟩)
  have HK : Hid (∀ W3 : ByteArray, W3.data.toList = word1 (rest1 (rest1 ln)) → (W3.toList == []) = false → vdC ln = none) := fun W3 h3 hf => by
    unfold vdC; rw [if_neg]; rintro ⟨_, _, h⟩
    rw [ByteArray.toList_eq, h3, h] at hf
    simp at hf
  have HK2 : Hid (∀ W3 : ByteArray, W3.data.toList = word1 (rest1 (rest1 ln)) → (W3.toList == []) = true → vdC ln = some (decide (word1 (rest1 ln) = yesW))) := fun W3 h3 hf => by
    unfold vdC; rw [if_pos]; refine ⟨HE1.out, e2, ?_⟩
    rw [ByteArray.toList_eq, h3] at hf
    simpa using hf
  by_cases hy0 : word1 (rest1 ln) = yesW
  case pos =>
    have hy : (W2.toList == [83, 65, 84, 73, 83, 70, 73, 65, 66, 76, 69]) = true := by rw [hb2]; exact beq_iff_eq.2 hy0
    have hyn : (W2.toList != [83, 65, 84, 73, 83, 70, 73, 65, 66, 76, 69]) = false := by rw [bne, hy]; rfl
    rw [decide_eq_true hy0] at HK2
    clear hb2 hW2 e2 hy0 HE1
    go_wp2_with fail
    refine (word_tb b left R2 k' w3 HT3.out HL2.out.1 HL2.out.2).mono ?_
    rintro e w4 ⟨W3, R3, rfl, hW3, hR3, T4, G4⟩
    rw [HR2.out] at hW3
    have HT4 : Hid (Tb w4 b left R3 (k' : Int)) := T4
    have HG4 : Hid (w.grownBy w4 (some b)) := HG3.out.trans G4
    clear T4 G4 hR3 HT3 HG3
    cases he : (W3.toList == [])
    case false =>
      have HC := HK.out W3 hW3 he
      have HC : Hid (vdC ln = none) := HC
      have hen : (W3.toList != []) = true := by rw [bne, he]; rfl
      clear HK HK2 hW3
      go_wp2
      go_returns
      exact HFin.out _ _ _ HT4.out HG4.out (.inl ⟨HC.out, rfl⟩)
    case true =>
      have HC : Hid (vdC ln = some true) := HK2.out W3 hW3 he
      have hen : (W3.toList != []) = false := by rw [bne, he]; rfl
      clear HK HK2 hW3
      go_wp2
      go_returns
      exact HFin.out _ _ _ HT4.out HG4.out (.inr ⟨_, HC.out, rfl⟩)
  case neg =>
    have hy : (W2.toList == [83, 65, 84, 73, 83, 70, 73, 65, 66, 76, 69]) = false := by rw [hb2]; exact beq_eq_false_iff_ne.2 hy0
    have hyn : (W2.toList != [83, 65, 84, 73, 83, 70, 73, 65, 66, 76, 69]) = true := by rw [bne, hy]; rfl
    have hn : (W2.toList == [85, 78, 83, 65, 84, 73, 83, 70, 73, 65, 66, 76, 69]) = true := by rw [hb2]; exact beq_iff_eq.2 (e2.resolve_left hy0)
    have hnn : (W2.toList != [85, 78, 83, 65, 84, 73, 83, 70, 73, 65, 66, 76, 69]) = false := by rw [bne, hn]; rfl
    rw [decide_eq_false hy0] at HK2
    clear hb2 hW2 e2 hy0 HE1
    go_wp2_with fail
    refine (word_tb b left R2 k' w3 HT3.out HL2.out.1 HL2.out.2).mono ?_
    rintro e w4 ⟨W3, R3, rfl, hW3, hR3, T4, G4⟩
    rw [HR2.out] at hW3
    have HT4 : Hid (Tb w4 b left R3 (k' : Int)) := T4
    have HG4 : Hid (w.grownBy w4 (some b)) := HG3.out.trans G4
    clear T4 G4 hR3 HT3 HG3
    cases he : (W3.toList == [])
    case false =>
      have HC : Hid (vdC ln = none) := HK.out W3 hW3 he
      have hen : (W3.toList != []) = true := by rw [bne, he]; rfl
      clear HK HK2 hW3
      go_wp2
      go_returns
      exact HFin.out _ _ _ HT4.out HG4.out (.inl ⟨HC.out, rfl⟩)
    case true =>
      have HC : Hid (vdC ln = some false) := HK2.out W3 hW3 he
      have hen : (W3.toList != []) = false := by rw [bne, he]; rfl
      clear HK HK2 hW3
      go_wp2
      go_returns
      exact HFin.out _ _ _ HT4.out HG4.out (.inr ⟨_, HC.out, rfl⟩)

end Go.Proofs.YtlkbbbbclmffjaaGreatDoor

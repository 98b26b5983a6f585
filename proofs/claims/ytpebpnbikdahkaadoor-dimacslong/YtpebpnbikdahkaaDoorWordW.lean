/-
  (*text).word, walked, for any text.
-/
import Derived.Test.YtpebpnbikdahkaaDoorNumW
import Derived.Test.YtpebpnbikdahkaaDoorIxA
set_option linter.unusedSimpArgs false
set_option linter.unusedVariables false
namespace Go.Proofs.YtpebpnbikdahkaaDoor
open Go Go.RowKit

theorem con_bl (b : UInt8) : ([32, 9] : List UInt8).contains b = isBl b := by
  unfold isBl; simp [List.contains, List.elem]
  cases h : b == 32 <;> cases h2 : b == 9 <;> simp
theorem ia_eq : ∀ r : List UInt8, Lib.indexAny r [32, 9] = if r.all notBl then -1 else ((r.takeWhile notBl).length : Int)
  | [] => rfl
  | b :: r => by
    have ih := ia_eq r
    unfold Lib.indexAny
    rw [con_bl]
    cases hb : isBl b
    · have hn : notBl b = true := by unfold notBl; rw [hb]; rfl
      simp only [List.all_cons, hn, Bool.true_and, List.takeWhile_cons, if_true, List.length_cons]
      rw [ih]
      cases ha : r.all notBl
      · have : (((r.takeWhile notBl).length : Int) == -1) = false := beq_eq_false_iff_ne.2 (by omega)
        simp [this]
      · simp
    · have hn : notBl b = false := by unfold notBl; rw [hb]; rfl
      simp [hn]
theorem trim_eq (l : List UInt8) : Lib.trimLeftS l [32, 9] = l.dropWhile isBl := by
  unfold Lib.trimLeftS
  congr 1
  funext b; exact con_bl b
theorem take_allW : ∀ {r : List UInt8}, r.all notBl = true → r.takeWhile notBl = r ∧ r.dropWhile notBl = []
  | [], _ => ⟨rfl, rfl⟩
  | b :: r, h => by
    simp only [List.all_cons, Bool.and_eq_true] at h
    obtain ⟨h1, h2⟩ := take_allW h.2
    simp [h.1, h1, h2]
theorem bl_ascii : ∀ (j : Nat) (b : UInt8), (⟨#[32, 9]⟩ : ByteArray).data.toList[j]? = some b → b.toNat < 128 := by
  intro j b h
  have := List.mem_of_getElem? h
  simp at this
  rcases this with rfl | rfl <;> decide
theorem mk_list (l : List UInt8) : (⟨l.toArray⟩ : ByteArray).data.toList = l := by simp
theorem mk_size (l : List UInt8) : (⟨l.toArray⟩ : ByteArray).size = l.length := by simp [ByteArray.size]
theorem ba_extW {a b : ByteArray} (h : a.data.toList = b.data.toList) : a = b := by
  cases a; cases b; simp at h ⊢; exact h
theorem ex_list (l : List UInt8) (i j : Nat) : ((⟨l.toArray⟩ : ByteArray).extract i j) = ⟨((l.drop i).take (j - i)).toArray⟩ := by
  apply ba_extW
  rw [ByteArray.data_extract, Array.toList_extract, List.extract_eq_take_drop]
/-- a text that is read, in its box -/
def Tb (W : World) (b : Nat) (l r : ByteArray) (k : Int) : Prop := W.heap[b]? = some (.cells #[.string l, .string r, .int .i64 k] 34 (0, 0))
theorem Tb.lt {W : World} {b : Nat} {l r : ByteArray} {k : Int} (h : Tb W b l r k) : b < W.heap.size := (Array.getElem?_eq_some_iff.1 h).1
theorem Tb.c0 {W : World} {b : Nat} {l r : ByteArray} {k : Int} (h : Tb W b l r k) : W.cell? ⟨b, 0, none⟩ = some (.string l) := by simp [World.cell?, show W.heap[b]? = _ from h]
theorem Tb.c1 {W : World} {b : Nat} {l r : ByteArray} {k : Int} (h : Tb W b l r k) : W.cell? ⟨b, 1, none⟩ = some (.string r) := by simp [World.cell?, show W.heap[b]? = _ from h]
theorem Tb.c2 {W : World} {b : Nat} {l r : ByteArray} {k : Int} (h : Tb W b l r k) : W.cell? ⟨b, 2, none⟩ = some (.int .i64 k) := by simp [World.cell?, show W.heap[b]? = _ from h]
theorem Tb.f {W : World} {b : Nat} {l r : ByteArray} {k : Int} (h : Tb W b l r k) (o : Nat) : W.frozen? ⟨b, o, none⟩ = false := by simp [World.frozen?, show W.heap[b]? = _ from h]
theorem Tb.below {W W' : World} {b : Nat} {l r : ByteArray} {k : Int} (h : Tb W b l r k) (hb : Below W.heap.size W W') : Tb W' b l r k := (hb.block b h.lt).trans h

set_option maxHeartbeats 1600000 in
theorem word_any (b : Nat) (l r : ByteArray) (k : Int) (w : World) (h : Tb w b l r k) (hs : r.size < 4294967281) (has : ∀ x ∈ r.data.toList, x.toNat < 256) :
    Calls Tryd.prog 14 #[.pointer (some ⟨b, 0, none⟩)] w fun e w' => e = .returned (.string ⟨(word1 r.data.toList).toArray⟩) ∧ ∃ w1, Below w.heap.size w w1 ∧ w' = w1.setCell ⟨b, 1, none⟩ (.string ⟨(rest1 r.data.toList).toArray⟩) := by
  have c1 := h.c1
  have HT : Hid (Tb w b l r k) := h
  clear h
  go_enter Tryd.func14, Tryd.ntmps14
  go_wp2_with fail
  refine (Tryd.strings_TrimLeft_laid _ _ _ (by decide) bl_ascii).mono ?_
  rintro e w1 ⟨rfl, bel1⟩
  rw [show (⟨#[32, 9]⟩ : ByteArray).data.toList = [32, 9] from rfl, trim_eq]
  have hl : (r.data.toList.dropWhile isBl).length < 4294967281 := by
    have := drop_le isBl r.data.toList
    have h2 : r.data.toList.length = r.size := by cases r; simp [ByteArray.size]
    omega
  have HT1 : Hid (Tb w1 b l r k) := HT.out.below bel1
  have HB1 : Hid (Below w.heap.size w w1) := bel1
  have HW : Hid (word1 r.data.toList = (r.data.toList.dropWhile isBl).takeWhile notBl ∧ rest1 r.data.toList = (r.data.toList.dropWhile isBl).dropWhile notBl) := ⟨rfl, rfl⟩
  clear HT c1 bel1 has
  generalize r.data.toList.dropWhile isBl = R at *
  have HI : Hid (Calls Tryd.prog 21 #[.string ⟨R.toArray⟩, .string ⟨#[32, 9]⟩] w1 fun e w' => e = .returned (.int .i64 (if R.all notBl then -1 else ((R.takeWhile notBl).length : Int))) ∧ Below w1.heap.size w1 w') := by
    have := ixAny_any ⟨R.toArray⟩ w1 (by rw [mk_size]; exact hl)
    rw [mk_list, ia_eq] at this
    exact this
  have hsz := mk_size R
  cases ha : R.all notBl
  · rw [ha] at HI
    have hN : (R.takeWhile notBl).length ≤ R.length := (List.takeWhile_sublist notBl).length_le
    have HTk : Hid ((R.takeWhile notBl) = R.take (R.takeWhile notBl).length ∧ R.dropWhile notBl = R.drop (R.takeWhile notBl).length) := by
      refine ⟨List.prefix_iff_eq_take.1 (List.takeWhile_prefix notBl), ?_⟩
      have e : R.takeWhile notBl ++ R.dropWhile notBl = R := List.takeWhile_append_dropWhile
      have h2 : (R.takeWhile notBl ++ R.dropWhile notBl).drop (R.takeWhile notBl).length = R.dropWhile notBl := List.drop_left
      rw [e] at h2
      exact h2.symm
    generalize (R.takeWhile notBl).length = N at *
    go_wp2_with fail
    refine HI.out.mono ?_
    rintro e w2 ⟨rfl, bel2⟩
    have HT2 := HT1.out.below bel2
    have c1 := HT2.c1
    have f1 := HT2.f 1
    have HB2 : Hid (Below w.heap.size w w2) := HB1.out.trans (bel2.mono HB1.out.size)
    simp only [Bool.false_eq_true, if_false]
    go_wp2
    go_ret
    refine ⟨?_, w2, HB2.out, ?_⟩
    · show Ending.returned (.string ((⟨R.toArray⟩ : ByteArray).extract 0 N)) = _
      rw [ex_list, HW.out.1, HTk.out.1]; rfl
    · rw [ex_list, HW.out.2, HTk.out.2, List.take_of_length_le (by simp)]
  · rw [ha] at HI
    obtain ⟨t1, t2⟩ := take_allW ha
    have HTk : Hid (R.takeWhile notBl = R ∧ R.dropWhile notBl = []) := ⟨t1, t2⟩
    clear t1 t2
    go_wp2_with fail
    refine HI.out.mono ?_
    rintro e w2 ⟨rfl, bel2⟩
    have HT2 := HT1.out.below bel2
    have c1 := HT2.c1
    have f1 := HT2.f 1
    have HB2 : Hid (Below w.heap.size w w2) := HB1.out.trans (bel2.mono HB1.out.size)
    simp only [if_true]
    go_wp2
    go_ret
    refine ⟨?_, w2, HB2.out, ?_⟩
    · show Ending.returned (.string ((⟨R.toArray⟩ : ByteArray).extract 0 R.length)) = _
      rw [ex_list, HW.out.1, HTk.out.1, List.drop_zero, List.take_of_length_le (by simp)]
    · rw [HW.out.2, HTk.out.2]; rfl

end Go.Proofs.YtpebpnbikdahkaaDoor

/-
  joined: IxA WordW IdleW CutW
-/
import Derived.Test.YtlkbbbbclmffjaaGreatDoorKIxR
import Derived.Lib.OthersKept
import Derived.Lib.IndexAny
import Derived.Lib.Hide
import Derived.Test.YtlkbbbbclmffjaaGreatDoorKNumW
set_option linter.unusedSimpArgs false
set_option linter.unusedVariables false
namespace Go.Proofs.YtlkbbbbclmffjaaGreatDoor
open Go Go.RowKit

theorem get_bangX {s : ByteArray} {k : Nat} (h : k < s.size) : s.get! k = s[k] := by
  simp [ByteArray.get!, getElem!_pos, h]; rfl
/-- what is no ASCII byte begins a run of such -/
theorem decode_spanX (s : ByteArray) (pos : Nat) (h : pos < s.size) (ha : 128 ≤ (s[pos]'h).toNat) :
    1 ≤ (Utf8.decode s pos).2 ∧ pos + (Utf8.decode s pos).2 ≤ s.size ∧ ∀ j, j < (Utf8.decode s pos).2 → 128 ≤ (s.get! (pos + j)).toNat := by
  have hn : ¬ (s[pos]'h).toNat < 128 := by omega
  have h0 : (s.get! (pos + 0)).toNat = (s[pos]'h).toNat := by rw [get_at s pos h]
  have one : 1 ≤ 1 ∧ pos + 1 ≤ s.size ∧ ∀ j, j < 1 → 128 ≤ (s.get! (pos + j)).toNat := by
    refine ⟨Nat.le_refl _, by omega, fun j hj => ?_⟩
    have hj0 : j = 0 := by omega
    subst hj0
    rw [h0]; exact ha
  simp only [Utf8.decode, get_at s pos h, hn, if_false]
  split
  · rename_i hc
    simp only [Bool.and_eq_true, decide_eq_true_eq, beq_iff_eq] at hc
    split
    · refine ⟨by show 1 ≤ 2; omega, by show pos + 2 ≤ _; omega, fun j hj => ?_⟩
      have hj' : j < 2 := hj
      rcases (show j = 0 ∨ j = 1 by omega) with rfl | rfl
      · rw [h0]; exact ha
      · omega
    · exact one
  · split
    · rename_i hc
      simp only [Bool.and_eq_true, decide_eq_true_eq, beq_iff_eq] at hc
      split
      · refine ⟨by show 1 ≤ 3; omega, by show pos + 3 ≤ _; omega, fun j hj => ?_⟩
        have hj' : j < 3 := hj
        rcases (show j = 0 ∨ j = 1 ∨ j = 2 by omega) with rfl | rfl | rfl
        · rw [h0]; exact ha
        · omega
        · omega
      · exact one
    · split
      · rename_i hc
        simp only [Bool.and_eq_true, decide_eq_true_eq, beq_iff_eq] at hc
        split
        · refine ⟨by show 1 ≤ 4; omega, by show pos + 4 ≤ _; omega, fun j hj => ?_⟩
          have hj' : j < 4 := hj
          rcases (show j = 0 ∨ j = 1 ∨ j = 2 ∨ j = 3 by omega) with rfl | rfl | rfl | rfl
          · rw [h0]; exact ha
          · omega
          · omega
          · omega
        · exact one
      · exact one
theorem noAny_span {s : ByteArray} {i d : Nat} (h : Lib.NoAny s.data.toList [32, 9] i) (hd : i + d ≤ s.size) (hs : ∀ j, j < d → 128 ≤ (s.get! (i + j)).toNat) : Lib.NoAny s.data.toList [32, 9] (i + d) := fun j b hj hb => by
  rcases Nat.lt_or_ge j i with h1 | h1
  · exact h j b h1 hb
  · have h2 := hs (j - i) (by omega)
    rw [show i + (j - i) = j by omega, get_bangX (by omega)] at h2
    have hb2 : b = s[j]'(by omega) := by
      have := Lib.data_getElem? s j (by omega)
      rw [hb] at this
      exact Option.some.inj this
    subst hb2
    have n32 : s[j]'(by omega) ≠ 32 := fun e => by rw [e] at h2; simp at h2
    have n9 : s[j]'(by omega) ≠ 9 := fun e => by rw [e] at h2; simp at h2
    simp [n32, n9]

set_option maxRecDepth 100000 in
set_option maxHeartbeats 6400000 in
theorem ixAny_short (s : ByteArray) (w : World) (h8 : s.size ≤ 8) :
    Calls Tryz.prog 75 #[.string s, .string blS] w fun e w' => e = .returned (.int .i64 (Lib.indexAny s.data.toList [32, 9])) ∧ Below w.heap.size w w' := by
  have hz : blS.size = 2 := rfl
  have hemp : blS.toList.isEmpty = false := by rw [ByteArray.toList_eq]; rfl
  have h8z : decide ((8 : Int) < (s.size : Int)) = false := decide_eq_false (by omega)
  have HU : Hid (∀ W : World, Calls Tryz.prog 91 #[.int .i64 (s.size : Int)] W fun e w' => e = .returned (.bool false) ∧ w' = W) := fun W => by have := Tryz.strings_shouldUseASCIISet (s.size : Int) W; rwa [h8z] at this
  clear h8z
  go_enter Tryz.func75, Tryz.ntmps75
  go_wp2_with (go_at_call 91; refine (HU.out _).mono ?_; rintro e w1 ⟨rfl, rfl⟩)
  go_loopg [9, 10] s.size (fun g _ _ wr => ∃ i : Nat, i + g = s.size ∧ Hid (wr.heap[w1.heap.size]? = some (.stringIter s i)) ∧ Hid (Below w1.heap.size w1 wr) ∧ Hid (Lib.NoAny s.data.toList [32, 9] i))
  case atStart => exact ⟨0, by omega, World.iter_heap w1 s 0, below_iterX _ _ _, Lib.NoAny.zero _ _⟩
  case round =>
    obtain ⟨i, hig, HIt, BL, HN⟩ := hrel
    have HG : Hid (i + gk = s.size) := hig
    have hNl : w1.heap.size < wr.heap.size := (Array.getElem?_eq_some_iff.1 HIt.out).1
    by_cases hlt : i < s.size
    · obtain ⟨x, hx⟩ : ∃ x : UInt8, s[i]'hlt = x := ⟨_, rfl⟩
      have Hx : Hid (s.data.toList[i]? = some x) := by show _ = _; rw [← hx]; exact Lib.data_getElem? s i hlt
      by_cases h128 : x.toNat < 128
      · have hnx := fun ty => Lib.run_next_ascii_at (P := Tryz.prog) wr w1.heap.size s i ty HIt.out hlt (by rw [hx]; exact h128)
        rw [hx] at hnx
        have HIt2 : Hid ((wr.iterAt w1.heap.size s (i + 1)).heap[w1.heap.size]? = some (.stringIter s (i + 1))) := Lib.iterAt_heap wr w1.heap.size s i (i + 1) HIt.out
        have BL2 : Hid (Below w1.heap.size w1 (wr.iterAt w1.heap.size s (i + 1))) := Lib.below_iterAt BL.out (Nat.le_refl _) s (i + 1)
        have hcon := Lib.contains_iff_indexByte [32, 9] x
        have HR : Hid (∀ W : World, Calls Tryz.prog 90 #[.string blS, .int .i32 (x.toNat : Int)] W fun e w' => e = .returned (.int .i64 (Lib.indexByte [32, 9] x)) ∧ w' = W) := fun W => by
          have := Tryz.strings_IndexRune_ascii blS (x.toNat : Int) W (by omega) (by omega)
          rwa [show ((x.toNat : Int)).toNat.toUInt8 = x by simp] at this
        clear hx hig
        generalize wr.iterAt w1.heap.size s (i + 1) = w2 at *
        cases hin : ([32, 9] : List UInt8).contains x
        · rw [hin] at hcon
          have hneg : ¬ ((0 : Int) ≤ Lib.indexByte [32, 9] x) := of_decide_eq_false hcon.symm
          have HN2 : Hid (Lib.NoAny s.data.toList [32, 9] (i + 1)) := HN.out.succ Hx.out hin
          clear hcon hin
          generalize Lib.indexByte [32, 9] x = q at *
          go_wp2_with (go_at_call 90; refine (HR.out _).mono ?_; rintro e w3 ⟨rfl, rfl⟩)
          go_roundg (gk - 1)
          case measure => have := HG.out; omega
          case rel => exact ⟨i + 1, by have := HG.out; omega, HIt2.out, BL2.out, HN2.out⟩
        · rw [hin] at hcon
          have hge : (0 : Int) ≤ Lib.indexByte [32, 9] x := of_decide_eq_true hcon.symm
          have HE : Hid (Lib.indexAny s.data.toList [32, 9] = (i : Int)) := Lib.indexAny_hit HN.out Hx.out hin
          clear hcon hin
          generalize Lib.indexByte [32, 9] x = q at *
          go_wp2_with (go_at_call 90; refine (HR.out _).mono ?_; rintro e w3 ⟨rfl, rfl⟩)
          go_ret
          exact ⟨ret_int HE.out.symm, BL2.out⟩
      · have hhi : 128 ≤ (s[i]'hlt).toNat := by rw [hx]; omega
        obtain ⟨d1, d2, d3⟩ := decode_spanX s i hlt hhi
        have d4 := (decode_high s i hlt hhi).1
        have d5 := decode_le s i
        have hnx : ∀ ty, (Instr.next (.pointer (some ⟨w1.heap.size, 0, none⟩)) true ty).run Tryz.prog wr = .ok (.tuple #[.bool true, .int .i64 i, .int .i32 (Utf8.decode s i).1]) (wr.iterAt w1.heap.size s (i + (Utf8.decode s i).2)) := fun ty => Lib.run_next_any_at wr w1.heap.size s i ty HIt.out hlt
        have HIt2 : Hid ((wr.iterAt w1.heap.size s (i + (Utf8.decode s i).2)).heap[w1.heap.size]? = some (.stringIter s (i + (Utf8.decode s i).2))) := Lib.iterAt_heap wr w1.heap.size s i _ HIt.out
        have BL2 : Hid (Below w1.heap.size w1 (wr.iterAt w1.heap.size s (i + (Utf8.decode s i).2))) := Lib.below_iterAt BL.out (Nat.le_refl _) s _
        have HN2 : Hid (Lib.NoAny s.data.toList [32, 9] (i + (Utf8.decode s i).2)) := noAny_span HN.out d2 d3
        have HR : Hid (∀ W : World, Calls Tryz.prog 90 #[.string blS, .int .i32 ((Utf8.decode s i).1 : Int)] W fun e w' => e = .returned (.int .i64 (-1)) ∧ Below W.heap.size W w') := fun W => ixRune_no _ W (by omega) (by omega)
        clear hx hig hhi d3 h128 d4 d5
        generalize (Utf8.decode s i).1 = zn at *
        generalize (Utf8.decode s i).2 = dd at *
        have hN2 : w1.heap.size < (wr.iterAt w1.heap.size s (i + dd)).heap.size := (Array.getElem?_eq_some_iff.1 HIt2.out).1
        generalize wr.iterAt w1.heap.size s (i + dd) = w2 at *
        go_wp2_with (go_at_call 90; refine (HR.out _).mono ?_; rintro e w3 ⟨rfl, bel3⟩)
        go_roundg (gk - dd)
        case measure => have := HG.out; omega
        case rel => exact ⟨i + dd, by have := HG.out; omega, (bel3.block _ hN2).trans HIt2.out, BL2.out.trans (bel3.mono BL2.out.size), HN2.out⟩
    · obtain rfl : i = s.size := by omega
      have hnx := fun ty => Lib.run_next_end_at (P := Tryz.prog) wr w1.heap.size s s.size ty HIt.out (by omega)
      have HE : Hid (Lib.indexAny s.data.toList [32, 9] = -1) := Lib.indexAny_none (by have := HN.out; rw [← Lib.size_eq]; exact this)
      clear hig
      go_wp2
      go_ret
      exact ⟨ret_int HE.out.symm, BL.out⟩

theorem infoAs : (Tryz.prog.info? 121).map (fun i => (i.zero, i.size)) = some (some (.agg (Array.replicate 256 (.bool false))), 256) := by kernel_rfl
theorem bl_asciiX : ∀ (j : Nat) (b : UInt8), blS.data.toList[j]? = some b → b.toNat < 128 := by
  intro j b h
  have := List.mem_of_getElem? h
  simp [blS] at this
  rcases this with rfl | rfl <;> decide
theorem ixAny_any (s : ByteArray) (w : World) (hs : s.size < 4294967281) :
    Calls Tryz.prog 75 #[.string s, .string ⟨#[32, 9]⟩] w fun e w' => e = .returned (.int .i64 (Lib.indexAny s.data.toList [32, 9])) ∧ Below w.heap.size w w' := by
  rcases Nat.lt_or_ge 8 s.size with h | h
  · refine (Tryz.strings_IndexAny_long (zero_of_info infoAs).1 s ⟨#[32, 9]⟩ w (by decide) h hs (by decide) bl_asciiX).mono ?_
    rintro e w' ⟨rfl, rfl⟩
    exact ⟨rfl, ((Below.refl _ w).alloc (Nat.le_refl _) _).alloc (by simp) _⟩
  · exact ixAny_short s w h

end Go.Proofs.YtlkbbbbclmffjaaGreatDoor
set_option linter.unusedSimpArgs false
set_option linter.unusedVariables false
namespace Go.Proofs.YtlkbbbbclmffjaaGreatDoor
open Go Go.RowKit

theorem con_bl (b : UInt8) : ([32, 9] : List UInt8).contains b = isBl b := by
  unfold isBl; simp [List.contains, List.elem]
  cases h : b == 32 <;> cases h2 : b == 9 <;> simp
theorem ia_eq : ∀ r : List UInt8, Lib.indexAny r [32, 9] = if r.all notBl then -1 else ((r.takeWhile notBl).length : Int)
  | [] => rfl
  | b :: r => by
    have ih := ia_eq r
    unfold Lib.indexAny
    rw [con_bl]
    cases hb : isBl b
    · have hn : notBl b = true := by unfold notBl; rw [hb]; rfl
      simp only [List.all_cons, hn, Bool.true_and, List.takeWhile_cons, if_true, List.length_cons]
      rw [ih]
      cases ha : r.all notBl
      · have : (((r.takeWhile notBl).length : Int) == -1) = false := beq_eq_false_iff_ne.2 (by omega)
        simp [this]
      · simp
    · have hn : notBl b = false := by unfold notBl; rw [hb]; rfl
      simp [hn]
theorem trim_eq (l : List UInt8) : Lib.trimLeftS l [32, 9] = l.dropWhile isBl := by
  unfold Lib.trimLeftS
  congr 1
  funext b; exact con_bl b
theorem take_allW : ∀ {r : List UInt8}, r.all notBl = true → r.takeWhile notBl = r ∧ r.dropWhile notBl = []
  | [], _ => ⟨rfl, rfl⟩
  | b :: r, h => by
    simp only [List.all_cons, Bool.and_eq_true] at h
    obtain ⟨h1, h2⟩ := take_allW h.2
    simp [h.1, h1, h2]
theorem bl_ascii : ∀ (j : Nat) (b : UInt8), (⟨#[32, 9]⟩ : ByteArray).data.toList[j]? = some b → b.toNat < 128 := by
  intro j b h
  have := List.mem_of_getElem? h
  simp at this
  rcases this with rfl | rfl <;> decide
theorem mk_list (l : List UInt8) : (⟨l.toArray⟩ : ByteArray).data.toList = l := by simp
theorem mk_size (l : List UInt8) : (⟨l.toArray⟩ : ByteArray).size = l.length := by simp [ByteArray.size]
theorem ba_extW {a b : ByteArray} (h : a.data.toList = b.data.toList) : a = b := by
  cases a; cases b; simp at h ⊢; exact h
theorem ex_list (l : List UInt8) (i j : Nat) : ((⟨l.toArray⟩ : ByteArray).extract i j) = ⟨((l.drop i).take (j - i)).toArray⟩ := by
  apply ba_extW
  rw [ByteArray.data_extract, Array.toList_extract, List.extract_eq_take_drop]
/-- a text that is read, in its box -/
def Tb (W : World) (b : Nat) (l r : ByteArray) (k : Int) : Prop := W.heap[b]? = some (.cells #[.string l, .string r, .int .i64 k] 65 (0, 0))
theorem Tb.lt {W : World} {b : Nat} {l r : ByteArray} {k : Int} (h : Tb W b l r k) : b < W.heap.size := (Array.getElem?_eq_some_iff.1 h).1
theorem Tb.c0 {W : World} {b : Nat} {l r : ByteArray} {k : Int} (h : Tb W b l r k) : W.cell? ⟨b, 0, none⟩ = some (.string l) := by simp [World.cell?, show W.heap[b]? = _ from h]
theorem Tb.c1 {W : World} {b : Nat} {l r : ByteArray} {k : Int} (h : Tb W b l r k) : W.cell? ⟨b, 1, none⟩ = some (.string r) := by simp [World.cell?, show W.heap[b]? = _ from h]
theorem Tb.c2 {W : World} {b : Nat} {l r : ByteArray} {k : Int} (h : Tb W b l r k) : W.cell? ⟨b, 2, none⟩ = some (.int .i64 k) := by simp [World.cell?, show W.heap[b]? = _ from h]
theorem Tb.f {W : World} {b : Nat} {l r : ByteArray} {k : Int} (h : Tb W b l r k) (o : Nat) : W.frozen? ⟨b, o, none⟩ = false := by simp [World.frozen?, show W.heap[b]? = _ from h]
theorem Tb.below {W W' : World} {b : Nat} {l r : ByteArray} {k : Int} (h : Tb W b l r k) (hb : Below W.heap.size W W') : Tb W' b l r k := (hb.block b h.lt).trans h

set_option maxHeartbeats 1600000 in
theorem word_any (b : Nat) (l r : ByteArray) (k : Int) (w : World) (h : Tb w b l r k) (hs : r.size < 4294967281) (has : ∀ x ∈ r.data.toList, x.toNat < 256) :
    Calls Tryz.prog 58 #[.pointer (some ⟨b, 0, none⟩)] w fun e w' => e = .returned (.string ⟨(word1 r.data.toList).toArray⟩) ∧ ∃ w1, Below w.heap.size w w1 ∧ w' = w1.setCell ⟨b, 1, none⟩ (.string ⟨(rest1 r.data.toList).toArray⟩) := by
  have c1 := h.c1
  have HT : Hid (Tb w b l r k) := h
  clear h
  go_enter Tryz.func58, Tryz.ntmps58
  go_wp2_with fail
  refine (Tryz.strings_TrimLeft_laid _ _ _ (by decide) bl_ascii).mono ?_
  rintro e w1 ⟨rfl, bel1⟩
  rw [show (⟨#[32, 9]⟩ : ByteArray).data.toList = [32, 9] from rfl, trim_eq]
  have hl : (r.data.toList.dropWhile isBl).length < 4294967281 := by
    have := drop_le isBl r.data.toList
    have h2 : r.data.toList.length = r.size := by cases r; simp [ByteArray.size]
    omega
  have HT1 : Hid (Tb w1 b l r k) := HT.out.below bel1
  have HB1 : Hid (Below w.heap.size w w1) := bel1
  have HW : Hid (word1 r.data.toList = (r.data.toList.dropWhile isBl).takeWhile notBl ∧ rest1 r.data.toList = (r.data.toList.dropWhile isBl).dropWhile notBl) := ⟨rfl, rfl⟩
  clear HT c1 bel1 has
  generalize r.data.toList.dropWhile isBl = R at *
  have HI : Hid (Calls Tryz.prog 75 #[.string ⟨R.toArray⟩, .string ⟨#[32, 9]⟩] w1 fun e w' => e = .returned (.int .i64 (if R.all notBl then -1 else ((R.takeWhile notBl).length : Int))) ∧ Below w1.heap.size w1 w') := by
    have := ixAny_any ⟨R.toArray⟩ w1 (by rw [mk_size]; exact hl)
    rw [mk_list, ia_eq] at this
    exact this
  have hsz := mk_size R
  cases ha : R.all notBl
  · rw [ha] at HI
    have hN : (R.takeWhile notBl).length ≤ R.length := (List.takeWhile_sublist notBl).length_le
    have HTk : Hid ((R.takeWhile notBl) = R.take (R.takeWhile notBl).length ∧ R.dropWhile notBl = R.drop (R.takeWhile notBl).length) := by
      refine ⟨List.prefix_iff_eq_take.1 (List.takeWhile_prefix notBl), ?_⟩
      have e : R.takeWhile notBl ++ R.dropWhile notBl = R := List.takeWhile_append_dropWhile
      have h2 : (R.takeWhile notBl ++ R.dropWhile notBl).drop (R.takeWhile notBl).length = R.dropWhile notBl := List.drop_left
      rw [e] at h2
      exact h2.symm
    generalize (R.takeWhile notBl).length = N at *
    go_wp2_with fail
    refine HI.out.mono ?_
    rintro e w2 ⟨rfl, bel2⟩
    have HT2 := HT1.out.below bel2
    have c1 := HT2.c1
    have f1 := HT2.f 1
    have HB2 : Hid (Below w.heap.size w w2) := HB1.out.trans (bel2.mono HB1.out.size)
    simp only [Bool.false_eq_true, if_false]
    go_wp2
    go_ret
    refine ⟨?_, w2, HB2.out, ?_⟩
    · show Ending.returned (.string ((⟨R.toArray⟩ : ByteArray).extract 0 N)) = _
      rw [ex_list, HW.out.1, HTk.out.1]; rfl
    · rw [ex_list, HW.out.2, HTk.out.2, List.take_of_length_le (by simp)]
  · rw [ha] at HI
    obtain ⟨t1, t2⟩ := take_allW ha
    have HTk : Hid (R.takeWhile notBl = R ∧ R.dropWhile notBl = []) := ⟨t1, t2⟩
    clear t1 t2
    go_wp2_with fail
    refine HI.out.mono ?_
    rintro e w2 ⟨rfl, bel2⟩
    have HT2 := HT1.out.below bel2
    have c1 := HT2.c1
    have f1 := HT2.f 1
    have HB2 : Hid (Below w.heap.size w w2) := HB1.out.trans (bel2.mono HB1.out.size)
    simp only [if_true]
    go_wp2
    go_ret
    refine ⟨?_, w2, HB2.out, ?_⟩
    · show Ending.returned (.string ((⟨R.toArray⟩ : ByteArray).extract 0 R.length)) = _
      rw [ex_list, HW.out.1, HTk.out.1, List.drop_zero, List.take_of_length_le (by simp)]
    · rw [HW.out.2, HTk.out.2]; rfl

end Go.Proofs.YtlkbbbbclmffjaaGreatDoor
set_option linter.unusedSimpArgs false
set_option linter.unusedVariables false
namespace Go.Proofs.YtlkbbbbclmffjaaGreatDoor
open Go Go.RowKit

theorem drop_bl : ∀ {l : List UInt8}, (l.dropWhile isBl).isEmpty = l.all isBl
  | [] => rfl
  | b :: r => by
    cases hb : isBl b
    · simp [hb]
    · simp only [List.dropWhile_cons, hb, if_true, List.all_cons, Bool.true_and]; exact drop_bl
theorem all_drop : ∀ {l : List UInt8}, (l.dropWhile isBl).all isBl = true → l.all isBl = true
  | [], _ => rfl
  | b :: r, h => by
    cases hb : isBl b
    · rw [List.dropWhile_cons, hb] at h
      simp [hb] at h
    · rw [List.dropWhile_cons, hb] at h
      rw [List.all_cons, hb]
      exact all_drop h
theorem trim_idle (l : List UInt8) : (Lib.trimS l [32, 9]).isEmpty = l.all isBl := by
  unfold Lib.trimS
  rw [trim_eq, drop_bl]
  unfold Lib.trimRightS
  rw [show (fun x => ([32, 9] : List UInt8).contains x) = isBl from funext con_bl]
  rw [List.all_reverse]
  cases h : l.all isBl
  · cases h2 : (l.reverse.dropWhile isBl).all isBl
    · rfl
    · have := all_drop h2
      rw [List.all_reverse, h] at this; cases this
  · have h1 : l.reverse.all isBl = true := by rw [List.all_reverse]; exact h
    rw [List.all_eq_true] at h1 ⊢
    intro x hx
    exact h1 x ((List.dropWhile_sublist isBl).subset hx)
theorem pre99 (s : ByteArray) : Lib.hasPrefix s.data.toList [99] = (s.data.toList.head? == some 99) := by
  cases s.data.toList with
  | nil => rfl
  | cons b r => simp [Lib.hasPrefix, List.isPrefixOf]; rw [Bool.eq_iff_iff]; simp; exact eq_comm

set_option maxHeartbeats 1600000 in
theorem idle_any (s : ByteArray) (w : World) (hs : s.size ≤ 281474976710656) :
    Calls Tryz.prog 68 #[.string s] w fun e w' => e = .returned (.bool (idleL s.data.toList)) ∧ Below w.heap.size w w' := by
  have hpp := pre99 s
  have HTr : Hid ((Lib.trimS s.data.toList [32, 9]).isEmpty = s.data.toList.all isBl) := trim_idle _
  have HId : Hid (idleL s.data.toList = ((s.data.toList.head? == some 99) || s.data.toList.all isBl)) := rfl
  cases hq : (s.data.toList.head? == some 99)
  · rw [hq] at hpp HId
    go_enter Tryz.func68, Tryz.ntmps68
    go_wp2_with fail
    refine (Tryz.strings_HasPrefix _ _ _).mono ?_
    rintro e w1 ⟨rfl, rfl⟩
    go_wp2_with fail
    refine (Tryz.strings_Trim_laid _ _ _ (by omega) (by decide) bl_ascii).mono ?_
    rw [show (⟨#[32, 9]⟩ : ByteArray).data.toList = [32, 9] from rfl]
    rintro e w2 ⟨rfl, bel2⟩
    have HB2 : Hid (Below w1.heap.size w1 w2) := bel2
    have hl := ba_list (⟨(Lib.trimS s.data.toList [32, 9]).toArray⟩ : ByteArray)
    rw [mk_list] at hl
    have HEm : Hid ((⟨(Lib.trimS s.data.toList [32, 9]).toArray⟩ : ByteArray).toList.isEmpty = idleL s.data.toList) := by show _ = _; rw [hl, HTr.out, HId.out]; rfl
    clear hl bel2
    generalize (⟨(Lib.trimS s.data.toList [32, 9]).toArray⟩ : ByteArray) = T at *
    go_wp2
    go_ret
    exact ⟨by rw [← HEm.out]; rfl, HB2.out⟩
  · rw [hq] at hpp HId
    go_enter Tryz.func68, Tryz.ntmps68
    go_wp2_with fail
    refine (Tryz.strings_HasPrefix _ _ _).mono ?_
    rintro e w1 ⟨rfl, rfl⟩
    go_wp2
    go_ret
    exact ⟨by rw [HId.out]; rfl, Below.refl _ _⟩

end Go.Proofs.YtlkbbbbclmffjaaGreatDoor
set_option linter.unusedSimpArgs false
set_option linter.unusedVariables false
namespace Go.Proofs.YtlkbbbbclmffjaaGreatDoor
open Go Go.RowKit

/-- where the first line feed stands: what is ahead of it, and behind -/
theorem cut_at : ∀ l : List UInt8, (Lib.indexByte l 10 = -1 ∧ cutN l = (l, [])) ∨ ∃ k : Nat, Lib.indexByte l 10 = (k : Int) ∧ k < l.length ∧ cutN l = (l.take k, l.drop (k + 1))
  | [] => .inl ⟨rfl, rfl⟩
  | b :: r => by
    unfold Lib.indexByte cutN
    cases hb : b == 10
    · rcases cut_at r with ⟨h1, h2⟩ | ⟨k, h1, h2, h3⟩
      · left; rw [h1, h2]; exact ⟨rfl, rfl⟩
      · right
        refine ⟨k + 1, ?_, by simp; omega, ?_⟩
        · rw [h1, if_neg (by simp), if_neg (by have : ((k : Int) == -1) = false := beq_eq_false_iff_ne.2 (by omega)
                                               rw [this]; simp)]
          omega
        · rw [h3]; simp
    · right
      exact ⟨0, by simp, by simp, by simp⟩

theorem ba_cut (s : ByteArray) (i j : Nat) : (s.extract i j) = ⟨((s.data.toList.drop i).take (j - i)).toArray⟩ := by
  apply ba_extW
  rw [ByteArray.data_extract, Array.toList_extract, List.extract_eq_take_drop]

set_option maxHeartbeats 1600000 in
theorem slCut_any (s : ByteArray) (w : World) (hs : s.size ≤ 281474976710656) :
    Calls Tryz.prog 79 #[.string s, .string ⟨#[10]⟩] w fun e w' => (∃ b, e = .returned (.tuple #[.string ⟨(cutN s.data.toList).1.toArray⟩, .string ⟨(cutN s.data.toList).2.toArray⟩, .bool b])) ∧ Below w.heap.size w w' := by
  have HLn : Hid (s.data.toList.length = s.size) := by show _ = _; cases s; simp [ByteArray.size]
  rcases cut_at s.data.toList with ⟨h1, h2⟩ | ⟨k, h1, h2, h3⟩
  · have HC : Hid (cutN s.data.toList = (s.data.toList, [])) := h2
    have HI := Tryz.stringslite_Index_one s 10 w
    rw [h1] at HI
    have HI' : Hid (Calls Tryz.prog 99 #[.string s, .string ⟨#[10]⟩] w fun e w' => e = .returned (.int .i64 (-1)) ∧ w' = w) := HI
    clear HI h1 h2
    go_enter Tryz.func79, Tryz.ntmps79
    go_wp2_with fail
    refine HI'.out.mono ?_
    rintro e w1 ⟨rfl, rfl⟩
    go_wp2
    go_returns
    rw [HC.out]
    exact ⟨⟨false, by congr 1⟩, Below.refl _ _⟩
  · have HC : Hid (cutN s.data.toList = (s.data.toList.take k, s.data.toList.drop (k + 1))) := h3
    have HI := Tryz.stringslite_Index_one s 10 w
    rw [h1] at HI
    have HI' : Hid (Calls Tryz.prog 99 #[.string s, .string ⟨#[10]⟩] w fun e w' => e = .returned (.int .i64 (k : Int)) ∧ w' = w) := HI
    have hk : k < s.size := by have := HLn.out; omega
    clear HI h1 h2 h3
    go_enter Tryz.func79, Tryz.ntmps79
    go_wp2_with fail
    refine HI'.out.mono ?_
    rintro e w1 ⟨rfl, rfl⟩
    go_wp2_with fail
    go_quiet (fail)
    go_wp2
    go_returns
    rw [HC.out]
    refine ⟨⟨true, ?_⟩, below_drewN _ _⟩
    show Ending.returned (.tuple #[.string (s.extract 0 k), .string (s.extract (k + 1) s.size), .bool true]) = _
    rw [ba_cut, ba_cut, List.drop_zero, List.take_of_length_le (l := s.data.toList.drop (k + 1)) (by rw [List.length_drop, HLn.out]; omega)]
    rfl
set_option maxHeartbeats 1600000 in
theorem cut_any (s : ByteArray) (w : World) (hs : s.size ≤ 281474976710656) :
    Calls Tryz.prog 67 #[.string s, .string ⟨#[10]⟩] w fun e w' => (∃ b, e = .returned (.tuple #[.string ⟨(cutN s.data.toList).1.toArray⟩, .string ⟨(cutN s.data.toList).2.toArray⟩, .bool b])) ∧ Below w.heap.size w w' := by
  have HC : Hid (Calls Tryz.prog 79 #[.string s, .string ⟨#[10]⟩] w fun e w' => (∃ b, e = .returned (.tuple #[.string ⟨(cutN s.data.toList).1.toArray⟩, .string ⟨(cutN s.data.toList).2.toArray⟩, .bool b])) ∧ Below w.heap.size w w') := slCut_any s w hs
  generalize cutN s.data.toList = C at *
  go_enter Tryz.func67, Tryz.ntmps67
  go_wp2_with fail
  refine HC.out.mono ?_
  rintro e w1 ⟨⟨b, rfl⟩, bel1⟩
  have HB : Hid (Below w.heap.size w w1) := bel1
  go_wp2
  go_returns
  exact ⟨⟨b, rfl⟩, HB.out⟩

end Go.Proofs.YtlkbbbbclmffjaaGreatDoor

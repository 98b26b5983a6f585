/-
  DimacsLong, walked.
  KEEP: set on app at below new trans refl start ap kept rd rds mono nil form grown rdz out len row own one nilA belowA text push bad cons some none h x ex walk rdb tens
-/
import Derived.Test.YtpebpnbikdahkaaDoorAnW
import Derived.Test.YtpebpnbikdahkaaDoorWaW
import Derived.Test.YtpebpnbikdahkaaDoorSameBs
import Derived.Test.YtpebpnbikdahkaaDoorLgP
set_option linter.unusedSimpArgs false
set_option linter.unusedVariables false
namespace Go.Proofs.YtpebpnbikdahkaaDoor.dimacsLong
open Go Go.RowKit

theorem bd_len (s : ByteArray) : s.data.toList.length = s.size := by cases s; simp [ByteArray.size]
theorem bd_drop {s : ByteArray} {k : Nat} (h : k < s.size) : s.data.toList.drop k = s[k] :: s.data.toList.drop (k + 1) := by
  have hl : k < s.data.toList.length := by cases s; simpa [ByteArray.size] using h
  rw [List.drop_eq_getElem_cons hl]; rfl
theorem cur_mr {s : ByteArray} {f k : Nat} (h : k < s.size) (hf : f ≤ k) : (s.data.toList.drop f).take (k + 1 - f) = (s.data.toList.drop f).take (k - f) ++ [s[k]] := by
  have hl : k < s.data.toList.length := by rw [bd_len]; exact h
  rw [show k + 1 - f = (k - f) + 1 by omega, List.take_add_one, List.getElem?_drop, show f + (k - f) = k by omega, List.getElem?_eq_getElem hl]
  rfl
/-- the line so far -/
def cur (s : ByteArray) (f i : Nat) : List UInt8 := (s.data.toList.drop f).take (i - f)
theorem cur_len {s : ByteArray} {f i : Nat} (hf : f ≤ i) (hi : i ≤ s.size) : (cur s f i).length = i - f := by
  unfold cur; rw [List.length_take, List.length_drop, bd_len]; omega
theorem cur_two {s : ByteArray} {f i n : Nat} (hf : f ≤ i) (hi : i ≤ s.size) (hn : n < ((cur s f i).drop 2).length) : f + 2 + n < i ∧ ∃ h : f + 2 + n < s.size, ((cur s f i).drop 2)[n] = s[f + 2 + n] := by
  have h1 := hn
  rw [List.length_drop, cur_len hf hi] at h1
  have h2 : f + 2 + n < s.size := by omega
  refine ⟨by omega, h2, ?_⟩
  have h3 : f + 2 + n < s.data.toList.length := by rw [bd_len]; exact h2
  have e : ((cur s f i).drop 2)[n]? = s.data.toList[f + 2 + n]? := by
    unfold cur
    rw [List.getElem?_drop, List.getElem?_take_of_lt (by omega), List.getElem?_drop, show f + (2 + n) = f + 2 + n by omega]
  rw [List.getElem?_eq_getElem hn, List.getElem?_eq_getElem h3] at e
  injection e
theorem wrd_on {s : ByteArray} {f i n : Nat} (hf : f ≤ i) (hi : i ≤ s.size) (hn : n < wrdN (cur s f i)) : f + 2 + n < i ∧ ∃ h : f + 2 + n < s.size, s[f + 2 + n] ≠ 32 := by
  unfold wrdN at hn
  have hl : n < ((cur s f i).drop 2).length := Nat.lt_of_lt_of_le hn (List.takeWhile_sublist _).length_le
  obtain ⟨h1, h2, h3⟩ := cur_two hf hi hl
  refine ⟨h1, h2, fun e => ?_⟩
  have := (wrd_step _ n (Nat.le_of_lt hn)).2.1 hl (h3.trans e)
  omega
theorem wrd_off {s : ByteArray} {f i n : Nat} (hf : f ≤ i) (hi : i ≤ s.size) (hn : n = wrdN (cur s f i)) (hj : f + 2 + n < i) : ∃ h : f + 2 + n < s.size, s[f + 2 + n] = 32 := by
  unfold wrdN at hn
  have hl : n < ((cur s f i).drop 2).length := by rw [List.length_drop, cur_len hf hi]; omega
  obtain ⟨h1, h2, h3⟩ := cur_two hf hi hl
  refine ⟨h2, Classical.byContradiction fun e => ?_⟩
  have := (wrd_step _ n (Nat.le_of_eq hn)).1 hl (fun q => e (h3.symm.trans q))
  omega
theorem wrd_le (c : List UInt8) : wrdN c ≤ c.length := by
  unfold wrdN
  have h1 := (List.takeWhile_sublist (fun b : UInt8 => b != 32) (l := c.drop 2)).length_le
  rw [List.length_drop] at h1
  omega
theorem scn_10 {r c : List UInt8} {l k : Nat} (h : scn (10 :: r) c l k = true) : c.length ≤ 78 ∧ (1 < k → 78 < l + 1 + wrdN c) ∧ scn r [] c.length (k + 1) = true := by
  rw [scn, if_pos rfl, Bool.and_eq_true, Bool.and_eq_true] at h
  obtain ⟨⟨h1, h2⟩, h3⟩ := h
  refine ⟨of_decide_eq_true h1, fun hk => ?_, h3⟩
  rw [decide_eq_true hk, Bool.true_and] at h2
  have : ¬ (l + 1 + wrdN c ≤ 78) := fun q => by rw [decide_eq_true q] at h2; cases h2
  omega
theorem scn_no {b : UInt8} {r c : List UInt8} {l k : Nat} (hb : b ≠ 10) (h : scn (b :: r) c l k = true) : scn r (c ++ [b]) l k = true := by
  rw [scn, if_neg hb] at h; exact h
theorem lastB {s : ByteArray} {T : List UInt8} (h : s.data.toList = T ++ [10]) : ∃ (M : Nat) (hM : M < s.size), s.size = M + 1 ∧ s[M] = 10 := by
  have hl : s.size = T.length + 1 := by rw [← bd_len, h]; simp
  refine ⟨T.length, by omega, hl, ?_⟩
  have e : s.data.toList[T.length]? = some 10 := by rw [h]; simp
  have h2 : T.length < s.data.toList.length := by rw [bd_len]; omega
  rw [List.getElem?_eq_getElem h2] at e
  injection e
set_option maxHeartbeats 3200000 in
set_option maxRecDepth 100000 in
theorem walk (sat : Bool) (vm : Value) (m : List Bool) (w : World) (hm : RdB w vm m) (_ : 0 ≤ m.length) (ht : TensY w) :
    Calls Tryd.prog 3 #[.bool sat, vm] w fun e w' => e = .returned (.bool true) ∧ RowKit.Below w.heap.size w w' := by
  have hml := hm.1
  have HM : Hid (∀ W, RowKit.Below w.heap.size w W → RdB W vm m ∧ TensY W) := fun W hW => ⟨hm.below hW, ht.below hW⟩
  obtain ⟨am, cm, rfl, -⟩ := hm.form
  clear hm ht
  by_cases hbig : 1048576 < m.length
  · go_enter Tryd.func3, Tryd.ntmps3
    go_wp2_with fail
    go_ret
    exact ⟨rfl, Below.refl _ _⟩
  · have hl : m.length ≤ 1048576 := by omega
    have HC : Hid (Calls Tryd.prog 5 #[.slice am m.length cm] w fun e w' => ∃ u, e = .returned u ∧ RdB w' u m ∧ RowKit.Below w.heap.size w w') := (copyBools_any _ m w (HM.out w (Below.refl _ _)).1 (by omega)).mono fun e w' hh => by
      obtain ⟨u, h1, h2, h3⟩ := hh
      exact ⟨u, h1, h2.rd (by omega), h3⟩
    obtain ⟨s, hs⟩ : ∃ s : ByteArray, (⟨(ansF sat m).toArray⟩ : ByteArray) = s := ⟨_, rfl⟩
    have hsd : s.data.toList = ansF sat m := by rw [← hs]
    have HW : Hid (∀ W u, RowKit.Below w.heap.size w W → RdB W u m → Calls Tryd.prog 4 #[.bool sat, u] W fun e w' => e = .returned (.string s) ∧ RowKit.Below W.heap.size W w') := fun W u hW hu => by
      have := writeAnswer_any sat u m W hu hl (HM.out W hW).2
      rw [hs] at this
      exact this
    have hlong : s.size ≤ 100000000 := by
      rw [← bd_len, hsd]
      cases sat
      · exact (by decide : unsL.length ≤ 100000000)
      · exact ans_long m hl
    have hrd : anF s.data.toList = ⟨sat, if sat then m else [], 0, 0⟩ := by
      rw [hsd]
      cases sat
      · exact uns_read
      · exact ans_read m hl
    have HR : Hid (∀ W, Calls Tryd.prog 6 #[.string s] W fun e w' => ∃ v, e = .returned (.tuple #[.bool sat, v, .int .i64 0, .int .i64 0]) ∧ RdB w' v (if sat then m else []) ∧ RowKit.Below W.heap.size W w') := fun W => by
      have h5 := dimAnswer_any s W (by rw [bd_len]; omega)
      rw [hrd] at h5
      refine h5.mono fun e w' hh => ?_
      obtain ⟨v, h1, h2, h3⟩ := hh
      refine ⟨v, h1, h2.rd ?_, h3⟩
      dsimp only
      split
      · omega
      · simp
    obtain ⟨M, hMl, hM, hM10⟩ : ∃ (M : Nat) (hM : M < s.size), s.size = M + 1 ∧ s[M] = 10 := by
      cases sat
      · exact lastB (T := unsW) (by rw [hsd]; rfl)
      · obtain ⟨T, hT⟩ := ans_end m
        exact lastB (T := T) (by rw [hsd]; exact hT)
    have HSc : Hid (sat = true → scn s.data.toList [] 0 0 = true) := fun e => by
      subst e
      rw [hsd]; exact scn_ans m hl
    clear hs hsd hrd
    have hq0 : ((s.size : Int) == 0) = false := beq_eq_false_iff_ne.2 (by omega)
    have hsb : ((s.size : Int) - 1) = (M : Int) := by omega
    have hlb : ((s[M].toNat : Int) != 10) = false := by rw [hM10]; rfl
    clear hM
    cases sat with
    | false =>
      go_enter Tryd.func3, Tryd.ntmps3
      go_upto_region 5 with (first | (go_at_call 5; refine HC.out.mono ?_; rintro e w1 ⟨u, rfl, g1, g2⟩; have H1 : Hid (RdB w1 u m ∧ RowKit.Below w.heap.size w w1) := ⟨g1, g2⟩; clear g1 g2) | (go_at_call 4; refine (HW.out _ _ H1.out.2 H1.out.1).mono ?_; rintro e w2 ⟨rfl, g2⟩; have H2 : Hid (RowKit.Below w.heap.size w w2) := Below.step H1.out.2 g2; clear g2) | (go_at_call 6; refine (HR.out _).mono ?_; rintro e w3 ⟨v, rfl, g1, g2⟩; obtain ⟨av, cv, rfl, -⟩ := g1.form; have H3 : Hid (RowKit.Below w.heap.size w w3) := Below.step H2.out g2; clear g1 g2))
      go_wp2_with fail
      go_ret
      exact ⟨rfl, H3.out⟩
    | true =>
      go_enter Tryd.func3, Tryd.ntmps3
      go_upto_region 5 with (first | (go_at_call 5; refine HC.out.mono ?_; rintro e w1 ⟨u, rfl, g1, g2⟩; have H1 : Hid (RdB w1 u m ∧ RowKit.Below w.heap.size w w1) := ⟨g1, g2⟩; clear g1 g2) | (go_at_call 4; refine (HW.out _ _ H1.out.2 H1.out.1).mono ?_; rintro e w2 ⟨rfl, g2⟩; have H2 : Hid (RowKit.Below w.heap.size w w2) := Below.step H1.out.2 g2; clear g2) | (go_at_call 6; refine (HR.out _).mono ?_; rintro e w3 ⟨v, rfl, g1, g2⟩; obtain ⟨av, cv, rfl, -⟩ := g1.form; have H3 : Hid (RowKit.Below w.heap.size w w3) := Below.step H2.out g2; have H4 : Hid (RdB w3 (.slice av m.length cv) m) := g1; clear g1 g2))
      go_upto_region 10 with fail
      have HS0 : Hid (scn s.data.toList [] 0 0 = true) := HSc.out (by first | rfl | trivial)
      have HSm : Hid (Calls Tryd.prog 7 #[.slice am m.length cm, .slice av m.length cv] w3 fun e w' => e = .returned (.bool true) ∧ RowKit.Below w.heap.size w w') := (sameBools_any _ _ m m w3 (HM.out w3 H3.out).1 H4.out).mono fun e w' hh => ⟨by rw [hh.1]; simp, Below.step H3.out hh.2⟩
      clear HC HW HR HSc H1 H2 hq0 hsb hlb hM10
      go_wp2_with fail
      go_loopg [10, 11, 12, 13] s.size (fun g f l k i wr => ∃ (i0 f0 l0 k0 : Nat), i0 + g = s.size ∧ i = .int .i64 (i0 : Int) ∧ f = .int .i64 (f0 : Int) ∧ l = .int .i64 (l0 : Int) ∧ k = .int .i64 (k0 : Int) ∧ f0 ≤ i0 ∧ l0 ≤ i0 ∧ k0 ≤ i0 ∧ scn (s.data.toList.drop i0) (cur s f0 i0) l0 k0 = true ∧ w3 = wr)
      case atStart => exact ⟨0, 0, 0, 0, by omega, rfl, rfl, rfl, rfl, by omega, by omega, by omega, HS0.out, rfl⟩
      case round =>
        obtain ⟨i0, f0, l0, k0, hi, rfl, rfl, rfl, rfl, hf, hl0, hk0, hsc, rfl⟩ := hrel
        have HI : Hid (i0 + gk = s.size) := hi
        have HSn : Hid (scn (s.data.toList.drop i0) (cur s f0 i0) l0 k0 = true) := hsc
        clear hi hsc
        by_cases hlt : i0 < s.size
        · have HD : Hid (s.data.toList.drop i0 = s[i0] :: s.data.toList.drop (i0 + 1)) := bd_drop hlt
          have HCu : Hid (cur s f0 (i0 + 1) = cur s f0 i0 ++ [s[i0]]) := cur_mr hlt hf
          have hyl : s[i0].toNat < 256 := s[i0].toNat_lt
          by_cases hb : s[i0] = 10
          · have hb2 : ((s[i0].toNat : Int) != 10) = false := by rw [hb]; rfl
            have hN : (cur s f0 i0).length ≤ 78 ∧ (1 < k0 → 78 < l0 + 1 + wrdN (cur s f0 i0)) ∧ scn (s.data.toList.drop (i0 + 1)) [] (cur s f0 i0).length (k0 + 1) = true := scn_10 (by rw [← hb, ← HD.out]; exact HSn.out)
            rw [cur_len hf (Nat.le_of_lt hlt)] at hN
            obtain ⟨n1, n2, n3⟩ := hN
            have HN : Hid (scn (s.data.toList.drop (i0 + 1)) (cur s (i0 + 1) (i0 + 1)) (i0 - f0) (k0 + 1) = true) := by
              show _ = _
              have e : cur s (i0 + 1) (i0 + 1) = [] := by unfold cur; simp
              rw [e]; exact n3
            have HOn : Hid (∀ n, n < wrdN (cur s f0 i0) → f0 + 2 + n < i0 ∧ ∃ h : f0 + 2 + n < s.size, s[f0 + 2 + n] ≠ 32) := fun n hn => wrd_on hf (Nat.le_of_lt hlt) hn
            have HOf : Hid (∀ n, n = wrdN (cur s f0 i0) → f0 + 2 + n < i0 → ∃ h : f0 + 2 + n < s.size, s[f0 + 2 + n] = 32) := fun n hn hj => wrd_off hf (Nat.le_of_lt hlt) hn hj
            have hnw : wrdN (cur s f0 i0) ≤ 78 := Nat.le_trans (wrd_le _) (by rw [cur_len hf (Nat.le_of_lt hlt)]; exact n1)
            clear n3 HSn HD HCu
            generalize wrdN (cur s f0 i0) = nw at *
            have HNw : Hid (1 < k0 → 78 < l0 + 1 + nw) := n2
            clear n2
            go_wp2_with fail
            generalize gk = G at *
            go_loopg [14, 15] nw (fun g x j wr => ∃ n : Nat, n + g = nw ∧ x = .int .i64 (n : Int) ∧ j = .int .i64 ((f0 : Int) + 2 + (n : Int)) ∧ w3 = wr)
            case atStart => exact ⟨0, by omega, rfl, by simp, rfl⟩
            case round =>
              obtain ⟨n, hn, rfl, rfl, rfl⟩ := hrel
              have HNn : Hid (n + gk = nw) := hn
              by_cases hlw : n < nw
              · obtain ⟨h1, h2, h3⟩ := HOn.out n hlw
                have h4 : ((s[f0 + 2 + n].toNat : Int) != 32) = true := by
                  refine bne_iff_ne.2 fun e => h3 ?_
                  have : s[f0 + 2 + n].toNat = 32 := by omega
                  exact UInt8.toNat_inj.1 this
                have h5 : ((f0 : Int) + 2 + (n : Int)).toNat = f0 + 2 + n := by omega
                clear hn h3
                go_wp2_with fail
                go_roundg (gk - 1)
                case measure => have := HNn.out; omega
                case rel => exact ⟨n + 1, by have := HNn.out; omega, by go_num, by go_num, rfl⟩
              · obtain rfl : n = nw := by omega
                clear hlw hn HNn
                by_cases hj : f0 + 2 + n < i0
                · obtain ⟨h2, h3⟩ := HOf.out n rfl hj
                  have h4 : ((s[f0 + 2 + n].toNat : Int) != 32) = false := by rw [h3]; rfl
                  by_cases hk1 : 1 < k0
                  · have hn3 := HNw.out hk1
                    have e78 : decide ((l0 : Int) + 1 + (n : Int) ≤ 78) = false := decide_eq_false (by omega)
                    have e79 : decide ((1 : Int) < (k0 : Int)) = true := decide_eq_true (by omega)
                    have e80 : decide ((78 : Int) < (i0 : Int) - (f0 : Int)) = false := decide_eq_false (by omega)
                    go_wp2_with fail
                    go_roundg (G - 1)
                    case measure => have := HI.out; omega
                    case rel => exact ⟨i0 + 1, i0 + 1, i0 - f0, k0 + 1, by have := HI.out; omega, by go_num, by go_num, by go_num, by go_num, by omega, by omega, by omega, HN.out, rfl⟩
                  · go_wp2_with fail
                    go_roundg (G - 1)
                    case measure => have := HI.out; omega
                    case rel => exact ⟨i0 + 1, i0 + 1, i0 - f0, k0 + 1, by have := HI.out; omega, by go_num, by go_num, by go_num, by go_num, by omega, by omega, by omega, HN.out, rfl⟩
                · by_cases hk1 : 1 < k0
                  · have hn3 := HNw.out hk1
                    have e78 : decide ((l0 : Int) + 1 + (n : Int) ≤ 78) = false := decide_eq_false (by omega)
                    have e79 : decide ((1 : Int) < (k0 : Int)) = true := decide_eq_true (by omega)
                    have e80 : decide ((78 : Int) < (i0 : Int) - (f0 : Int)) = false := decide_eq_false (by omega)
                    go_wp2_with fail
                    go_roundg (G - 1)
                    case measure => have := HI.out; omega
                    case rel => exact ⟨i0 + 1, i0 + 1, i0 - f0, k0 + 1, by have := HI.out; omega, by go_num, by go_num, by go_num, by go_num, by omega, by omega, by omega, HN.out, rfl⟩
                  · go_wp2_with fail
                    go_roundg (G - 1)
                    case measure => have := HI.out; omega
                    case rel => exact ⟨i0 + 1, i0 + 1, i0 - f0, k0 + 1, by have := HI.out; omega, by go_num, by go_num, by go_num, by go_num, by omega, by omega, by omega, HN.out, rfl⟩
          · have hb2 : ((s[i0].toNat : Int) != 10) = true := by
              refine bne_iff_ne.2 fun e => hb ?_
              have : s[i0].toNat = 10 := by omega
              exact UInt8.toNat_inj.1 this
            have HN : Hid (scn (s.data.toList.drop (i0 + 1)) (cur s f0 (i0 + 1)) l0 k0 = true) := by
              show _ = _
              rw [HCu.out]
              exact scn_no hb (by rw [← HD.out]; exact HSn.out)
            clear HSn HD HCu
            go_wp2_with fail
            go_roundg (gk - 1)
            case measure => have := HI.out; omega
            case rel => exact ⟨i0 + 1, f0, l0, k0, by have := HI.out; omega, by go_num, rfl, rfl, rfl, by omega, by omega, by omega, HN.out, rfl⟩
        · clear HSn
          go_wp2_with (go_at_call 7; refine HSm.out.mono ?_; rintro e w6 ⟨rfl, g1⟩; have H6 : Hid (RowKit.Below w.heap.size w w6) := g1; clear g1)
          go_ret
          exact ⟨rfl, H6.out⟩
end Go.Proofs.YtpebpnbikdahkaaDoor.dimacsLong

/-
  The law ControlIdle, walked.
  KEEP: walk below len form out each rd mono nil own row set on app start grown at new one
-/
import Derived.Test.YtbeaoekbppdlmaaDoorKCpI
import Derived.Test.YtbeaoekbppdlmaaDoorKWrF
import Derived.Test.YtbeaoekbppdlmaaDoorKAwS
import Derived.Test.YtbeaoekbppdlmaaDoorKSmA
import Derived.Test.YtbeaoekbppdlmaaDoorKWtN
import Derived.Test.YtbeaoekbppdlmaaDoorKCrE
set_option linter.unusedSimpArgs false
set_option linter.unusedVariables false
namespace Go.Proofs.YtbeaoekbppdlmaaDoor.controlIdle
open Go Go.RowKit

/-- does a line begin at place j -/
def bgF (S : List UInt8) (j : Nat) : Bool := (j == 0) || (S.getD (j - 1) 0 == 10)
theorem bg_next (S : List UInt8) (j : Nat) : bgF S (j + 1) = (S.getD j 0 == 10) := by simp [bgF]
/-- what goes ahead of byte j, and how many numbers are used up -/
def prF (bg : Bool) (b : UInt8) (zs : List Int) (q : Nat) : List UInt8 := if bg = true ∧ q < zs.length then preT b (zs.getD q 0) else []
def nqF (bg : Bool) (zs : List Int) (q : Nat) : Nat := if bg = true ∧ q < zs.length then q + 1 else q
theorem ins_step (S : List UInt8) (zs : List Int) (j q : Nat) (hj : j < S.length) :
    insT (bgF S j) (S.drop j) (zs.drop q) = prF (bgF S j) (S.getD j 0) zs q ++ (S.getD j 0 :: insT (bgF S (j + 1)) (S.drop (j + 1)) (zs.drop (nqF (bgF S j) zs q))) := by
  have e : S.drop j = S.getD j 0 :: S.drop (j + 1) := by rw [List.drop_eq_getElem_cons hj]; simp [List.getD_eq_getElem?_getD, hj]
  rw [e, bg_next]
  unfold prF nqF
  cases hb : bgF S j
  · rw [if_neg (by simp), if_neg (by simp), insT]; rfl
  · by_cases hq : q < zs.length
    · rw [if_pos ⟨rfl, hq⟩, if_pos ⟨rfl, hq⟩]
      have e2 : zs.drop q = zs.getD q 0 :: zs.drop (q + 1) := by rw [List.drop_eq_getElem_cons hq]; simp [List.getD_eq_getElem?_getD, hq]
      rw [e2, insT]
    · have e3 : zs.drop q = [] := List.drop_eq_nil_of_le (by omega)
      rw [if_neg (fun h => hq h.2), if_neg (fun h => hq h.2), e3, insT]; rfl

theorem wrap_tmod (y n : Int) (h0 : 0 < n) (h1 : n < 1000) : IntKind.i64.wrap (y.tmod n) = y.tmod n := by
  have h2 : (y.tmod n).natAbs < 1000 := by
    rw [Int.natAbs_tmod]
    have := Nat.mod_lt y.natAbs (show 0 < n.natAbs by omega)
    omega
  rw [IntKind.wrap_i64]; omega
set_option maxHeartbeats 6400000 in
set_option maxRecDepth 100000 in
theorem walk (v : Value) (l : List Stz) (u : Value) (zs : List Int) (W : World) (hr : RdSt W v l) (hu : Rd W u zs) (hb : stzN l ≤ 1048576) (hb2 : zs.length ≤ 1048576) :
    Calls Tryd.prog 6 #[v, u] W fun e w' => e = .returned (.bool true) ∧ Below W.heap.size W w' := by
  have HR : Hid (RdSt W v l) := hr
  have HU : Hid (Rd W u zs) := hu
  obtain ⟨a, c, rfl, -⟩ := hr.form
  obtain ⟨ua, uc, rfl, -⟩ := hu.form
  have hsz := stzN_sz hb
  have htf := totF_le l
  have htw := wrtF_len l
  have HCp : Hid (∀ w, RdSt w (.slice a l.length c) l → Calls Tryd.prog 17 #[.slice a l.length c] w fun e w' => ∃ v' L, e = .returned v' ∧ OwnSt w.heap.size w' v' L ∧ sgS L = l ∧ Below w.heap.size w w') := fun w h => copied21 _ _ w h
  have HWp : Hid (∀ w v, RdSt w v l → Calls Tryd.prog 8 #[v] w fun e w' => e = .returned (.tuple #[.string ⟨(wrS21 l).toArray⟩, .int .i64 (wrE21 l)]) ∧ Below w.heap.size w w') := fun w v h => by
    rw [← wrAns_form21]; exact write21 v l w h (fun s hs f hf => by have := hsz s hs f hf; omega) (by omega) (by omega)
  have HOr : Hid (∀ B W v L, OwnSt B W v L → sgS L = l → RdSt W v l) := fun B W v L h e => own_rd h e hb
  have HAw : Hid (∀ w, Calls Tryd.prog 18 #[] w fun e w' => e = .returned (.bool true) ∧ Below w.heap.size w w') := awake21
  cases hfm : fmdL l
  case false =>
    have hS : wrS21 l = [] := by unfold wrS21; rw [hfm]; rfl
    have hE : wrE21 l = 1 := by unfold wrE21; rw [hfm]; rfl
    rw [hS, hE] at HWp
    clear hS hE hfm hr hu hsz htf htw hb hb2
    go_enter Tryd.func6, Tryd.ntmps6
    go_wp2_with fail
    refine (HCp.out _ HR.out).mono ?_
    rintro e w1 ⟨v1, L1, rfl, own1, hL1, bel1⟩
    have HR1 : Hid (RdSt w1 v1 l) := HOr.out _ _ _ _ own1 hL1
    have HB1 : Hid (Below W.heap.size W w1) := bel1
    clear own1 hL1 bel1
    go_wp2_with fail
    refine (HWp.out _ _ HR1.out).mono ?_
    rintro e w2 ⟨rfl, bel2⟩
    have HB2 : Hid (Below W.heap.size W w2) := HB1.out.trans (bel2.mono HB1.out.size)
    clear bel2 HB1
    go_wp2_with (go_at_call 18; refine (HAw.out _).mono ?_; rintro e w5 ⟨rfl, bel5⟩; have HB5 : Hid (Below W.heap.size W w5) := HB2.out.trans (bel5.mono HB2.out.size); clear bel5)
    all_goals
      go_ret
      exact ⟨rfl, HB5.out⟩
  case true =>
    have hS : wrS21 l = wrtF l := by unfold wrS21; rw [hfm]; rfl
    have hE : wrE21 l = 0 := by unfold wrE21; rw [hfm]; rfl
    rw [hS, hE] at HWp
    have hil := insT_len true (wrtF l) zs
    have HRe : Hid (∀ w, Calls Tryd.prog 19 #[.string ⟨(headT ++ (insT true (wrtF l) zs ++ tailT)).toArray⟩] w fun e w' => ∃ a' c' m, e = .returned (.tuple #[.slice a' m.length c', .int .i64 0, .int .i64 0]) ∧ RdSt w' (.slice a' m.length c') m ∧ SmL false l m ∧ Below w.heap.size w w') := fun w => by
      obtain ⟨m, h1, h2⟩ := idle21 zs hfm
      have hln : (headT ++ (insT true (wrtF l) zs ++ tailT)).length ≤ 1073741824 := by
        simp only [List.length_append, show headT.length = 9 from rfl, show tailT.length = 10 from rfl]; omega
      have hR := read21 ⟨(headT ++ (insT true (wrtF l) zs ++ tailT)).toArray⟩ w (by rw [sizeL]; omega)
      rw [strV_list] at hR
      refine hR.mono fun e w' h => ?_
      rcases rd_ans (by omega) h with ⟨c, ln, q, _⟩ | ⟨v, l2, q, he, hr, hb, _⟩
      · rw [h1] at q; cases q
      · rw [h1] at q
        injection q with q
        subst q
        obtain ⟨a', c', rfl, -⟩ := hr.form
        exact ⟨a', c', m, he, hr, h2, hb⟩
    obtain ⟨S, hSd⟩ : ∃ S, S = wrtF l := ⟨_, rfl⟩
    have hSl : S.length ≤ 4194304 := by rw [hSd]; omega
    rw [← hSd] at HWp HRe hil
    have HGl2 : Hid (headT.length + (insT true S zs).length ≤ 1000000000) := by
      show _ ≤ _
      rw [show headT.length = 9 from rfl]; omega
    have HGl : Hid (headT.length + (insT true S zs).length + tailT.length ≤ 1073741824) := by
      show _ ≤ _
      rw [show headT.length = 9 from rfl, show tailT.length = 10 from rfl]; omega
    clear hS hE hfm hr hu hsz htf htw hb hSd hil
    go_enter Tryd.func6, Tryd.ntmps6
    go_wp2_with fail
    refine (HCp.out _ HR.out).mono ?_
    rintro e w1 ⟨v1, L1, rfl, own1, hL1, bel1⟩
    have HR1 : Hid (RdSt w1 v1 l) := HOr.out _ _ _ _ own1 hL1
    have HB1 : Hid (Below W.heap.size W w1) := bel1
    clear own1 hL1 bel1
    go_wp2_with fail
    refine (HWp.out _ _ HR1.out).mono ?_
    rintro e w2 ⟨rfl, bel2⟩
    have HB2 : Hid (Below W.heap.size W w2) := HB1.out.trans (bel2.mono HB1.out.size)
    clear bel2 HB1 HR1 HWp HOr HCp
    go_upto_region 4 with fail
    have HSz : Hid ((⟨S.toArray⟩ : ByteArray).size = S.length) := sizeL S
    have HAt : Hid (∀ j (hj : j < (⟨S.toArray⟩ : ByteArray).size), (⟨S.toArray⟩ : ByteArray)[j] = S.getD j 0) := fun j hj => by
      rw [sizeL] at hj
      show S.toArray[j] = _
      simp [List.getD_eq_getElem?_getD, hj]
    have hsb : (⟨S.toArray⟩ : ByteArray).size ≤ 4194304 := by rw [sizeL]; exact hSl
    generalize (⟨S.toArray⟩ : ByteArray) = SB at *
    go_wp2_with fail
    have HT0 : Hid (headT ++ insT (bgF S 0) (S.drop 0) (zs.drop 0) = headT ++ insT true S zs) := rfl
    obtain ⟨GG, hGG⟩ : ∃ GG, GG = headT ++ insT true S zs := ⟨_, rfl⟩
    rw [← hGG] at HT0
    have HGG : Hid (GG = headT ++ insT true S zs) := hGG
    have hGl : GG.length + 10 ≤ 1073741824 := by have := HGl.out; rw [hGG, List.length_append]; rw [show tailT.length = 10 from rfl] at this; exact this
    have HGq : Hid (GG.length + 10 ≤ 1073741824) := hGl
    have HGs : Hid (GG.length ≤ 1073741724) := by have := HGl2.out; rw [hGG, List.length_append]; rw [show headT.length = 9 from rfl] at this ⊢; exact Nat.le_trans this (by omega)
    clear hGG hGl HGl
    go_loopg [7, 8, 9] SB.size (fun g x7 x8 x9 wr => ∃ (j q : Nat) (T : List UInt8), j + g = SB.size ∧ x9 = .int .i64 j ∧ x8 = .int .i64 q ∧ x7 = .string ⟨T.toArray⟩ ∧ q ≤ zs.length ∧ Hid (T ++ insT (bgF S j) (S.drop j) (zs.drop q) = GG) ∧ Hid (Below W.heap.size W wr))
    case atStart => exact ⟨0, 0, headT, by omega, rfl, rfl, rfl, by omega, HT0.out, HB2.out⟩
    case round =>
      obtain ⟨j, q, T, hj, rfl, rfl, rfl, hq, HK, HB⟩ := hrel
      have HG : Hid (j + gk = SB.size) := hj
      clear HT0 HB2
      by_cases hlt : j < SB.size
      · have hat := HAt.out j hlt
        have hst : T ++ (prF (bgF S j) (S.getD j 0) zs q ++ (S.getD j 0 :: insT (bgF S (j + 1)) (S.drop (j + 1)) (zs.drop (nqF (bgF S j) zs q)))) = GG := by rw [← ins_step S zs j q (by rw [← HSz.out]; exact hlt)]; exact HK.out
        obtain ⟨z, hz⟩ : ∃ z : Int, z = ((S.getD j 0).toNat : Nat) := ⟨_, rfl⟩
        have hzz : ((SB[j]'hlt).toNat : Int) = z := by rw [hat, hz]
        have hprev : 0 < j → ∃ (h1 : j - 1 < SB.size), SB[j - 1]'h1 = S.getD (j - 1) 0 := fun h => ⟨by omega, HAt.out _ _⟩
        have HZ : Hid (z = ((S.getD j 0).toNat : Nat)) := hz
        have HSt : Hid (T ++ (prF (bgF S j) (S.getD j 0) zs q ++ (S.getD j 0 :: insT (bgF S (j + 1)) (S.drop (j + 1)) (zs.drop (nqF (bgF S j) zs q)))) = GG) := hst
        clear HK hst hat hj hz
        go_upto_region 9 with fail
        go_cut [10] from 30 to 39 (fun t wx => t = .bool (bgF S j) ∧ wx = wr)
        case first =>
          by_cases h0 : j = 0
          · subst h0
            go_wp2_with fail
            go_meet
            exact ⟨rfl, rfl⟩
          · obtain ⟨h1, h2⟩ := hprev (by omega)
            have hb0 : bgF S j = ((S.getD (j - 1) 0) == 10) := by unfold bgF; rw [show (j == 0) = false from beq_eq_false_iff_ne.2 h0]; rfl
            obtain ⟨y, hy⟩ : ∃ y : Int, y = ((S.getD (j - 1) 0).toNat : Nat) := ⟨_, rfl⟩
            have hyy : ((SB[j - 1]'h1).toNat : Int) = y := by rw [h2, hy]
            have hb1 : bgF S j = (y == 10) := by
              rw [hb0, hy, Bool.eq_iff_iff, beq_iff_eq, beq_iff_eq]
              constructor
              · intro e; rw [e]; rfl
              · intro e; exact UInt8.toNat_inj.1 (by have : (10 : UInt8).toNat = 10 := rfl; omega)
            have HBg : Hid (bgF S j = (y == 10)) := hb1
            have hj1 : (j : Int) - 1 = ((j - 1 : Nat) : Int) := by omega
            have hjw : IntKind.i64.wrap ((j : Int) - 1) = (j : Int) - 1 := by rw [IntKind.wrap_i64]; omega
            have hjn : ¬ (j : Int) = 0 := by omega
            have hjb : ((j : Int) == 0) = false := beq_eq_false_iff_ne.2 hjn
            clear hb0 hb1 h2 hy hprev
            go_wp2_with fail
            go_meet
            exact ⟨by rw [HBg.out], rfl⟩
        case rest =>
          obtain ⟨rfl, rfl⟩ := hcut
          clear hprev
          obtain ⟨bg, hbg⟩ : ∃ bg, bg = bgF S j := ⟨_, rfl⟩
          rw [← hbg] at HSt ⊢
          clear hbg
          go_upto_region 10 with fail
          go_cut [11] from 40 to 46 (fun t wx => t = .bool (bg && (z == 10)) ∧ wx = wc)
          case first =>
            cases bg
            · go_wp2_with fail
              go_meet
              exact ⟨rfl, rfl⟩
            · go_wp2_with fail
              go_meet
              exact ⟨rfl, rfl⟩
          case rest =>
            obtain ⟨rfl, rfl⟩ := hcut
            have hzn : 0 ≤ z ∧ z < 256 := by rw [HZ.out]; have := (S.getD j 0).toNat_lt; omega
            obtain ⟨b, hb⟩ : ∃ b, b = S.getD j 0 := ⟨_, rfl⟩
            rw [← hb] at HSt HZ
            have HZb : Hid (z = (b.toNat : Nat)) := HZ.out
            have hz := HZ.out
            have HLn : Hid (T.length + 100 ≤ 1073741824) := by
              have h1 := congrArg List.length HSt.out
              have h2 := HGq.out
              simp only [List.length_append] at h1
              have h3 : GG.length ≤ 1073741724 := HGs.out
              show _ ≤ _
              omega
            have hRy : RdY (wc.alloc (.cells #[.int .u8 z] 5)) (.slice (some ⟨wc.heap.size, 0, none⟩) 1 1) [b] := by
              refine ⟨by simp, _, 1, rfl, by simp, by unfold maxLen; omega, fun h => (by cases h), fun _ => ⟨wc.heap.size, 0, rfl, by simp, fun i hi => ?_⟩⟩
              obtain rfl : i = 0 := by simpa using hi
              rw [Nat.zero_add, World.cell?_alloc_mark, hz]; rfl
            have hcv := convV21 hRy
            have HBx : Hid (Below W.heap.size W (wc.alloc (.cells #[.int .u8 z] 5))) := HB.out.alloc (Nat.le_trans (Nat.le_refl _) HB.out.size) _
            have HUw : Hid (Rd wc (.slice ua zs.length uc) zs) := HU.out.below HB.out
            clear hRy hz hb
            cases bg
            case false =>
              have hp : prF false b zs q = [] := rfl
              have hq2 : nqF false zs q = q := rfl
              rw [hp, hq2] at HSt
              clear hp hq2
              have hc9 : ∀ W, (Op.stringOp .add ⟨(T).toArray⟩ ⟨#[b]⟩).run Tryd.prog W = .ok (.string ⟨(T ++ [b]).toArray⟩) W := cat21 (T) [b] _ (by simp) (by have := HLn.out; first | omega | (simp only [List.length_append, List.length_cons, List.length_nil, show remT.length = 16 from rfl, show gapT.length = 5 from rfl]; omega))
              have hn9 : ¬ 9223372036854775807 < (T).length + 1 := by have := HLn.out; first | omega | (simp only [List.length_append, List.length_cons, List.length_nil, show remT.length = 16 from rfl, show gapT.length = 5 from rfl]; omega)
              have HE : Hid ((T ++ [b]) ++ insT (bgF S (j + 1)) (S.drop (j + 1)) (zs.drop q) = GG) := by show _ = _; rw [← HSt.out]; simp
              clear HSt
              go_wp2
              all_goals
                go_roundg (gk - 1)
                case measure => have := HG.out; omega
                case rel => exact ⟨j + 1, q, _, by have := HG.out; omega, by go_num, rfl, rfl, by omega, HE.out, HBx.out⟩
            case true =>
              by_cases hql : q < zs.length
              · rcases HUw.out.cases with ⟨h0, _⟩ | ⟨zb, zo, zc, he, hz0, hz1, hz2, hzl, hzc⟩
                · rw [h0] at hql; simp at hql
                · have e2 : ua = some ⟨zb, zo, none⟩ ∧ uc = zc := by injection he with q1 q2 q3; exact ⟨q1, q3⟩
                  obtain ⟨rfl, rfl⟩ := e2
                  have hzq := hzc q hql
                  have hp : prF true b zs q = preT b (zs.getD q 0) := by unfold prF; rw [if_pos ⟨rfl, hql⟩]
                  have hq2 : nqF true zs q = q + 1 := by unfold nqF; rw [if_pos ⟨rfl, hql⟩]
                  rw [hp, hq2] at HSt
                  clear hp hq2 he hzc
                  generalize zs.getD q 0 = y at *
                  have hw2 : IntKind.i64.wrap (y.tmod 2) = y.tmod 2 := wrap_tmod y 2 (by omega) (by omega)
                  have hw3 : IntKind.i64.wrap (y.tmod 3) = y.tmod 3 := wrap_tmod y 3 (by omega) (by omega)
                  by_cases h2 : y.tmod 2 = 0
                  · have h2b : (y.tmod 2 == 0) = true := beq_iff_eq.2 h2
                    by_cases hz10 : z = 10
                    · have hb10 : b = 10 := UInt8.toNat_inj.1 (by have := HZb.out; have e : (10 : UInt8).toNat = 10 := rfl; omega)
                      subst hz10
                      by_cases h3 : y.tmod 3 = 0
                      · have h3b : (y.tmod 3 == 0) = true := beq_iff_eq.2 h3
                        have hpt : preT b y = remT ++ gapT := by unfold preT; rw [if_pos h2, if_pos ⟨hb10, h3⟩]
                        rw [hpt] at HSt
                        clear hpt hb10
                        have hc0 : ∀ W, (Op.stringOp .add ⟨(T).toArray⟩ ⟨#[35, 9, 73, 110, 115, 116, 97, 108, 108, 101, 100, 58, 32, 110, 111, 10]⟩).run Tryd.prog W = .ok (.string ⟨(T ++ remT).toArray⟩) W := cat21 (T) remT _ (by simp) (by have := HLn.out; first | omega | (simp only [List.length_append, List.length_cons, List.length_nil, show remT.length = 16 from rfl, show gapT.length = 5 from rfl]; omega))
                        have hn0 : ¬ 9223372036854775807 < (T).length + 16 := by have := HLn.out; first | omega | (simp only [List.length_append, List.length_cons, List.length_nil, show remT.length = 16 from rfl, show gapT.length = 5 from rfl]; omega)
                        have hm0 : ¬ 9223372036854775807 < T.length + 16 := by have := HLn.out; first | omega | (simp only [List.length_append, List.length_cons, List.length_nil, show remT.length = 16 from rfl, show gapT.length = 5 from rfl]; omega)
                        have hc1 : ∀ W, (Op.stringOp .add ⟨(T ++ remT).toArray⟩ ⟨#[32, 10, 9, 9, 10]⟩).run Tryd.prog W = .ok (.string ⟨(T ++ (remT ++ gapT)).toArray⟩) W := cat21 (T ++ remT) gapT _ (by simp) (by have := HLn.out; first | omega | (simp only [List.length_append, List.length_cons, List.length_nil, show remT.length = 16 from rfl, show gapT.length = 5 from rfl]; omega))
                        have hn1 : ¬ 9223372036854775807 < (T ++ remT).length + 5 := by have := HLn.out; first | omega | (simp only [List.length_append, List.length_cons, List.length_nil, show remT.length = 16 from rfl, show gapT.length = 5 from rfl]; omega)
                        have hm1 : ¬ 9223372036854775807 < T.length + remT.length + 5 := by have := HLn.out; first | omega | (simp only [List.length_append, List.length_cons, List.length_nil, show remT.length = 16 from rfl, show gapT.length = 5 from rfl]; omega)
                        have hc9 : ∀ W, (Op.stringOp .add ⟨(T ++ (remT ++ gapT)).toArray⟩ ⟨#[b]⟩).run Tryd.prog W = .ok (.string ⟨(T ++ (remT ++ (gapT ++ [b]))).toArray⟩) W := cat21 (T ++ (remT ++ gapT)) [b] _ (by simp) (by have := HLn.out; first | omega | (simp only [List.length_append, List.length_cons, List.length_nil, show remT.length = 16 from rfl, show gapT.length = 5 from rfl]; omega))
                        have hn9 : ¬ 9223372036854775807 < (T ++ (remT ++ gapT)).length + 1 := by have := HLn.out; first | omega | (simp only [List.length_append, List.length_cons, List.length_nil, show remT.length = 16 from rfl, show gapT.length = 5 from rfl]; omega)
                        have HE : Hid ((T ++ (remT ++ (gapT ++ [b]))) ++ insT (bgF S (j + 1)) (S.drop (j + 1)) (zs.drop (q + 1)) = GG) := by show _ = _; rw [← HSt.out]; simp
                        clear HSt
                        go_wp2
                        all_goals
                          go_roundg (gk - 1)
                          case measure => have := HG.out; omega
                          case rel => exact ⟨j + 1, (q + 1), _, by have := HG.out; omega, by go_num, by go_num, rfl, by omega, HE.out, HBx.out⟩
                      · have h3b : (y.tmod 3 == 0) = false := beq_eq_false_iff_ne.2 h3
                        have hpt : preT b y = remT := by unfold preT; rw [if_pos h2, if_neg (fun h => h3 h.2), List.append_nil]
                        rw [hpt] at HSt
                        clear hpt hb10
                        have hc0 : ∀ W, (Op.stringOp .add ⟨(T).toArray⟩ ⟨#[35, 9, 73, 110, 115, 116, 97, 108, 108, 101, 100, 58, 32, 110, 111, 10]⟩).run Tryd.prog W = .ok (.string ⟨(T ++ remT).toArray⟩) W := cat21 (T) remT _ (by simp) (by have := HLn.out; first | omega | (simp only [List.length_append, List.length_cons, List.length_nil, show remT.length = 16 from rfl, show gapT.length = 5 from rfl]; omega))
                        have hn0 : ¬ 9223372036854775807 < (T).length + 16 := by have := HLn.out; first | omega | (simp only [List.length_append, List.length_cons, List.length_nil, show remT.length = 16 from rfl, show gapT.length = 5 from rfl]; omega)
                        have hm0 : ¬ 9223372036854775807 < T.length + 16 := by have := HLn.out; first | omega | (simp only [List.length_append, List.length_cons, List.length_nil, show remT.length = 16 from rfl, show gapT.length = 5 from rfl]; omega)
                        have hc9 : ∀ W, (Op.stringOp .add ⟨(T ++ remT).toArray⟩ ⟨#[b]⟩).run Tryd.prog W = .ok (.string ⟨(T ++ (remT ++ [b])).toArray⟩) W := cat21 (T ++ remT) [b] _ (by simp) (by have := HLn.out; first | omega | (simp only [List.length_append, List.length_cons, List.length_nil, show remT.length = 16 from rfl, show gapT.length = 5 from rfl]; omega))
                        have hn9 : ¬ 9223372036854775807 < (T ++ remT).length + 1 := by have := HLn.out; first | omega | (simp only [List.length_append, List.length_cons, List.length_nil, show remT.length = 16 from rfl, show gapT.length = 5 from rfl]; omega)
                        have HE : Hid ((T ++ (remT ++ [b])) ++ insT (bgF S (j + 1)) (S.drop (j + 1)) (zs.drop (q + 1)) = GG) := by show _ = _; rw [← HSt.out]; simp
                        clear HSt
                        go_wp2
                        all_goals
                          go_roundg (gk - 1)
                          case measure => have := HG.out; omega
                          case rel => exact ⟨j + 1, (q + 1), _, by have := HG.out; omega, by go_num, by go_num, rfl, by omega, HE.out, HBx.out⟩
                    · have hb10 : ¬ b = 10 := fun e => hz10 (by rw [HZb.out, e]; rfl)
                      have hzb : (z == 10) = false := beq_eq_false_iff_ne.2 hz10
                      have hpt : preT b y = remT := by unfold preT; rw [if_pos h2, if_neg (fun h => hb10 h.1), List.append_nil]
                      rw [hpt] at HSt
                      clear hpt hb10
                      have hc0 : ∀ W, (Op.stringOp .add ⟨(T).toArray⟩ ⟨#[35, 9, 73, 110, 115, 116, 97, 108, 108, 101, 100, 58, 32, 110, 111, 10]⟩).run Tryd.prog W = .ok (.string ⟨(T ++ remT).toArray⟩) W := cat21 (T) remT _ (by simp) (by have := HLn.out; first | omega | (simp only [List.length_append, List.length_cons, List.length_nil, show remT.length = 16 from rfl, show gapT.length = 5 from rfl]; omega))
                      have hn0 : ¬ 9223372036854775807 < (T).length + 16 := by have := HLn.out; first | omega | (simp only [List.length_append, List.length_cons, List.length_nil, show remT.length = 16 from rfl, show gapT.length = 5 from rfl]; omega)
                      have hm0 : ¬ 9223372036854775807 < T.length + 16 := by have := HLn.out; first | omega | (simp only [List.length_append, List.length_cons, List.length_nil, show remT.length = 16 from rfl, show gapT.length = 5 from rfl]; omega)
                      have hc9 : ∀ W, (Op.stringOp .add ⟨(T ++ remT).toArray⟩ ⟨#[b]⟩).run Tryd.prog W = .ok (.string ⟨(T ++ (remT ++ [b])).toArray⟩) W := cat21 (T ++ remT) [b] _ (by simp) (by have := HLn.out; first | omega | (simp only [List.length_append, List.length_cons, List.length_nil, show remT.length = 16 from rfl, show gapT.length = 5 from rfl]; omega))
                      have hn9 : ¬ 9223372036854775807 < (T ++ remT).length + 1 := by have := HLn.out; first | omega | (simp only [List.length_append, List.length_cons, List.length_nil, show remT.length = 16 from rfl, show gapT.length = 5 from rfl]; omega)
                      have HE : Hid ((T ++ (remT ++ [b])) ++ insT (bgF S (j + 1)) (S.drop (j + 1)) (zs.drop (q + 1)) = GG) := by show _ = _; rw [← HSt.out]; simp
                      clear HSt
                      go_wp2
                      all_goals
                        go_roundg (gk - 1)
                        case measure => have := HG.out; omega
                        case rel => exact ⟨j + 1, (q + 1), _, by have := HG.out; omega, by go_num, by go_num, rfl, by omega, HE.out, HBx.out⟩
                  · have h2b : (y.tmod 2 == 0) = false := beq_eq_false_iff_ne.2 h2
                    by_cases hz10 : z = 10
                    · have hb10 : b = 10 := UInt8.toNat_inj.1 (by have := HZb.out; have e : (10 : UInt8).toNat = 10 := rfl; omega)
                      subst hz10
                      by_cases h3 : y.tmod 3 = 0
                      · have h3b : (y.tmod 3 == 0) = true := beq_iff_eq.2 h3
                        have hpt : preT b y = gapT := by unfold preT; rw [if_neg h2, if_pos ⟨hb10, h3⟩, List.nil_append]
                        rw [hpt] at HSt
                        clear hpt hb10
                        have hc0 : ∀ W, (Op.stringOp .add ⟨(T).toArray⟩ ⟨#[32, 10, 9, 9, 10]⟩).run Tryd.prog W = .ok (.string ⟨(T ++ gapT).toArray⟩) W := cat21 (T) gapT _ (by simp) (by have := HLn.out; first | omega | (simp only [List.length_append, List.length_cons, List.length_nil, show remT.length = 16 from rfl, show gapT.length = 5 from rfl]; omega))
                        have hn0 : ¬ 9223372036854775807 < (T).length + 5 := by have := HLn.out; first | omega | (simp only [List.length_append, List.length_cons, List.length_nil, show remT.length = 16 from rfl, show gapT.length = 5 from rfl]; omega)
                        have hm0 : ¬ 9223372036854775807 < T.length + 5 := by have := HLn.out; first | omega | (simp only [List.length_append, List.length_cons, List.length_nil, show remT.length = 16 from rfl, show gapT.length = 5 from rfl]; omega)
                        have hc9 : ∀ W, (Op.stringOp .add ⟨(T ++ gapT).toArray⟩ ⟨#[b]⟩).run Tryd.prog W = .ok (.string ⟨(T ++ (gapT ++ [b])).toArray⟩) W := cat21 (T ++ gapT) [b] _ (by simp) (by have := HLn.out; first | omega | (simp only [List.length_append, List.length_cons, List.length_nil, show remT.length = 16 from rfl, show gapT.length = 5 from rfl]; omega))
                        have hn9 : ¬ 9223372036854775807 < (T ++ gapT).length + 1 := by have := HLn.out; first | omega | (simp only [List.length_append, List.length_cons, List.length_nil, show remT.length = 16 from rfl, show gapT.length = 5 from rfl]; omega)
                        have HE : Hid ((T ++ (gapT ++ [b])) ++ insT (bgF S (j + 1)) (S.drop (j + 1)) (zs.drop (q + 1)) = GG) := by show _ = _; rw [← HSt.out]; simp
                        clear HSt
                        go_wp2
                        all_goals
                          go_roundg (gk - 1)
                          case measure => have := HG.out; omega
                          case rel => exact ⟨j + 1, (q + 1), _, by have := HG.out; omega, by go_num, by go_num, rfl, by omega, HE.out, HBx.out⟩
                      · have h3b : (y.tmod 3 == 0) = false := beq_eq_false_iff_ne.2 h3
                        have hpt : preT b y = [] := by unfold preT; rw [if_neg h2, if_neg (fun h => h3 h.2), List.append_nil]
                        rw [hpt] at HSt
                        clear hpt hb10
                        have hc9 : ∀ W, (Op.stringOp .add ⟨(T).toArray⟩ ⟨#[b]⟩).run Tryd.prog W = .ok (.string ⟨(T ++ [b]).toArray⟩) W := cat21 (T) [b] _ (by simp) (by have := HLn.out; first | omega | (simp only [List.length_append, List.length_cons, List.length_nil, show remT.length = 16 from rfl, show gapT.length = 5 from rfl]; omega))
                        have hn9 : ¬ 9223372036854775807 < (T).length + 1 := by have := HLn.out; first | omega | (simp only [List.length_append, List.length_cons, List.length_nil, show remT.length = 16 from rfl, show gapT.length = 5 from rfl]; omega)
                        have HE : Hid ((T ++ [b]) ++ insT (bgF S (j + 1)) (S.drop (j + 1)) (zs.drop (q + 1)) = GG) := by show _ = _; rw [← HSt.out]; simp
                        clear HSt
                        go_wp2
                        all_goals
                          go_roundg (gk - 1)
                          case measure => have := HG.out; omega
                          case rel => exact ⟨j + 1, (q + 1), _, by have := HG.out; omega, by go_num, by go_num, rfl, by omega, HE.out, HBx.out⟩
                    · have hb10 : ¬ b = 10 := fun e => hz10 (by rw [HZb.out, e]; rfl)
                      have hzb : (z == 10) = false := beq_eq_false_iff_ne.2 hz10
                      have hpt : preT b y = [] := by unfold preT; rw [if_neg h2, if_neg (fun h => hb10 h.1), List.append_nil]
                      rw [hpt] at HSt
                      clear hpt hb10
                      have hc9 : ∀ W, (Op.stringOp .add ⟨(T).toArray⟩ ⟨#[b]⟩).run Tryd.prog W = .ok (.string ⟨(T ++ [b]).toArray⟩) W := cat21 (T) [b] _ (by simp) (by have := HLn.out; first | omega | (simp only [List.length_append, List.length_cons, List.length_nil, show remT.length = 16 from rfl, show gapT.length = 5 from rfl]; omega))
                      have hn9 : ¬ 9223372036854775807 < (T).length + 1 := by have := HLn.out; first | omega | (simp only [List.length_append, List.length_cons, List.length_nil, show remT.length = 16 from rfl, show gapT.length = 5 from rfl]; omega)
                      have HE : Hid ((T ++ [b]) ++ insT (bgF S (j + 1)) (S.drop (j + 1)) (zs.drop (q + 1)) = GG) := by show _ = _; rw [← HSt.out]; simp
                      clear HSt
                      go_wp2
                      all_goals
                        go_roundg (gk - 1)
                        case measure => have := HG.out; omega
                        case rel => exact ⟨j + 1, (q + 1), _, by have := HG.out; omega, by go_num, by go_num, rfl, by omega, HE.out, HBx.out⟩
              · have hp : prF true b zs q = [] := by unfold prF; rw [if_neg (fun h => hql h.2)]
                have hq2 : nqF true zs q = q := by unfold nqF; rw [if_neg (fun h => hql h.2)]
                rw [hp, hq2] at HSt
                clear hp hq2
                have hc9 : ∀ W, (Op.stringOp .add ⟨(T).toArray⟩ ⟨#[b]⟩).run Tryd.prog W = .ok (.string ⟨(T ++ [b]).toArray⟩) W := cat21 (T) [b] _ (by simp) (by have := HLn.out; first | omega | (simp only [List.length_append, List.length_cons, List.length_nil, show remT.length = 16 from rfl, show gapT.length = 5 from rfl]; omega))
                have hn9 : ¬ 9223372036854775807 < (T).length + 1 := by have := HLn.out; first | omega | (simp only [List.length_append, List.length_cons, List.length_nil, show remT.length = 16 from rfl, show gapT.length = 5 from rfl]; omega)
                have HE : Hid ((T ++ [b]) ++ insT (bgF S (j + 1)) (S.drop (j + 1)) (zs.drop q) = GG) := by show _ = _; rw [← HSt.out]; simp
                clear HSt
                go_wp2
                all_goals
                  go_roundg (gk - 1)
                  case measure => have := HG.out; omega
                  case rel => exact ⟨j + 1, q, _, by have := HG.out; omega, by go_num, rfl, rfl, by omega, HE.out, HBx.out⟩
      · have hjl : j = SB.size := by omega
        have HEnd : Hid (T = GG) := by
          show _ = _
          rw [← HK.out, List.drop_eq_nil_of_le (by rw [← HSz.out]; omega)]
          cases bgF S j <;> cases zs.drop q <;> simp [insT]
        have HTl : Hid (T.length + 10 ≤ 1073741824) := by rw [HEnd.out]; exact HGq.out
        have hcT : ∀ W, (Op.stringOp .add ⟨T.toArray⟩ ⟨#[35, 32, 101, 110, 100, 10, 10, 32, 10, 35]⟩).run Tryd.prog W = .ok (.string ⟨(T ++ tailT).toArray⟩) W := cat21 T tailT _ rfl (by have := HTl.out; rw [show tailT.length = 10 from rfl]; omega)
        have hnT : ¬ 9223372036854775807 < T.length + 10 := by have := HTl.out; omega
        have HRt : Hid (∀ w, Calls Tryd.prog 19 #[.string ⟨(T ++ tailT).toArray⟩] w fun e w' => ∃ a' c' m, e = .returned (.tuple #[.slice a' m.length c', .int .i64 0, .int .i64 0]) ∧ RdSt w' (.slice a' m.length c') m ∧ SmL false l m ∧ Below w.heap.size w w') := by
          show ∀ w, _
          rw [HEnd.out, HGG.out, List.append_assoc]; exact HRe.out
        have HRl0 : Hid (RdSt wr (.slice a l.length c) l) := HR.out.below HB.out
        clear HK hj HEnd HTl HRe
        generalize (⟨(T ++ tailT).toArray⟩ : ByteArray) = TX at *
        go_wp2_with fail
        refine (HRt.out _).mono ?_
        rintro e w5 ⟨a5, c5, m, rfl, hm, hsm, bel5⟩
        have HB5 : Hid (Below W.heap.size W w5) := HB.out.trans (bel5.mono HB.out.size)
        have HSm : Hid (Calls Tryd.prog 20 #[.slice a l.length c, .slice a5 m.length c5, .bool false] w5 fun e w' => e = .returned (.bool true) ∧ Below w5.heap.size w5 w') := same21 _ _ l m false w5 (HRl0.out.below bel5) hm hsm
        clear bel5 hm hsm
        go_wp2_with (first | (go_at_call 20; refine HSm.out.mono ?_; rintro e w6 ⟨rfl, bel6⟩; have HB6 : Hid (Below W.heap.size W w6) := HB5.out.trans (bel6.mono HB5.out.size); clear bel6) | (go_at_call 18; refine (HAw.out _).mono ?_; rintro e w7 ⟨rfl, bel7⟩; have HB7 : Hid (Below W.heap.size W w7) := HB6.out.trans (bel7.mono HB6.out.size); clear bel7))
        all_goals
          go_ret
          exact ⟨ret_bool (by simp), HB7.out⟩

end Go.Proofs.YtbeaoekbppdlmaaDoor.controlIdle

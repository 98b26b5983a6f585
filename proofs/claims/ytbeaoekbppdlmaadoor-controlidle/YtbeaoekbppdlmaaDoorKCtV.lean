/-
  The document's Pieces, value, walked.
  KEEP: len below nil form rd mono on app start at new trans refl kept own row out grown rdz set one more lt size cell some none letL tail next step go add put del get look no yes e c f b k n m box
-/
import Derived.Test.YtbeaoekbppdlmaaDoorKCtM
import Derived.Maps.AppendAt
import Derived.OwnWalk
set_option linter.unusedSimpArgs false
set_option linter.unusedVariables false
namespace Go.Proofs.YtbeaoekbppdlmaaDoor
open Go Go.RowKit

set_option maxHeartbeats 3200000 in
set_option maxRecDepth 100000 in
theorem rPieces21_any (s : ByteArray) (w : World) (hs : s.size ≤ 1099511627776) :
    Calls Tryd.prog 30 #[.string s] w fun e w' => ∃ v, e = .returned v ∧ OwnL w.heap.size w' v (pcF s.data.toList) ∧ Below w.heap.size w w' := by
  obtain ⟨i0, hi, hz0, hz1, hz2⟩ := info_parts infoS
  go_enter Tryd.func30, Tryd.ntmps30
  go_wp2
  go_loopg [3, 4, 5] s.size (fun g u x i wr => ∃ (k f : Nat) (done : List (List UInt8)), k + g = s.size ∧ i = .int .i64 k ∧ x = .int .i64 f ∧ f ≤ k ∧ done.length ≤ k ∧ done ++ pcs (s.data.toList.drop k) ((s.data.toList.drop f).take (k - f)) = pcF s.data.toList ∧ OwnL w.heap.size wr u done ∧ Below w.heap.size w wr)
  case atStart => exact ⟨0, 0, [], by omega, rfl, rfl, by omega, by simp, by simp [pcF], OwnL.nil _ _, Below.refl _ _⟩
  case round =>
    obtain ⟨k, f, done, hk, rfl, rfl, hf, hd, hE, own, bel⟩ := hrel
    have HK : Hid (k + gk = s.size) := hk
    have HO : Hid (OwnL w.heap.size wr _ done) := own
    have hsb := bel.size
    have HE : Hid (done ++ pcs (s.data.toList.drop k) ((s.data.toList.drop f).take (k - f)) = pcF s.data.toList) := hE
    clear hE own
    by_cases hlt : k < s.size
    · have HD : Hid (s.data.toList.drop k = s[k] :: s.data.toList.drop (k + 1)) := ba_drop hlt
      have HC : Hid ((s.data.toList.drop f).take (k + 1 - f) = (s.data.toList.drop f).take (k - f) ++ [s[k]]) := cur_more hlt hf
      have hyl : s[k].toNat < 256 := s[k].toNat_lt
      clear hk
      by_cases hb : s[k] = 10
      · have hb2 : ((s[k].toNat : Int) == 10) = true := by rw [hb]; rfl
        have HE2 : Hid ((done ++ [(s.data.toList.drop f).take (k - f)]) ++ pcs (s.data.toList.drop (k + 1)) ((s.data.toList.drop (k + 1)).take (k + 1 - (k + 1))) = pcF s.data.toList) := by
          show _ = _
          rw [← HE.out, HD.out, pcs, if_pos hb]; simp
        go_wp2_with (at_builtin; refine wpList_append_own _ rfl _ _ 61 rfl w.heap.size 9 i0 (.string ⟨#[]⟩) 1 16 Tryd.underlying61 hi hz0 hz1 hz2 rfl (by decide) _ done.length (done.map strV) rfl (World.ownsRow.alloc HO.out _) _ 1 1 [.string (s.extract f k)] rfl rfl (cell_one_new _ _ _) (by simp [Value.oneCell']) (by unfold maxLen; omega) (by omega) (by simp; omega) ?_; intro v2 w2 own2 gr2 hn2)
        go_roundg (gk - 1)
        case measure => have := HK.out; omega
        case rel => exact ⟨k + 1, k + 1, done ++ [(s.data.toList.drop f).take (k - f)], by have := HK.out; omega, by go_num, by go_num, by omega, by simp; omega, HE2.out, OwnL.one (ext_list s f k) own2, (bel.alloc hsb _).grown gr2 (by simp; omega) (fun q hq => (HO.out.lt q hq).1)⟩
      · have hb2 : ((s[k].toNat : Int) == 10) = false := beq_eq_false_iff_ne.2 (fun e => hb (UInt8.toNat_inj.1 ((by omega : s[k].toNat = 10).trans rfl)))
        have HE2 : Hid (done ++ pcs (s.data.toList.drop (k + 1)) ((s.data.toList.drop f).take (k + 1 - f)) = pcF s.data.toList) := by
          show _ = _
          rw [← HE.out, HD.out, pcs, if_neg hb, HC.out]
        go_wp2
        go_roundg (gk - 1)
        case measure => have := HK.out; omega
        case rel => exact ⟨k + 1, f, done, by have := HK.out; omega, by go_num, rfl, by omega, by omega, HE2.out, HO.out, bel⟩
    · obtain rfl : k = s.size := by omega
      have hL := ba_len s
      have hE := HE.out
      rw [List.drop_eq_nil_of_le (by omega), pcs] at hE
      clear hk
      have HE2 : Hid (done ++ [(s.data.toList.drop f).take (s.size - f)] = pcF s.data.toList) := hE
      clear hE HE hL
      go_wp2_with (at_builtin; refine wpList_append_own _ rfl _ _ 61 rfl w.heap.size 9 i0 (.string ⟨#[]⟩) 1 16 Tryd.underlying61 hi hz0 hz1 hz2 rfl (by decide) _ done.length (done.map strV) rfl (World.ownsRow.alloc HO.out _) _ 1 1 [.string (s.extract f s.size)] rfl rfl (cell_one_new _ _ _) (by simp [Value.oneCell']) (by unfold maxLen; omega) (by omega) (by simp; omega) ?_; intro v2 w2 own2 gr2 hn2)
      go_ret
      exact ⟨_, rfl, by rw [← HE2.out]; exact OwnL.one (ext_list s f s.size) own2, (bel.alloc hsb _).grown gr2 (by simp; omega) (fun q hq => (HO.out.lt q hq).1)⟩


/-- may a field have it -/
def pieceB (i : Nat) (p : List UInt8) : Bool := ((trF p).length == p.length) && !(decide (0 < i) && p.isEmpty)
def allP : Nat → List (List UInt8) → Bool
  | _, [] => true
  | i, p :: r => pieceB i p && allP (i + 1) r
def valF (l : List UInt8) : Bool := allP 0 (pcF l) && fairF true l
theorem pcs_size : ∀ (l cur : List UInt8), (∀ p ∈ pcs l cur, p.length ≤ l.length + cur.length) ∧ (pcs l cur).length ≤ l.length + 1 ∧ 0 < (pcs l cur).length
  | [], cur => by simp [pcs]
  | b :: r, cur => by
    by_cases hb : b = 10
    · have ih := pcs_size r []
      rw [pcs, if_pos hb]
      refine ⟨fun p hp => ?_, by simp; omega, by simp⟩
      rcases List.mem_cons.1 hp with rfl | hp
      · simp
      · have := ih.1 p hp; simp at this ⊢; omega
    · have ih := pcs_size r (cur ++ [b])
      rw [pcs, if_neg hb]
      refine ⟨fun p hp => ?_, by simp; omega, ih.2.2⟩
      have := ih.1 p hp; simp at this ⊢; omega
theorem pc_drop {ps : List (List UInt8)} {k : Nat} (h : k < ps.length) : ps.drop k = ps.getD k [] :: ps.drop (k + 1) := by
  rw [List.drop_eq_getElem_cons h]; simp [List.getD_eq_getElem?_getD, h]
set_option maxHeartbeats 3200000 in
set_option maxRecDepth 100000 in
theorem rValue21_any (s : ByteArray) (w : World) (hs : s.size ≤ 1099511627776) :
    Calls Tryd.prog 32 #[.string s] w fun e w' => e = .returned (.bool (valF s.data.toList)) ∧ Below w.heap.size w w' := by
  have HP : Hid (Calls Tryd.prog 30 #[.string s] w fun e w' => ∃ v, e = .returned v ∧ OwnL w.heap.size w' v (pcF s.data.toList) ∧ Below w.heap.size w w') := rPieces21_any s w hs
  have HFr : Hid (∀ W, Calls Tryd.prog 44 #[.string s, .bool true] W fun e w' => e = .returned (.bool (fairF true s.data.toList)) ∧ w' = W) := fun W => rFair21_any s true W (by omega)
  have HV : Hid (valF s.data.toList = (allP 0 ((pcF s.data.toList).drop 0) && fairF true s.data.toList)) := rfl
  have hps := pcs_size s.data.toList []
  have hsz : s.data.toList.length = s.size := size20 s
  have HEach : Hid (∀ p ∈ pcF s.data.toList, p.length ≤ 1099511627776) := fun p hp => by have := hps.1 p hp; simp at this; omega
  have hpl : (pcF s.data.toList).length ≤ 1099511627777 := by have := hps.2.1; unfold pcF; omega
  generalize pcF s.data.toList = ps at *
  generalize fairF true s.data.toList = fr at *
  generalize valF s.data.toList = V at *
  clear hps hsz hs
  go_enter Tryd.func32, Tryd.ntmps32
  go_wp2_with fail
  refine HP.out.mono ?_
  rintro e w1 ⟨v, rfl, own1, bel1⟩
  have HO : Hid (OwnL w.heap.size w1 v ps) := own1
  have HB1 : Hid (Below w.heap.size w w1) := bel1
  obtain ⟨a, c, rfl, hc, hm, _⟩ := own1.form
  clear own1 bel1 HP
  go_wp2_with fail
  go_loopg [4] ps.length (fun g i wr => ∃ k : Nat, k + g = ps.length ∧ i = .int .i64 k ∧ Hid (V = (allP k (ps.drop k) && fr)) ∧ Hid (Below w1.heap.size w1 wr))
  case atStart => exact ⟨0, by omega, rfl, HV.out, Below.refl _ _⟩
  case round =>
    obtain ⟨k, hk, rfl, HK, HB⟩ := hrel
    have HG : Hid (k + gk = ps.length) := hk
    clear HV
    by_cases hlt : k < ps.length
    · obtain ⟨a', c', e', _, _, hcell⟩ := (HO.out.below HB.out).form
      have e3 : a' = a ∧ c' = c := by injection e' with q1 q2 q3; exact ⟨q1.symm, q3.symm⟩
      obtain ⟨rfl, rfl⟩ := e3
      obtain ⟨g, rfl, hgl, hcl⟩ := hcell k hlt
      have hX : V = ((pieceB k (ps.getD k []) && allP (k + 1) (ps.drop (k + 1))) && fr) := by rw [HK.out, pc_drop hlt]; rfl
      have hpz := HEach.out _ (getD_mem' (l := ps) (k := k) (d := []) hlt)
      generalize ps.getD k [] = p at *
      have hT' := fun W => rTrim21_any ⟨p.toArray⟩ W (by simp [ByteArray.size]; omega)
      unfold strV at hcl
      have hlen1 : (⟨p.toArray⟩ : ByteArray).size = p.length := by simp [ByteArray.size]
      have hlen2 : (⟨(trF p).toArray⟩ : ByteArray).size = (trF p).length := by simp [ByteArray.size]
      simp only [strV_list] at hT'
      have HT : Hid (∀ W, Calls Tryd.prog 43 #[.string ⟨p.toArray⟩] W fun e w' => e = .returned (.string ⟨(trF p).toArray⟩) ∧ w' = W) := hT'
      have hem : p.isEmpty = (p.length == 0) := by cases p <;> rfl
      have HX : Hid (V = (((((trF p).length == p.length) && !(decide (0 < k) && (p.length == 0))) && allP (k + 1) (ps.drop (k + 1))) && fr)) := by show _ = _; rw [hX, pieceB, hem]
      have HLq : Hid (p.length ≤ 1099511627776) := hpz
      clear e' hcell HK hT' hX hk hem hpz
      generalize (⟨p.toArray⟩ : ByteArray) = S at *
      generalize (⟨(trF p).toArray⟩ : ByteArray) = T at *
      generalize p.length = pl at *
      generalize (trF p).length = tl at *
      have hk2 : (k : Int) < ps.length := by omega
      have HBn : Hid (∀ n, Below w1.heap.size w1 (wr.drewN n)) := fun n => HB.out.trans ⟨rfl, rfl, rfl, Nat.le_refl _, fun _ _ => rfl⟩
      by_cases q1 : tl = pl
      · have b1 : ((tl : Int) != (pl : Int)) = false := by simp; omega
        by_cases q2 : 0 < k ∧ pl = 0
        · have b2 : decide ((0 : Int) < (k : Int)) = true := decide_eq_true (by omega)
          have b3 : ((pl : Int) == 0) = true := by simp; omega
          have HE : Hid (V = false) := by show _ = _; rw [HX.out, decide_eq_true q2.1, q2.2]; simp
          have b4 : decide (0 < k) = true := decide_eq_true q2.1
          have b5 : 0 < k := q2.1
          clear HX q1 q2
          go_wp2_with fail
          go_quiet ((go_at_call 43; exact Calls.quiet_of_same (HT.out _)))
          go_wp2
          go_ret
          exact ⟨ret_bool HE.out.symm, HB1.out.trans ((HBn.out _).mono HB1.out.size)⟩
        · have HE : Hid (V = (allP (k + 1) (ps.drop (k + 1)) && fr)) := by
            show _ = _
            rw [HX.out, q1]
            by_cases k0 : 0 < k
            · have : (pl == 0) = false := by simp; omega
              rw [this]; simp
            · rw [decide_eq_false k0]; simp
          clear HX
          by_cases k0 : 0 < k
          · have b2 : decide ((0 : Int) < (k : Int)) = true := decide_eq_true (by omega)
            have b3 : ((pl : Int) == 0) = false := by simp; omega
            have b4 : decide (0 < k) = true := decide_eq_true k0
            clear q1 q2
            go_wp2_with fail
            go_quiet ((go_at_call 43; exact Calls.quiet_of_same (HT.out _)))
            go_wp2
            go_roundg (gk - 1)
            case measure => have := HG.out; omega
            case rel => exact ⟨k + 1, by have := HG.out; omega, by go_num, HE.out, HBn.out _⟩
          · have b2 : decide ((0 : Int) < (k : Int)) = false := decide_eq_false (by omega)
            clear q1 q2
            go_wp2_with fail
            go_quiet ((go_at_call 43; exact Calls.quiet_of_same (HT.out _)))
            go_wp2
            go_roundg (gk - 1)
            case measure => have := HG.out; omega
            case rel => exact ⟨k + 1, by have := HG.out; omega, by go_num, HE.out, HBn.out _⟩
      · have b1 : ((tl : Int) != (pl : Int)) = true := by simp; omega
        have HE : Hid (V = false) := by show _ = _; rw [HX.out, beq_eq_false_iff_ne.2 q1]; simp
        clear HX q1
        go_wp2_with fail
        go_quiet ((go_at_call 43; exact Calls.quiet_of_same (HT.out _)))
        go_wp2
        go_ret
        exact ⟨ret_bool HE.out.symm, HB1.out.trans ((HBn.out _).mono HB1.out.size)⟩
    · have HE : Hid (V = fr) := by show _ = _; rw [HK.out, List.drop_eq_nil_of_le (by omega)]; rfl
      clear HK hk
      go_wp2_with fail
      refine (HFr.out _).mono ?_
      rintro e w9 ⟨rfl, h9⟩
      have h9s := h9.symm
      clear h9
      subst h9s
      go_wp2
      go_ret
      exact ⟨ret_bool HE.out.symm, HB1.out.trans (HB.out.mono HB1.out.size)⟩

end Go.Proofs.YtbeaoekbppdlmaaDoor

/-
  dimacs.model, walked.
  KEEP: set on app at below new trans refl start ap kept rd rds mono one nilA belowA text push bad
-/
import Derived.Test.YtpebpnbikdahkaaDoorAnV
import Derived.Test.YtpebpnbikdahkaaDoorClW
import Derived.Test.YtpebpnbikdahkaaDoorCopyBs
import Derived.Deep.LoopGhost
set_option linter.unusedSimpArgs false
set_option linter.unusedVariables false
namespace Go.Proofs.YtpebpnbikdahkaaDoor
open Go Go.RowKit

theorem nxt_idleA : ∀ {ls : List (List UInt8)} {k k' : Nat} {l : List UInt8} {r : List (List UInt8)}, nxt k ls = some (l, k', r) → idleL l = false
  | [], k, k', l, r, h => by simp [nxt] at h
  | x :: t, k, k', l, r, h => by
    unfold nxt at h
    cases hx : idleL x
    · rw [hx] at h
      simp at h
      obtain ⟨rfl, _, _⟩ := h
      exact hx
    · rw [hx] at h
      simp at h
      exact nxt_idleA h
/-- what model answers: the error, its line, the model -/
def moE (p k : Nat) (ls : List (List UInt8)) : Int × Nat × List Bool :=
  match eatA (spoken k ls) p false [] with
  | (m, _, some (e, j)) => (e, j, m)
  | (m, en, none) => (if en then 0 else 33, k + ls.length, m)
/-- what model answers and leaves -/
def MoR (w : World) (b p k : Nat) (ls : List (List UInt8)) (e : Ending) (w' : World) : Prop :=
  ∃ s left rest, e = .returned (.tuple #[s, .int .i64 (moE p k ls).1]) ∧ OwnBo w.heap.size w' s (moE p k ls).2.2 ∧ Tb w' b left rest ((moE p k ls).2.1 : Int) ∧ w.grownBy w' (some b)
structure MoS (w W : World) (b : Nat) (mv : Value) (ms : List Bool) : Prop where
  own : OwnBo w.heap.size W mv ms
  gr : w.grownBy W (some b)
theorem MoS.text {w W W' : World} {b : Nat} {mv : Value} {ms : List Bool} {l r : ByteArray} {k : Int} (h : MoS w W b mv ms) (ht : Tb W b l r k) (hg : W.grownBy W' (some b)) : MoS w W' b mv ms :=
  ⟨World.ownsRow.kept h.own hg (.inr (fun e => ht.not_row h.own (by decide) e.symm)), h.gr.trans hg⟩
theorem MoS.below {w W W' : World} {b : Nat} {mv : Value} {ms : List Bool} (h : MoS w W b mv ms) (hb : Below W.heap.size W W') : MoS w W' b mv ms :=
  ⟨World.ownsRow.kept h.own (grown_below hb) (one_or _), grown_own h.gr (grown_below hb) (fun g e => by cases e)⟩
theorem MoS.push {w W w1 : World} {b : Nat} {mv mv' : Value} {ms ms' : List Bool} (h : MoS w W b mv ms) (own' : OwnBo w.heap.size w1 mv' ms') (hg : W.grownBy w1 mv.ownBlock) : MoS w w1 b mv' ms' :=
  ⟨own', grown_own h.gr hg (fun g e => (World.ownsRow.lt h.own g e).1)⟩

set_option maxRecDepth 100000 in
set_option maxHeartbeats 6400000 in
theorem model_any (b : Nat) (l r : ByteArray) (k : Nat) (w : World) (h : Tb w b l r k) (hs : l.data.toList.length < 4294967281) (has : ∀ x ∈ l.data.toList, x.toNat < 256) (hk : k + (linesOf l.data.toList).length < 4611686018427387904) :
    Calls Tryd.prog 11 #[.pointer (some ⟨b, 0, none⟩)] w fun e w' => MoR w b k (k + 1) (linesOf l.data.toList) e w' := by
  have HT : Hid (Tb w b l r k) := h
  have HAs : Hid (∀ x ∈ l.data.toList, x.toNat < 256) := has
  obtain ⟨ib, hib, hb0, hb1, hb2⟩ := info_parts infoBo
  have HBad : Hid (∀ ms en er j, eatA (spoken (k + 1) (linesOf l.data.toList)) k false [] = (ms, en, some (er, j)) → ∀ s left rest w', OwnBo w.heap.size w' s ms → Tb w' b left rest (j : Int) → w.grownBy w' (some b) → MoR w b k (k + 1) (linesOf l.data.toList) (.returned (.tuple #[s, .int .i64 er])) w') := fun ms en er j he s left rest w' p1 p2 p3 => by
    have e1 : moE k (k + 1) (linesOf l.data.toList) = (er, j, ms) := by unfold moE; rw [he]
    exact ⟨s, left, rest, by rw [e1], by rw [e1]; exact p1, by rw [e1]; exact p2, p3⟩
  have HGood : Hid (∀ ms en, eatA (spoken (k + 1) (linesOf l.data.toList)) k false [] = (ms, en, none) → ∀ s left rest w', OwnBo w.heap.size w' s ms → Tb w' b left rest ((k + 1 + (linesOf l.data.toList).length : Nat) : Int) → w.grownBy w' (some b) → MoR w b k (k + 1) (linesOf l.data.toList) (.returned (.tuple #[s, .int .i64 (if en then 0 else 33)])) w') := fun ms en he s left rest w' p1 p2 p3 => by
    have e1 : moE k (k + 1) (linesOf l.data.toList) = (if en then 0 else 33, k + 1 + (linesOf l.data.toList).length, ms) := by unfold moE; rw [he]
    exact ⟨s, left, rest, by rw [e1], by rw [e1]; exact p1, by rw [e1]; exact p2, p3⟩
  generalize hPS : MoR w b k (k + 1) (linesOf l.data.toList) = PS at *
  have H0 : Hid (MoS w w b (.slice none 0 0) []) := ⟨World.ownsRow_nil _ _ _ _, ⟨rfl, rfl, rfl, Nat.le_refl _, fun _ _ _ => rfl⟩⟩
  generalize hF : eatA (spoken (k + 1) (linesOf l.data.toList)) k false [] = F at *
  clear h has hPS
  go_enter Tryd.func11, Tryd.ntmps11
  go_wp2
  go_step3
  go_wp2
  go_step3
  go_wp2
  go_loopg [4, 5, 6] (linesOf l.data.toList).length (fun g s3 s4 s5 wx => ∃ (Lf R : ByteArray) (j : Nat) (ms : List Bool) (en : Bool) (aa : Option Addr) (ac : Nat), g = (linesOf Lf.data.toList).length ∧ s3 = .slice aa ms.length ac ∧ s4 = .bool en ∧ s5 = .int .i64 0 ∧
    j + (linesOf Lf.data.toList).length = k + (linesOf l.data.toList).length ∧ ms.length + Lf.data.toList.length ≤ l.data.toList.length ∧ Hid (∀ x ∈ Lf.data.toList, x ∈ l.data.toList) ∧
    Hid (eatA (spoken (j + 1) (linesOf Lf.data.toList)) j en ms = F) ∧ Hid (Tb wx b Lf R j) ∧ Hid (MoS w wx b (.slice aa ms.length ac) ms))
  case atStart => exact ⟨l, r, k, [], false, none, 0, rfl, rfl, rfl, rfl, rfl, by simp, fun _ h => h, hF, HT.out, H0.out⟩
  case round =>
    obtain ⟨Lf, R, j, ms, en, aa, ac, rfl, rfl, rfl, rfl, hj, hlen, HSub, HE, HTb, HC⟩ := hrel
    have HN : Hid (Calls Tryd.prog 12 #[.pointer (some ⟨b, 0, none⟩)] wr fun e w' => NxtR Lf.data.toList b (j + 1) (linesOf Lf.data.toList) e w' ∧ wr.grownBy w' (some b)) := next_any b Lf R j wr HTb.out (by rw [← ba_lenW]; omega) (by omega)
    have HLen : Hid (ms.length + Lf.data.toList.length ≤ l.data.toList.length) := hlen
    have HJ : Hid (j + (linesOf Lf.data.toList).length = k + (linesOf l.data.toList).length) := hj
    have hLL : ms.length < 4294967281 := by omega
    clear hlen hj
    go_wp2_with fail
    refine HN.out.mono ?_
    rintro e w1 ⟨hN, hG⟩
    have HC1 : Hid (MoS w w1 b (.slice aa ms.length ac) ms) := HC.out.text HTb.out hG
    rcases hN with ⟨ln, k', rs, left, q1, rfl, q3, q4, q5, q6, q7⟩ | ⟨q1, rfl, rest, q2⟩
    case inr =>
      have HFin : Hid (PS (.returned (.tuple #[.slice aa ms.length ac, .int .i64 (if en then 0 else 33)])) w1) := by
        refine HGood.out ms en ?_ _ ⟨#[]⟩ rest _ HC1.out.own ?_ HC1.out.gr
        · rw [← HE.out, nxt_none q1]; rfl
        · have e1 : k + 1 + (linesOf l.data.toList).length = j + 1 + (linesOf Lf.data.toList).length := by have := HJ.out; omega
          rw [e1]; exact q2
      clear q1 q2 hG
      cases en
      · rw [if_neg (by simp)] at HFin
        go_wp2
        first | exact HFin.out | (go_returns; exact HFin.out) | (rw [Exit.noGoto_ret]; go_returns; exact HFin.out)
      · rw [if_pos rfl] at HFin
        go_wp2
        first | exact HFin.out | (go_returns; exact HFin.out) | (rw [Exit.noGoto_ret]; go_returns; exact HFin.out)
    obtain ⟨n1, n2, n3⟩ := nxt_some q1
    have hw1 : word1 ln ≠ [] := fun e => idle_words (nxt_idleA q1) (words_none e)
    have HLn : Hid (ln.length < 4294967281 ∧ ∀ x ∈ ln, x.toNat < 256) := ⟨by have := HLen.out; omega, fun x hx => HAs.out x (HSub.out x (q6 x (.inl hx)))⟩
    have HSub2 : Hid (∀ x ∈ left.data.toList, x ∈ l.data.toList) := fun x hx => HSub.out x (q6 x (.inr hx))
    have HE2 : Hid (eatA ((word1 ln, k') :: ((wordsOf (rest1 ln)).map (fun w => (w, k')) ++ spoken (k' + 1) (linesOf left.data.toList))) j en ms = F) := by
      have := HE.out
      rw [n1, words_word hw1, ← q3] at this
      exact this
    have HNe : Hid (k' ≠ j) := by show _ ≠ _; omega
    have HLen2 : Hid (ms.length + (rest1 ln).length + left.data.toList.length ≤ l.data.toList.length) := by show _ ≤ _; have := HLen.out; have := rest1_le ln; omega
    have HJ2 : Hid (k' + (linesOf left.data.toList).length = k + (linesOf l.data.toList).length) := by show _ = _; rw [q3]; have := HJ.out; omega
    have HMeas : Hid ((linesOf left.data.toList).length < (linesOf Lf.data.toList).length) := by show _ < _; rw [q3]; omega
    have HT1 : Hid (Tb w1 b left ⟨ln.toArray⟩ (k' : Int)) := q4
    clear q1 q3 q4 q5 q6 q7 n1 n2 n3 hG HN HE HJ HLen HSub HTb HC hw1
    go_wp2_with fail
    refine (word_tb b left ⟨ln.toArray⟩ k' w1 HT1.out (by rw [mk_list]; exact HLn.out.1) (by rw [mk_list]; exact HLn.out.2)).mono ?_
    rw [mk_list]
    rintro e w2 ⟨W1, R1, rfl, hW1, hR1, T2, G2⟩
    have HT2 : Hid (Tb w2 b left R1 (k' : Int)) := T2
    have HC2 : Hid (MoS w w2 b (.slice aa ms.length ac) ms) := HC1.out.text HT1.out G2
    have HR1 : Hid (R1.data.toList = rest1 ln) := hR1
    clear T2 G2 HT1 HC1 hR1
    have hb1 := ba_list W1
    rw [hW1] at hb1
    by_cases e1 : word1 ln = [118]
    case neg =>
      have HFin : Hid (PS (.returned (.tuple #[.slice aa ms.length ac, .int .i64 35])) w2) := by
        refine HBad.out ms en 35 k' ?_ _ left R1 _ HC2.out.own HT2.out HC2.out.gr
        rw [← HE2.out, eatA_bad HNe.out e1]
      have hq : (W1.toList == [118]) = false := by rw [hb1]; simpa using e1
      have hqn : (W1.toList != [118]) = true := by rw [bne, hq]; rfl
      clear hb1 hW1 e1 HE2
      go_wp2
      first | exact HFin.out | (go_returns; exact HFin.out) | (rw [Exit.noGoto_ret]; go_returns; exact HFin.out)
    have hq1 : (W1.toList == [118]) = true := by rw [hb1]; simpa using e1
    have hq1n : (W1.toList != [118]) = false := by rw [bne, hq1]; rfl
    have HE3 : Hid (eatA ((wordsOf (rest1 ln)).map (fun w => (w, k')) ++ spoken (k' + 1) (linesOf left.data.toList)) k' en ms = F) := by show _ = _; rw [← HE2.out, eatA_line HNe.out e1]
    have HL1 : Hid (R1.data.toList.length < 4294967281 ∧ ∀ x ∈ R1.data.toList, x.toNat < 256) := by
      rw [HR1.out]; exact ⟨by have := rest1_le ln; have := HLn.out.1; omega, fun x hx => HLn.out.2 x (rest1_sub hx)⟩
    have HL1' : Hid ((rest1 ln).length < 4294967281 ∧ ∀ x ∈ rest1 ln, x.toNat < 256) := by rw [← HR1.out]; exact HL1.out
    clear hb1 hW1 e1 HE2 HNe
    go_wp2_with fail
    refine (word_tb b left R1 k' w2 HT2.out HL1.out.1 HL1.out.2).mono ?_
    rintro e w3 ⟨W2, R2, rfl, hW2, hR2, T3, G3⟩
    rw [HR1.out] at hW2 hR2
    have HT3 : Hid (Tb w3 b left R2 (k' : Int)) := T3
    have HC3 : Hid (MoS w w3 b (.slice aa ms.length ac) ms) := HC2.out.text HT2.out G3
    have HW2 : Hid (W2.data.toList = word1 (rest1 ln)) := hW2
    have HR2 : Hid (R2.data.toList = rest1 (rest1 ln)) := hR2
    clear T3 G3 HT2 HC2 hR2 hW2 hq1 hq1n
    go_wp2
    go_loopg [4, 5, 6, 7] (rest1 ln).length (fun g s3 s4 s5 s6 wy => ∃ (R0 : List UInt8) (W R' : ByteArray) (ms : List Bool) (en : Bool) (aa : Option Addr) (ac : Nat), g = R0.length ∧ s3 = .slice aa ms.length ac ∧ s4 = .bool en ∧ s5 = .int .i64 0 ∧ s6 = .string W ∧
      Hid (W.data.toList = word1 R0) ∧ Hid (R'.data.toList = rest1 R0) ∧ Hid (R0.length < 4294967281 ∧ ∀ x ∈ R0, x.toNat < 256) ∧ ms.length + R0.length + left.data.toList.length ≤ l.data.toList.length ∧
      Hid (eatA ((wordsOf R0).map (fun w => (w, k')) ++ spoken (k' + 1) (linesOf left.data.toList)) k' en ms = F) ∧ Hid (Tb wy b left R' (k' : Int)) ∧ Hid (MoS w wy b (.slice aa ms.length ac) ms))
    case atStart => exact ⟨rest1 ln, W2, R2, ms, en, aa, ac, rfl, rfl, rfl, rfl, rfl, HW2, HR2, HL1', HLen2.out, HE3, HT3, HC3⟩
    case round =>
      obtain ⟨R0, W, R', ms2, en2, aa2, ac2, rfl, rfl, rfl, rfl, rfl, HW, HR, HL0, hlen, HE4, HT4, HC4⟩ := hrel
      have hb3 := ba_list W
      rw [HW.out] at hb3
      have HLen3 : Hid (ms2.length + R0.length + left.data.toList.length ≤ l.data.toList.length) := hlen
      have hLL2 : ms2.length < 4294967281 := by omega
      clear hlen
      by_cases hw0 : word1 R0 = []
      · have hem : W.toList.isEmpty = true := by rw [hb3, hw0]; rfl
        have HE5 : Hid (eatA (spoken (k' + 1) (linesOf left.data.toList)) k' en2 ms2 = F) := by show _ = _; rw [← HE4.out, words_none hw0]; rfl
        clear hb3 hw0
        go_wp2
        go_roundg (linesOf left.data.toList).length
        case measure => exact HMeas.out
        case rel => exact ⟨left, R', k', ms2, en2, aa2, ac2, rfl, rfl, rfl, rfl, HJ2.out, by have := HLen3.out; omega, HSub2, HE5, HT4, HC4⟩
      · have hem : W.toList.isEmpty = false := by rw [hb3]; simpa using hw0
        have HWd : Hid (wordsOf R0 = word1 R0 :: wordsOf (rest1 R0)) := words_word hw0
        have HLt : Hid ((rest1 R0).length < R0.length) := rest1_lt hw0
        have hz3 : W.size ≤ 281474976710656 := by rw [← ba_lenW, HW.out]; have := word1_le R0; have := HL0.out.1; omega
        have HL3 : Hid (R'.data.toList.length < 4294967281 ∧ ∀ x ∈ R'.data.toList, x.toNat < 256) := by
          rw [HR.out]; exact ⟨by have := rest1_le R0; have := HL0.out.1; omega, fun x hx => HL0.out.2 x (rest1_sub hx)⟩
        have HL3' : Hid ((rest1 R0).length < 4294967281 ∧ ∀ x ∈ rest1 R0, x.toNat < 256) := by rw [← HR.out]; exact HL3.out
        clear hb3 hw0
        go_wp2_with fail
        refine (number_any W wr hz3).mono ?_
        rw [HW.out]
        rintro e w5 ⟨rfl, bel5⟩
        have HT5 : Hid (Tb w5 b left R' (k' : Int)) := HT4.out.below bel5
        have HC5 : Hid (MoS w w5 b (.slice aa2 ms2.length ac2) ms2) := HC4.out.below bel5
        clear bel5 HT4 HC4
        have HE5 : Hid (eatA ((word1 R0, k') :: ((wordsOf (rest1 R0)).map (fun w => (w, k')) ++ spoken (k' + 1) (linesOf left.data.toList))) k' en2 ms2 = F) := by
          have := HE4.out
          rw [HWd.out] at this
          exact this
        clear HE4 HWd
        cases en2
        case true =>
          have HFin : Hid (PS (.returned (.tuple #[.slice aa2 ms2.length ac2, .int .i64 35])) w5) := by
            refine HBad.out ms2 true 35 k' ?_ _ left R' _ HC5.out.own HT5.out HC5.out.gr
            rw [← HE5.out, eatA_end]
          clear HE5
          generalize (numW (word1 R0)).getD 0 = z
          generalize (numW (word1 R0)).isSome = bz
          go_wp2
          first | exact HFin.out | (go_returns; exact HFin.out) | (rw [Exit.noGoto_ret]; go_returns; exact HFin.out)
        case false =>
        cases hn : numW (word1 R0) with
        | none =>
          have HFin : Hid (PS (.returned (.tuple #[.slice aa2 ms2.length ac2, .int .i64 31])) w5) := by
            refine HBad.out ms2 false 31 k' ?_ _ left R' _ HC5.out.own HT5.out HC5.out.gr
            rw [← HE5.out, eatA_none hn]
          clear HE5
          simp only [Option.getD_none, Option.isSome_none]
          go_wp2
          first | exact HFin.out | (go_returns; exact HFin.out) | (rw [Exit.noGoto_ret]; go_returns; exact HFin.out)
        | some z =>
          simp only [Option.getD_some, Option.isSome_some]
          by_cases hz0 : z = 0
          · subst hz0
            have HE6 : Hid (eatA ((wordsOf (rest1 R0)).map (fun w => (w, k')) ++ spoken (k' + 1) (linesOf left.data.toList)) k' true ms2 = F) := by
              show _ = _
              rw [← HE5.out, eatA_zero hn]
            clear HE5 hn
            go_wp2_with fail
            refine (word_tb b left R' k' w5 HT5.out HL3.out.1 HL3.out.2).mono ?_
            rintro e w9 ⟨W9, R9, rfl, p1, p2, p3, p4⟩
            rw [HR.out] at p1 p2
            have P1 : Hid (W9.data.toList = word1 (rest1 R0)) := p1
            have P2 : Hid (R9.data.toList = rest1 (rest1 R0)) := p2
            have P3 : Hid (Tb w9 b left R9 (k' : Int)) := p3
            have P4 : Hid (MoS w w9 b (.slice aa2 ms2.length ac2) ms2) := HC5.out.text HT5.out p4
            clear p1 p2 p3 p4
            go_wp2
            go_roundg (rest1 R0).length
            case measure => exact HLt.out
            case rel => exact ⟨rest1 R0, W9, R9, ms2, true, aa2, ac2, rfl, rfl, rfl, rfl, rfl, P1, P2, HL3', by have := HLen3.out; have := HLt.out; omega, HE6, P3, P4⟩
          · by_cases hvz : varOf z = (ms2.length : Int) + 1
            case neg =>
              have HFin : Hid (PS (.returned (.tuple #[.slice aa2 ms2.length ac2, .int .i64 32])) w5) := by
                refine HBad.out ms2 false 32 k' ?_ _ left R' _ HC5.out.own HT5.out HC5.out.gr
                rw [← HE5.out, eatA_lit hn hz0 hvz]
              have hvn : (varOf z != (ms2.length : Int) + 1) = true := by rw [bne, beq_eq_false_iff_ne.2 hvz]; rfl
              clear HE5 hn hvz
              go_wp2_with fail
              refine (var_any z w5).mono ?_
              rintro e w7 ⟨rfl, rfl⟩
              generalize varOf z = vz at *
              go_wp2
              first | exact HFin.out | (go_returns; exact HFin.out) | (rw [Exit.noGoto_ret]; go_returns; exact HFin.out)
            case pos =>
              have HE6 : Hid (eatA ((wordsOf (rest1 R0)).map (fun w => (w, k')) ++ spoken (k' + 1) (linesOf left.data.toList)) k' false (ms2 ++ [decide (0 < z)]) = F) := by
                show _ = _
                rw [← HE5.out, eatA_more hn hz0 hvz]
              clear HE5 hn
              have hsz : w.heap.size ≤ w5.heap.size := HC5.out.gr.size
              go_wp2_with fail
              refine (var_any z w5).mono ?_
              rw [hvz]
              clear hvz
              rintro e w7 ⟨rfl, rfl⟩
              by_cases hp : 0 < z
              case pos =>
                rw [decide_eq_true hp] at HE6
                have HOw : Hid (∀ c : Bool, (w7.alloc (.cells #[.bool c] 4)).ownsRow w.heap.size 4 1 (.slice aa2 ms2.length ac2) ms2.length (ms2.map Value.bool)) := fun c => World.ownsRow.alloc HC5.out.own _
                go_wp2_with (at_builtin; refine wpList_append_own _ rfl _ _ 22 rfl w.heap.size 4 ib (.bool false) 1 1 Tryd.underlying22 hib hb0 hb1 hb2 rfl (by decide) _ ms2.length (ms2.map Value.bool) rfl (World.ownsRow.alloc HC5.out.own _) _ 1 1 [.bool _] rfl rfl (cell_one_new _ _ _) (by simp [Value.oneCell']) ?_ ?_ ?_ ?_; (unfold maxLen; omega); omega; (rw [World.size_alloc]; omega); intro v8 w8 own8 gr8 hn8; obtain ⟨a8, c8, hv8⟩ := row_form own8; subst hv8; have F8 : Hid (MoS w w8 b (.slice a8 (ms2.length + 1) c8) (ms2 ++ [true]) ∧ Tb w8 b left R' (k' : Int)) := ⟨(HC5.out.below (below_box _ _)).push (OwnBo.one own8) gr8, (HT5.out.below (below_box _ _)).kept gr8 ((HT5.out.below (below_box _ _)).not_row (HOw.out true) (by decide))⟩; clear own8 gr8 hn8)
                refine (word_tb b left R' k' w8 F8.out.2 HL3.out.1 HL3.out.2).mono ?_
                rintro e w9 ⟨W9, R9, rfl, p1, p2, p3, p4⟩
                rw [HR.out] at p1 p2
                have P1 : Hid (W9.data.toList = word1 (rest1 R0)) := p1
                have P2 : Hid (R9.data.toList = rest1 (rest1 R0)) := p2
                have P3 : Hid (Tb w9 b left R9 (k' : Int)) := p3
                have P4 : Hid (MoS w w9 b (.slice a8 (ms2.length + 1) c8) (ms2 ++ [true])) := F8.out.1.text F8.out.2 p4
                clear p1 p2 p3 p4
                go_wp2
                go_roundg (rest1 R0).length
                case measure => exact HLt.out
                case rel => exact ⟨rest1 R0, W9, R9, ms2 ++ [true], false, a8, c8, rfl, by simp, rfl, rfl, rfl, P1, P2, HL3', by have := HLen3.out; have := HLt.out; rw [List.length_append]; simp only [List.length_cons, List.length_nil]; omega, HE6, P3, by show MoS _ _ _ _ _; simpa using P4.out⟩
              case neg =>
                have HOw : Hid (∀ c : Bool, (w7.alloc (.cells #[.bool c] 4)).ownsRow w.heap.size 4 1 (.slice aa2 ms2.length ac2) ms2.length (ms2.map Value.bool)) := fun c => World.ownsRow.alloc HC5.out.own _
                go_wp2_with (at_builtin; refine wpList_append_own _ rfl _ _ 22 rfl w.heap.size 4 ib (.bool false) 1 1 Tryd.underlying22 hib hb0 hb1 hb2 rfl (by decide) _ ms2.length (ms2.map Value.bool) rfl (World.ownsRow.alloc HC5.out.own _) _ 1 1 [.bool _] rfl rfl (cell_one_new _ _ _) (by simp [Value.oneCell']) ?_ ?_ ?_ ?_; (unfold maxLen; omega); omega; (rw [World.size_alloc]; omega); intro v8 w8 own8 gr8 hn8; obtain ⟨a8, c8, hv8⟩ := row_form own8; subst hv8; have F8 : Hid (MoS w w8 b (.slice a8 (ms2.length + 1) c8) (ms2 ++ [decide (0 < z)]) ∧ Tb w8 b left R' (k' : Int)) := ⟨(HC5.out.below (below_box _ _)).push (OwnBo.one own8) gr8, (HT5.out.below (below_box _ _)).kept gr8 ((HT5.out.below (below_box _ _)).not_row (HOw.out true) (by decide))⟩; clear own8 gr8 hn8)
                refine (word_tb b left R' k' w8 F8.out.2 HL3.out.1 HL3.out.2).mono ?_
                rintro e w9 ⟨W9, R9, rfl, p1, p2, p3, p4⟩
                rw [HR.out] at p1 p2
                have P1 : Hid (W9.data.toList = word1 (rest1 R0)) := p1
                have P2 : Hid (R9.data.toList = rest1 (rest1 R0)) := p2
                have P3 : Hid (Tb w9 b left R9 (k' : Int)) := p3
                have P4 : Hid (MoS w w9 b (.slice a8 (ms2.length + 1) c8) (ms2 ++ [decide (0 < z)])) := F8.out.1.text F8.out.2 p4
                clear p1 p2 p3 p4
                go_wp2
                go_roundg (rest1 R0).length
                case measure => exact HLt.out
                case rel => exact ⟨rest1 R0, W9, R9, ms2 ++ [decide (0 < z)], false, a8, c8, rfl, by simp, rfl, rfl, rfl, P1, P2, HL3', by have := HLen3.out; have := HLt.out; rw [List.length_append]; simp only [List.length_cons, List.length_nil]; omega, HE6, P3, by show MoS _ _ _ _ _; simpa using P4.out⟩

end Go.Proofs.YtpebpnbikdahkaaDoor

/-
  joined: ClW AnM ReadW AnW
-/
import Derived.Test.YtlkbbbbclmffjaaGreatDoorJNextW
import Derived.Test.YtlkbbbbclmffjaaGreatDoorKApp2
import Derived.Test.YtlkbbbbclmffjaaGreatDoorKConcat
import Derived.Deep.LoopGhost
import Derived.Test.YtlkbbbbclmffjaaGreatDoorKCopyBs
import Derived.Test.YtlkbbbbclmffjaaGreatDoorKFormAns
import Derived.Test.YtlkbbbbclmffjaaGreatDoorKAnB
set_option linter.unusedSimpArgs false
set_option linter.unusedVariables false
namespace Go.Proofs.YtlkbbbbclmffjaaGreatDoor
open Go Go.RowKit

theorem nxt_some : ∀ {ls : List (List UInt8)} {k k' : Nat} {l : List UInt8} {r : List (List UInt8)}, nxt k ls = some (l, k', r) → spoken k ls = (wordsOf l).map (fun w => (w, k')) ++ spoken (k' + 1) r ∧ k' + 1 + r.length = k + ls.length ∧ k ≤ k'
  | [], k, k', l, r, h => by simp [nxt] at h
  | x :: t, k, k', l, r, h => by
    unfold nxt at h
    cases hx : idleL x
    · rw [hx] at h
      simp at h
      obtain ⟨rfl, rfl, rfl⟩ := h
      refine ⟨by simp [spoken, hx], by simp; omega, Nat.le_refl _⟩
    · rw [hx] at h
      simp at h
      obtain ⟨h1, h2, h3⟩ := nxt_some h
      refine ⟨by simp [spoken, hx, h1], by simp; omega, by omega⟩
theorem nxt_none : ∀ {ls : List (List UInt8)} {k : Nat}, nxt k ls = none → spoken k ls = []
  | [], k, h => rfl
  | x :: t, k, h => by
    unfold nxt at h
    cases hx : idleL x
    · rw [hx] at h; simp at h
    · rw [hx] at h
      simp at h
      simp [spoken, hx, nxt_none h]
/-- what clauses answers: the error, its line, the clauses -/
def clE (v : Int) (k : Nat) (ls : List (List UInt8)) : Int × Nat × List (List Int) :=
  match eat v (spoken k ls) [] [] with
  | (all, _, some (e, j)) => (e, j, all)
  | (all, op, none) => (if op ≠ [] then 33 else 0, k + ls.length, all)
theorem Tb.not_row {W : World} {b : Nat} {l r : ByteArray} {k : Int} (h : Tb W b l r k) {base e s n : Nat} {v : Value} {xs : List Value} (hr : W.ownsRow base e s v n xs) (he : e ≠ 65) : some b ≠ v.ownBlock := fun e' => by
  rcases hr.2 with ⟨rfl, _⟩ | ⟨g, cap, cur, rfl, _, hh, _⟩
  · cases e'
  · cases e'
    rw [show W.heap[g]? = _ from h] at hh
    injection hh with hh
    injection hh with _ e2
    exact he e2.symm
theorem Tb.kept {W W' : World} {b : Nat} {l r : ByteArray} {k : Int} {row : Option Nat} (h : Tb W b l r k) (hg : W.grownBy W' row) (hne : some b ≠ row) : Tb W' b l r k := (hg.block b h.lt hne).trans h
theorem grown_own {w W W' : World} {b : Nat} {r : Option Nat} (h : w.grownBy W (some b)) (hg : W.grownBy W' r) (hr : ∀ g, r = some g → w.heap.size ≤ g) : w.grownBy W' (some b) :=
  ⟨hg.os.trans h.os, hg.tape.trans h.tape, hg.output.trans h.output, Nat.le_trans h.size hg.size, fun k hk hne => (hg.block k (Nat.lt_of_lt_of_le hk h.size) (fun e => by have := hr k e.symm; omega)).trans (h.block k hk hne)⟩
/-- the clauses that are whole, and the one that is open -/
structure ClS (w W : World) (b : Nat) (av ov : Value) (L : List Cls) (op : List Int) : Prop where
  own : OwnR w.heap.size W av L
  opn : Own w.heap.size W ov op
  ap : ∀ x ∈ L, x.1.ownBlock = none ∨ x.1.ownBlock ≠ ov.ownBlock
  gr : w.grownBy W (some b)
theorem ClS.text {w W W' : World} {b : Nat} {av ov : Value} {L : List Cls} {op : List Int} {l r : ByteArray} {k : Int} (h : ClS w W b av ov L op) (ht : Tb W b l r k) (hg : W.grownBy W' (some b)) : ClS w W' b av ov L op :=
  ⟨⟨World.ownsRow.kept h.own.row hg (.inr (fun e => ht.not_row h.own.row (by decide) e.symm)), fun x hx => World.ownsRow.kept (h.own.own x hx) hg (.inr (fun e => ht.not_row (h.own.own x hx) (by decide) e.symm)), h.own.ap⟩,
    World.ownsRow.kept h.opn hg (.inr (fun e => ht.not_row h.opn (by decide) e.symm)), h.ap, h.gr.trans hg⟩
theorem ClS.below {w W W' : World} {b : Nat} {av ov : Value} {L : List Cls} {op : List Int} (h : ClS w W b av ov L op) (hb : Below W.heap.size W W') : ClS w W' b av ov L op :=
  ⟨h.own.below hb, h.opn.below hb, h.ap, grown_own h.gr (grown_below hb) (fun g e => by cases e)⟩
theorem ClS.whole {w W Wa w1 : World} {b : Nat} {av av' ov u : Value} {L : List Cls} {op z : List Int} {W0 : World} (h0 : ClS w W0 b av ov L op) (hb0 : Below W0.heap.size W0 W) (hu : Own W0.heap.size W u z) (hga : W.grownBy Wa none)
    (own' : w1.ownsRow w.heap.size 43 1 av' (L.length + 1) (L.map Prod.fst ++ [u])) (hg : Wa.grownBy w1 av.ownBlock) : ClS w w1 b av' ov (L ++ [(u, z)]) op := by
  have h := h0.below hb0
  have sW : w.heap.size ≤ W0.heap.size := h0.gr.size
  have rowa := World.ownsRow.kept h.own.row hga (one_or _)
  refine ⟨h.own.app hga own' hg (hu.mono sW) (ApartC.snoc h0.own.ap h0.own.own hu (Nat.le_refl _)), row_apart (by decide) (World.ownsRow.kept h.opn hga (one_or _)) rowa hg, fun x hx => ?_, grown_own (grown_own h.gr hga (fun g e => by cases e)) hg (fun g e => (h.own.row.lt g e).1)⟩
  rcases List.mem_append.1 hx with hx | hx
  · exact h.ap x hx
  · obtain rfl := List.mem_singleton.1 hx
    cases hub : u.ownBlock with
    | none => exact .inl rfl
    | some g =>
      refine .inr fun e => ?_
      have a1 := (World.ownsRow.lt hu g hub).1
      have a2 := (World.ownsRow.lt h0.opn g e.symm).2
      omega
theorem ClS.push {w W w1 : World} {b : Nat} {av ov ov' : Value} {L : List Cls} {op op' : List Int} (h : ClS w W b av ov L op) (own' : Own w.heap.size w1 ov' op') (hp : Ap W ov w1 ov') : ClS w w1 b av ov' L op' := by
  refine ⟨⟨row_apart (by decide) h.own.row h.opn hp.grown, fun x hx => World.ownsRow.kept (h.own.own x hx) hp.grown (h.ap x hx), h.own.ap⟩, own', fun x hx => ?_, grown_own h.gr hp.grown (fun g e => (h.opn.lt g e).1)⟩
  rcases hp.new with e | e
  · rw [e]; exact h.ap x hx
  · cases hxb : x.1.ownBlock with
    | none => exact .inl rfl
    | some g =>
      refine .inr fun e2 => ?_
      have := e g e2.symm
      have := (World.ownsRow.lt (h.own.own x hx) g hxb).2
      omega
/-- what clauses answers and leaves -/
def ClR (w : World) (b k : Nat) (ls : List (List UInt8)) (v : Int) (e : Ending) (w' : World) : Prop :=
  ∃ s left rest, e = .returned (.tuple #[s, .int .i64 (clE v k ls).1]) ∧ OwnF w.heap.size w' s (clE v k ls).2.2 ∧ Tb w' b left rest ((clE v k ls).2.1 : Int) ∧ w.grownBy w' (some b)

theorem rd_new (w : World) (z : Int) : Rd (w.alloc (.cells #[.int .i64 z] 3)) (.slice (some ⟨w.heap.size, 0, none⟩) 1 1) [z] := by
  have hh := World.alloc_heap_new w (.cells #[.int .i64 z] 3)
  refine ⟨by simp, some ⟨w.heap.size, 0, none⟩, 1, rfl, by simp, by unfold maxLen; omega, by simp, fun _ => ⟨w.heap.size, 0, rfl, by rw [World.size_alloc]; omega, fun j hj => ?_⟩⟩
  have : j = 0 := by simpa using hj
  subst this
  show (match (w.alloc (.cells #[.int .i64 z] 3)).heap[w.heap.size]? with | some (Obj.cells c elem frozen) => c[0 + 0]? | x => none) = _
  rw [hh]; rfl
theorem own_cut0 {B : Nat} {w : World} {g n c : Nat} {op : List Int} (h : Own B w (.slice (some ⟨g, 0, none⟩) n c) op) : Own B w (.slice (some ⟨g, 0, none⟩) 0 c) [] := by
  refine ⟨rfl, ?_⟩
  rcases h.2 with ⟨e, _⟩ | ⟨g', cap, cur, e, hb', hh, h1, h2, h3, h4⟩
  · cases e
  · injection e with e1 e2 e3
    injection e1 with e1
    injection e1 with e1
    subst e1; subst e3
    exact .inr ⟨g, c, cur, rfl, hb', hh, Nat.zero_le _, h2, h3, by simp⟩
theorem ClS.cut {w W : World} {b g n c : Nat} {av : Value} {L : List Cls} {op : List Int} (h : ClS w W b av (.slice (some ⟨g, 0, none⟩) n c) L op) : ClS w W b av (.slice (some ⟨g, 0, none⟩) 0 c) L [] :=
  ⟨h.own, own_cut0 h.opn, h.ap, h.gr⟩
theorem own_shape {B : Nat} {w : World} {v : Value} {op : List Int} (h : Own B w v op) : (v = .slice none 0 0 ∧ op = []) ∨ ∃ g c, v = .slice (some ⟨g, 0, none⟩) op.length c ∧ op.length ≤ c ∧ c ≤ maxLen := by
  rcases h.2 with ⟨rfl, e⟩ | ⟨g', cap, cur, rfl, hb', hh, h1, h2, h3, h4⟩
  · exact .inl ⟨rfl, List.eq_nil_of_length_eq_zero e⟩
  · exact .inr ⟨g', cap, rfl, h1, h2⟩

set_option maxRecDepth 100000 in
set_option maxHeartbeats 6400000 in
theorem clauses_any (b : Nat) (l r : ByteArray) (k : Nat) (v : Int) (w : World) (h : Tb w b l r k) (hs : l.data.toList.length < 4294967281) (has : ∀ x ∈ l.data.toList, x.toNat < 256) (hk : k + (linesOf l.data.toList).length < 4611686018427387904) :
    Calls Tryz.prog 41 #[.pointer (some ⟨b, 0, none⟩), .int .i64 v] w fun e w' => ClR w b (k + 1) (linesOf l.data.toList) v e w' := by
  have HT : Hid (Tb w b l r k) := h
  have HAs : Hid (∀ x ∈ l.data.toList, x.toNat < 256) := has
  obtain ⟨il, hil, hzl0, hzl1, hzl2⟩ := info_parts infoR
  -- what the whole gives
  have HBad : Hid (∀ all op er j, eat v (spoken (k + 1) (linesOf l.data.toList)) [] [] = (all, op, some (er, j)) → ∀ s left rest w', OwnF w.heap.size w' s all → Tb w' b left rest (j : Int) → w.grownBy w' (some b) → ClR w b (k + 1) (linesOf l.data.toList) v (.returned (.tuple #[s, .int .i64 er])) w') := fun all op er j he s left rest w' p1 p2 p3 => by
    have e1 : clE v (k + 1) (linesOf l.data.toList) = (er, j, all) := by unfold clE; rw [he]
    exact ⟨s, left, rest, by rw [e1], by rw [e1]; exact p1, by rw [e1]; exact p2, p3⟩
  have HGood : Hid (∀ all op, eat v (spoken (k + 1) (linesOf l.data.toList)) [] [] = (all, op, none) → ∀ s left rest w', OwnF w.heap.size w' s all → Tb w' b left rest ((k + 1 + (linesOf l.data.toList).length : Nat) : Int) → w.grownBy w' (some b) → ClR w b (k + 1) (linesOf l.data.toList) v (.returned (.tuple #[s, .int .i64 (if op ≠ [] then 33 else 0)])) w') := fun all op he s left rest w' p1 p2 p3 => by
    have e1 : clE v (k + 1) (linesOf l.data.toList) = (if op ≠ [] then 33 else 0, k + 1 + (linesOf l.data.toList).length, all) := by unfold clE; rw [he]
    exact ⟨s, left, rest, by rw [e1], by rw [e1]; exact p1, by rw [e1]; exact p2, p3⟩
  generalize hPS : ClR w b (k + 1) (linesOf l.data.toList) v = PS at *
  have H0 : Hid (ClS w w b (.slice none 0 0) (.slice none 0 0) [] []) := ⟨OwnR.nil _ _, World.ownsRow_nil _ _ _ _, fun x hx => (by cases hx), ⟨rfl, rfl, rfl, Nat.le_refl _, fun _ _ _ => rfl⟩⟩
  generalize hF : eat v (spoken (k + 1) (linesOf l.data.toList)) [] [] = F at *
  clear h has hPS
  go_enter Tryz.func41, Tryz.ntmps41
  go_wp2
  go_step3
  go_wp2
  go_step3
  go_wp2
  go_loopg [6, 7, 8] (linesOf l.data.toList).length (fun g s6 s7 s8 wx => ∃ (Lf R : ByteArray) (j : Nat) (L : List Cls) (op : List Int) (aa oa : Option Addr) (ac oc : Nat), g = (linesOf Lf.data.toList).length ∧ s6 = .slice aa L.length ac ∧ s7 = .slice oa op.length oc ∧ s8 = .int .i64 0 ∧
    j + (linesOf Lf.data.toList).length = k + (linesOf l.data.toList).length ∧ L.length + op.length + Lf.data.toList.length ≤ l.data.toList.length ∧ Hid (∀ x ∈ Lf.data.toList, x ∈ l.data.toList) ∧
    Hid (eat v (spoken (j + 1) (linesOf Lf.data.toList)) op (L.map Prod.snd) = F) ∧ Hid (Tb wx b Lf R j) ∧ Hid (ClS w wx b (.slice aa L.length ac) (.slice oa op.length oc) L op))
  case atStart => exact ⟨l, r, k, [], [], none, none, 0, 0, rfl, rfl, rfl, rfl, rfl, by simp, fun _ h => h, hF, HT.out, H0.out⟩
  case round =>
    obtain ⟨Lf, R, j, L, op, aa, oa, ac, oc, rfl, rfl, rfl, rfl, hj, hlen, HSub, HE, HTb, HC⟩ := hrel
    have HN : Hid (Calls Tryz.prog 51 #[.pointer (some ⟨b, 0, none⟩)] wr fun e w' => NxtR Lf.data.toList b (j + 1) (linesOf Lf.data.toList) e w' ∧ wr.grownBy w' (some b)) := next_any b Lf R j wr HTb.out (by rw [← ba_lenW]; omega) (by omega)
    have HLen : Hid (L.length + op.length + Lf.data.toList.length ≤ l.data.toList.length) := hlen
    have HJ : Hid (j + (linesOf Lf.data.toList).length = k + (linesOf l.data.toList).length) := hj
    have hLL : L.length < 4294967281 := by omega
    have hOO : op.length < 4294967281 := by omega
    clear hlen hj
    go_wp2_with fail
    refine HN.out.mono ?_
    rintro e w1 ⟨hN, hG⟩
    have HC1 : Hid (ClS w w1 b (.slice aa L.length ac) (.slice oa op.length oc) L op) := HC.out.text HTb.out hG
    rcases hN with ⟨ln, k', rs, left, q1, rfl, q3, q4, q5, q6, q7⟩ | ⟨q1, rfl, rest, q2⟩
    case inr =>
      have HFin : Hid (PS (.returned (.tuple #[.slice aa L.length ac, .int .i64 (if op ≠ [] then 33 else 0)])) w1) := by
        refine HGood.out (L.map Prod.snd) op ?_ _ ⟨#[]⟩ rest _ ⟨L, HC1.out.own, rfl⟩ ?_ HC1.out.gr
        · rw [← HE.out, nxt_none q1]; rfl
        · have e1 : k + 1 + (linesOf l.data.toList).length = j + 1 + (linesOf Lf.data.toList).length := by have := HJ.out; omega
          rw [e1]; exact q2
      clear q1 q2 hG
      by_cases hop : op = []
      · subst hop
        rw [if_neg (by simp)] at HFin
        go_wp2
        first | exact HFin.out | (go_returns; exact HFin.out) | (rw [Exit.noGoto_ret]; go_returns; exact HFin.out)
      · have hop2 : 0 < op.length := List.length_pos_iff.2 hop
        rw [if_pos hop] at HFin
        go_wp2
        first | exact HFin.out | (go_returns; exact HFin.out) | (rw [Exit.noGoto_ret]; go_returns; exact HFin.out)
    obtain ⟨n1, n2, n3⟩ := nxt_some q1
    have HLn : Hid (ln.length < 4294967281 ∧ ∀ x ∈ ln, x.toNat < 256) := ⟨by have := HLen.out; omega, fun x hx => HAs.out x (HSub.out x (q6 x (.inl hx)))⟩
    have HSub2 : Hid (∀ x ∈ left.data.toList, x ∈ l.data.toList) := fun x hx => HSub.out x (q6 x (.inr hx))
    have HE2 : Hid (eat v ((wordsOf ln).map (fun w => (w, k')) ++ spoken (k' + 1) (linesOf left.data.toList)) op (L.map Prod.snd) = F) := by show _ = _; rw [q3, ← n1]; exact HE.out
    have HLen2 : Hid (L.length + op.length + ln.length + left.data.toList.length ≤ l.data.toList.length) := by show _ ≤ _; have := HLen.out; omega
    have HJ2 : Hid (k' + (linesOf left.data.toList).length = k + (linesOf l.data.toList).length) := by show _ = _; rw [q3]; have := HJ.out; omega
    have HMeas : Hid ((linesOf left.data.toList).length < (linesOf Lf.data.toList).length) := by show _ < _; rw [q3]; omega
    have HT1 : Hid (Tb w1 b left ⟨ln.toArray⟩ (k' : Int)) := q4
    clear q1 q3 q4 q5 q6 q7 n1 n2 n3 hG HN HE HJ HLen HSub HTb HC
    go_wp2_with fail
    refine (word_tb b left ⟨ln.toArray⟩ k' w1 HT1.out (by rw [mk_list]; exact HLn.out.1) (by rw [mk_list]; exact HLn.out.2)).mono ?_
    rw [mk_list]
    rintro e w2 ⟨W1, R1, rfl, hW1, hR1, T2, G2⟩
    have HT2 : Hid (Tb w2 b left R1 (k' : Int)) := T2
    have HC2 : Hid (ClS w w2 b (.slice aa L.length ac) (.slice oa op.length oc) L op) := HC1.out.text HT1.out G2
    have HW1 : Hid (W1.data.toList = word1 ln) := hW1
    have HR1 : Hid (R1.data.toList = rest1 ln) := hR1
    clear T2 G2 HT1 HC1 hR1 hW1
    go_wp2
    go_loopg [6, 7, 8, 9] ln.length (fun g s6 s7 s8 s9 wy => ∃ (R0 : List UInt8) (W R' : ByteArray) (L : List Cls) (op : List Int) (aa oa : Option Addr) (ac oc : Nat), g = R0.length ∧ s6 = .slice aa L.length ac ∧ s7 = .slice oa op.length oc ∧ s8 = .int .i64 0 ∧ s9 = .string W ∧
      Hid (W.data.toList = word1 R0) ∧ Hid (R'.data.toList = rest1 R0) ∧ Hid (R0.length < 4294967281 ∧ ∀ x ∈ R0, x.toNat < 256) ∧ L.length + op.length + R0.length + left.data.toList.length ≤ l.data.toList.length ∧
      Hid (eat v ((wordsOf R0).map (fun w => (w, k')) ++ spoken (k' + 1) (linesOf left.data.toList)) op (L.map Prod.snd) = F) ∧ Hid (Tb wy b left R' (k' : Int)) ∧ Hid (ClS w wy b (.slice aa L.length ac) (.slice oa op.length oc) L op))
    case atStart => exact ⟨ln, W1, R1, L, op, aa, oa, ac, oc, rfl, rfl, rfl, rfl, rfl, HW1, HR1, HLn, HLen2.out, HE2, HT2, HC2⟩
    case round =>
      obtain ⟨R0, W, R', L2, op2, aa2, oa2, ac2, oc2, rfl, rfl, rfl, rfl, rfl, HW, HR, HL0, hlen, HE3, HT3, HC3⟩ := hrel
      have hb3 := ba_list W
      rw [HW.out] at hb3
      have HLen3 : Hid (L2.length + op2.length + R0.length + left.data.toList.length ≤ l.data.toList.length) := hlen
      have hLL2 : L2.length < 4294967281 := by omega
      have hOO2 : op2.length < 4294967281 := by omega
      clear hlen
      by_cases hw0 : word1 R0 = []
      · have hem : W.toList.isEmpty = true := by rw [hb3, hw0]; rfl
        have HE4 : Hid (eat v (spoken (k' + 1) (linesOf left.data.toList)) op2 (L2.map Prod.snd) = F) := by show _ = _; rw [← HE3.out, words_none hw0]; rfl
        clear hb3 hw0
        go_wp2
        go_roundg (linesOf left.data.toList).length
        case measure => exact HMeas.out
        case rel => exact ⟨left, R', k', L2, op2, aa2, oa2, ac2, oc2, rfl, rfl, rfl, rfl, HJ2.out, by have := HLen3.out; omega, HSub2, HE4, HT3, HC3⟩
      · have hem : W.toList.isEmpty = false := by rw [hb3]; simpa using hw0
        have HWd : Hid (wordsOf R0 = word1 R0 :: wordsOf (rest1 R0)) := words_word hw0
        have HLt : Hid ((rest1 R0).length < R0.length) := rest1_lt hw0
        have hz3 : W.size ≤ 281474976710656 := by rw [← ba_lenW, HW.out]; have := word1_le R0; have := HL0.out.1; omega
        have HL3 : Hid (R'.data.toList.length < 4294967281 ∧ ∀ x ∈ R'.data.toList, x.toNat < 256) := by
          rw [HR.out]; exact ⟨by have := rest1_le R0; have := HL0.out.1; omega, fun x hx => HL0.out.2 x (rest1_sub hx)⟩
        clear hb3 hw0
        go_wp2_with fail
        refine (number_any W wr hz3).mono ?_
        rw [HW.out]
        rintro e w5 ⟨rfl, bel5⟩
        have HT5 : Hid (Tb w5 b left R' (k' : Int)) := HT3.out.below bel5
        have HC5 : Hid (ClS w w5 b (.slice aa2 L2.length ac2) (.slice oa2 op2.length oc2) L2 op2) := HC3.out.below bel5
        clear bel5 HT3 HC3
        have HE5 : Hid (eat v ((word1 R0, k') :: ((wordsOf (rest1 R0)).map (fun w => (w, k')) ++ spoken (k' + 1) (linesOf left.data.toList))) op2 (L2.map Prod.snd) = F) := by
          have := HE3.out
          rw [HWd.out] at this
          exact this
        clear HE3 HWd
        cases hn : numW (word1 R0) with
        | none =>
          have HFin : Hid (PS (.returned (.tuple #[.slice aa2 L2.length ac2, .int .i64 31])) w5) := by
            refine HBad.out (L2.map Prod.snd) op2 31 k' ?_ _ left R' _ ⟨L2, HC5.out.own, rfl⟩ HT5.out HC5.out.gr
            rw [← HE5.out]; simp only [eat, hn]
          clear HE5
          go_wp2
          first | exact HFin.out | (go_returns; exact HFin.out) | (rw [Exit.noGoto_ret]; go_returns; exact HFin.out)
        | some z =>
          simp only [Option.getD_some, Option.isSome_some]
          by_cases hz0 : z = 0
          · subst hz0
            have HE6 : Hid (eat v ((wordsOf (rest1 R0)).map (fun w => (w, k')) ++ spoken (k' + 1) (linesOf left.data.toList)) [] (L2.map Prod.snd ++ [op2]) = F) := by
              show _ = _
              rw [← HE5.out]; simp only [eat, hn, if_pos]
            have HRo : Hid (Rd w5 (.slice oa2 op2.length oc2) op2) := HC5.out.opn.rd (by omega)
            clear HE5 hn
            go_wp2_with fail
            refine (clone_any _ op2 w5 HRo.out).mono ?_
            rintro e w6 ⟨u6, rfl, own6, bel6⟩
            obtain ⟨a6, c6, hu6⟩ := own_form own6
            subst hu6
            have O6 : Hid (Own w5.heap.size w6 (.slice a6 op2.length c6) op2) := own6
            have B6 : Hid (Below w5.heap.size w5 w6) := bel6
            have HT6 : Hid (Tb w6 b left R' (k' : Int)) := HT5.out.below bel6
            have HRow : Hid ((w6.alloc (.cells #[.slice a6 op2.length c6] 43)).ownsRow w.heap.size 43 1 (.slice aa2 L2.length ac2) L2.length (L2.map Prod.fst)) := World.ownsRow.alloc (HC5.out.below bel6).own.row _
            have hsz : w.heap.size ≤ w6.heap.size := Nat.le_trans HC5.out.gr.size bel6.size
            clear own6 bel6
            have HNext : Hid (∀ (w7 : World) (a7 : Option Addr) (c7 : Nat) (ob : Option Addr) (oc : Nat), ClS w w7 b (.slice a7 (L2.length + 1) c7) (.slice ob 0 oc) (L2 ++ [(.slice a6 op2.length c6, op2)]) [] → Tb w7 b left R' (k' : Int) → Calls Tryz.prog 58 #[.pointer (some ⟨b, 0, none⟩)] w7 fun e w' => ∃ W R'' : ByteArray, e = .returned (.string W) ∧ W.data.toList = word1 (rest1 R0) ∧ R''.data.toList = rest1 (rest1 R0) ∧ Tb w' b left R'' (k' : Int) ∧ ClS w w' b (.slice a7 (L2.length + 1) c7) (.slice ob 0 oc) (L2 ++ [(.slice a6 op2.length c6, op2)]) []) := fun w7 a7 c7 ob oc q1 q2 => by
              refine (word_tb b left R' k' w7 q2 HL3.out.1 HL3.out.2).mono ?_
              rintro e w8 ⟨W8, R8, rfl, p1, p2, p3, p4⟩
              rw [HR.out] at p1 p2
              exact ⟨W8, R8, rfl, p1, p2, p3, q1.text q2 p4⟩
            have HRel : Hid (∀ (w8 : World) (a7 : Option Addr) (c7 : Nat) (ob : Option Addr) (oc : Nat) (W8 R8 : ByteArray), W8.data.toList = word1 (rest1 R0) → R8.data.toList = rest1 (rest1 R0) → Tb w8 b left R8 (k' : Int) → ClS w w8 b (.slice a7 (L2.length + 1) c7) (.slice ob 0 oc) (L2 ++ [(.slice a6 op2.length c6, op2)]) [] →
                ∃ (R0' : List UInt8) (W R' : ByteArray) (L : List Cls) (op : List Int) (aa oa : Option Addr) (ac oc' : Nat), (rest1 R0).length = R0'.length ∧ Value.slice a7 (L2.length + 1) c7 = .slice aa L.length ac ∧ Value.slice ob 0 oc = .slice oa op.length oc' ∧ Value.int .i64 0 = .int .i64 0 ∧ Value.string W8 = .string W ∧
                Hid (W.data.toList = word1 R0') ∧ Hid (R'.data.toList = rest1 R0') ∧ Hid (R0'.length < 4294967281 ∧ ∀ x ∈ R0', x.toNat < 256) ∧ L.length + op.length + R0'.length + left.data.toList.length ≤ l.data.toList.length ∧
                Hid (eat v ((wordsOf R0').map (fun w => (w, k')) ++ spoken (k' + 1) (linesOf left.data.toList)) op (L.map Prod.snd) = F) ∧ Hid (Tb w8 b left R' (k' : Int)) ∧ Hid (ClS w w8 b (.slice aa L.length ac) (.slice oa op.length oc') L op)) := fun w8 a7 c7 ob oc W8 R8 p1 p2 p3 p4 => by
              refine ⟨rest1 R0, W8, R8, L2 ++ [(.slice a6 op2.length c6, op2)], [], a7, ob, c7, oc, rfl, by simp, rfl, rfl, rfl, p1, p2, by rw [← HR.out]; exact HL3.out, ?_, ?_, p3, ?_⟩
              · have := HLen3.out; have := HLt.out; rw [List.length_append]; simp only [List.length_cons, List.length_nil]; omega
              · show _ = _; rw [List.map_append]; exact HE6.out
              · show ClS _ _ _ _ _ _ _
                simpa using p4
            rcases own_shape HC5.out.opn with ⟨e1, e2⟩ | ⟨g5, c5, e1, e2, e3⟩
            · subst e2
              injection e1 with q1 q2 q3
              subst q1; subst q3
              go_wp2_with (at_builtin; refine wpList_append_own _ rfl _ _ 22 rfl w.heap.size 43 il (.slice none 0 0) 1 24 Tryz.underlying22 hil hzl0 hzl1 hzl2 rfl (by decide) _ L2.length (L2.map Prod.fst) rfl HRow.out _ 1 1 [.slice a6 0 c6] rfl rfl (cell_one_new _ _ _) (by simp [Value.oneCell']) (by unfold maxLen; omega) (by omega) (by simp; omega) ?_; intro v7 w7 own7 gr7 hn7; obtain ⟨a7, c7, hv7⟩ := row_form own7; subst hv7; have F7 : Hid (ClS w w7 b (.slice a7 (L2.length + 1) c7) (.slice none 0 0) (L2 ++ [(.slice a6 0 c6, ([] : List Int))]) [] ∧ Tb w7 b left R' (k' : Int)) := ⟨ClS.whole HC5.out B6.out O6.out (World.grownBy_alloc _ _ none) own7 gr7, (HT6.out.below (below_box _ _)).kept gr7 ((HT6.out.below (below_box _ _)).not_row HRow.out (by decide))⟩; clear own7 gr7 hn7)
              refine (HNext.out w7 a7 c7 none 0 F7.out.1 F7.out.2).mono ?_
              rintro e w8 ⟨W8, R8, rfl, p1, p2, p3, p4⟩
              have HFin := HRel.out w8 a7 c7 none 0 W8 R8 p1 p2 p3 p4
              have HF : Hid _ := HFin
              clear HFin p1 p2 p3 p4
              go_wp2
              go_roundg (rest1 R0).length
              case measure => exact HLt.out
              case rel => obtain ⟨x1, x2, x3, x4, x5, x6, x7, x8, x9, y1, y2, y3, _, y5⟩ := HF.out; exact ⟨x1, x2, x3, x4, x5, x6, x7, x8, x9, y1, y2, y3, rfl, y5⟩
            · injection e1 with q1 q2 q3
              subst q1; subst q3
              go_wp2_with (at_builtin; refine wpList_append_own _ rfl _ _ 22 rfl w.heap.size 43 il (.slice none 0 0) 1 24 Tryz.underlying22 hil hzl0 hzl1 hzl2 rfl (by decide) _ L2.length (L2.map Prod.fst) rfl HRow.out _ 1 1 [.slice a6 op2.length c6] rfl rfl (cell_one_new _ _ _) (by simp [Value.oneCell']) (by unfold maxLen; omega) (by omega) (by simp; omega) ?_; intro v7 w7 own7 gr7 hn7; obtain ⟨a7, c7, hv7⟩ := row_form own7; subst hv7; have F7 : Hid (ClS w w7 b (.slice a7 (L2.length + 1) c7) (.slice (some ⟨g5, 0, none⟩) op2.length oc2) (L2 ++ [(.slice a6 op2.length c6, op2)]) op2 ∧ Tb w7 b left R' (k' : Int)) := ⟨ClS.whole HC5.out B6.out O6.out (World.grownBy_alloc _ _ none) own7 gr7, (HT6.out.below (below_box _ _)).kept gr7 ((HT6.out.below (below_box _ _)).not_row HRow.out (by decide))⟩; clear own7 gr7 hn7)
              refine (HNext.out w7 a7 c7 (some ⟨g5, 0, none⟩) oc2 F7.out.1.cut F7.out.2).mono ?_
              rintro e w8 ⟨W8, R8, rfl, p1, p2, p3, p4⟩
              have HFin := HRel.out w8 a7 c7 (some ⟨g5, 0, none⟩) oc2 W8 R8 p1 p2 p3 p4
              have HF : Hid _ := HFin
              clear HFin p1 p2 p3 p4
              go_wp2
              go_roundg (rest1 R0).length
              case measure => exact HLt.out
              case rel => obtain ⟨x1, x2, x3, x4, x5, x6, x7, x8, x9, y1, y2, y3, _, y5⟩ := HF.out; exact ⟨x1, x2, x3, x4, x5, x6, x7, x8, x9, y1, y2, y3, rfl, y5⟩
          · have HBad2 : Hid ((!fmd z || decide (v < varOf z)) = true → PS (.returned (.tuple #[.slice aa2 L2.length ac2, .int .i64 32])) w5) := fun hb => by
              refine HBad.out (L2.map Prod.snd) op2 32 k' ?_ _ left R' _ ⟨L2, HC5.out.own, rfl⟩ HT5.out HC5.out.gr
              rw [← HE5.out]; simp only [eat, hn, if_neg hz0, hb]; rfl
            cases hfz : fmd z
            · have HFin : Hid (PS (.returned (.tuple #[.slice aa2 L2.length ac2, .int .i64 32])) w5) := HBad2.out (by rw [hfz]; rfl)
              clear HE5 hn HBad2
              go_wp2_with fail
              refine (formed_any z w5).mono ?_
              rw [hfz]
              rintro e w6 ⟨rfl, rfl⟩
              go_wp2
              first | exact HFin.out | (go_returns; exact HFin.out) | (rw [Exit.noGoto_ret]; go_returns; exact HFin.out)
            · by_cases hvz : v < varOf z
              · have HFin : Hid (PS (.returned (.tuple #[.slice aa2 L2.length ac2, .int .i64 32])) w5) := HBad2.out (by rw [hfz]; simpa using hvz)
                clear HE5 hn HBad2
                go_wp2_with fail
                refine (formed_any z w5).mono ?_
                rw [hfz]
                rintro e w6 ⟨rfl, rfl⟩
                go_wp2_with fail
                refine (var_any z w6).mono ?_
                rintro e w7 ⟨rfl, rfl⟩
                go_wp2
                first | exact HFin.out | (go_returns; exact HFin.out) | (rw [Exit.noGoto_ret]; go_returns; exact HFin.out)
              · have HE6 : Hid (eat v ((wordsOf (rest1 R0)).map (fun w => (w, k')) ++ spoken (k' + 1) (linesOf left.data.toList)) (op2 ++ [z]) (L2.map Prod.snd) = F) := by
                  show _ = _
                  rw [← HE5.out]
                  have : (!fmd z || decide (v < varOf z)) = false := by rw [hfz]; simpa using hvz
                  simp only [eat, hn, if_neg hz0, this]; rfl
                clear HE5 hn HBad2
                go_wp2_with fail
                refine (formed_any z w5).mono ?_
                rw [hfz]
                rintro e w6 ⟨rfl, rfl⟩
                go_wp2_with fail
                refine (var_any z w6).mono ?_
                rintro e w7 ⟨rfl, rfl⟩
                have HOw : Hid (Own w.heap.size (w7.alloc (.cells #[.int .i64 z] 3)) (.slice oa2 op2.length oc2) op2) := (HC5.out.below (below_box _ _)).opn
                have HRz : Hid (Rd (w7.alloc (.cells #[.int .i64 z] 3)) (.slice (some ⟨w7.heap.size, 0, none⟩) 1 1) [z]) := rd_new w7 z
                have hsz : w.heap.size ≤ w7.heap.size := HC5.out.gr.size
                go_wp2_with (at_builtin; refine wpList_app_rd rfl _ _ rfl w.heap.size (.slice oa2 op2.length oc2) (.slice (some ⟨w7.heap.size, 0, none⟩) 1 1) op2 [z] rfl rfl HOw.out HRz.out (by simp; omega) (by simp; omega) ?_; intro v8 w8 own8 ap8; obtain ⟨a8, c8, hv8⟩ := own_form own8; simp only [List.length_append, List.length_cons, List.length_nil, Nat.zero_add] at hv8; subst hv8; have F8 : Hid (ClS w w8 b (.slice aa2 L2.length ac2) (.slice a8 (op2.length + 1) c8) L2 (op2 ++ [z]) ∧ Tb w8 b left R' (k' : Int)) := ⟨(HC5.out.below (below_box _ _)).push own8 ap8, (HT5.out.below (below_box _ _)).kept ap8.grown ((HT5.out.below (below_box _ _)).not_row HOw.out (by decide))⟩; clear own8 ap8)
                refine (word_tb b left R' k' w8 F8.out.2 HL3.out.1 HL3.out.2).mono ?_
                rintro e w9 ⟨W9, R9, rfl, p1, p2, p3, p4⟩
                rw [HR.out] at p1 p2
                have P1 : Hid (W9.data.toList = word1 (rest1 R0)) := p1
                have P2 : Hid (R9.data.toList = rest1 (rest1 R0)) := p2
                have P3 : Hid (Tb w9 b left R9 (k' : Int)) := p3
                have P4 : Hid (ClS w w9 b (.slice aa2 L2.length ac2) (.slice a8 (op2.length + 1) c8) L2 (op2 ++ [z])) := F8.out.1.text F8.out.2 p4
                clear p1 p2 p3 p4
                go_wp2
                go_roundg (rest1 R0).length
                case measure => exact HLt.out
                case rel => exact ⟨rest1 R0, W9, R9, L2, op2 ++ [z], aa2, a8, ac2, c8, rfl, rfl, by simp, rfl, rfl, P1, P2, by rw [← HR.out]; exact HL3, by have := HLen3.out; have := HLt.out; rw [List.length_append]; simp only [List.length_cons, List.length_nil]; omega, HE6, P3, by show ClS _ _ _ _ _ _ _; simpa using P4.out⟩

end Go.Proofs.YtlkbbbbclmffjaaGreatDoor
set_option linter.unusedSimpArgs false
set_option linter.unusedVariables false
namespace Go.Proofs.YtlkbbbbclmffjaaGreatDoor
open Go Go.RowKit

theorem nxt_idleA : ∀ {ls : List (List UInt8)} {k k' : Nat} {l : List UInt8} {r : List (List UInt8)}, nxt k ls = some (l, k', r) → idleL l = false
  | [], k, k', l, r, h => by simp [nxt] at h
  | x :: t, k, k', l, r, h => by
    unfold nxt at h
    cases hx : idleL x
    · rw [hx] at h
      simp at h
      obtain ⟨rfl, _, _⟩ := h
      exact hx
    · rw [hx] at h
      simp at h
      exact nxt_idleA h
/-- what model answers: the error, its line, the model -/
def moE (p k : Nat) (ls : List (List UInt8)) : Int × Nat × List Bool :=
  match eatA (spoken k ls) p false [] with
  | (m, _, some (e, j)) => (e, j, m)
  | (m, en, none) => (if en then 0 else 33, k + ls.length, m)
/-- what model answers and leaves -/
def MoR (w : World) (b p k : Nat) (ls : List (List UInt8)) (e : Ending) (w' : World) : Prop :=
  ∃ s left rest, e = .returned (.tuple #[s, .int .i64 (moE p k ls).1]) ∧ OwnBo w.heap.size w' s (moE p k ls).2.2 ∧ Tb w' b left rest ((moE p k ls).2.1 : Int) ∧ w.grownBy w' (some b)
structure MoS (w W : World) (b : Nat) (mv : Value) (ms : List Bool) : Prop where
  own : OwnBo w.heap.size W mv ms
  gr : w.grownBy W (some b)
theorem MoS.text {w W W' : World} {b : Nat} {mv : Value} {ms : List Bool} {l r : ByteArray} {k : Int} (h : MoS w W b mv ms) (ht : Tb W b l r k) (hg : W.grownBy W' (some b)) : MoS w W' b mv ms :=
  ⟨World.ownsRow.kept h.own hg (.inr (fun e => ht.not_row h.own (by decide) e.symm)), h.gr.trans hg⟩
theorem MoS.below {w W W' : World} {b : Nat} {mv : Value} {ms : List Bool} (h : MoS w W b mv ms) (hb : Below W.heap.size W W') : MoS w W' b mv ms :=
  ⟨World.ownsRow.kept h.own (grown_below hb) (one_or _), grown_own h.gr (grown_below hb) (fun g e => by cases e)⟩
theorem MoS.push {w W w1 : World} {b : Nat} {mv mv' : Value} {ms ms' : List Bool} (h : MoS w W b mv ms) (own' : OwnBo w.heap.size w1 mv' ms') (hg : W.grownBy w1 mv.ownBlock) : MoS w w1 b mv' ms' :=
  ⟨own', grown_own h.gr hg (fun g e => (World.ownsRow.lt h.own g e).1)⟩

set_option maxRecDepth 100000 in
set_option maxHeartbeats 6400000 in
theorem model_any (b : Nat) (l r : ByteArray) (k : Nat) (w : World) (h : Tb w b l r k) (hs : l.data.toList.length < 4294967281) (has : ∀ x ∈ l.data.toList, x.toNat < 256) (hk : k + (linesOf l.data.toList).length < 4611686018427387904) :
    Calls Tryz.prog 50 #[.pointer (some ⟨b, 0, none⟩)] w fun e w' => MoR w b k (k + 1) (linesOf l.data.toList) e w' := by
  have HT : Hid (Tb w b l r k) := h
  have HAs : Hid (∀ x ∈ l.data.toList, x.toNat < 256) := has
  obtain ⟨ib, hib, hb0, hb1, hb2⟩ := info_parts infoBo
  have HBad : Hid (∀ ms en er j, eatA (spoken (k + 1) (linesOf l.data.toList)) k false [] = (ms, en, some (er, j)) → ∀ s left rest w', OwnBo w.heap.size w' s ms → Tb w' b left rest (j : Int) → w.grownBy w' (some b) → MoR w b k (k + 1) (linesOf l.data.toList) (.returned (.tuple #[s, .int .i64 er])) w') := fun ms en er j he s left rest w' p1 p2 p3 => by
    have e1 : moE k (k + 1) (linesOf l.data.toList) = (er, j, ms) := by unfold moE; rw [he]
    exact ⟨s, left, rest, by rw [e1], by rw [e1]; exact p1, by rw [e1]; exact p2, p3⟩
  have HGood : Hid (∀ ms en, eatA (spoken (k + 1) (linesOf l.data.toList)) k false [] = (ms, en, none) → ∀ s left rest w', OwnBo w.heap.size w' s ms → Tb w' b left rest ((k + 1 + (linesOf l.data.toList).length : Nat) : Int) → w.grownBy w' (some b) → MoR w b k (k + 1) (linesOf l.data.toList) (.returned (.tuple #[s, .int .i64 (if en then 0 else 33)])) w') := fun ms en he s left rest w' p1 p2 p3 => by
    have e1 : moE k (k + 1) (linesOf l.data.toList) = (if en then 0 else 33, k + 1 + (linesOf l.data.toList).length, ms) := by unfold moE; rw [he]
    exact ⟨s, left, rest, by rw [e1], by rw [e1]; exact p1, by rw [e1]; exact p2, p3⟩
  generalize hPS : MoR w b k (k + 1) (linesOf l.data.toList) = PS at *
  have H0 : Hid (MoS w w b (.slice none 0 0) []) := ⟨World.ownsRow_nil _ _ _ _, ⟨rfl, rfl, rfl, Nat.le_refl _, fun _ _ _ => rfl⟩⟩
  generalize hF : eatA (spoken (k + 1) (linesOf l.data.toList)) k false [] = F at *
  clear h has hPS
  go_enter Tryz.func50, Tryz.ntmps50
  go_wp2
  go_step3
  go_wp2
  go_step3
  go_wp2
  go_loopg [4, 5, 6] (linesOf l.data.toList).length (fun g s3 s4 s5 wx => ∃ (Lf R : ByteArray) (j : Nat) (ms : List Bool) (en : Bool) (aa : Option Addr) (ac : Nat), g = (linesOf Lf.data.toList).length ∧ s3 = .slice aa ms.length ac ∧ s4 = .bool en ∧ s5 = .int .i64 0 ∧
    j + (linesOf Lf.data.toList).length = k + (linesOf l.data.toList).length ∧ ms.length + Lf.data.toList.length ≤ l.data.toList.length ∧ Hid (∀ x ∈ Lf.data.toList, x ∈ l.data.toList) ∧
    Hid (eatA (spoken (j + 1) (linesOf Lf.data.toList)) j en ms = F) ∧ Hid (Tb wx b Lf R j) ∧ Hid (MoS w wx b (.slice aa ms.length ac) ms))
  case atStart => exact ⟨l, r, k, [], false, none, 0, rfl, rfl, rfl, rfl, rfl, by simp, fun _ h => h, hF, HT.out, H0.out⟩
  case round =>
    obtain ⟨Lf, R, j, ms, en, aa, ac, rfl, rfl, rfl, rfl, hj, hlen, HSub, HE, HTb, HC⟩ := hrel
    have HN : Hid (Calls Tryz.prog 51 #[.pointer (some ⟨b, 0, none⟩)] wr fun e w' => NxtR Lf.data.toList b (j + 1) (linesOf Lf.data.toList) e w' ∧ wr.grownBy w' (some b)) := next_any b Lf R j wr HTb.out (by rw [← ba_lenW]; omega) (by omega)
    have HLen : Hid (ms.length + Lf.data.toList.length ≤ l.data.toList.length) := hlen
    have HJ : Hid (j + (linesOf Lf.data.toList).length = k + (linesOf l.data.toList).length) := hj
    have hLL : ms.length < 4294967281 := by omega
    clear hlen hj
    go_wp2_with fail
    refine HN.out.mono ?_
    rintro e w1 ⟨hN, hG⟩
    have HC1 : Hid (MoS w w1 b (.slice aa ms.length ac) ms) := HC.out.text HTb.out hG
    rcases hN with ⟨ln, k', rs, left, q1, rfl, q3, q4, q5, q6, q7⟩ | ⟨q1, rfl, rest, q2⟩
    case inr =>
      have HFin : Hid (PS (.returned (.tuple #[.slice aa ms.length ac, .int .i64 (if en then 0 else 33)])) w1) := by
        refine HGood.out ms en ?_ _ ⟨#[]⟩ rest _ HC1.out.own ?_ HC1.out.gr
        · rw [← HE.out, nxt_none q1]; rfl
        · have e1 : k + 1 + (linesOf l.data.toList).length = j + 1 + (linesOf Lf.data.toList).length := by have := HJ.out; omega
          rw [e1]; exact q2
      clear q1 q2 hG
      cases en
      · rw [if_neg (by simp)] at HFin
        go_wp2
        first | exact HFin.out | (go_returns; exact HFin.out) | (rw [Exit.noGoto_ret]; go_returns; exact HFin.out)
      · rw [if_pos rfl] at HFin
        go_wp2
        first | exact HFin.out | (go_returns; exact HFin.out) | (rw [Exit.noGoto_ret]; go_returns; exact HFin.out)
    obtain ⟨n1, n2, n3⟩ := nxt_some q1
    have hw1 : word1 ln ≠ [] := fun e => idle_words (nxt_idleA q1) (words_none e)
    have HLn : Hid (ln.length < 4294967281 ∧ ∀ x ∈ ln, x.toNat < 256) := ⟨by have := HLen.out; omega, fun x hx => HAs.out x (HSub.out x (q6 x (.inl hx)))⟩
    have HSub2 : Hid (∀ x ∈ left.data.toList, x ∈ l.data.toList) := fun x hx => HSub.out x (q6 x (.inr hx))
    have HE2 : Hid (eatA ((word1 ln, k') :: ((wordsOf (rest1 ln)).map (fun w => (w, k')) ++ spoken (k' + 1) (linesOf left.data.toList))) j en ms = F) := by
      have := HE.out
      rw [n1, words_word hw1, ← q3] at this
      exact this
    have HNe : Hid (k' ≠ j) := by show _ ≠ _; omega
    have HLen2 : Hid (ms.length + (rest1 ln).length + left.data.toList.length ≤ l.data.toList.length) := by show _ ≤ _; have := HLen.out; have := rest1_le ln; omega
    have HJ2 : Hid (k' + (linesOf left.data.toList).length = k + (linesOf l.data.toList).length) := by show _ = _; rw [q3]; have := HJ.out; omega
    have HMeas : Hid ((linesOf left.data.toList).length < (linesOf Lf.data.toList).length) := by show _ < _; rw [q3]; omega
    have HT1 : Hid (Tb w1 b left ⟨ln.toArray⟩ (k' : Int)) := q4
    clear q1 q3 q4 q5 q6 q7 n1 n2 n3 hG HN HE HJ HLen HSub HTb HC hw1
    go_wp2_with fail
    refine (word_tb b left ⟨ln.toArray⟩ k' w1 HT1.out (by rw [mk_list]; exact HLn.out.1) (by rw [mk_list]; exact HLn.out.2)).mono ?_
    rw [mk_list]
    rintro e w2 ⟨W1, R1, rfl, hW1, hR1, T2, G2⟩
    have HT2 : Hid (Tb w2 b left R1 (k' : Int)) := T2
    have HC2 : Hid (MoS w w2 b (.slice aa ms.length ac) ms) := HC1.out.text HT1.out G2
    have HR1 : Hid (R1.data.toList = rest1 ln) := hR1
    clear T2 G2 HT1 HC1 hR1
    have hb1 := ba_list W1
    rw [hW1] at hb1
    by_cases e1 : word1 ln = [118]
    case neg =>
      have HFin : Hid (PS (.returned (.tuple #[.slice aa ms.length ac, .int .i64 35])) w2) := by
        refine HBad.out ms en 35 k' ?_ _ left R1 _ HC2.out.own HT2.out HC2.out.gr
        rw [← HE2.out, eatA_bad HNe.out e1]
      have hq : (W1.toList == [118]) = false := by rw [hb1]; simpa using e1
      have hqn : (W1.toList != [118]) = true := by rw [bne, hq]; rfl
      clear hb1 hW1 e1 HE2
      go_wp2
      first | exact HFin.out | (go_returns; exact HFin.out) | (rw [Exit.noGoto_ret]; go_returns; exact HFin.out)
    have hq1 : (W1.toList == [118]) = true := by rw [hb1]; simpa using e1
    have hq1n : (W1.toList != [118]) = false := by rw [bne, hq1]; rfl
    have HE3 : Hid (eatA ((wordsOf (rest1 ln)).map (fun w => (w, k')) ++ spoken (k' + 1) (linesOf left.data.toList)) k' en ms = F) := by show _ = _; rw [← HE2.out, eatA_line HNe.out e1]
    have HL1 : Hid (R1.data.toList.length < 4294967281 ∧ ∀ x ∈ R1.data.toList, x.toNat < 256) := by
      rw [HR1.out]; exact ⟨by have := rest1_le ln; have := HLn.out.1; omega, fun x hx => HLn.out.2 x (rest1_sub hx)⟩
    have HL1' : Hid ((rest1 ln).length < 4294967281 ∧ ∀ x ∈ rest1 ln, x.toNat < 256) := by rw [← HR1.out]; exact HL1.out
    clear hb1 hW1 e1 HE2 HNe
    go_wp2_with fail
    refine (word_tb b left R1 k' w2 HT2.out HL1.out.1 HL1.out.2).mono ?_
    rintro e w3 ⟨W2, R2, rfl, hW2, hR2, T3, G3⟩
    rw [HR1.out] at hW2 hR2
    have HT3 : Hid (Tb w3 b left R2 (k' : Int)) := T3
    have HC3 : Hid (MoS w w3 b (.slice aa ms.length ac) ms) := HC2.out.text HT2.out G3
    have HW2 : Hid (W2.data.toList = word1 (rest1 ln)) := hW2
    have HR2 : Hid (R2.data.toList = rest1 (rest1 ln)) := hR2
    clear T3 G3 HT2 HC2 hR2 hW2 hq1 hq1n
    go_wp2
    go_loopg [4, 5, 6, 7] (rest1 ln).length (fun g s3 s4 s5 s6 wy => ∃ (R0 : List UInt8) (W R' : ByteArray) (ms : List Bool) (en : Bool) (aa : Option Addr) (ac : Nat), g = R0.length ∧ s3 = .slice aa ms.length ac ∧ s4 = .bool en ∧ s5 = .int .i64 0 ∧ s6 = .string W ∧
      Hid (W.data.toList = word1 R0) ∧ Hid (R'.data.toList = rest1 R0) ∧ Hid (R0.length < 4294967281 ∧ ∀ x ∈ R0, x.toNat < 256) ∧ ms.length + R0.length + left.data.toList.length ≤ l.data.toList.length ∧
      Hid (eatA ((wordsOf R0).map (fun w => (w, k')) ++ spoken (k' + 1) (linesOf left.data.toList)) k' en ms = F) ∧ Hid (Tb wy b left R' (k' : Int)) ∧ Hid (MoS w wy b (.slice aa ms.length ac) ms))
    case atStart => exact ⟨rest1 ln, W2, R2, ms, en, aa, ac, rfl, rfl, rfl, rfl, rfl, HW2, HR2, HL1', HLen2.out, HE3, HT3, HC3⟩
    case round =>
      obtain ⟨R0, W, R', ms2, en2, aa2, ac2, rfl, rfl, rfl, rfl, rfl, HW, HR, HL0, hlen, HE4, HT4, HC4⟩ := hrel
      have hb3 := ba_list W
      rw [HW.out] at hb3
      have HLen3 : Hid (ms2.length + R0.length + left.data.toList.length ≤ l.data.toList.length) := hlen
      have hLL2 : ms2.length < 4294967281 := by omega
      clear hlen
      by_cases hw0 : word1 R0 = []
      · have hem : W.toList.isEmpty = true := by rw [hb3, hw0]; rfl
        have HE5 : Hid (eatA (spoken (k' + 1) (linesOf left.data.toList)) k' en2 ms2 = F) := by show _ = _; rw [← HE4.out, words_none hw0]; rfl
        clear hb3 hw0
        go_wp2
        go_roundg (linesOf left.data.toList).length
        case measure => exact HMeas.out
        case rel => exact ⟨left, R', k', ms2, en2, aa2, ac2, rfl, rfl, rfl, rfl, HJ2.out, by have := HLen3.out; omega, HSub2, HE5, HT4, HC4⟩
      · have hem : W.toList.isEmpty = false := by rw [hb3]; simpa using hw0
        have HWd : Hid (wordsOf R0 = word1 R0 :: wordsOf (rest1 R0)) := words_word hw0
        have HLt : Hid ((rest1 R0).length < R0.length) := rest1_lt hw0
        have hz3 : W.size ≤ 281474976710656 := by rw [← ba_lenW, HW.out]; have := word1_le R0; have := HL0.out.1; omega
        have HL3 : Hid (R'.data.toList.length < 4294967281 ∧ ∀ x ∈ R'.data.toList, x.toNat < 256) := by
          rw [HR.out]; exact ⟨by have := rest1_le R0; have := HL0.out.1; omega, fun x hx => HL0.out.2 x (rest1_sub hx)⟩
        have HL3' : Hid ((rest1 R0).length < 4294967281 ∧ ∀ x ∈ rest1 R0, x.toNat < 256) := by rw [← HR.out]; exact HL3.out
        clear hb3 hw0
        go_wp2_with fail
        refine (number_any W wr hz3).mono ?_
        rw [HW.out]
        rintro e w5 ⟨rfl, bel5⟩
        have HT5 : Hid (Tb w5 b left R' (k' : Int)) := HT4.out.below bel5
        have HC5 : Hid (MoS w w5 b (.slice aa2 ms2.length ac2) ms2) := HC4.out.below bel5
        clear bel5 HT4 HC4
        have HE5 : Hid (eatA ((word1 R0, k') :: ((wordsOf (rest1 R0)).map (fun w => (w, k')) ++ spoken (k' + 1) (linesOf left.data.toList))) k' en2 ms2 = F) := by
          have := HE4.out
          rw [HWd.out] at this
          exact this
        clear HE4 HWd
        cases en2
        case true =>
          have HFin : Hid (PS (.returned (.tuple #[.slice aa2 ms2.length ac2, .int .i64 35])) w5) := by
            refine HBad.out ms2 true 35 k' ?_ _ left R' _ HC5.out.own HT5.out HC5.out.gr
            rw [← HE5.out, eatA_end]
          clear HE5
          generalize (numW (word1 R0)).getD 0 = z
          generalize (numW (word1 R0)).isSome = bz
          go_wp2
          first | exact HFin.out | (go_returns; exact HFin.out) | (rw [Exit.noGoto_ret]; go_returns; exact HFin.out)
        case false =>
        cases hn : numW (word1 R0) with
        | none =>
          have HFin : Hid (PS (.returned (.tuple #[.slice aa2 ms2.length ac2, .int .i64 31])) w5) := by
            refine HBad.out ms2 false 31 k' ?_ _ left R' _ HC5.out.own HT5.out HC5.out.gr
            rw [← HE5.out, eatA_none hn]
          clear HE5
          simp only [Option.getD_none, Option.isSome_none]
          go_wp2
          first | exact HFin.out | (go_returns; exact HFin.out) | (rw [Exit.noGoto_ret]; go_returns; exact HFin.out)
        | some z =>
          simp only [Option.getD_some, Option.isSome_some]
          by_cases hz0 : z = 0
          · subst hz0
            have HE6 : Hid (eatA ((wordsOf (rest1 R0)).map (fun w => (w, k')) ++ spoken (k' + 1) (linesOf left.data.toList)) k' true ms2 = F) := by
              show _ = _
              rw [← HE5.out, eatA_zero hn]
            clear HE5 hn
            go_wp2_with fail
            refine (word_tb b left R' k' w5 HT5.out HL3.out.1 HL3.out.2).mono ?_
            rintro e w9 ⟨W9, R9, rfl, p1, p2, p3, p4⟩
            rw [HR.out] at p1 p2
            have P1 : Hid (W9.data.toList = word1 (rest1 R0)) := p1
            have P2 : Hid (R9.data.toList = rest1 (rest1 R0)) := p2
            have P3 : Hid (Tb w9 b left R9 (k' : Int)) := p3
            have P4 : Hid (MoS w w9 b (.slice aa2 ms2.length ac2) ms2) := HC5.out.text HT5.out p4
            clear p1 p2 p3 p4
            go_wp2
            go_roundg (rest1 R0).length
            case measure => exact HLt.out
            case rel => exact ⟨rest1 R0, W9, R9, ms2, true, aa2, ac2, rfl, rfl, rfl, rfl, rfl, P1, P2, HL3', by have := HLen3.out; have := HLt.out; omega, HE6, P3, P4⟩
          · by_cases hvz : varOf z = (ms2.length : Int) + 1
            case neg =>
              have HFin : Hid (PS (.returned (.tuple #[.slice aa2 ms2.length ac2, .int .i64 32])) w5) := by
                refine HBad.out ms2 false 32 k' ?_ _ left R' _ HC5.out.own HT5.out HC5.out.gr
                rw [← HE5.out, eatA_lit hn hz0 hvz]
              have hvn : (varOf z != (ms2.length : Int) + 1) = true := by rw [bne, beq_eq_false_iff_ne.2 hvz]; rfl
              clear HE5 hn hvz
              go_wp2_with fail
              refine (var_any z w5).mono ?_
              rintro e w7 ⟨rfl, rfl⟩
              generalize varOf z = vz at *
              go_wp2
              first | exact HFin.out | (go_returns; exact HFin.out) | (rw [Exit.noGoto_ret]; go_returns; exact HFin.out)
            case pos =>
              have HE6 : Hid (eatA ((wordsOf (rest1 R0)).map (fun w => (w, k')) ++ spoken (k' + 1) (linesOf left.data.toList)) k' false (ms2 ++ [decide (0 < z)]) = F) := by
                show _ = _
                rw [← HE5.out, eatA_more hn hz0 hvz]
              clear HE5 hn
              have hsz : w.heap.size ≤ w5.heap.size := HC5.out.gr.size
              go_wp2_with fail
              refine (var_any z w5).mono ?_
              rw [hvz]
              clear hvz
              rintro e w7 ⟨rfl, rfl⟩
              by_cases hp : 0 < z
              case pos =>
                rw [decide_eq_true hp] at HE6
                have HOw : Hid (∀ c : Bool, (w7.alloc (.cells #[.bool c] 4)).ownsRow w.heap.size 4 1 (.slice aa2 ms2.length ac2) ms2.length (ms2.map Value.bool)) := fun c => World.ownsRow.alloc HC5.out.own _
                go_wp2_with (at_builtin; refine wpList_append_own _ rfl _ _ 25 rfl w.heap.size 4 ib (.bool false) 1 1 Tryz.underlying25 hib hb0 hb1 hb2 rfl (by decide) _ ms2.length (ms2.map Value.bool) rfl (World.ownsRow.alloc HC5.out.own _) _ 1 1 [.bool _] rfl rfl (cell_one_new _ _ _) (by simp [Value.oneCell']) ?_ ?_ ?_ ?_; (unfold maxLen; omega); omega; (rw [World.size_alloc]; omega); intro v8 w8 own8 gr8 hn8; obtain ⟨a8, c8, hv8⟩ := row_form own8; subst hv8; have F8 : Hid (MoS w w8 b (.slice a8 (ms2.length + 1) c8) (ms2 ++ [true]) ∧ Tb w8 b left R' (k' : Int)) := ⟨(HC5.out.below (below_box _ _)).push (OwnBo.one own8) gr8, (HT5.out.below (below_box _ _)).kept gr8 ((HT5.out.below (below_box _ _)).not_row (HOw.out true) (by decide))⟩; clear own8 gr8 hn8)
                refine (word_tb b left R' k' w8 F8.out.2 HL3.out.1 HL3.out.2).mono ?_
                rintro e w9 ⟨W9, R9, rfl, p1, p2, p3, p4⟩
                rw [HR.out] at p1 p2
                have P1 : Hid (W9.data.toList = word1 (rest1 R0)) := p1
                have P2 : Hid (R9.data.toList = rest1 (rest1 R0)) := p2
                have P3 : Hid (Tb w9 b left R9 (k' : Int)) := p3
                have P4 : Hid (MoS w w9 b (.slice a8 (ms2.length + 1) c8) (ms2 ++ [true])) := F8.out.1.text F8.out.2 p4
                clear p1 p2 p3 p4
                go_wp2
                go_roundg (rest1 R0).length
                case measure => exact HLt.out
                case rel => exact ⟨rest1 R0, W9, R9, ms2 ++ [true], false, a8, c8, rfl, by simp, rfl, rfl, rfl, P1, P2, HL3', by have := HLen3.out; have := HLt.out; rw [List.length_append]; simp only [List.length_cons, List.length_nil]; omega, HE6, P3, by show MoS _ _ _ _ _; simpa using P4.out⟩
              case neg =>
                have HOw : Hid (∀ c : Bool, (w7.alloc (.cells #[.bool c] 4)).ownsRow w.heap.size 4 1 (.slice aa2 ms2.length ac2) ms2.length (ms2.map Value.bool)) := fun c => World.ownsRow.alloc HC5.out.own _
                go_wp2_with (at_builtin; refine wpList_append_own _ rfl _ _ 25 rfl w.heap.size 4 ib (.bool false) 1 1 Tryz.underlying25 hib hb0 hb1 hb2 rfl (by decide) _ ms2.length (ms2.map Value.bool) rfl (World.ownsRow.alloc HC5.out.own _) _ 1 1 [.bool _] rfl rfl (cell_one_new _ _ _) (by simp [Value.oneCell']) ?_ ?_ ?_ ?_; (unfold maxLen; omega); omega; (rw [World.size_alloc]; omega); intro v8 w8 own8 gr8 hn8; obtain ⟨a8, c8, hv8⟩ := row_form own8; subst hv8; have F8 : Hid (MoS w w8 b (.slice a8 (ms2.length + 1) c8) (ms2 ++ [decide (0 < z)]) ∧ Tb w8 b left R' (k' : Int)) := ⟨(HC5.out.below (below_box _ _)).push (OwnBo.one own8) gr8, (HT5.out.below (below_box _ _)).kept gr8 ((HT5.out.below (below_box _ _)).not_row (HOw.out true) (by decide))⟩; clear own8 gr8 hn8)
                refine (word_tb b left R' k' w8 F8.out.2 HL3.out.1 HL3.out.2).mono ?_
                rintro e w9 ⟨W9, R9, rfl, p1, p2, p3, p4⟩
                rw [HR.out] at p1 p2
                have P1 : Hid (W9.data.toList = word1 (rest1 R0)) := p1
                have P2 : Hid (R9.data.toList = rest1 (rest1 R0)) := p2
                have P3 : Hid (Tb w9 b left R9 (k' : Int)) := p3
                have P4 : Hid (MoS w w9 b (.slice a8 (ms2.length + 1) c8) (ms2 ++ [decide (0 < z)])) := F8.out.1.text F8.out.2 p4
                clear p1 p2 p3 p4
                go_wp2
                go_roundg (rest1 R0).length
                case measure => exact HLt.out
                case rel => exact ⟨rest1 R0, W9, R9, ms2 ++ [decide (0 < z)], false, a8, c8, rfl, by simp, rfl, rfl, rfl, P1, P2, HL3', by have := HLen3.out; have := HLt.out; rw [List.length_append]; simp only [List.length_cons, List.length_nil]; omega, HE6, P3, by show MoS _ _ _ _ _; simpa using P4.out⟩

end Go.Proofs.YtlkbbbbclmffjaaGreatDoor
set_option linter.unusedSimpArgs false
set_option linter.unusedVariables false
namespace Go.Proofs.YtlkbbbbclmffjaaGreatDoor
open Go Go.RowKit

theorem ret_form3 {fn : Func} {p u t : Tmp} {tmps : Array Value} {W : World} {D : Nat} {x y : Value} (h : fn.results = #[.cell p 24, .tmp u, .tmp t]) (hp : tmps.getD p undef = .pointer (some ⟨D, 0, none⟩)) (hb : Bx2 W D 24 x y) :
    (results fn tmps).run Tryz.prog W = .ok (.tuple #[.agg #[x, y], tmps.getD u undef, tmps.getD t undef]) W := by
  have c0 := hb.c0
  have c1 := hb.c1
  have e : (results fn tmps).run Tryz.prog W = ((asAddr (tmps.getD p undef)).run Tryz.prog W).andThen fun a w₁ => ((loadVar 24 a).run Tryz.prog w₁).andThen fun v w₂ => .ok (.tuple #[v, tmps.getD u undef, tmps.getD t undef]) w₂ := by
    simp only [results, h]
    simp [Sem.run_bind, Result.andThen]
  rw [e, hp]
  simp [go_sem, c0, c1]
theorem rdF_bad1 {s : List UInt8} (h : nxt 1 (linesOf s) = none) : rdF s = ⟨0, [], 30, (linesOf s).length + 1⟩ := by unfold rdF; rw [h]
theorem rdF_bad2 {s l : List UInt8} {k : Nat} {r : List (List UInt8)} (h : nxt 1 (linesOf s) = some (l, k, r)) (h2 : hdC l = none) : rdF s = ⟨0, [], 30, k⟩ := by unfold rdF; rw [h]; simp only [hdC_eq, h2]
theorem rdF_go {s l : List UInt8} {k : Nat} {r : List (List UInt8)} {v c : Int} (h : nxt 1 (linesOf s) = some (l, k, r)) (h2 : hdC l = some (v, c)) :
    rdF s = if (clE v (k + 1) r).1 ≠ 0 then ⟨0, [], (clE v (k + 1) r).1, (clE v (k + 1) r).2.1⟩ else if ((clE v (k + 1) r).2.2.length : Int) ≠ c then ⟨0, [], 34, (clE v (k + 1) r).2.1⟩ else ⟨v, (clE v (k + 1) r).2.2, 0, 0⟩ := by
  have hn := (nxt_some h).2.1
  have hne : ∀ (ws : List (List UInt8 × Nat)) (op : List Int) (all : List (List Int)) {a o e j}, eat v ws op all = (a, o, some (e, j)) → e ≠ 0 := by
    intro ws
    induction ws with
    | nil => intro op all a o e j h; simp [eat] at h
    | cons x t ih =>
      intro op all a o e j h
      obtain ⟨w, q⟩ := x
      unfold eat at h
      cases hw : numW w with
      | none => rw [hw] at h; simp at h; omega
      | some z =>
        rw [hw] at h
        simp only at h
        split at h
        · exact ih _ _ h
        · split at h
          · simp at h; omega
          · exact ih _ _ h
  unfold rdF
  rw [h]
  simp only [hdC_eq, h2]
  unfold clE
  generalize hE : eat v (spoken (k + 1) r) [] [] = E
  obtain ⟨all, op, x⟩ := E
  cases x with
  | some ej =>
    obtain ⟨e, j⟩ := ej
    have := hne _ _ _ hE
    simp [this]
  | none =>
    simp only
    by_cases hop : op = []
    · subst hop
      simp
      rw [show (linesOf s).length + 1 = k + 1 + r.length by omega]
    · simp [hop]
      omega
/-- what Read answers and leaves -/
def RdS (w : World) (A : RdA) (e : Ending) (w' : World) : Prop :=
  ∃ s', e = .returned (.tuple #[.agg #[.int .i64 A.vars, s'], .int .i64 A.err, .int .i64 (A.line : Int)]) ∧ OwnF w.heap.size w' s' A.cls ∧ Below w.heap.size w w'

theorem Tb.new (W : World) (l r : ByteArray) (k : Int) : Tb (W.alloc (.cells #[.string l, .string r, .int .i64 k] 65)) W.heap.size l r k := World.alloc_heap_new W _
theorem below_by {w W W' : World} {b : Nat} (h : Below w.heap.size w W) (hg : W.grownBy W' (some b)) (hb : w.heap.size ≤ b) : Below w.heap.size w W' :=
  h.grown hg h.size (fun k e => by cases e; exact hb)

set_option maxRecDepth 100000 in
set_option maxHeartbeats 3200000 in
theorem dimRead_any (s : ByteArray) (w : World) (hs : s.data.toList.length < 4294967281) (has : ∀ x ∈ s.data.toList, x.toNat < 256) :
    Calls Tryz.prog 27 #[.string s] w fun e w' => RdS w (rdF s.data.toList) e w' := by
  have hlines : (linesOf s.data.toList).length ≤ s.data.toList.length := by
    have : ∀ (n : Nat) (t : List UInt8), t.length ≤ n → (linesOf t).length ≤ t.length := by
      intro n
      induction n with
      | zero => intro t ht; have : t = [] := List.eq_nil_of_length_eq_zero (by omega); subst this; rw [linesOf_nil]; simp
      | succ n ih =>
        intro t ht
        by_cases h : t = []
        · subst h; rw [linesOf_nil]; simp
        · rw [linesOf_cons h]
          have h1 := cutN_lt h
          have := ih (cutN t).2 (by omega)
          simp; omega
    exact this _ _ (Nat.le_refl _)
  have HT0 : Hid (Tb ((w.alloc (.cells #[.int .i64 0, .slice none 0 0] 24)).alloc (.cells #[.string s, .string ⟨#[]⟩, .int .i64 0] 65)) (w.heap.size + 1) s ⟨#[]⟩ ((0 : Nat) : Int)) := by
    have := Tb.new (w.alloc (.cells #[.int .i64 0, .slice none 0 0] 24)) s ⟨#[]⟩ 0
    rw [World.size_alloc] at this
    exact this
  have HD0 : Hid (Bx2 ((w.alloc (.cells #[.int .i64 0, .slice none 0 0] 24)).alloc (.cells #[.string s, .string ⟨#[]⟩, .int .i64 0] 65)) w.heap.size 24 (.int .i64 0) (.slice none 0 0)) := (Bx2.new _ _ _ _).below (below_box _ _)
  have HB0 : Hid (Below w.heap.size w ((w.alloc (.cells #[.int .i64 0, .slice none 0 0] 24)).alloc (.cells #[.string s, .string ⟨#[]⟩, .int .i64 0] 65))) := (below_box _ _).alloc (by rw [World.size_alloc]; omega) _
  have HFin : Hid (∀ (A : RdA) (W : World) (s' : Value), rdF s.data.toList = A → Below w.heap.size w W → OwnF w.heap.size W s' A.cls → RdS w (rdF s.data.toList) (.returned (.tuple #[.agg #[.int .i64 A.vars, s'], .int .i64 A.err, .int .i64 (A.line : Int)])) W) := fun A W s' hA hb ho => by
    rw [hA]
    exact ⟨s', rfl, ho, hb⟩
  generalize hPS : RdS w (rdF s.data.toList) = PS at *
  have HHd : Hid (Calls Tryz.prog 40 #[.pointer (some ⟨w.heap.size + 1, 0, none⟩)] ((w.alloc (.cells #[.int .i64 0, .slice none 0 0] 24)).alloc (.cells #[.string s, .string ⟨#[]⟩, .int .i64 0] 65)) fun e w' => HdR s.data.toList (w.heap.size + 1) (0 + 1) (linesOf s.data.toList) e w' ∧ ((w.alloc (.cells #[.int .i64 0, .slice none 0 0] 24)).alloc (.cells #[.string s, .string ⟨#[]⟩, .int .i64 0] 65)).grownBy w' (some (w.heap.size + 1))) := dimHead_any (w.heap.size + 1) s ⟨#[]⟩ 0 ((w.alloc (.cells #[.int .i64 0, .slice none 0 0] 24)).alloc (.cells #[.string s, .string ⟨#[]⟩, .int .i64 0] 65)) HT0.out hs has (by omega)
  go_enter Tryz.func27, Tryz.ntmps27
  go_wp2_with fail
  generalize (w.alloc (.cells #[.int .i64 0, .slice none 0 0] 24)).alloc (.cells #[.string s, .string ⟨#[]⟩, .int .i64 0] 65) = W0 at *
  refine HHd.out.mono ?_
  rintro e w1 ⟨hH, hG⟩
  have HD1 : Hid (Bx2 w1 w.heap.size 24 (.int .i64 0) (.slice none 0 0)) := HD0.out.kept hG (by simp)
  have HB1 : Hid (Below w.heap.size w w1) := below_by HB0.out hG (by omega)
  have d0 := HD1.out.c0
  have d1 := HD1.out.c1
  have f0 := HD1.out.f0
  have f1 := HD1.out.f1
  clear HT0 HD0 HB0 HHd hPS
  rcases hH with ⟨q1, ⟨x, y, rfl⟩, left, rest, q2⟩ | ⟨ln, k', rs, left, rest, q1, q2, q3, q4, q5, q6, q7⟩
  case inl =>
    have c2 := q2.c2
    have HA : Hid (rdF s.data.toList = ⟨0, [], 30, (linesOf s.data.toList).length + 1⟩) := rdF_bad1 q1
    have hln : ((0 + 1 + (linesOf s.data.toList).length : Nat) : Int) = (((linesOf s.data.toList).length + 1 : Nat) : Int) := by omega
    rw [hln] at c2
    clear q1 q2 hG
    generalize (linesOf s.data.toList).length + 1 = N at *
    have HBx : Hid (Bx2 ((w1.setCell ⟨w.heap.size, 0, none⟩ (.int .i64 0)).setCell ⟨w.heap.size, 1, none⟩ (.slice none 0 0)) w.heap.size 24 (.int .i64 0) (.slice none 0 0)) := (HD1.out.set0 _).set1 _
    have HBe : Hid (Below w.heap.size w ((w1.setCell ⟨w.heap.size, 0, none⟩ (.int .i64 0)).setCell ⟨w.heap.size, 1, none⟩ (.slice none 0 0))) := below_set (below_set HB1.out (Nat.le_refl _) _ _) (Nat.le_refl _) _ _
    go_wp2_with fail
    go_region
    all_goals
      go_wp2
      try simp only [Exit.inBlock, Exit.then]
      refine bodyPost_ret (ret_form3 rfl rfl (show Bx2 _ w.heap.size 24 _ _ from HBx.out)) rfl ?_
      exact HFin.out _ _ _ HA.out (by first | exact HBe.out | exact HBe.out.drew) (OwnF.nil _ _)
  have c2 := q3.c2
  rcases q7 with ⟨g1, x, y, rfl⟩ | ⟨v, c, g1, rfl⟩
  case inl =>
    have HA : Hid (rdF s.data.toList = ⟨0, [], 30, k'⟩) := rdF_bad2 q1 g1
    clear q1 q2 q3 q4 q5 q6 g1 hG
    have HBx : Hid (Bx2 ((w1.setCell ⟨w.heap.size, 0, none⟩ (.int .i64 0)).setCell ⟨w.heap.size, 1, none⟩ (.slice none 0 0)) w.heap.size 24 (.int .i64 0) (.slice none 0 0)) := (HD1.out.set0 _).set1 _
    have HBe : Hid (Below w.heap.size w ((w1.setCell ⟨w.heap.size, 0, none⟩ (.int .i64 0)).setCell ⟨w.heap.size, 1, none⟩ (.slice none 0 0))) := below_set (below_set HB1.out (Nat.le_refl _) _ _) (Nat.le_refl _) _ _
    go_wp2_with fail
    go_region
    all_goals
      go_wp2
      try simp only [Exit.inBlock, Exit.then]
      refine bodyPost_ret (ret_form3 rfl rfl (show Bx2 _ w.heap.size 24 _ _ from HBx.out)) rfl ?_
      exact HFin.out _ _ _ HA.out (by first | exact HBe.out | exact HBe.out.drew) (OwnF.nil _ _)
  have HGo : Hid (rdF s.data.toList = if (clE v (k' + 1) (linesOf left.data.toList)).1 ≠ 0 then ⟨0, [], (clE v (k' + 1) (linesOf left.data.toList)).1, (clE v (k' + 1) (linesOf left.data.toList)).2.1⟩ else if ((clE v (k' + 1) (linesOf left.data.toList)).2.2.length : Int) ≠ c then ⟨0, [], 34, (clE v (k' + 1) (linesOf left.data.toList)).2.1⟩ else ⟨v, (clE v (k' + 1) (linesOf left.data.toList)).2.2, 0, 0⟩) := by show _ = _; rw [q2]; exact rdF_go q1 g1
  have HCl : Hid (Calls Tryz.prog 41 #[.pointer (some ⟨w.heap.size + 1, 0, none⟩), .int .i64 v] w1 fun e w' => ClR w1 (w.heap.size + 1) (k' + 1) (linesOf left.data.toList) v e w') := clauses_any (w.heap.size + 1) left rest k' v w1 q3 (by omega) (fun x hx => has x (q5 x hx)) (by rw [q2]; omega)
  clear q1 q2 q3 q4 q5 q6 g1 hG c2
  go_wp2_with fail
  refine HCl.out.mono ?_
  rintro e w2 ⟨s2, left2, rest2, rfl, own2, T2, G2⟩
  generalize clE v (k' + 1) (linesOf left.data.toList) = E at *
  have HD2 : Hid (Bx2 w2 w.heap.size 24 (.int .i64 0) (.slice none 0 0)) := HD1.out.kept G2 (by simp)
  have HB2 : Hid (Below w.heap.size w w2) := below_by HB1.out G2 (by omega)
  have HO2 : Hid (OwnF w.heap.size w2 s2 E.2.2) := own2.mono HB1.out.size
  have c2 := T2.c2
  clear d0 d1 f0 f1
  have d0 := HD2.out.c0
  have d1 := HD2.out.c1
  have f0 := HD2.out.f0
  have f1 := HD2.out.f1
  obtain ⟨L, hL, hLs⟩ := own2
  obtain ⟨a2, k2, rfl⟩ := row_form hL.row
  have hLl : (L.length : Int) = (E.2.2.length : Int) := by rw [← hLs]; simp
  have HBx : Hid (Bx2 ((w2.setCell ⟨w.heap.size, 0, none⟩ (.int .i64 0)).setCell ⟨w.heap.size, 1, none⟩ (.slice none 0 0)) w.heap.size 24 (.int .i64 0) (.slice none 0 0)) := (HD2.out.set0 _).set1 _
  have HBe : Hid (Below w.heap.size w ((w2.setCell ⟨w.heap.size, 0, none⟩ (.int .i64 0)).setCell ⟨w.heap.size, 1, none⟩ (.slice none 0 0))) := below_set (below_set HB2.out (Nat.le_refl _) _ _) (Nat.le_refl _) _ _
  clear hL hLs T2 G2 HCl HD1 HB1
  rw [← hLl] at HGo
  clear hLl
  obtain ⟨er, line, all⟩ := E
  simp only at HGo HO2 c2 ⊢
  by_cases he : er = 0
  · subst he
    rw [if_neg (by simp)] at HGo
    by_cases hc : (L.length : Int) = c
    · rw [if_neg (by simpa using hc)] at HGo
      go_wp2
      try simp only [Exit.inBlock, Exit.then]
      refine bodyPost_ret (ret_form3 rfl rfl ((HD2.out.set0 _).set1 _)) rfl ?_
      exact HFin.out _ _ _ HGo.out (below_set (below_set HB2.out (Nat.le_refl _) _ _) (Nat.le_refl _) _ _) (OwnF.set (OwnF.set HO2.out HD2.out (by decide) (by decide) 0 _) (HD2.out.set0 _) (by decide) (by decide) 1 _)
    · rw [if_pos hc] at HGo
      go_wp2_with fail
      go_region
      all_goals
        go_wp2
        try simp only [Exit.inBlock, Exit.then]
        refine bodyPost_ret (ret_form3 rfl rfl (show Bx2 _ w.heap.size 24 _ _ from HBx.out)) rfl ?_
        exact HFin.out _ _ _ HGo.out (by first | exact HBe.out | exact HBe.out.drew) (OwnF.nil _ _)
  · rw [if_pos he] at HGo
    go_wp2_with fail
    go_region
    all_goals
      go_wp2
      try simp only [Exit.inBlock, Exit.then]
      refine bodyPost_ret (ret_form3 rfl rfl (show Bx2 _ w.heap.size 24 _ _ from HBx.out)) rfl ?_
      exact HFin.out _ _ _ HGo.out (by first | exact HBe.out | exact HBe.out.drew) (OwnF.nil _ _)

end Go.Proofs.YtlkbbbbclmffjaaGreatDoor
set_option linter.unusedSimpArgs false
set_option linter.unusedVariables false
namespace Go.Proofs.YtlkbbbbclmffjaaGreatDoor
open Go Go.RowKit

theorem eatA_err : ∀ (ws : List (List UInt8 × Nat)) (p : Nat) (en : Bool) (m : List Bool) {m' : List Bool} {en' : Bool} {e : Int} {j : Nat}, eatA ws p en m = (m', en', some (e, j)) → e ≠ 0 := by
  intro ws
  induction ws with
  | nil => intro p en m m' en' e j h; simp [eatA] at h
  | cons x t ih =>
    intro p en m m' en' e j h
    obtain ⟨w, q⟩ := x
    unfold eatA at h
    split at h
    · split at h
      · exact ih _ _ _ h
      · simp at h; omega
    · split at h
      · simp at h; omega
      · split at h
        · simp at h; omega
        · split at h
          · exact ih _ _ _ h
          · split at h
            · exact ih _ _ _ h
            · simp at h; omega
theorem anF_none {s : List UInt8} (h : nxt 1 (linesOf s) = none) : anF s = ⟨false, [], 35, (linesOf s).length + 1⟩ := by unfold anF; rw [h]
theorem anF_bad {s l : List UInt8} {k : Nat} {r : List (List UInt8)} (h : nxt 1 (linesOf s) = some (l, k, r)) (h2 : vdC l = none) : anF s = ⟨false, [], 35, k⟩ := by unfold anF; rw [h]; simp only [vdC_eq, h2]
theorem anF_no {s l : List UInt8} {k : Nat} {r : List (List UInt8)} (h : nxt 1 (linesOf s) = some (l, k, r)) (h2 : vdC l = some false) (h3 : nxt (k + 1) r = none) : anF s = ⟨false, [], 0, 0⟩ := by
  unfold anF; rw [h]; simp only [vdC_eq, h2, nxt_none h3]
theorem anF_more {s l l' : List UInt8} {k k' : Nat} {r r' : List (List UInt8)} (h : nxt 1 (linesOf s) = some (l, k, r)) (h2 : vdC l = some false) (h3 : nxt (k + 1) r = some (l', k', r')) : anF s = ⟨false, [], 35, k'⟩ := by
  unfold anF; rw [h]; simp only [vdC_eq, h2, (nxt_some h3).1]
  have hw : word1 l' ≠ [] := fun e => idle_words (nxt_idleA h3) (words_none e)
  rw [words_word hw]
  rfl
theorem anF_yes {s l : List UInt8} {k : Nat} {r : List (List UInt8)} (h : nxt 1 (linesOf s) = some (l, k, r)) (h2 : vdC l = some true) :
    anF s = if (moE k (k + 1) r).1 ≠ 0 then ⟨false, [], (moE k (k + 1) r).1, (moE k (k + 1) r).2.1⟩ else ⟨true, (moE k (k + 1) r).2.2, 0, 0⟩ := by
  have hn := (nxt_some h).2.1
  unfold anF
  rw [h]
  simp only [vdC_eq, h2]
  unfold moE
  generalize hE : eatA (spoken (k + 1) r) k false [] = E
  obtain ⟨m, en, x⟩ := E
  cases x with
  | some ej =>
    obtain ⟨e, j⟩ := ej
    have := eatA_err _ _ _ _ hE
    simp [this, finA]
  | none =>
    cases en
    · simp [finA]; omega
    · simp [finA]

set_option maxRecDepth 100000 in
set_option maxHeartbeats 3200000 in
theorem dimAnswer_any (s : ByteArray) (w : World) (hs : s.data.toList.length < 4294967281) :
    Calls Tryz.prog 31 #[.string s] w (AnS w (anF s.data.toList)) := by
  have has : ∀ x ∈ s.data.toList, x.toNat < 256 := fun x _ => x.toNat_lt
  have hlines : (linesOf s.data.toList).length ≤ s.data.toList.length := by
    have : ∀ (n : Nat) (t : List UInt8), t.length ≤ n → (linesOf t).length ≤ t.length := by
      intro n
      induction n with
      | zero => intro t ht; have : t = [] := List.eq_nil_of_length_eq_zero (by omega); subst this; rw [linesOf_nil]; simp
      | succ n ih =>
        intro t ht
        by_cases h : t = []
        · subst h; rw [linesOf_nil]; simp
        · rw [linesOf_cons h]
          have h1 := cutN_lt h
          have := ih (cutN t).2 (by omega)
          simp; omega
    exact this _ _ (Nat.le_refl _)
  have HT0 : Hid (Tb (w.alloc (.cells #[.string s, .string ⟨#[]⟩, .int .i64 0] 65)) w.heap.size s ⟨#[]⟩ ((0 : Nat) : Int)) := Tb.new w s ⟨#[]⟩ 0
  have HB0 : Hid (Below w.heap.size w (w.alloc (.cells #[.string s, .string ⟨#[]⟩, .int .i64 0] 65))) := below_box _ _
  have HV : Hid (Calls Tryz.prog 49 #[.pointer (some ⟨w.heap.size, 0, none⟩)] (w.alloc (.cells #[.string s, .string ⟨#[]⟩, .int .i64 0] 65)) fun e w' => VdR s.data.toList w.heap.size (0 + 1) (linesOf s.data.toList) e w' ∧ (w.alloc (.cells #[.string s, .string ⟨#[]⟩, .int .i64 0] 65)).grownBy w' (some w.heap.size)) := verdict_any w.heap.size s ⟨#[]⟩ 0 _ HT0.out hs has (by omega)
  generalize hA : anF s.data.toList = A
  go_enter Tryz.func31, Tryz.ntmps31
  go_wp2_with fail
  generalize w.alloc (.cells #[.string s, .string ⟨#[]⟩, .int .i64 0] 65) = W0 at *
  refine HV.out.mono ?_
  rintro e w1 ⟨hH, hG⟩
  have HB1 : Hid (Below w.heap.size w w1) := below_by HB0.out hG (Nat.le_refl _)
  clear HT0 HB0 HV
  rcases hH with ⟨q1, rfl, left, rest, q2⟩ | ⟨ln, k', rs, left, rest, q1, q2, q3, q4, q5, q6, q7⟩
  case inl =>
    have c2 := q2.c2
    have HA : Hid (A = ⟨false, [], 35, (linesOf s.data.toList).length + 1⟩) := by show _ = _; rw [← hA]; exact anF_none q1
    have hln : ((0 + 1 + (linesOf s.data.toList).length : Nat) : Int) = (((linesOf s.data.toList).length + 1 : Nat) : Int) := by omega
    rw [hln] at c2
    clear q1 q2 hG hA hln
    generalize (linesOf s.data.toList).length + 1 = N at *
    go_wp2_with fail
    go_region
    all_goals
      go_wp2
      go_returns
      exact AnS.bad HA.out (by first | exact HB1.out | exact HB1.out.drew)
  have c2 := q3.c2
  rcases q7 with ⟨g1, rfl⟩ | ⟨v, g1, rfl⟩
  case inl =>
    have HA : Hid (A = ⟨false, [], 35, k'⟩) := by show _ = _; rw [← hA]; exact anF_bad q1 g1
    clear q1 q2 q3 q4 q5 q6 g1 hG hA
    go_wp2_with fail
    go_region
    all_goals
      go_wp2
      go_returns
      exact AnS.bad HA.out (by first | exact HB1.out | exact HB1.out.drew)
  cases v
  case false =>
    have HN : Hid (Calls Tryz.prog 51 #[.pointer (some ⟨w.heap.size, 0, none⟩)] w1 fun e w' => NxtR left.data.toList w.heap.size (k' + 1) (linesOf left.data.toList) e w' ∧ w1.grownBy w' (some w.heap.size)) := next_any w.heap.size left rest k' w1 q3 (by rw [← ba_lenW]; omega) (by rw [q2]; omega)
    rw [q2] at HN
    have HQ : Hid (nxt 1 (linesOf s.data.toList) = some (ln, k', rs) ∧ vdC ln = some false) := ⟨q1, g1⟩
    clear q1 q2 q3 q4 q5 q6 g1 hG c2
    go_wp2_with fail
    refine HN.out.mono ?_
    rintro e w2 ⟨hN, hG⟩
    have HB2 : Hid (Below w.heap.size w w2) := below_by HB1.out hG (Nat.le_refl _)
    rcases hN with ⟨l2, k2, r2, left2, q1, rfl, q3, q4, q5, q6, q7⟩ | ⟨q1, rfl, rest2, q2⟩
    case inl =>
      have c2 := q4.c2
      have HA : Hid (A = ⟨false, [], 35, k2⟩) := by show _ = _; rw [← hA]; exact anF_more HQ.out.1 HQ.out.2 q1
      clear q1 q3 q4 q5 q6 q7 hG hA HN
      go_wp2_with fail
      go_region
      all_goals
        go_wp2
        go_returns
        exact AnS.bad HA.out (by first | exact HB2.out | exact HB2.out.drew)
    case inr =>
      have HA : Hid (A = ⟨false, [], 0, 0⟩) := by show _ = _; rw [← hA]; exact anF_no HQ.out.1 HQ.out.2 q1
      clear q1 q2 hG hA HN
      go_wp2
      go_returns
      exact AnS.bad HA.out HB2.out
  case true =>
    have HGo : Hid (A = if (moE k' (k' + 1) (linesOf left.data.toList)).1 ≠ 0 then ⟨false, [], (moE k' (k' + 1) (linesOf left.data.toList)).1, (moE k' (k' + 1) (linesOf left.data.toList)).2.1⟩ else ⟨true, (moE k' (k' + 1) (linesOf left.data.toList)).2.2, 0, 0⟩) := by show _ = _; rw [← hA, q2]; exact anF_yes q1 g1
    have HM : Hid (Calls Tryz.prog 50 #[.pointer (some ⟨w.heap.size, 0, none⟩)] w1 fun e w' => MoR w1 w.heap.size k' (k' + 1) (linesOf left.data.toList) e w') := model_any w.heap.size left rest k' w1 q3 (by omega) (fun x hx => has x (q5 x hx)) (by rw [q2]; omega)
    clear q1 q2 q3 q4 q5 q6 g1 hG c2 hA
    go_wp2_with fail
    refine HM.out.mono ?_
    rintro e w2 ⟨s2, left2, rest2, rfl, own2, T2, G2⟩
    generalize moE k' (k' + 1) (linesOf left.data.toList) = E at *
    have HB2 : Hid (Below w.heap.size w w2) := below_by HB1.out G2 (Nat.le_refl _)
    obtain ⟨er, line, ms⟩ := E
    simp only at HGo own2 T2 ⊢
    have HO2 : Hid (OwnBo w.heap.size w2 s2 ms) := ⟨own2.1, own2.2.imp id (fun ⟨g, cap, cur, h1, h2, h3⟩ => ⟨g, cap, cur, h1, Nat.le_trans HB1.out.size h2, h3⟩)⟩
    have c2 := T2.c2
    obtain ⟨a2, k2, rfl⟩ := row_form own2
    clear own2 T2 G2 HM HB1
    by_cases he : er = 0
    · subst he
      rw [if_neg (by simp)] at HGo
      go_wp2
      go_returns
      rw [HGo.out]
      exact ⟨_, rfl, HO2.out, HB2.out⟩
    · rw [if_pos he] at HGo
      go_wp2_with fail
      go_region
      all_goals
        go_wp2
        go_returns
        exact AnS.bad HGo.out (by first | exact HB2.out | exact HB2.out.drew)

end Go.Proofs.YtlkbbbbclmffjaaGreatDoor

/-
  lits.resolventsOn and its iterator.
-/
import Derived.Test.YtbphbnfnolgkfaaDoorRangeV
import Derived.Test.YtbphbnfnolgkfaaDoorFind
import Derived.Test.YtbphbnfnolgkfaaDoorPlainRef
import Derived.Stop.RegionWithIn
import Derived.Sort.LoopGhostIn
import Derived.Sort.AtCallIn
set_option linter.unusedSimpArgs false
set_option linter.unusedVariables false
namespace Go.Proofs.YtbphbnfnolgkfaaDoor
open Go Go.RowKit Go.Shelf

attribute [local go_sem] Oper.semAt_some

/-- what follows on one literal -/
def resOne (A B : List Int) (l : Int) : Option (Int × List Int) := if (fmd l && A.contains l) && (fmd (-l) && B.contains (-l)) then some (varOf l, tid (wout A l ++ wout B (-l))) else none
def resOn (A B ls : List Int) : List (Int × List Int) := ls.filterMap (resOne A B)
theorem resOn_no {A B ls : List Int} {k : Nat} (h : k < ls.length) (hn : resOne A B (ls.getD k 0) = none) : resOn A B (ls.take (k + 1)) = resOn A B (ls.take k) := by
  unfold resOn
  have e : ls.getD k 0 = ls[k] := by simp [List.getD_eq_getElem?_getD, List.getElem?_eq_getElem h]
  rw [e] at hn
  rw [List.take_succ_eq_append_getElem h, List.filterMap_append, List.filterMap_cons_none hn]
  simp
theorem resOn_yes {A B ls : List Int} {k : Nat} {r : Int × List Int} (h : k < ls.length) (hn : resOne A B (ls.getD k 0) = some r) : resOn A B (ls.take (k + 1)) = resOn A B (ls.take k) ++ [r] := by
  unfold resOn
  have e : ls.getD k 0 = ls[k] := by simp [List.getD_eq_getElem?_getD, List.getElem?_eq_getElem h]
  rw [e] at hn
  rw [List.take_succ_eq_append_getElem h, List.filterMap_append, List.filterMap_cons_some hn]
  simp
theorem resOn_prefix (A B ls : List Int) (k : Nat) : resOn A B (ls.take k) <+: resOn A B ls := by
  unfold resOn
  exact (List.take_prefix k ls).filterMap _

/-- a variable, a slice value, and what it reads -/
abbrev Itm := Int × Value × List Int
def Itm.proj (x : Itm) : Int × List Int := (x.1, x.2.2)
/-- what lies behind an item that is yielded: it is the next one; its slice is new -/
def VV (n₀ : Nat) (R : List (Int × List Int)) (pre : List Itm) (x : Itm) (W : World) : Prop :=
  (pre ++ [x]).map Itm.proj <+: R ∧ Own n₀ W x.2.1 x.2.2 ∧ x.2.2.length ≤ 2097152

theorem grown_of_below {w w' : World} (h : Below w.heap.size w w') : w.grownBy w' none := ⟨h.os, h.tape, h.output, h.size, fun k hk _ => h.block k hk⟩
theorem abides_below {β : Type} {B : Nat} {J : β → World → Prop} (hJ : AbidesFrom B J) {s : β} {w w' : World} (h : J s w) (hb : Below w.heap.size w w') : J s w' := hJ s w w' none h (grown_of_below hb) (fun r e => by cases e)
theorem two_ways {e : Ending} {P1 P2 : Prop} (h : (e = .returned (.bool true) ∧ P1) ∨ (e = .returned (.bool false) ∧ P2)) : ∃ b : Bool, e = .returned (.bool b) ∧ (b = true → P1) ∧ (b = false → P2) := by
  rcases h with ⟨rfl, h⟩ | ⟨rfl, h⟩
  · exact ⟨true, rfl, fun _ => h, fun e => by cases e⟩
  · exact ⟨false, rfl, (fun e => by cases e), fun _ => h⟩
theorem neg_hyp {l : Int} (h : fmd l = true) : -1048576 ≤ l ∧ l ≤ 1048576 := (fmd_range h).2

set_option maxRecDepth 100000 in
set_option maxHeartbeats 4000000 in
theorem iter_in (n : Nat) (hn : 1 ≤ n) (l Bs Ba Bb lo n₀ : Nat) (va vb vs : Value) (A B ls : List Int) (hA : Rises A) (hB : Rises B) (W : World)
    (J Jx : List Itm → World → Prop) (hJ : AbidesFrom W.heap.size J)
    (hY : ∀ pre x W0 W1, J pre W0 → W.heap.size ≤ W0.heap.size → Below W0.heap.size W0 W1 → VV W0.heap.size (resOn A B ls) pre x W1 → YieldAt Fence.wide (n - 1) Tryd.prog l #[.int .i64 x.1, x.2.1] W1 fun e W' =>
      (e = .returned (.bool true) ∧ J (pre ++ [x]) W' ∧ Mid lo n₀ W1 W') ∨ (e = .returned (.bool false) ∧ Jx (pre ++ [x]) W'))
    (hn0 : n₀ ≤ W.heap.size) (hBs : Bs < n₀) (hBa : Ba < n₀) (hBb : Bb < n₀) (lBs : lo ≤ Bs) (lBa : lo ≤ Ba) (lBb : lo ≤ Bb)
    (cs : W.cell? ⟨Bs, 0, none⟩ = some vs) (ca : W.cell? ⟨Ba, 0, none⟩ = some va) (cb : W.cell? ⟨Bb, 0, none⟩ = some vb)
    (hoa : ∀ W', Mid lo n₀ W W' → Own 0 W' va A) (hob : ∀ W', Mid lo n₀ W W' → Own 0 W' vb B) (hos : ∀ W', Mid lo n₀ W W' → Rd W' vs ls) (h0 : J [] W) :
    CallsIn Fence.wide n Tryd.prog 47 #[.func (.yield l) #[] #[], .pointer (some ⟨Bs, 0, none⟩), .pointer (some ⟨Ba, 0, none⟩), .pointer (some ⟨Bb, 0, none⟩)] W fun e W' => (∃ v, e = .returned v) ∧
      ((∃ xs, xs.map Itm.proj = resOn A B ls ∧ J xs W') ∨ (∃ pre, pre.map Itm.proj <+: resOn A B ls ∧ Jx pre W')) := by
  have HY : Hid (∀ pre x W0 W1, J pre W0 → W.heap.size ≤ W0.heap.size → Below W0.heap.size W0 W1 → VV W0.heap.size (resOn A B ls) pre x W1 → YieldAt Fence.wide (n - 1) Tryd.prog l #[.int .i64 x.1, x.2.1] W1 fun e W' =>
      (e = .returned (.bool true) ∧ J (pre ++ [x]) W' ∧ Mid lo n₀ W1 W') ∨ (e = .returned (.bool false) ∧ Jx (pre ++ [x]) W')) := hY
  have HOA : Hid (∀ W', Mid lo n₀ W W' → Own 0 W' va A) := hoa
  have HOB : Hid (∀ W', Mid lo n₀ W W' → Own 0 W' vb B) := hob
  have HJ : Hid (AbidesFrom W.heap.size J) := hJ
  obtain ⟨hls, as', cs', rfl, hlc, hlm, hln, hs2⟩ := hos W (Mid.refl _ _ _)
  have HOS : Hid (∀ W', Mid lo n₀ W W' → Rd W' (.slice as' ls.length cs') ls) := hos
  clear hY hoa hob hos hJ hs2 hlc hlm hln
  refine callsIn_of_wp Tryd.func47 rfl trivial ?_ rfl
  simp only [Tryd.ntmps47, List.size_toArray, List.length_cons, List.length_nil, Nat.reduceAdd, Nat.reduceSub, Array.replicate_succ, Array.replicate_zero, List.push_toArray, List.append_toArray, List.nil_append, List.cons_append]
  gi_wp2
  gi_loopg [9] ls.length (fun g i wr => ∃ (k : Nat) (pre : List Itm), k + g = ls.length ∧ i = .int .i64 k ∧ pre.map Itm.proj = resOn A B (ls.take k) ∧ J pre wr ∧ Mid lo n₀ W wr)
  case atStart => exact ⟨0, [], by omega, rfl, rfl, h0, Mid.refl _ _ _⟩
  case round =>
    obtain ⟨k, pre, hk, rfl, hpre, hJs, bel⟩ := hrel
    have HK : Hid (k + gk = ls.length) := hk
    have HP : Hid (pre.map Itm.proj = resOn A B (ls.take k)) := hpre
    clear hpre h0
    by_cases hlt : k < ls.length
    · obtain ⟨_, a1, c1, e1, _, _, _, h2⟩ := HOS.out wr bel
      simp only [Value.slice.injEq, true_and] at e1
      obtain ⟨rfl, rfl⟩ := e1
      obtain ⟨bl, ol, e2, hbl, hcell⟩ := h2 (by intro h; rw [h] at hlt; simp at hlt)
      have hck := hcell k hlt
      clear hcell h2
      subst e2
      have cax : wr.cell? ⟨Ba, 0, none⟩ = some va := (bel.cell (p := ⟨Ba, 0, none⟩) lBa hBa).trans ca
      have cbx : wr.cell? ⟨Bb, 0, none⟩ = some vb := (bel.cell (p := ⟨Bb, 0, none⟩) lBb hBb).trans cb
      have hh := holds_any va A (ls.getD k 0) wr (HOA.out wr bel) hA
      cases hq : (fmd (ls.getD k 0) && A.contains (ls.getD k 0))
      · have HN : Hid (resOn A B (ls.take (k + 1)) = resOn A B (ls.take k)) := resOn_no hlt (by unfold resOne; rw [hq]; rfl)
        rw [hq] at hh
        clear hk hq
        generalize ls.getD k 0 = z at *
        gi_wp2_with fail
        refine ⟨trivial, ?_⟩
        refine (callsIn_wide.2 hh).mono ?_
        rintro e w2 ⟨rfl, bel2⟩
        have J2 := abides_below HJ.out hJs bel2
        have B2 : Mid lo n₀ W w2 := bel.step bel2 hn0
        clear hh hJs bel bel2 cax cbx hck
        gi_wp2
        refine ⟨trivial, ?_⟩
        gi_wp2
        gi_roundg (gk - 1)
        case measure => have := HK.out; omega
        case rel => exact ⟨k + 1, pre, by have := HK.out; omega, by go_num, by rw [HN.out]; exact HP.out, J2, B2⟩
      · have hfz : fmd (ls.getD k 0) = true := by simp only [Bool.and_eq_true] at hq; exact hq.1
        obtain ⟨z1, z2⟩ := neg_hyp hfz
        rw [hq] at hh
        cases hq2 : (fmd (-(ls.getD k 0)) && B.contains (-(ls.getD k 0)))
        · have HN : Hid (resOn A B (ls.take (k + 1)) = resOn A B (ls.take k)) := resOn_no hlt (by unfold resOne; rw [hq, hq2]; rfl)
          have hb2 : ∀ w2, Below wr.heap.size wr w2 → Calls Tryd.prog 48 #[vb, .int .i64 (-(ls.getD k 0))] w2 fun e w' => e = .returned (.bool false) ∧ Below w2.heap.size w2 w' := fun w2 h => by
            have := holds_any vb B (-(ls.getD k 0)) w2 (HOB.out w2 (bel.step h hn0)) hB
            rw [hq2] at this
            exact this
          have HB2 : Hid (∀ w2, Below wr.heap.size wr w2 → Calls Tryd.prog 48 #[vb, .int .i64 (-(ls.getD k 0))] w2 fun e w' => e = .returned (.bool false) ∧ Below w2.heap.size w2 w') := hb2
          clear hk hq hq2 hb2 hfz
          generalize ls.getD k 0 = z at *
          gi_wp2_with fail
          refine ⟨trivial, ?_⟩
          refine (callsIn_wide.2 hh).mono ?_
          rintro e w2 ⟨rfl, bel2⟩
          have cbx2 : w2.cell? ⟨Bb, 0, none⟩ = some vb := (bel2.cell (p := ⟨Bb, 0, none⟩) (Nat.lt_of_lt_of_le hBb (Nat.le_trans hn0 bel.size))).trans cbx
          clear hh
          gi_wp2_with fail
          refine ⟨trivial, ?_⟩
          refine (callsIn_wide.2 (HB2.out w2 bel2)).mono ?_
          rintro e w3 ⟨rfl, bel3⟩
          have bel23 := Below.step bel2 bel3
          have J2 := abides_below HJ.out hJs bel23
          have B2 : Mid lo n₀ W w3 := bel.step bel23 hn0
          clear hJs bel bel2 cax cbx hck cbx2 bel3 bel23 HB2
          gi_wp2
          gi_roundg (gk - 1)
          case measure => have := HK.out; omega
          case rel => exact ⟨k + 1, pre, by have := HK.out; omega, by go_num, by rw [HN.out]; exact HP.out, J2, B2⟩
        · have HN : Hid (resOn A B (ls.take (k + 1)) = resOn A B (ls.take k) ++ [(varOf (ls.getD k 0), tid (wout A (ls.getD k 0) ++ wout B (-(ls.getD k 0))))]) := resOn_yes hlt (by unfold resOne; rw [hq, hq2]; rfl)
          have hb2 : ∀ w2, Below wr.heap.size wr w2 → Calls Tryd.prog 48 #[vb, .int .i64 (-(ls.getD k 0))] w2 fun e w' => e = .returned (.bool true) ∧ Below w2.heap.size w2 w' := fun w2 h => by
            have := holds_any vb B (-(ls.getD k 0)) w2 (HOB.out w2 (bel.step h hn0)) hB
            rw [hq2] at this
            exact this
          have HB2 : Hid (∀ w2, Below wr.heap.size wr w2 → Calls Tryd.prog 48 #[vb, .int .i64 (-(ls.getD k 0))] w2 fun e w' => e = .returned (.bool true) ∧ Below w2.heap.size w2 w') := hb2
          clear hk hq hq2 hb2 hfz
          generalize ls.getD k 0 = z at *
          gi_wp2_with fail
          refine ⟨trivial, ?_⟩
          refine (callsIn_wide.2 hh).mono ?_
          rintro e w2 ⟨rfl, bel2⟩
          have cbx2 : w2.cell? ⟨Bb, 0, none⟩ = some vb := (bel2.cell (p := ⟨Bb, 0, none⟩) (Nat.lt_of_lt_of_le hBb (Nat.le_trans hn0 bel.size))).trans cbx
          clear hh
          gi_wp2_with fail
          refine ⟨trivial, ?_⟩
          refine (callsIn_wide.2 (HB2.out w2 bel2)).mono ?_
          rintro e w3 ⟨rfl, bel3⟩
          have bel23 := Below.step bel2 bel3
          have J3 := abides_below HJ.out hJs bel23
          have B3 : Mid lo n₀ W w3 := bel.step bel23 hn0
          have ca3 : w3.cell? ⟨Ba, 0, none⟩ = some va := (B3.cell (p := ⟨Ba, 0, none⟩) lBa hBa).trans ca
          have cb3 : w3.cell? ⟨Bb, 0, none⟩ = some vb := (B3.cell (p := ⟨Bb, 0, none⟩) lBb hBb).trans cb
          have hz3 : n₀ ≤ w3.heap.size := Nat.le_trans hn0 B3.size
          clear hJs bel bel2 cax cbx hck cbx2 bel3 bel23 HB2
          have HRA : Hid (∀ W', Mid lo n₀ W W' → Rd W' va A) := fun W' h => (HOA.out W' h).rd (by have := hA.len; omega)
          have HRB : Hid (∀ W', Mid lo n₀ W W' → Rd W' vb B) := fun W' h => (HOB.out W' h).rd (by have := hB.len; omega)
          have HWR : Hid (IntKind.i64.wrap (-z) = -z) := by show IntKind.i64.wrap (-z) = -z; rw [IntKind.wrap_i64]; omega
          have eA : Hid (tid A = A) := tid_id hA.1 hA.2
          have eB : Hid (tid B = B) := tid_id hB.1 hB.2
          have lA : Hid ((wout A z).length * 8 ≤ 140737488351232) := by have h1 := hA.len; have h2 : (wout A z).length ≤ A.length := List.length_filter_le _ _; show _ * 8 ≤ _; omega
          have lB : Hid ((wout B (-z)).length * 8 ≤ 140737488351232) := by have h1 := hB.len; have h2 : (wout B (-z)).length ≤ B.length := List.length_filter_le _ _; show _ * 8 ≤ _; omega
          have HPX : Hid (pre.map Itm.proj ++ [(varOf z, tid (wout A z ++ wout B (-z)))] = resOn A B (ls.take (k + 1))) := by rw [HP.out]; exact HN.out.symm
          have HPP : Hid (resOn A B (ls.take (k + 1)) <+: resOn A B ls) := resOn_prefix _ _ _ _
          gi_wp2
          gi_region_with (first
            | (refine ⟨trivial, ?_⟩; gi_at_call 45; refine (callsIn_wide.2 (var_any _ _)).mono ?_; rintro e wv ⟨rfl, rfl⟩)
            | (refine ⟨trivial, ?_⟩; gi_at_call_has 50 va; refine (callsIn_wide.2 (without_any va A z _ (HRA.out _ B3.drew))).mono ?_; rintro e w4 ⟨v4, rfl, own4, bel4⟩; have B4 : Mid lo n₀ W w4 := B3.drew.step bel4 hn0; have cb4 : w4.cell? ⟨Bb, 0, none⟩ = some vb := (B4.cell (p := ⟨Bb, 0, none⟩) lBb hBb).trans cb; have hz4 : n₀ ≤ w4.heap.size := Nat.le_trans hn0 B4.size)
            | (refine ⟨trivial, ?_⟩; gi_at_call_has 50 vb; rw [HWR.out]; refine (callsIn_wide.2 (without_any vb B (-z) _ (HRB.out _ B4))).mono ?_; rintro e w5 ⟨v5, rfl, own5, bel5⟩; have B5 : Mid lo n₀ W w5 := B4.step bel5 hn0; have hz5 : n₀ ≤ w5.heap.size := Nat.le_trans hn0 B5.size)
            | (refine ⟨trivial, ?_⟩; gi_at_call 49; rw [eA.out] at own4; rw [eB.out] at own5; refine (callsIn_wide.2 (join_any sortSaid compactSaid v4 v5 (wout A z) (wout B (-z)) w5 ((own4.rd lA.out).below bel5) (own5.rd lB.out))).mono ?_; rintro e w6 ⟨v6, rfl, own6, bel6⟩; have B6 : Mid lo n₀ W w6 := B5.step bel6 hn0; have B35 := Below.step (Below.step (Below.refl _ _).drew bel4) bel5; have B36 := Below.step B35 bel6; obtain ⟨fn, tmps, assign, body, hy, hR⟩ := HY.out pre (varOf z, v6, tid (wout A z ++ wout B (-z))) w3 w6 J3 B3.size B36 ⟨by rw [List.map_append]; show pre.map Itm.proj ++ [(varOf z, tid (wout A z ++ wout B (-z)))] <+: resOn A B ls; rw [HPX.out]; exact HPP.out, own6.mono B35.size, tid_len _⟩; dsimp only at hy)
            | (refine hR.mono ?_; rintro e w7 h7; obtain ⟨q7, rfl, h8, h9⟩ := two_ways h7; clear h7 hR hy))
          all_goals
            cases q7
            · have hx := h9 rfl
              clear h8 h9
              gi_wp2
              refine bodyPost_ret (results_none rfl _ _ _) rfl ?_
              exact ⟨⟨_, rfl⟩, .inr ⟨_, by rw [List.map_append]; show pre.map Itm.proj ++ [(varOf z, tid (wout A z ++ wout B (-z)))] <+: resOn A B ls; rw [HPX.out]; exact HPP.out, hx⟩⟩
            · obtain ⟨hJ7, hk7⟩ := h8 rfl
              clear h8 h9
              gi_wp2
              gi_roundg (gk - 1)
              case measure => have := HK.out; omega
              case rel => exact ⟨k + 1, pre ++ [(varOf z, v6, tid (wout A z ++ wout B (-z)))], by have := HK.out; omega, by go_num, by rw [List.map_append]; exact HPX.out, hJ7, B6.trans hk7⟩
    · obtain rfl : k = ls.length := by omega
      have HE : Hid (pre.map Itm.proj = resOn A B ls) := by have := HP.out; rw [List.take_length] at this; exact this
      clear hk
      gi_wp2
      go_end0
      exact ⟨⟨_, rfl⟩, .inl ⟨pre, HE.out, hJs⟩⟩

end Go.Proofs.YtbphbnfnolgkfaaDoor

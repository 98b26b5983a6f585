/-
  DimacsTells, walked.
  KEEP: set on app at below new trans refl start ap kept rd rds mono nil form grown rdz out len row own one nilA belowA text push bad cons some none h x
-/
import Derived.Test.YtaipajalkendaaaDoorKAnW
import Derived.Test.YtaipajalkendaaaDoorSameBs
set_option linter.unusedSimpArgs false
set_option linter.unusedVariables false
namespace Go.Proofs.YtaipajalkendaaaDoor
open Go Go.RowKit

theorem eatA_len : ∀ (ws : List (List UInt8 × Nat)) (p : Nat) (en : Bool) (m : List Bool), (eatA ws p en m).1.length ≤ m.length + ws.length := by
  intro ws
  induction ws with
  | nil => intro p en m; simp [eatA]
  | cons x t ih =>
    intro p en m
    obtain ⟨w, q⟩ := x
    unfold eatA
    split
    · split
      · have := ih q en m; simp only [List.length_cons]; omega
      · simp
    · split
      · simp
      · split
        · simp
        · split
          · have := ih q true m; simp only [List.length_cons]; omega
          · split
            · rename_i z _ _ _
              have := ih q en (m ++ [decide (0 < z)]); rw [List.length_append] at this; simp only [List.length_cons, List.length_nil] at this ⊢; omega
            · simp
theorem spk_lenA : ∀ (ls : List (List UInt8)) (k : Nat), (spoken k ls).length ≤ lenS ls
  | [], k => by simp [spoken, lenS]
  | l :: r, k => by
    rw [spoken, lenS_cons, List.length_append]
    have h1 := spk_lenA r (k + 1)
    have h2 : (wordsOf l).length ≤ l.length := by rw [← wds_words]; have := wds_len l []; simpa using this
    split
    · simp; omega
    · simp; omega
theorem anF_len (s : List UInt8) : (anF s).mod.length ≤ s.length := by
  unfold anF
  cases hnx : nxt 1 (linesOf s) with
  | none => simp
  | some y =>
    obtain ⟨ln, k, r⟩ := y
    simp only
    cases toldW (wordsOf ln) with
    | none => simp
    | some b =>
      cases b
      · simp only
        split <;> simp
      · simp only
        have h1 := eatA_len (spoken (k + 1) r) k false []
        have h2 := (nxt_some hnx).1
        have h3 := spk_lenA (linesOf s) 1
        have h4 := lns_sum s []
        rw [lns_lines _ _ (Nat.le_refl _)] at h4
        rw [h2, List.length_append] at h3
        simp only [List.length_nil, Nat.add_zero, Nat.zero_add] at h1 h4
        generalize eatA (spoken (k + 1) r) k false [] = EE at *
        obtain ⟨m, en, o⟩ := EE
        cases o with
        | some ej => obtain ⟨e, j⟩ := ej; simp [finA]
        | none =>
          cases en
          · simp [finA]
          · simp only [finA, if_true]
            dsimp only at h1
            omega
theorem one_said : anF [115, 32, 83, 65, 84, 73, 83, 70, 73, 65, 66, 76, 69, 10, 118, 32, 48, 10] = ⟨true, [], 0, 0⟩ := by
  have e1 : linesOf [115, 32, 83, 65, 84, 73, 83, 70, 73, 65, 66, 76, 69, 10, 118, 32, 48, 10] = [[115, 32, 83, 65, 84, 73, 83, 70, 73, 65, 66, 76, 69], [118, 32, 48]] := by
    rw [linesOf_cons (by decide), show cutN [115, 32, 83, 65, 84, 73, 83, 70, 73, 65, 66, 76, 69, 10, 118, 32, 48, 10] = ([115, 32, 83, 65, 84, 73, 83, 70, 73, 65, 66, 76, 69], [118, 32, 48, 10]) by decide]
    simp only
    rw [linesOf_cons (by decide), show cutN [118, 32, 48, 10] = ([118, 32, 48], []) by decide]
    simp only
    rw [linesOf_nil]
  have w1 : wordsOf [115, 32, 83, 65, 84, 73, 83, 70, 73, 65, 66, 76, 69] = [[115], yesW] := by
    rw [words_word (by decide), words_word (by decide), words_none (by decide)]
    decide
  have w2 : wordsOf [118, 32, 48] = [[118], [48]] := by
    rw [words_word (by decide), words_word (by decide), words_none (by decide)]
    decide
  unfold anF
  rw [e1]
  have n1 : nxt 1 [[115, 32, 83, 65, 84, 73, 83, 70, 73, 65, 66, 76, 69], [118, 32, 48]] = some ([115, 32, 83, 65, 84, 73, 83, 70, 73, 65, 66, 76, 69], 1, [[118, 32, 48]]) := by simp [nxt, show idleL [115, 32, 83, 65, 84, 73, 83, 70, 73, 65, 66, 76, 69] = false by decide]
  rw [n1]
  simp only [w1]
  have t1 : toldW [[115], yesW] = some true := by unfold toldW; rw [if_pos rfl]
  rw [t1]
  have s1 : spoken (1 + 1) [[118, 32, 48]] = [([118], 2), ([48], 2)] := by simp [spoken, show idleL [118, 32, 48] = false by decide, w2]
  simp only [s1]
  rw [eatA_line (by decide) rfl, eatA_zero (by decide), eatA]
  rfl

namespace dimacsTells
set_option maxHeartbeats 3200000 in
set_option maxRecDepth 100000 in
theorem walk (s : ByteArray) (w : World) (hs0 : s.data.toList.length ≤ 1048576) :
    Calls Tryd.prog 4 #[.string s] w fun e w' => e = .returned (.bool true) ∧ RowKit.Below w.heap.size w w' := by
  have hs : s.size ≤ 1048576 := by rw [← ba_len]; exact hs0
  have HR1 : Hid (∀ W : World, Calls Tryd.prog 12 #[.string s] W (AnS W (anF s.data.toList))) := fun W => dimAnswer_any s W (by omega)
  have HR2 : Hid (∀ W : World, Calls Tryd.prog 13 #[.string s] W (AnS W (anF s.data.toList))) := fun W => rAnswer_any s W (by omega)
  have HR3 : Hid (∀ W : World, Calls Tryd.prog 12 #[.string ⟨#[115, 32, 83, 65, 84, 73, 83, 70, 73, 65, 66, 76, 69, 10, 118, 32, 48, 10]⟩] W (AnS W ⟨true, [], 0, 0⟩)) := fun W => by
    have := dimAnswer_any ⟨#[115, 32, 83, 65, 84, 73, 83, 70, 73, 65, 66, 76, 69, 10, 118, 32, 48, 10]⟩ W (by decide)
    rw [show (⟨#[115, 32, 83, 65, 84, 73, 83, 70, 73, 65, 66, 76, 69, 10, 118, 32, 48, 10]⟩ : ByteArray).data.toList = [115, 32, 83, 65, 84, 73, 83, 70, 73, 65, 66, 76, 69, 10, 118, 32, 48, 10] from rfl, one_said] at this
    exact this
  have hl := anF_len s.data.toList
  have HLn : Hid ((anF s.data.toList).mod.length ≤ 140737488351232) := by show _ ≤ _; omega
  clear hl hs0
  generalize anF s.data.toList = A at *
  obtain ⟨sa, ms, E, P⟩ := A
  dsimp only at *
  go_enter Tryd.func4, Tryd.ntmps4
  go_wp2_with fail
  refine (HR1.out w).mono ?_
  rintro e w1 ⟨v1, rfl, own1, bel1⟩
  dsimp only at own1 ⊢
  have R1 : Hid (RdB w1 v1 ms) := own1.rd HLn.out
  have B1 : Hid (RowKit.Below w.heap.size w w1) := bel1
  clear own1 bel1
  go_wp2_with fail
  refine (HR2.out w1).mono ?_
  rintro e w2 ⟨v2, rfl, own2, bel2⟩
  dsimp only at own2 ⊢
  have R2 : Hid (RdB w2 v2 ms) := own2.rd HLn.out
  have R1b : Hid (RdB w2 v1 ms) := R1.out.below bel2
  have B2 : Hid (RowKit.Below w.heap.size w w2) := Below.step B1.out bel2
  clear own2 bel2 R1 B1
  go_wp2_with fail
  refine (HR3.out w2).mono ?_
  rintro e w3 ⟨v3, rfl, own3, bel3⟩
  dsimp only at own3 ⊢
  have R2b : Hid (RdB w3 v2 ms) := R2.out.below bel3
  have R1c : Hid (RdB w3 v1 ms) := R1b.out.below bel3
  have B3 : Hid (RowKit.Below w.heap.size w w3) := Below.step B2.out bel3
  obtain ⟨a3, c3, hv3⟩ := row_form own3
  subst hv3
  clear own3 bel3 R1b R2 B2
  have HSm : Hid (Calls Tryd.prog 14 #[v1, v2] w3 fun e w' => e = .returned (.bool true) ∧ RowKit.Below w3.heap.size w3 w') := by
    have := sameBools_any v1 v2 ms ms w3 R1c.out R2b.out
    rwa [beq_self_eq_true] at this
  have hE : (E == E) = true := beq_self_eq_true _
  have hP : ((P : Int) == (P : Int)) = true := beq_self_eq_true _
  have hS : (sa == sa) = true := beq_self_eq_true _
  obtain ⟨_, a1, c1, hv1, _⟩ := R1c.out
  subst hv1
  obtain ⟨_, a2, c2, hv2, _⟩ := R2b.out
  subst hv2
  go_wp2_with (go_at_call 14; refine HSm.out.mono ?_; rintro e w4 ⟨rfl, bel4⟩)
  go_ret
  exact ⟨rfl, Below.step B3.out bel4⟩
end dimacsTells
end Go.Proofs.YtaipajalkendaaaDoor

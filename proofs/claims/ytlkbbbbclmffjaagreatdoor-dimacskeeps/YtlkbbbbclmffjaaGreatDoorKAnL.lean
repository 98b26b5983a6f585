/-
  How long a model is at most that an answer's text says.
  KEEP: set on app at below new trans refl start ap kept rd rds mono nil form grown rdz out len row own one nilA belowA text push bad cons some none h x
-/
import Derived.Test.YtlkbbbbclmffjaaGreatDoorJText
import Derived.Test.YtlkbbbbclmffjaaGreatDoorJRdV
import Derived.Test.YtlkbbbbclmffjaaGreatDoorJClW
set_option linter.unusedSimpArgs false
set_option linter.unusedVariables false
namespace Go.Proofs.YtlkbbbbclmffjaaGreatDoor
open Go Go.RowKit

theorem eatA_len : ∀ (ws : List (List UInt8 × Nat)) (p : Nat) (en : Bool) (m : List Bool), (eatA ws p en m).1.length ≤ m.length + ws.length := by
  intro ws
  induction ws with
  | nil => intro p en m; simp [eatA]
  | cons x t ih =>
    intro p en m
    obtain ⟨w, q⟩ := x
    unfold eatA
    split
    · split
      · have := ih q en m; simp only [List.length_cons]; omega
      · simp
    · split
      · simp
      · split
        · simp
        · split
          · have := ih q true m; simp only [List.length_cons]; omega
          · split
            · rename_i z _ _ _
              have := ih q en (m ++ [decide (0 < z)]); rw [List.length_append] at this; simp only [List.length_cons, List.length_nil] at this ⊢; omega
            · simp
theorem spk_lenA : ∀ (ls : List (List UInt8)) (k : Nat), (spoken k ls).length ≤ lenS ls
  | [], k => by simp [spoken, lenS]
  | l :: r, k => by
    rw [spoken, lenS_cons, List.length_append]
    have h1 := spk_lenA r (k + 1)
    have h2 : (wordsOf l).length ≤ l.length := by rw [← wds_words]; have := wds_len l []; simpa using this
    split
    · simp; omega
    · simp; omega
theorem anF_len (s : List UInt8) : (anF s).mod.length ≤ s.length := by
  unfold anF
  cases hnx : nxt 1 (linesOf s) with
  | none => simp
  | some y =>
    obtain ⟨ln, k, r⟩ := y
    simp only
    cases toldW (wordsOf ln) with
    | none => simp
    | some b =>
      cases b
      · simp only
        split <;> simp
      · simp only
        have h1 := eatA_len (spoken (k + 1) r) k false []
        have h2 := (nxt_some hnx).1
        have h3 := spk_lenA (linesOf s) 1
        have h4 := lns_sum s []
        rw [lns_lines _ _ (Nat.le_refl _)] at h4
        rw [h2, List.length_append] at h3
        simp only [List.length_nil, Nat.add_zero, Nat.zero_add] at h1 h4
        generalize eatA (spoken (k + 1) r) k false [] = EE at *
        obtain ⟨m, en, o⟩ := EE
        cases o with
        | some ej => obtain ⟨e, j⟩ := ej; simp [finA]
        | none =>
          cases en
          · simp [finA]
          · simp only [finA, if_true]
            dsimp only at h1
            omega
end Go.Proofs.YtlkbbbbclmffjaaGreatDoor

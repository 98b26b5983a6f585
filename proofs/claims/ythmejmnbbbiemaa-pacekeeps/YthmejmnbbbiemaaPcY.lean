/-
  Rows of Beats that are read; the statement's same, walked.
  KEEP: putObj alloc same block size os tape output mono lt own new keep conf rest clr below grown step no yes done
-/
import Derived.Test.YthmejmnbbbiemaaPcT
import Derived.Deep.LoopGhost
set_option linter.unusedSimpArgs false
set_option linter.unusedVariables false
namespace Go.Proofs.Ythmejmnbbbiemaa
open Go Go.RowKit

/-- a slice that reads these Beats -/
def RdT (W : World) (v : Value) (L : List (Int × Bool)) : Prop :=
  ∃ a c, v = .slice a L.length c ∧ L.length ≤ c ∧ c ≤ maxLen ∧ ∀ j, j < L.length → ∃ g, a = some ⟨g, 0, none⟩ ∧ g < W.heap.size ∧ W.cell? ⟨g, j * 2, none⟩ = some (.int .i64 (L.getD j (0, false)).1) ∧ W.cell? ⟨g, j * 2 + 1, none⟩ = some (.bool (L.getD j (0, false)).2)
theorem btC_get (L : List (Int × Bool)) : ∀ j, j < L.length → (btC L)[j * 2]? = some (.int .i64 (L.getD j (0, false)).1) ∧ (btC L)[j * 2 + 1]? = some (.bool (L.getD j (0, false)).2) := by
  induction L with
  | nil => intro j h; simp at h
  | cons x r ih =>
    intro j h
    have e : btC (x :: r) = .int .i64 x.1 :: .bool x.2 :: btC r := rfl
    rw [e]
    cases j with
    | zero => exact ⟨rfl, rfl⟩
    | succ j =>
      have := ih j (by simpa using h)
      rw [show (j + 1) * 2 = j * 2 + 1 + 1 by omega]
      simpa using this
theorem OwnB.rd {base : Nat} {W : World} {v : Value} {L : List (Int × Bool)} (h : OwnB base W v L) : RdT W v L := by
  rcases h.2 with ⟨rfl, h0⟩ | ⟨g, cap, cur, rfl, h1, h2, h3, h4, h5, h6⟩
  · have : L = [] := List.eq_nil_of_length_eq_zero h0
    subst this
    exact ⟨none, 0, rfl, by simp, by unfold maxLen; omega, fun j hj => by simp at hj⟩
  · refine ⟨_, cap, rfl, h3, h4, fun j hj => ⟨g, rfl, (Array.getElem?_eq_some_iff.1 h2).1, ?_, ?_⟩⟩
    · refine cell_at h2 ?_
      have := (btC_get L j hj).1
      rw [← h6] at this
      simpa [List.getElem?_take, show j * 2 < L.length * 2 by omega] using this
    · refine cell_at h2 ?_
      have := (btC_get L j hj).2
      rw [← h6] at this
      simpa [List.getElem?_take, show j * 2 + 1 < L.length * 2 by omega] using this
theorem RdT.below {W W' : World} {v : Value} {L : List (Int × Bool)} (h : RdT W v L) (hb : Below W.heap.size W W') : RdT W' v L := by
  obtain ⟨a, c, h1, h2, h3, h4⟩ := h
  refine ⟨a, c, h1, h2, h3, fun j hj => ?_⟩
  obtain ⟨g, e, hg, c0, c1⟩ := h4 j hj
  exact ⟨g, e, Nat.lt_of_lt_of_le hg hb.size, (hb.cell (p := ⟨g, j * 2, none⟩) hg).trans c0, (hb.cell (p := ⟨g, j * 2 + 1, none⟩) hg).trans c1⟩
theorem take_eq_succ {α : Type} {A B : List α} {k : Nat} (d : α) (ha : k < A.length) (hb : k < B.length) (h : A.take k = B.take k) (he : A.getD k d = B.getD k d) : A.take (k + 1) = B.take (k + 1) := by
  rw [List.take_succ_eq_append_getElem ha, List.take_succ_eq_append_getElem hb, h]
  simp [List.getD_eq_getElem?_getD, ha, hb] at he
  rw [he]
theorem getD_of_eq {α : Type} {A B : List α} (h : A = B) (k : Nat) (d : α) : A.getD k d = B.getD k d := by rw [h]
/-- the same Beats -/
def smB (A B : List (Int × Bool)) : Bool := decide (A = B)

set_option maxHeartbeats 1600000 in
theorem same_any (va vb : Value) (A B : List (Int × Bool)) (w : World) (ha : RdT w va A) (hb : RdT w vb B) :
    Calls Try.prog 6 #[va, vb] w fun e w' => e = .returned (.bool (smB A B)) ∧ Below w.heap.size w w' := by
  have HA : Hid (RdT w va A) := ha
  have HB : Hid (RdT w vb B) := hb
  obtain ⟨aa, ca, rfl, hac, ham, -⟩ := ha
  obtain ⟨ab, cb, rfl, hbc, hbm, -⟩ := hb
  unfold maxLen at ham hbm
  by_cases hl : A.length = B.length
  · have HL : Hid (A.length = B.length) := hl
    have hq : ((A.length : Int) == (B.length : Int)) = true := by simp [hl]
    go_enter Try.func6, Try.ntmps6
    go_wp2
    go_loopg [5] A.length (fun gk c wr => ∃ k : Nat, k + gk = A.length ∧ c = .int .i64 k ∧ A.take k = B.take k ∧ Below w.heap.size w wr)
    case atStart => exact ⟨0, by omega, rfl, by simp, Below.refl _ _⟩
    case round =>
      obtain ⟨k, hk, rfl, ht, hbel⟩ := hrel
      have HK : Hid (k + gk = A.length) := hk
      have HT : Hid (A.take k = B.take k) := ht
      have HBel : Hid (Below w.heap.size w wr) := hbel
      by_cases hlt : k < A.length
      · have hltb : k < B.length := by omega
        obtain ⟨aa', ca', e1, -, -, ra⟩ := HA.out.below hbel
        obtain ⟨ab', cb', e2, -, -, rb⟩ := HB.out.below hbel
        obtain ⟨ga, ea, hga, a0, a1⟩ := ra k hlt
        obtain ⟨gb, eb, hgb, b0, b1⟩ := rb k hltb
        injection e1 with e1 _ e1c
        injection e2 with e2 _ e2c
        subst ea eb e1 e2 e1c e2c
        have HEa : Hid (∃ P, A.getD k (0, false) = P ∧ ∀ Q, B.getD k (0, false) = Q → (P = Q → A.take (k + 1) = B.take (k + 1)) ∧ (P ≠ Q → A ≠ B)) := ⟨_, rfl, fun Q hQ => ⟨fun h => take_eq_succ (0, false) hlt hltb HT.out (h.trans hQ.symm), fun h h2 => h ((getD_of_eq h2 k (0, false)).trans hQ)⟩⟩
        obtain ⟨⟨pk, pc⟩, hP, hPQ⟩ := HEa.out
        obtain ⟨⟨qk, qc⟩, hQ⟩ : ∃ Q, B.getD k (0, false) = Q := ⟨_, rfl⟩
        rw [hP] at a0 a1
        rw [hQ] at b0 b1
        dsimp only at a0 a1 b0 b1
        have HPQ : Hid (((pk, pc) = (qk, qc) → A.take (k + 1) = B.take (k + 1)) ∧ ((pk, pc) ≠ (qk, qc) → A ≠ B)) := hPQ _ hQ
        clear hP hQ hPQ HEa ht hbel hk hl ra rb
        by_cases he : (pk, pc) = (qk, qc)
        · have HE : Hid (A.take (k + 1) = B.take (k + 1)) := HPQ.out.1 he
          injection he with he1 he2
          subst he1
          subst he2
          clear HPQ HT
          go_wp2
          go_quiet (fail)
          go_wp2
          go_roundg (gk - 1)
          case measure => have := HK.out; omega
          case rel => exact ⟨k + 1, by have := HK.out; omega, by go_num, HE.out, HBel.out.next (by exact ⟨rfl, rfl, rfl, Nat.le_refl _, fun _ _ => rfl⟩) (Nat.le_refl _)⟩
        · have HAB : Hid (smB A B = false) := by show _ = _; unfold smB; exact decide_eq_false (HPQ.out.2 he)
          by_cases hpk : pk = qk
          · subst hpk
            have hpc : pc = !qc := by
              cases pc <;> cases qc <;> first | rfl | exact absurd rfl he
            subst hpc
            clear HPQ HT he
            cases qc
            all_goals
              go_wp2
              go_quiet (fail)
              go_wp2
              go_ret
              exact ⟨ret_bool13 HAB.out.symm, HBel.out.next (by exact ⟨rfl, rfl, rfl, Nat.le_refl _, fun _ _ => rfl⟩) (Nat.le_refl _)⟩
          · have hne : (pk == qk) = false := by simpa using hpk
            clear HPQ HT he hpk
            go_wp2
            go_quiet (fail)
            go_wp2
            go_ret
            exact ⟨ret_bool13 HAB.out.symm, HBel.out.next (by exact ⟨rfl, rfl, rfl, Nat.le_refl _, fun _ _ => rfl⟩) (Nat.le_refl _)⟩
      · have hAB : smB A B = true := by
          have e : k = A.length := by omega
          have h2 := HT.out
          rw [e, List.take_length, HL.out, List.take_length] at h2
          unfold smB; exact decide_eq_true h2
        have HAB : Hid (smB A B = true) := hAB
        clear hk ht hbel hAB
        go_wp2
        go_ret
        exact ⟨ret_bool13 HAB.out.symm, HBel.out⟩
  · have hAB : smB A B = false := by unfold smB; exact decide_eq_false (fun h => hl (by rw [h]))
    have HAB : Hid (smB A B = false) := hAB
    have hq : ((A.length : Int) == (B.length : Int)) = false := by simp; omega
    clear hAB
    go_enter Try.func6, Try.ntmps6
    go_wp2
    go_ret
    exact ⟨ret_bool13 HAB.out.symm, Below.refl _ _⟩
end Go.Proofs.Ythmejmnbbbiemaa

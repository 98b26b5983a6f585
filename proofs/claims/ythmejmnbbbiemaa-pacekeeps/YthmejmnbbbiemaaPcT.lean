/-
  Plans: what they say (no program), and rows of Beats in memory.
  KEEP: putObj alloc same block size os tape output mono lt own new keep conf rest clr below
-/
import Derived.Test.YthmejmnbbbiemaaPcN
import Derived.Maps.AppendAt
import Derived.OwnWalk
set_option linter.unusedSimpArgs false
set_option linter.unusedVariables false
namespace Go.Proofs.Ythmejmnbbbiemaa
open Go Go.RowKit

/-- the plan from its restart i on: k conflicts so far, t clearings, the last at l; m: at most so many more -/
def pl (b f g C : Int) : Nat → Nat → Int → Int → Int → List (Int × Bool)
  | 0, _, _, _, _ => []
  | m + 1, i, k, t, l =>
    if C - k < b * (lub (i + 1) : Int) then [] else
      (k + b * (lub (i + 1) : Int), decide (f + t * g ≤ k + b * (lub (i + 1) : Int) - l)) :: pl b f g C m (i + 1) (k + b * (lub (i + 1) : Int)) (if f + t * g ≤ k + b * (lub (i + 1) : Int) - l then t + 1 else t) (if f + t * g ≤ k + b * (lub (i + 1) : Int) - l then k + b * (lub (i + 1) : Int) else l)
theorem pl_stop {b f g C : Int} {m i : Nat} {k t l : Int} (h : C - k < b * (lub (i + 1) : Int)) : pl b f g C (m + 1) i k t l = [] := by rw [pl, if_pos h]
theorem pl_yes {b f g C : Int} {m i : Nat} {k t l : Int} (h : ¬ C - k < b * (lub (i + 1) : Int)) (hc : f + t * g ≤ k + b * (lub (i + 1) : Int) - l) :
    pl b f g C (m + 1) i k t l = (k + b * (lub (i + 1) : Int), true) :: pl b f g C m (i + 1) (k + b * (lub (i + 1) : Int)) (t + 1) (k + b * (lub (i + 1) : Int)) := by rw [pl, if_neg h, if_pos hc, if_pos hc, decide_eq_true hc]
theorem pl_no {b f g C : Int} {m i : Nat} {k t l : Int} (h : ¬ C - k < b * (lub (i + 1) : Int)) (hc : ¬ f + t * g ≤ k + b * (lub (i + 1) : Int) - l) :
    pl b f g C (m + 1) i k t l = (k + b * (lub (i + 1) : Int), false) :: pl b f g C m (i + 1) (k + b * (lub (i + 1) : Int)) t l := by rw [pl, if_neg h, if_neg hc, if_neg hc, decide_eq_false hc]
/-- the whole plan -/
def plF (b f g C : Int) : List (Int × Bool) := pl b f g C (C.toNat + 1) 0 0 0 0

/-- a row of Beats' cells -/
def btC (L : List (Int × Bool)) : List Value := L.flatMap fun p => [.int .i64 p.1, .bool p.2]
theorem btC_len (L : List (Int × Bool)) : (btC L).length = L.length * 2 := by
  induction L with
  | nil => rfl
  | cons x r ih => simp only [btC, List.flatMap_cons, List.length_append, List.length_cons, List.length_nil] at ih ⊢; omega
theorem btC_app (L : List (Int × Bool)) (k : Int) (c : Bool) : btC (L ++ [(k, c)]) = btC L ++ [.int .i64 k, .bool c] := by simp [btC]
def OwnB (base : Nat) (W : World) (v : Value) (L : List (Int × Bool)) : Prop := W.ownsRow base 44 2 v L.length (btC L)
theorem OwnB.nil (base : Nat) (W : World) : OwnB base W (.slice none 0 0) [] := World.ownsRow_nil W _ _ _
theorem OwnB.form {base : Nat} {W : World} {v : Value} {L : List (Int × Bool)} (h : OwnB base W v L) : ∃ a c, v = .slice a L.length c := by
  rcases h.2 with ⟨rfl, h0⟩ | ⟨g, cap, cur, rfl, _⟩
  · exact ⟨none, 0, by rw [h0]⟩
  · exact ⟨_, cap, rfl⟩
theorem OwnB.keep {base : Nat} {W W' : World} {v : Value} {L : List (Int × Bool)} (h : OwnB base W v L) (hk : ∀ g, v.ownBlock = some g → W'.heap[g]? = W.heap[g]?) : OwnB base W' v L := by
  refine ⟨h.1, ?_⟩
  rcases h.2 with h0 | ⟨g, cap, cur, rfl, h1, h2, h3⟩
  · exact .inl h0
  · exact .inr ⟨g, cap, cur, rfl, h1, (hk g rfl).trans h2, h3⟩
theorem OwnB.lt {base : Nat} {W : World} {v : Value} {L : List (Int × Bool)} (h : OwnB base W v L) : ∀ g, v.ownBlock = some g → base ≤ g ∧ g < W.heap.size := fun g hg => World.ownsRow.lt h g hg
theorem OwnB.cellsAt {base : Nat} {W : World} {v : Value} {L : List (Int × Bool)} (h : OwnB base W v L) {g : Nat} (hg : v.ownBlock = some g) : ∃ cur, W.heap[g]? = some (.cells cur 44 (0, 0)) := by
  rcases h.2 with ⟨rfl, _⟩ | ⟨g', cap, cur, rfl, _, h2, _⟩
  · cases hg
  · have : g' = g := by simpa [Value.ownBlock] using hg
    subst this; exact ⟨cur, h2⟩
theorem OwnB.mono {base base' : Nat} {W : World} {v : Value} {L : List (Int × Bool)} (h : OwnB base W v L) (hb : base' ≤ base) : OwnB base' W v L := by
  refine ⟨h.1, ?_⟩
  rcases h.2 with h0 | ⟨g, cap, cur, rfl, h1, h2⟩
  · exact .inl h0
  · exact .inr ⟨g, cap, cur, rfl, Nat.le_trans hb h1, h2⟩
theorem OwnB.below {base : Nat} {W W' : World} {v : Value} {L : List (Int × Bool)} (h : OwnB base W v L) (hb : Below W.heap.size W W') : OwnB base W' v L := h.keep fun g hg => hb.block g (h.lt g hg).2
theorem infoBt : (Try.prog.info? 44).map (fun i => (i.zero, i.size, i.bytes)) = some (some (.agg #[.int .i64 0, .bool false]), 2, 16) := by kernel_rfl
theorem beat_app (W : World) (base : Nat) (v : Value) (L : List (Int × Bool)) (q : Nat) (k : Int) (c : Bool) (h : OwnB base W v L) (hb : base ≤ W.heap.size) (hL : L.length ≤ 1099511627776)
    (hq : W.heap[q]? = some (.cells #[.int .i64 k, .bool c] 44 (0, 0))) :
    ∃ v' w', (Builtin.append_ #[25, 25] 25 #[v, .slice (some ⟨q, 0, none⟩) 1 1]).run Try.prog W = .ok v' w' ∧ OwnB base w' v' (L ++ [(k, c)]) ∧ W.grownBy w' v.ownBlock ∧ (v'.ownBlock = v.ownBlock ∨ v'.ownBlock = some W.heap.size) := by
  cases hi : Try.prog.info? 44 with
  | none => have := infoBt; rw [hi] at this; simp at this
  | some i =>
    have hI := infoBt
    rw [hi] at hI
    simp only [Option.map_some, Option.some.injEq, Prod.mk.injEq] at hI
    obtain ⟨v', w', h1, h2, h3, _, h4⟩ := run_append_own_at (P := Try.prog) W base 25 25 44 i (.agg #[.int .i64 0, .bool false]) 2 16 Try.underlying25 hi hI.1 hI.2.1 hI.2.2 rfl (by omega) v L.length (btC L) h ⟨q, 0, none⟩ 1 1 [.int .i64 k, .bool c] rfl
      (fun j u hu => by
        have e : (⟨q, 0, none⟩ : Addr).add j = ⟨q, j, none⟩ := by unfold Addr.add; split <;> simp_all
        rw [e]
        exact cell_at hq (by simpa using hu))
      (by intro u hu; simp at hu; rcases hu with rfl | rfl <;> rfl) (by unfold maxLen; omega) (by omega) hb
    refine ⟨v', w', h1, ?_, h3, h4⟩
    show w'.ownsRow base 44 2 v' (L ++ [(k, c)]).length (btC (L ++ [(k, c)]))
    rw [btC_app, List.length_append]
    exact h2
end Go.Proofs.Ythmejmnbbbiemaa

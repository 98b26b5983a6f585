/-
  The document's Read and Steps of proofs as texts, walked.
  KEEP: len below nil form rd mono rdz on app start at new trans refl kept own row ap out step
-/
import Derived.Test.YtaipajalkendaaaDoorPaW
set_option linter.unusedSimpArgs false
set_option linter.unusedVariables false
namespace Go.Proofs.YtaipajalkendaaaDoor
open Go Go.RowKit

/-- what is read of a text is no longer than it -/
theorem eat_len : ∀ (T : List Tok) (st : RSt), (eatD T st).1.length ≤ T.length ∧ ∀ x ∈ (eatD T st).1, x.2.length ≤ T.length + st.cl.length
  | [], st => by simp [eatD]
  | (none, k) :: r, st => by simp [eatD]
  | (some w, k) :: r, st => by
    rw [eatD]
    cases ht : takeW st w with
    | none => simp
    | some y =>
      obtain ⟨st', g⟩ := y
      have ih := eat_len r st'
      have hc : (st'.cl.length ≤ st.cl.length + 1 ∧ g.length ≤ 1 ∧ ∀ x ∈ g, x.2.length ≤ st.cl.length) := by
        unfold takeW at ht
        split at ht
        · cases ht; simp
        · split at ht
          · cases ht
          · split at ht
            · cases ht; simp
            · cases ht; simp
      simp only [List.length_append, List.length_cons, List.mem_append]
      refine ⟨by omega, fun x hx => ?_⟩
      rcases hx with hx | hx
      · have := hc.2.2 x hx; omega
      · have := ih.2 x hx; omega
theorem toks_len : ∀ (k : Nat) (ls : List (List UInt8)), (toks k ls).length ≤ lenS ls
  | k, [] => by simp [toks, lenS]
  | k, ln :: r => by
    rw [toks, lenS_cons, List.length_append]
    have h1 := toks_len (k + 1) r
    have h2 : (tokL k ln).length ≤ ln.length := by
      unfold tokL
      split
      · rename_i h
        split
        · simp
        · cases ln with
          | nil => cases h
          | cons a b => simp
      · rw [List.length_map]; have := wds_len ln []; simpa using this
    omega
theorem par_len (s : List UInt8) : (parD s).1.length ≤ s.length ∧ ∀ x ∈ (parD s).1, x.2.length ≤ s.length := by
  rw [par_lines]
  have h1 := eat_len (toks 1 (lnsF s [])) st0
  have h2 := toks_len 1 (lnsF s [])
  have h3 := lns_sum s []
  simp only [List.length_nil, Nat.add_zero] at h3
  have h4 : st0.cl.length = 0 := rfl
  exact ⟨by dsimp only; omega, fun x hx => by have := h1.2 x hx; omega⟩

/-- what the document's Read says -/
def redB (T : List UInt8) : List Stp × Int × Nat := if (parD T).2 = 0 then ((parD T).1, 0, 0) else ([], 90, (parD T).2)
theorem red_len (T : List UInt8) : (redB T).1.length ≤ T.length ∧ ∀ x ∈ (redB T).1, x.2.length ≤ T.length := by
  unfold redB
  split
  · exact par_len T
  · exact ⟨by simp, fun x hx => by cases hx⟩
set_option maxHeartbeats 3200000 in
set_option maxRecDepth 100000 in
theorem rSteps_any (s : ByteArray) (w : World) (hs : s.size ≤ 1099511627776) :
    Calls Tryd.prog 17 #[.string s] w fun e w' => ∃ v, e = .returned v ∧ OwnS w.heap.size w' v (parD s.data.toList).1 ∧ Below w.heap.size w w' := by
  have HP : Hid (Calls Tryd.prog 38 #[.string s] w (ParP w (parD s.data.toList))) := rParse_any s w hs
  generalize parD s.data.toList = P at *
  obtain ⟨l, ln⟩ := P
  dsimp only at *
  go_enter Tryd.func17, Tryd.ntmps17
  go_wp2_with fail
  refine HP.out.mono ?_
  rintro e w1 ⟨v, L, rfl, oz, hl, bel⟩
  dsimp only at *
  have HZ : Hid (OwnS w.heap.size w1 v l) := ⟨L, oz, hl⟩
  clear oz hl HP
  go_wp2
  go_ret
  exact ⟨_, rfl, HZ.out, bel⟩

end Go.Proofs.YtaipajalkendaaaDoor

/-
  From a row's reading of the struct of a formula and three numbers to what it reads.
-/
import Derived.Test.YtbphbnfnolgkfaaDoorOpenU
set_option linter.unusedVariables false
set_option linter.unusedSimpArgs false
namespace Go.Proofs.YtbphbnfnolgkfaaDoor
open Go.RowKit Go.ChangeShapes Go.WideShapes Go.Deep

theorem array5 {α : Type} {cs : Array α} (h : cs.size = 5) : ∃ c0 c1 c2 c3 c4, cs = #[c0, c1, c2, c3, c4] := by
  obtain ⟨l⟩ := cs
  match l, h with
  | [c0, c1, c2, c3, c4], _ => exact ⟨c0, c1, c2, c3, c4, rfl⟩
theorem int_of_trod {H : Type} {enc : TypeId × Value → H} {W : World} {fuel : Nat} {c : Value} {y : DataW H × List MemPlace}
    (h : DataW.trod enc Tryd.prog W 0 (fun _ => true) true fuel 3 [c] = some y) : ∃ n, c = .int .i64 n ∧ (Lit.int .i64 n).wf = true := by
  obtain ⟨n, hn, hy, hwf⟩ := DataW.trod_int Tryd.underlying3 h
  simp at hn
  exact ⟨n, hn, hwf⟩
set_option maxRecDepth 100000 in
theorem meeting_open {H : Type} {enc : TypeId × Value → H} {W : World} {r : Reach} {b0 : Nat} {v : Value} {d : DataW H} {p : List MemPlace} (hv : Value.okWide Tryd.prog W r b0 44 v)
    (h : DataW.Trod enc Tryd.prog W 0 (fun _ => true) true 44 v d p) (hs : ∀ n ∈ d.weights Tryd.prog 44, n ≤ reachBytes) :
    ∃ n s css i j x, v = .agg #[.int .i64 n, s, .int .i64 i, .int .i64 j, .int .i64 x] ∧ (Lit.int .i64 n).wf = true ∧ Rds W s css ∧ (Lit.int .i64 i).wf = true ∧ (Lit.int .i64 j).wf = true ∧ (Lit.int .i64 x).wf = true := by
  obtain ⟨cs, rfl, hsz⟩ := okWide_struct Tryd.underlying44 hv
  obtain ⟨c0, c1, c2, c3, c4, rfl⟩ := array5 (hsz.trans (by kernel_rfl))
  obtain ⟨fuel, hf⟩ := h
  have hf' : DataW.trod enc Tryd.prog W 0 (fun _ => true) true fuel 44 [c0, c1, c2, c3, c4] = some (d, p) := by simpa [Value.cells] using hf
  obtain ⟨y0, y1, y2, y3, m, hx, _, h0, h1, h2, h3⟩ := Joins.trod_struct4 Tryd.underlying44 hf'
  have hd : d = .agg [y0.1, y1.1, y2.1, y3.1] := congrArg Prod.fst hx
  subst hd
  have h0' : DataW.trod enc Tryd.prog W 0 (fun _ => true) true m 24 [c0, c1] = some y0 := h0
  have h1' : DataW.trod enc Tryd.prog W 0 (fun _ => true) true m 3 [c2] = some y1 := h1
  have h2' : DataW.trod enc Tryd.prog W 0 (fun _ => true) true m 3 [c3] = some y2 := h2
  have h3' : DataW.trod enc Tryd.prog W 0 (fun _ => true) true m 3 [c4] = some y3 := h3
  have hw : ∀ (j : Nat) (t : TypeId) (x : DataW H), [24, 3, 3, 3][j]? = some t → [y0.1, y1.1, y2.1, y3.1][j]? = some x → ∀ k ∈ x.weights Tryd.prog t, k ≤ reachBytes := fun j t x ht hx k hk => hs k (by
    unfold DataW.weights; rw [Tryd.underlying44]
    exact DataW.weights_mem_each (j := j) (t := t) (d := x) ht hx k hk)
  obtain ⟨n0, css, rfl, w0, r0⟩ := form_of_trod h0' (hw 0 24 _ rfl rfl)
  obtain ⟨i, rfl, wi⟩ := int_of_trod h1'
  obtain ⟨j, rfl, wj⟩ := int_of_trod h2'
  obtain ⟨x, rfl, wx⟩ := int_of_trod h3'
  exact ⟨n0, c1, css, i, j, x, rfl, w0, r0, wi, wj, wx⟩

end Go.Proofs.YtbphbnfnolgkfaaDoor

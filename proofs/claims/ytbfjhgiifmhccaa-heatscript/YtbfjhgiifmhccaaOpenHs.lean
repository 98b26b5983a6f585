/-
  From a row's reading of a script of two heats to what it reads.
  KEEP: set on app at below new trans refl start ap kept rd rds mono c n m kind
-/
import Derived.Test.YtbfjhgiifmhccaaOpenH
set_option linter.unusedVariables false
set_option linter.unusedSimpArgs false
namespace Go.Proofs.Ytbfjhgiifmhccaa
open Go.RowKit Go.ChangeShapes Go.WideShapes Go.Deep

theorem array5h {α : Type} {cs : Array α} (h : cs.size = 5) : ∃ c0 c1 c2 c3 c4, cs = #[c0, c1, c2, c3, c4] := by
  obtain ⟨l⟩ := cs
  match l, h with
  | [c0, c1, c2, c3, c4], _ => exact ⟨c0, c1, c2, c3, c4, rfl⟩
set_option maxRecDepth 100000 in
theorem script14_open {H : Type} {enc : TypeId × Value → H} {W : World} {r : Reach} {b0 : Nat} {v : Value} {d : DataW H} {p : List MemPlace} (hv : Value.okWide Try.prog W r b0 27 v)
    (h : DataW.Trod enc Try.prog W 0 (fun _ => true) true 27 v d p) (hs : ∀ n ∈ d.weights Try.prog 27, n ≤ reachBytes) :
    ∃ z0 z1 x0 x1 vo ops, v = .agg #[.int .i64 z0, .int .i64 z1, .float .f64 x0, .float .f64 x1, vo] ∧ x0 < 18446744073709551616 ∧ x1 < 18446744073709551616 ∧ RdH W vo ops := by
  obtain ⟨cs, rfl, hsz⟩ := okWide_struct Try.underlying27 hv
  obtain ⟨c0, c1, c2, c3, c4, rfl⟩ := array5h (hsz.trans (by kernel_rfl))
  obtain ⟨fuel, hf⟩ := h
  have hf' : DataW.trod enc Try.prog W 0 (fun _ => true) true fuel 27 [c0, c1, c2, c3, c4] = some (d, p) := by simpa [Value.cells] using hf
  obtain ⟨y0, y1, y2, n, hx, hl, h0, h1, h2⟩ := trod_struct3h Try.underlying27 hf'
  have h0' : DataW.trod enc Try.prog W 0 (fun _ => true) true n 22 [c0, c1] = some y0 := h0
  have h1' : DataW.trod enc Try.prog W 0 (fun _ => true) true n 24 [c2, c3] = some y1 := h1
  have h2' : DataW.trod enc Try.prog W 0 (fun _ => true) true n 25 [c4] = some y2 := h2
  obtain ⟨a2, l2, k2, rfl⟩ := slice_cellH Try.underlying25 h2'
  obtain ⟨xs, m, _, hxs, hlc, hlx, hcell⟩ := DataW.trod_array Try.underlying22 h0'
  obtain ⟨ys, m', _, hys, hlc', hly, hcell'⟩ := DataW.trod_array Try.underlying24 h1'
  match xs, hlx, ys, hly with
  | [x0, x1], _, [u0, u1], _ =>
    have e0 : DataW.trod enc Try.prog W 0 (fun _ => true) true m 3 [c0] = some x0 := hcell 0 (by decide)
    have e1 : DataW.trod enc Try.prog W 0 (fun _ => true) true m 3 [c1] = some x1 := hcell 1 (by decide)
    have e2 : DataW.trod enc Try.prog W 0 (fun _ => true) true m' 23 [c2] = some u0 := hcell' 0 (by decide)
    have e3 : DataW.trod enc Try.prog W 0 (fun _ => true) true m' 23 [c3] = some u1 := hcell' 1 (by decide)
    obtain ⟨z0, rfl, _⟩ := int_of_trod14 e0
    obtain ⟨z1, rfl, _⟩ := int_of_trod14 e1
    obtain ⟨f0, rfl, hf0⟩ := float_of_trod14 e2
    obtain ⟨f1, rfl, hf1⟩ := float_of_trod14 e3
    simp only at hx
    obtain ⟨ops, hr⟩ := hops_of_trod h2' (fun k hk => hs k (by
      rw [hx]
      unfold DataW.weights; rw [Try.underlying27]
      exact DataW.weights_mem_each (j := 2) (t := 25) (d := y2.1) rfl rfl k hk))
    exact ⟨z0, z1, f0, f1, _, ops, rfl, hf0, hf1, hr⟩
end Go.Proofs.Ytbfjhgiifmhccaa

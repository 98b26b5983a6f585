/-
  a list of steps whose reading lies within the reach, however long.
  KEEP: len below nil form rd mono rdz
-/
import Derived.Test.YtldolhllacbhjaaOpenZ
set_option linter.unusedSimpArgs false
set_option linter.unusedVariables false
namespace Go.Proofs.Ytldolhllacbhjaa
open Go.RowKit Go.ChangeShapes Go.WideShapes Go.Deep
theorem bytesZ12 : Try.prog.bytesOf 38 = 32 := by kernel_rfl
set_option maxRecDepth 100000 in
theorem len_of_trod {H : Type} {enc : TypeId × Value → H} {W : World} {T E : TypeId} (hT : Try.prog.underlying T = some (.slice E)) {fuel : Nat} {a : Option Addr} {len cap : Nat} {y : DataW H × List MemPlace}
    (h : DataW.trod enc Try.prog W 0 (fun _ => true) true fuel T [.slice a len cap] = some y) (hs : ∀ k ∈ y.1.weights Try.prog T, k ≤ reachBytes) : len * Try.prog.bytesOf E ≤ reachBytes := by
  rcases DataW.trod_slice hT h with ⟨hcs, rfl⟩ | ⟨a', len', cap', elems, rest, m, _, hcs, rfl, _, hl, hm, hlen, hcell, _, _⟩
  · simp at hcs
    rw [hcs.2.1]; simp
  · simp at hcs
    obtain ⟨_, rfl, rfl⟩ := hcs
    have := hs _ (by unfold DataW.weights; rw [hT]; exact List.mem_cons_self ..)
    rw [Nat.add_mul] at this
    have e : (elems.map (·.1)).length = len := by simp; omega
    rw [e] at this
    omega
set_option maxRecDepth 100000 in
theorem steps_full {H : Type} {enc : TypeId × Value → H} {W : World} {r : Reach} {b0 : Nat} {v : Value} {d : DataW H} {p : List MemPlace} (hv : Value.okWide Try.prog W r b0 33 v)
    (h : DataW.Trod enc Try.prog W 0 (fun _ => true) true 33 v d p) (hs : ∀ n ∈ d.weights Try.prog 33, n ≤ reachBytes) : ∃ l, RdZ W v l := by
  obtain ⟨a, n, c, rfl⟩ := okWide_slice Try.underlying33 hv
  obtain ⟨fuel, hf⟩ := h
  have hf' : DataW.trod enc Try.prog W 0 (fun _ => true) true fuel 33 [.slice a n c] = some (d, p) := by simpa [Value.cells] using hf
  have hl := len_of_trod Try.underlying33 hf' hs
  rw [bytesZ12] at hl
  obtain ⟨l, hr, hb⟩ := rows_of_trod Try.underlying33 (n := 2) (by kernel_rfl) (by omega) (ElZ W) (fun x => x.2.length) stp_of_trod hf' hs
  have hn : n = l.length := by
    obtain ⟨a', c', e, _⟩ := hr
    injection e
  refine ⟨l, rdZ_of hr ?_⟩
  rw [← hn]
  simpa [reachBytes] using hl
end Go.Proofs.Ytldolhllacbhjaa

/-
  From a row's reading of a list of entries to what it reads.
  KEEP: len below nil form rd mono rde
-/
import Derived.Test.YtgngdohhlhlcpaaOpenS
import Derived.Test.YtgngdohhlhlcpaaLnM
set_option linter.unusedVariables false
set_option linter.unusedSimpArgs false
namespace Go.Proofs.Ytgngdohhlhlcpaa
open Go.RowKit Go.ChangeShapes Go.WideShapes Go.Deep
def ElE (W : World) (cs : List Value) (x : Ent) : Prop := ∃ u, cs = [.int .i64 x.1, .int .i64 x.2.1, u] ∧ Rd W u x.2.2
theorem rdE_of {W : World} {c : Value} {l : List Ent} (h : RdS 3 (ElE W) W c l) (hl : l.length * 40 ≤ 140737488351232) : RdE W c l := by
  obtain ⟨a, cap, e, h1, h2, h3⟩ := h
  refine ⟨hl, a, cap, e, h1, h2, fun hne => ?_⟩
  have hp : 0 < l.length := List.length_pos_iff.2 hne
  obtain ⟨b, off, cs, ea, hb, _, _, _⟩ := h3 0 hp
  refine ⟨b, off, ea, hb, fun j hj => ?_⟩
  obtain ⟨b', off', cs, ea', hb', hl', hc, u, rfl, hr⟩ := h3 j hj
  rw [ea] at ea'
  injection ea' with ea'
  injection ea' with q1 q2 q3
  subst q1; subst q2
  have e0 : l.getD j e0 = l[j] := by simp [List.getD_eq_getElem?_getD, hj]
  rw [e0]
  have c0 := hc 0 (by omega)
  have c1 := hc 1 (by omega)
  have c2 := hc 2 (by omega)
  exact ⟨u, by simpa using c0, by simpa using c1, by simpa using c2, hr⟩
theorem wf_i15 {n : Int} (h : (Lit.int .i64 n).wf = true) : -9223372036854775808 ≤ n ∧ n ≤ 9223372036854775807 := by
  simp [Lit.wf, IntKind.min, IntKind.max, IntKind.bits, IntKind.signed] at h
  omega
theorem int_of_trod15 {H : Type} {enc : TypeId × Value → H} {W : World} {fuel : Nat} {c : Value} {y : DataW H × List MemPlace}
    (h : DataW.trod enc Try.prog W 0 (fun _ => true) true fuel 3 [c] = some y) : ∃ n, c = .int .i64 n ∧ -9223372036854775808 ≤ n ∧ n ≤ 9223372036854775807 := by
  obtain ⟨n, hn, hy, hwf⟩ := DataW.trod_int Try.underlying3 h
  simp at hn
  exact ⟨n, hn, wf_i15 hwf⟩
theorem trod_struct3e {H : Type} {enc : TypeId × Value → H} {P : Program} {w : World} {base : Nat} {spare : Nat → Bool} {held : Bool} {t : TypeId} {f0 f1 f2 : Field} {fuel : Nat} {cs : List Value} {x : DataW H × List MemPlace} (ht : P.underlying t = some (.struct #[f0, f1, f2])) (h : DataW.trod enc P w base spare held fuel t cs = some x) :
    ∃ y0 y1 y2 n, x.1 = .agg [y0.1, y1.1, y2.1] ∧ cs.length = P.cellsOf t ∧ DataW.trod enc P w base spare held n f0.type ((cs.drop f0.offset).take (P.cellsOf f0.type)) = some y0 ∧
      DataW.trod enc P w base spare held n f1.type ((cs.drop f1.offset).take (P.cellsOf f1.type)) = some y1 ∧ DataW.trod enc P w base spare held n f2.type ((cs.drop f2.offset).take (P.cellsOf f2.type)) = some y2 := by
  obtain ⟨xs, n, _, rfl, hl, hlen, hf⟩ := DataW.trod_struct ht h
  match xs, hlen with
  | [y0, y1, y2], _ => exact ⟨y0, y1, y2, n, by simp, hl, by simpa using hf 0 f0 rfl, by simpa using hf 1 f1 rfl, by simpa using hf 2 f2 rfl⟩
set_option maxRecDepth 100000 in
theorem ent_of_trod {H : Type} {enc : TypeId × Value → H} {W : World} (m : Nat) (cs : List Value) (y : DataW H × List MemPlace) (h : DataW.trod enc Try.prog W 0 (fun _ => true) true m 47 cs = some y)
    (hs : ∀ k ∈ y.1.weights Try.prog 47, k ≤ reachBytes) : ∃ x : Ent, ElE W cs x ∧ x.2.2.length + 1 ≤ Rows.uptoBulk y.1 := by
  obtain ⟨y0, y1, y2, n, hx, hl, h0, h1, h2⟩ := trod_struct3e Try.underlying47 h
  have hl3 : cs.length = 3 := hl.trans (by kernel_rfl)
  match cs, hl3 with
  | [c0, c1, c2], _ =>
    have h0' : DataW.trod enc Try.prog W 0 (fun _ => true) true n 3 [c0] = some y0 := h0
    have h1' : DataW.trod enc Try.prog W 0 (fun _ => true) true n 3 [c1] = some y1 := h1
    have h2' : DataW.trod enc Try.prog W 0 (fun _ => true) true n 23 [c2] = some y2 := h2
    obtain ⟨z0, rfl, _⟩ := int_of_trod15 h0'
    obtain ⟨z1, rfl, _⟩ := int_of_trod15 h1'
    obtain ⟨zs, hr, hz⟩ := ints_of_trod h2' (fun k hk => hs k (by
      rw [hx]
      unfold DataW.weights; rw [Try.underlying47]
      exact DataW.weights_mem_each (j := 2) (t := 23) (d := y2.1) rfl rfl k hk))
    refine ⟨(z0, z1, zs), ⟨c2, rfl, hr⟩, ?_⟩
    rw [hx]
    simp only [Rows.uptoBulk, Rows.uptoBulkAll]
    show zs.length + 1 ≤ _
    omega
theorem bytesE15 : Try.prog.bytesOf 47 = 40 := by kernel_rfl
set_option maxRecDepth 100000 in
theorem len_of_trod15 {H : Type} {enc : TypeId × Value → H} {W : World} {T E : TypeId} (hT : Try.prog.underlying T = some (.slice E)) {fuel : Nat} {a : Option Addr} {len cap : Nat} {y : DataW H × List MemPlace}
    (h : DataW.trod enc Try.prog W 0 (fun _ => true) true fuel T [.slice a len cap] = some y) (hs : ∀ k ∈ y.1.weights Try.prog T, k ≤ reachBytes) : len * Try.prog.bytesOf E ≤ reachBytes := by
  rcases DataW.trod_slice hT h with ⟨hcs, rfl⟩ | ⟨a', len', cap', elems, rest, m, _, hcs, rfl, _, hl, hm, hlen, hcell, _, _⟩
  · simp at hcs
    rw [hcs.2.1]; simp
  · simp at hcs
    obtain ⟨_, rfl, rfl⟩ := hcs
    have := hs _ (by unfold DataW.weights; rw [hT]; exact List.mem_cons_self ..)
    rw [Nat.add_mul] at this
    have e : (elems.map (·.1)).length = len := by simp; omega
    rw [e] at this
    omega
set_option maxRecDepth 100000 in
theorem entries_full {H : Type} {enc : TypeId × Value → H} {W : World} {r : Reach} {b0 : Nat} {v : Value} {d : DataW H} {p : List MemPlace} (hv : Value.okWide Try.prog W r b0 22 v)
    (h : DataW.Trod enc Try.prog W 0 (fun _ => true) true 22 v d p) (hs : ∀ n ∈ d.weights Try.prog 22, n ≤ reachBytes) : ∃ l, RdE W v l := by
  obtain ⟨a, n, c, rfl⟩ := okWide_slice Try.underlying22 hv
  obtain ⟨fuel, hf⟩ := h
  have hf' : DataW.trod enc Try.prog W 0 (fun _ => true) true fuel 22 [.slice a n c] = some (d, p) := by simpa [Value.cells] using hf
  have hl := len_of_trod15 Try.underlying22 hf' hs
  rw [bytesE15] at hl
  obtain ⟨l, hr, hb⟩ := rows_of_trod Try.underlying22 (n := 3) (by kernel_rfl) (by omega) (ElE W) (fun x => x.2.2.length) ent_of_trod hf' hs
  have hn : n = l.length := by
    obtain ⟨a', c', e, _⟩ := hr
    injection e
  refine ⟨l, rdE_of hr ?_⟩
  rw [← hn]
  simpa [reachBytes] using hl
set_option maxRecDepth 100000 in
theorem entries_open {H : Type} {enc : TypeId × Value → H} {W : World} {r : Reach} {b0 : Nat} {v : Value} {d : DataW H} {p : List MemPlace} (hv : Value.okWide Try.prog W r b0 22 v)
    (h : DataW.Trod enc Try.prog W 0 (fun _ => true) true 22 v d p) (hs : ∀ n ∈ d.weights Try.prog 22, n ≤ reachBytes) : ∃ l, RdE W v l ∧ l.length + (l.map fun e => e.2.2.length).sum ≤ Rows.uptoBulk d := by
  obtain ⟨a, n, c, rfl⟩ := okWide_slice Try.underlying22 hv
  obtain ⟨fuel, hf⟩ := h
  have hf' : DataW.trod enc Try.prog W 0 (fun _ => true) true fuel 22 [.slice a n c] = some (d, p) := by simpa [Value.cells] using hf
  have hl := len_of_trod15 Try.underlying22 hf' hs
  rw [bytesE15] at hl
  obtain ⟨l, hr, hb⟩ := rows_of_trod Try.underlying22 (n := 3) (by kernel_rfl) (by omega) (ElE W) (fun x => x.2.2.length) ent_of_trod hf' hs
  have hn : n = l.length := by
    obtain ⟨a', c', e, _⟩ := hr
    injection e
  refine ⟨l, rdE_of hr ?_, hb⟩
  rw [← hn]
  simpa [reachBytes] using hl
end Go.Proofs.Ytgngdohhlhlcpaa

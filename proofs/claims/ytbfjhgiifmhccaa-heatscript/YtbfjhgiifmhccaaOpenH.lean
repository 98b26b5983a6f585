/-
  From a row's reading of a script of calls of heats to what it reads.
  KEEP: set on app at below new trans refl start ap kept rd rds mono c n m kind
-/
import Derived.Test.YtbfjhgiifmhccaaOpenS
import Derived.Test.YtbfjhgiifmhccaaOpenD
import Derived.Test.YtbfjhgiifmhccaaHtX
set_option linter.unusedVariables false
set_option linter.unusedSimpArgs false
namespace Go.Proofs.Ytbfjhgiifmhccaa
open Go.RowKit Go.ChangeShapes Go.WideShapes Go.Deep

def ElH (cs : List Value) (o : HOp) : Prop := cs = [.int .i64 o.on, .int .i64 o.kind, .int .i64 o.n]
theorem rdH_of {W : World} {c : Value} {ops : List HOp} (h : RdS 3 ElH W c ops) (h24 : ops.length * 24 ≤ 140737488351232) : RdH W c ops := by
  obtain ⟨a, cap, e, h1, h2, h3⟩ := h
  refine ⟨a, cap, e, h1, h2, h24, fun j hj => ?_⟩
  obtain ⟨b, off, cs, ea, hb, hl, hc, rfl⟩ := h3 j hj
  have c0 := hc 0 (by omega)
  have c1 := hc 1 (by omega)
  have c2 := hc 2 (by omega)
  exact ⟨b, off, ea, hb, c0, c1, c2⟩
theorem trod_struct3h {H : Type} {enc : TypeId × Value → H} {P : Program} {w : World} {base : Nat} {spare : Nat → Bool} {held : Bool} {t : TypeId} {f0 f1 f2 : Field} {fuel : Nat} {cs : List Value} {x : DataW H × List MemPlace} (ht : P.underlying t = some (.struct #[f0, f1, f2])) (h : DataW.trod enc P w base spare held fuel t cs = some x) :
    ∃ y0 y1 y2 n, x.1 = .agg [y0.1, y1.1, y2.1] ∧ cs.length = P.cellsOf t ∧ DataW.trod enc P w base spare held n f0.type ((cs.drop f0.offset).take (P.cellsOf f0.type)) = some y0 ∧
      DataW.trod enc P w base spare held n f1.type ((cs.drop f1.offset).take (P.cellsOf f1.type)) = some y1 ∧ DataW.trod enc P w base spare held n f2.type ((cs.drop f2.offset).take (P.cellsOf f2.type)) = some y2 := by
  obtain ⟨xs, n, _, rfl, hl, hlen, hf⟩ := DataW.trod_struct ht h
  match xs, hlen with
  | [y0, y1, y2], _ => exact ⟨y0, y1, y2, n, by simp, hl, by simpa using hf 0 f0 rfl, by simpa using hf 1 f1 rfl, by simpa using hf 2 f2 rfl⟩
set_option maxRecDepth 100000 in
theorem hop_of_trod {H : Type} {enc : TypeId × Value → H} {W : World} (m : Nat) (cs : List Value) (y : DataW H × List MemPlace) (h : DataW.trod enc Try.prog W 0 (fun _ => true) true m 39 cs = some y)
    (hs : ∀ k ∈ y.1.weights Try.prog 39, k ≤ reachBytes) : ∃ o : HOp, ElH cs o ∧ 0 + 1 ≤ Rows.uptoBulk y.1 := by
  obtain ⟨y0, y1, y2, n, hx, hl, h0, h1, h2⟩ := trod_struct3h Try.underlying39 h
  have hl3 : cs.length = 3 := hl.trans (by kernel_rfl)
  match cs, hl3 with
  | [c0, c1, c2], _ =>
    have h0' : DataW.trod enc Try.prog W 0 (fun _ => true) true n 3 [c0] = some y0 := h0
    have h1' : DataW.trod enc Try.prog W 0 (fun _ => true) true n 3 [c1] = some y1 := h1
    have h2' : DataW.trod enc Try.prog W 0 (fun _ => true) true n 3 [c2] = some y2 := h2
    obtain ⟨z0, rfl, _⟩ := int_of_trod14 h0'
    obtain ⟨z1, rfl, _⟩ := int_of_trod14 h1'
    obtain ⟨z2, rfl, _⟩ := int_of_trod14 h2'
    refine ⟨⟨z0, z1, z2⟩, rfl, ?_⟩
    rw [hx]
    simp only [Rows.uptoBulk, Rows.uptoBulkAll]
    omega
theorem slice_len_ofH {H : Type} {enc : TypeId × Value → H} {W : World} {T E : TypeId} (hT : Try.prog.underlying T = some (.slice E)) {fuel l cap : Nat} {a : Option Addr} {y : DataW H × List MemPlace}
    (h : DataW.trod enc Try.prog W 0 (fun _ => true) true fuel T [.slice a l cap] = some y) (hs : ∀ k ∈ y.1.weights Try.prog T, k ≤ reachBytes) : l * Try.prog.bytesOf E ≤ reachBytes := by
  rcases DataW.trod_slice hT h with ⟨hcs, rfl⟩ | ⟨a', len, cap', elems, rest, m, _, hcs, rfl, _, hl, hm, hlen, hcell, _, _⟩
  · simp at hcs
    obtain ⟨_, rfl, _⟩ := hcs
    simp
  · simp at hcs
    obtain ⟨_, rfl, _⟩ := hcs
    have h1 := hs (((elems.map (·.1)).length + (rest.map (·.1)).length) * Try.prog.bytesOf E) (by
      unfold DataW.weights; rw [hT]; exact List.mem_cons_self ..)
    rw [List.length_map, hlen] at h1
    exact Nat.le_trans (Nat.mul_le_mul_right _ (Nat.le_add_right _ _)) h1
theorem bytesOpH : Try.prog.bytesOf 39 = 24 := by kernel_rfl
set_option maxRecDepth 100000 in
theorem hops_of_trod {H : Type} {enc : TypeId × Value → H} {W : World} {fuel l cap : Nat} {a : Option Addr} {y : DataW H × List MemPlace} (h : DataW.trod enc Try.prog W 0 (fun _ => true) true fuel 25 [.slice a l cap] = some y)
    (hs : ∀ k ∈ y.1.weights Try.prog 25, k ≤ reachBytes) : ∃ ops, RdH W (.slice a l cap) ops := by
  obtain ⟨ops, hr, hb⟩ := rows_of_trod Try.underlying25 (n := 3) (by kernel_rfl) (by omega) ElH (fun o => 0) hop_of_trod h hs
  have hl := slice_len_ofH Try.underlying25 h hs
  rw [bytesOpH] at hl
  have he : ops.length = l := by
    obtain ⟨a', cap', e, _⟩ := hr
    injection e with _ e1 _
    exact e1.symm
  unfold reachBytes at hl
  exact ⟨ops, rdH_of hr (by rw [he]; omega)⟩
theorem slice_cellH {H : Type} {enc : TypeId × Value → H} {W : World} {T E : TypeId} (hT : Try.prog.underlying T = some (.slice E)) {fuel : Nat} {c : Value} {y : DataW H × List MemPlace}
    (h : DataW.trod enc Try.prog W 0 (fun _ => true) true fuel T [c] = some y) : ∃ a l cap, c = .slice a l cap := by
  rcases DataW.trod_slice hT h with ⟨hcs, rfl⟩ | ⟨a', len, cap', elems, rest, m, _, hcs, rfl, _⟩
  · simp at hcs; exact ⟨_, _, _, hcs⟩
  · simp at hcs; exact ⟨_, _, _, hcs⟩
theorem array3h {α : Type} {cs : Array α} (h : cs.size = 3) : ∃ c0 c1 c2, cs = #[c0, c1, c2] := by
  obtain ⟨l⟩ := cs
  match l, h with
  | [c0, c1, c2], _ => exact ⟨c0, c1, c2, rfl⟩
set_option maxRecDepth 100000 in
theorem case_open {H : Type} {enc : TypeId × Value → H} {W : World} {r : Reach} {b0 : Nat} {v : Value} {d : DataW H} {p : List MemPlace} (hv : Value.okWide Try.prog W r b0 48 v)
    (h : DataW.Trod enc Try.prog W 0 (fun _ => true) true 48 v d p) (hs : ∀ n ∈ d.weights Try.prog 48, n ≤ reachBytes) :
    ∃ z0 x vo ops, v = .agg #[.int .i64 z0, .float .f64 x, vo] ∧ x < 18446744073709551616 ∧ RdH W vo ops := by
  obtain ⟨cs, rfl, hsz⟩ := okWide_struct Try.underlying48 hv
  obtain ⟨c0, c1, c2, rfl⟩ := array3h (hsz.trans (by kernel_rfl))
  obtain ⟨fuel, hf⟩ := h
  have hf' : DataW.trod enc Try.prog W 0 (fun _ => true) true fuel 48 [c0, c1, c2] = some (d, p) := by simpa [Value.cells] using hf
  obtain ⟨y0, y1, y2, n, hx, hl, h0, h1, h2⟩ := trod_struct3h Try.underlying48 hf'
  have h0' : DataW.trod enc Try.prog W 0 (fun _ => true) true n 3 [c0] = some y0 := h0
  have h1' : DataW.trod enc Try.prog W 0 (fun _ => true) true n 23 [c1] = some y1 := h1
  have h2' : DataW.trod enc Try.prog W 0 (fun _ => true) true n 25 [c2] = some y2 := h2
  obtain ⟨z0, rfl, _⟩ := int_of_trod14 h0'
  obtain ⟨x, rfl, hx64⟩ := float_of_trod14 h1'
  obtain ⟨a2, l2, k2, rfl⟩ := slice_cellH Try.underlying25 h2'
  simp only at hx
  obtain ⟨ops, hr⟩ := hops_of_trod h2' (fun k hk => hs k (by
    rw [hx]
    unfold DataW.weights; rw [Try.underlying48]
    exact DataW.weights_mem_each (j := 2) (t := 25) (d := y2.1) rfl rfl k hk))
  exact ⟨z0, x, _, ops, rfl, hx64, hr⟩
end Go.Proofs.Ytbfjhgiifmhccaa

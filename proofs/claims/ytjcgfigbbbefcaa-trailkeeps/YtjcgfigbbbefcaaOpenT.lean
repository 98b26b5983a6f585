/-
  From a row's reading of a script of calls of trails to what it reads.
  KEEP: set on app at below new trans refl start ap kept rd rds mono c n m kind
-/
import Derived.Test.YtjcgfigbbbefcaaOpenS
import Derived.Test.YtjcgfigbbbefcaaTrL
set_option linter.unusedVariables false
set_option linter.unusedSimpArgs false
namespace Go.Proofs.Ytjcgfigbbbefcaa
open Go.RowKit Go.ChangeShapes Go.WideShapes Go.Deep

def ElT (W : World) (cs : List Value) (o : TOp) : Prop := ∃ u, cs = [.int .i64 o.on, .int .i64 o.kind, .int .i64 o.n, .int .i64 o.m, u] ∧ Rd W u o.c
theorem rdT_of {W : World} {c : Value} {ops : List TOp} (h : RdS 5 (ElT W) W c ops) (h40 : ops.length * 40 ≤ 140737488351232) : RdT W c ops := by
  obtain ⟨a, cap, e, h1, h2, h3⟩ := h
  refine ⟨a, cap, e, h1, h2, h40, fun j hj => ?_⟩
  obtain ⟨b, off, cs, ea, hb, hl, hc, u, rfl, hr⟩ := h3 j hj
  have c0 := hc 0 (by omega)
  have c1 := hc 1 (by omega)
  have c2 := hc 2 (by omega)
  have c3 := hc 3 (by omega)
  have c4 := hc 4 (by omega)
  exact ⟨b, off, u, ea, hb, by simpa using c0, by simpa using c1, by simpa using c2, by simpa using c3, by simpa using c4, hr⟩
theorem int_lit_of_trodT {H : Type} {enc : TypeId × Value → H} {W : World} {fuel : Nat} {c : Value} {y : DataW H × List MemPlace}
    (h : DataW.trod enc Try.prog W 0 (fun _ => true) true fuel 3 [c] = some y) : ∃ n, c = .int .i64 n ∧ (Lit.int .i64 n).wf = true := by
  obtain ⟨n, hn, hy, hwf⟩ := DataW.trod_int Try.underlying3 h
  simp at hn
  exact ⟨n, hn, hwf⟩
set_option maxRecDepth 100000 in
theorem topT_of_trod {H : Type} {enc : TypeId × Value → H} {W : World} (m : Nat) (cs : List Value) (y : DataW H × List MemPlace) (h : DataW.trod enc Try.prog W 0 (fun _ => true) true m 38 cs = some y)
    (hs : ∀ k ∈ y.1.weights Try.prog 38, k ≤ reachBytes) : ∃ o : TOp, ElT W cs o ∧ o.c.length + 1 ≤ Rows.uptoBulk y.1 := by
  obtain ⟨y0, y1, y2, y3, y4, n, hx, hl, h0, h1, h2, h3, h4⟩ := trod_struct5 Try.underlying38 h
  have hl5 : cs.length = 5 := hl.trans (by kernel_rfl)
  match cs, hl5 with
  | [c0, c1, c2, c3, c4], _ =>
    have h0' : DataW.trod enc Try.prog W 0 (fun _ => true) true n 3 [c0] = some y0 := h0
    have h1' : DataW.trod enc Try.prog W 0 (fun _ => true) true n 3 [c1] = some y1 := h1
    have h2' : DataW.trod enc Try.prog W 0 (fun _ => true) true n 3 [c2] = some y2 := h2
    have h3' : DataW.trod enc Try.prog W 0 (fun _ => true) true n 3 [c3] = some y3 := h3
    have h4' : DataW.trod enc Try.prog W 0 (fun _ => true) true n 36 [c4] = some y4 := h4
    obtain ⟨z0, rfl, _⟩ := int_lit_of_trodT h0'
    obtain ⟨z1, rfl, _⟩ := int_lit_of_trodT h1'
    obtain ⟨z2, rfl, _⟩ := int_lit_of_trodT h2'
    obtain ⟨z3, rfl, _⟩ := int_lit_of_trodT h3'
    obtain ⟨zs, hr, hz⟩ := ints_of_trod h4' (fun k hk => hs k (by
      rw [hx]
      unfold DataW.weights; rw [Try.underlying38]
      exact DataW.weights_mem_each (j := 4) (t := 36) (d := y4.1) rfl rfl k hk))
    refine ⟨⟨z0, z1, z2, z3, zs⟩, ⟨c4, rfl, hr⟩, ?_⟩
    rw [hx]
    simp only [Rows.uptoBulk, Rows.uptoBulkAll]
    show zs.length + 1 ≤ _
    omega
theorem slice_len_of {H : Type} {enc : TypeId × Value → H} {W : World} {T E : TypeId} (hT : Try.prog.underlying T = some (.slice E)) {fuel l cap : Nat} {a : Option Addr} {y : DataW H × List MemPlace}
    (h : DataW.trod enc Try.prog W 0 (fun _ => true) true fuel T [.slice a l cap] = some y) (hs : ∀ k ∈ y.1.weights Try.prog T, k ≤ reachBytes) : l * Try.prog.bytesOf E ≤ reachBytes := by
  rcases DataW.trod_slice hT h with ⟨hcs, rfl⟩ | ⟨a', len, cap', elems, rest, m, _, hcs, rfl, _, hl, hm, hlen, hcell, _, _⟩
  · simp at hcs
    obtain ⟨_, rfl, _⟩ := hcs
    simp
  · simp at hcs
    obtain ⟨_, rfl, _⟩ := hcs
    have h1 := hs (((elems.map (·.1)).length + (rest.map (·.1)).length) * Try.prog.bytesOf E) (by
      unfold DataW.weights; rw [hT]; exact List.mem_cons_self ..)
    rw [List.length_map, hlen] at h1
    exact Nat.le_trans (Nat.mul_le_mul_right _ (Nat.le_add_right _ _)) h1
theorem bytesOp : Try.prog.bytesOf 38 = 56 := by kernel_rfl
set_option maxRecDepth 100000 in
theorem opsT_of_trod {H : Type} {enc : TypeId × Value → H} {W : World} {fuel l cap : Nat} {a : Option Addr} {y : DataW H × List MemPlace} (h : DataW.trod enc Try.prog W 0 (fun _ => true) true fuel 23 [.slice a l cap] = some y)
    (hs : ∀ k ∈ y.1.weights Try.prog 23, k ≤ reachBytes) : ∃ ops, RdT W (.slice a l cap) ops ∧ ops.length + (ops.map (fun o => o.c.length)).sum ≤ Rows.uptoBulk y.1 ∧ ops.length * 56 ≤ 140737488351232 := by
  obtain ⟨ops, hr, hb⟩ := rows_of_trod Try.underlying23 (n := 5) (by kernel_rfl) (by omega) (ElT W) (fun o => o.c.length) topT_of_trod h hs
  have hl := slice_len_of Try.underlying23 h hs
  rw [bytesOp] at hl
  have he : ops.length = l := by
    obtain ⟨a', cap', e, _⟩ := hr
    injection e with _ e1 _
    exact e1.symm
  unfold reachBytes at hl
  refine ⟨ops, rdT_of hr ?_, hb, ?_⟩
  · rw [he]; omega
  · rw [he]; exact hl
theorem slice_cell {H : Type} {enc : TypeId × Value → H} {W : World} {T E : TypeId} (hT : Try.prog.underlying T = some (.slice E)) {fuel : Nat} {c : Value} {y : DataW H × List MemPlace}
    (h : DataW.trod enc Try.prog W 0 (fun _ => true) true fuel T [c] = some y) : ∃ a l cap, c = .slice a l cap := by
  rcases DataW.trod_slice hT h with ⟨hcs, rfl⟩ | ⟨a', len, cap', elems, rest, m, _, hcs, rfl, _⟩
  · simp at hcs; exact ⟨_, _, _, hcs⟩
  · simp at hcs; exact ⟨_, _, _, hcs⟩
set_option maxRecDepth 100000 in
/-- a script -/
theorem opsT_open {H : Type} {enc : TypeId × Value → H} {W : World} {r : Reach} {b0 : Nat} {v : Value} {d : DataW H} {p : List MemPlace} (hv : Value.okWide Try.prog W r b0 23 v)
    (h : DataW.Trod enc Try.prog W 0 (fun _ => true) true 23 v d p) (hs : ∀ n ∈ d.weights Try.prog 23, n ≤ reachBytes) :
    ∃ ops, RdT W v ops ∧ ops.length + (ops.map (fun o => o.c.length)).sum ≤ Rows.uptoBulk d ∧ ops.length * 56 ≤ 140737488351232 := by
  obtain ⟨a, l, c, rfl⟩ := okWide_slice Try.underlying23 hv
  obtain ⟨fuel, hf⟩ := h
  have hf' : DataW.trod enc Try.prog W 0 (fun _ => true) true fuel 23 [.slice a l c] = some (d, p) := by simpa [Value.cells] using hf
  exact opsT_of_trod hf' hs
theorem array4 {α : Type} {cs : Array α} (h : cs.size = 4) : ∃ c0 c1 c2 c3, cs = #[c0, c1, c2, c3] := by
  obtain ⟨l⟩ := cs
  match l, h with
  | [c0, c1, c2, c3], _ => exact ⟨c0, c1, c2, c3, rfl⟩
theorem trod_struct4 {H : Type} {enc : TypeId × Value → H} {P : Program} {w : World} {base : Nat} {spare : Nat → Bool} {held : Bool} {t : TypeId} {f0 f1 f2 f3 : Field} {fuel : Nat} {cs : List Value} {x : DataW H × List MemPlace} (ht : P.underlying t = some (.struct #[f0, f1, f2, f3])) (h : DataW.trod enc P w base spare held fuel t cs = some x) :
    ∃ y0 y1 y2 y3 n, x.1 = .agg [y0.1, y1.1, y2.1, y3.1] ∧ cs.length = P.cellsOf t ∧ DataW.trod enc P w base spare held n f0.type ((cs.drop f0.offset).take (P.cellsOf f0.type)) = some y0 ∧
      DataW.trod enc P w base spare held n f1.type ((cs.drop f1.offset).take (P.cellsOf f1.type)) = some y1 ∧ DataW.trod enc P w base spare held n f2.type ((cs.drop f2.offset).take (P.cellsOf f2.type)) = some y2 ∧
      DataW.trod enc P w base spare held n f3.type ((cs.drop f3.offset).take (P.cellsOf f3.type)) = some y3 := by
  obtain ⟨xs, n, _, rfl, hl, hlen, hf⟩ := DataW.trod_struct ht h
  match xs, hlen with
  | [y0, y1, y2, y3], _ => exact ⟨y0, y1, y2, y3, n, by simp, hl, by simpa using hf 0 f0 rfl, by simpa using hf 1 f1 rfl, by simpa using hf 2 f2 rfl, by simpa using hf 3 f3 rfl⟩
set_option maxRecDepth 100000 in
theorem undone_open {H : Type} {enc : TypeId × Value → H} {W : World} {r : Reach} {b0 : Nat} {v : Value} {d : DataW H} {p : List MemPlace} (hv : Value.okWide Try.prog W r b0 51 v)
    (h : DataW.Trod enc Try.prog W 0 (fun _ => true) true 51 v d p) (hs : ∀ n ∈ d.weights Try.prog 51, n ≤ reachBytes) :
    ∃ z0 z1 va vb ahead behind, v = .agg #[.int .i64 z0, va, .int .i64 z1, vb] ∧ RdT W va ahead ∧ RdT W vb behind := by
  obtain ⟨cs, rfl, hsz⟩ := okWide_struct Try.underlying51 hv
  obtain ⟨c0, c1, c2, c3, rfl⟩ := array4 (hsz.trans (by kernel_rfl))
  obtain ⟨fuel, hf⟩ := h
  have hf' : DataW.trod enc Try.prog W 0 (fun _ => true) true fuel 51 [c0, c1, c2, c3] = some (d, p) := by simpa [Value.cells] using hf
  obtain ⟨y0, y1, y2, y3, n, hx, hl, h0, h1, h2, h3⟩ := trod_struct4 Try.underlying51 hf'
  have h0' : DataW.trod enc Try.prog W 0 (fun _ => true) true n 3 [c0] = some y0 := h0
  have h1' : DataW.trod enc Try.prog W 0 (fun _ => true) true n 23 [c1] = some y1 := h1
  have h2' : DataW.trod enc Try.prog W 0 (fun _ => true) true n 3 [c2] = some y2 := h2
  have h3' : DataW.trod enc Try.prog W 0 (fun _ => true) true n 23 [c3] = some y3 := h3
  obtain ⟨z0, rfl, _⟩ := int_lit_of_trodT h0'
  obtain ⟨z2, rfl, _⟩ := int_lit_of_trodT h2'
  obtain ⟨a1, l1, k1, rfl⟩ := slice_cell Try.underlying23 h1'
  obtain ⟨a3, l3, k3, rfl⟩ := slice_cell Try.underlying23 h3'
  simp only at hx
  obtain ⟨o1, r1, _⟩ := opsT_of_trod h1' (fun k hk => hs k (by
    rw [hx]
    unfold DataW.weights; rw [Try.underlying51]
    exact DataW.weights_mem_each (j := 1) (t := 23) (d := y1.1) rfl rfl k hk))
  obtain ⟨o3, r3, _⟩ := opsT_of_trod h3' (fun k hk => hs k (by
    rw [hx]
    unfold DataW.weights; rw [Try.underlying51]
    exact DataW.weights_mem_each (j := 3) (t := 23) (d := y3.1) rfl rfl k hk))
  exact ⟨z0, z2, _, _, o1, o3, rfl, r1, r3⟩
theorem array3 {α : Type} {cs : Array α} (h : cs.size = 3) : ∃ c0 c1 c2, cs = #[c0, c1, c2] := by
  obtain ⟨l⟩ := cs
  match l, h with
  | [c0, c1, c2], _ => exact ⟨c0, c1, c2, rfl⟩
theorem trod_struct2' {H : Type} {enc : TypeId × Value → H} {P : Program} {w : World} {base : Nat} {spare : Nat → Bool} {held : Bool} {t : TypeId} {f0 f1 : Field} {fuel : Nat} {cs : List Value} {x : DataW H × List MemPlace} (ht : P.underlying t = some (.struct #[f0, f1])) (h : DataW.trod enc P w base spare held fuel t cs = some x) :
    ∃ y0 y1 n, x.1 = .agg [y0.1, y1.1] ∧ cs.length = P.cellsOf t ∧ DataW.trod enc P w base spare held n f0.type ((cs.drop f0.offset).take (P.cellsOf f0.type)) = some y0 ∧ DataW.trod enc P w base spare held n f1.type ((cs.drop f1.offset).take (P.cellsOf f1.type)) = some y1 := by
  obtain ⟨xs, n, _, rfl, hl, hlen, hf⟩ := DataW.trod_struct ht h
  match xs, hlen with
  | [y0, y1], _ => exact ⟨y0, y1, n, by simp, hl, by simpa using hf 0 f0 rfl, by simpa using hf 1 f1 rfl⟩
set_option maxRecDepth 100000 in
theorem script_open {H : Type} {enc : TypeId × Value → H} {W : World} {r : Reach} {b0 : Nat} {v : Value} {d : DataW H} {p : List MemPlace} (hv : Value.okWide Try.prog W r b0 25 v)
    (h : DataW.Trod enc Try.prog W 0 (fun _ => true) true 25 v d p) (hs : ∀ n ∈ d.weights Try.prog 25, n ≤ reachBytes) :
    ∃ z0 z1 vo ops, v = .agg #[.int .i64 z0, .int .i64 z1, vo] ∧ RdT W vo ops ∧ ops.length + (ops.map (fun o => o.c.length)).sum ≤ Rows.uptoBulk d ∧ ops.length * 56 ≤ 140737488351232 := by
  obtain ⟨cs, rfl, hsz⟩ := okWide_struct Try.underlying25 hv
  obtain ⟨c0, c1, c2, rfl⟩ := array3 (hsz.trans (by kernel_rfl))
  obtain ⟨fuel, hf⟩ := h
  have hf' : DataW.trod enc Try.prog W 0 (fun _ => true) true fuel 25 [c0, c1, c2] = some (d, p) := by simpa [Value.cells] using hf
  obtain ⟨y0, y1, n, hx, hl, h0, h1⟩ := trod_struct2' Try.underlying25 hf'
  have h0' : DataW.trod enc Try.prog W 0 (fun _ => true) true n 22 [c0, c1] = some y0 := h0
  have h1' : DataW.trod enc Try.prog W 0 (fun _ => true) true n 23 [c2] = some y1 := h1
  obtain ⟨a2, l2, k2, rfl⟩ := slice_cell Try.underlying23 h1'
  obtain ⟨xs, m, _, hxs, hlc, hlx, hcell⟩ := DataW.trod_array Try.underlying22 h0'
  match xs, hlx with
  | [x0, x1], _ =>
    have e0 : DataW.trod enc Try.prog W 0 (fun _ => true) true m 3 [c0] = some x0 := hcell 0 (by decide)
    have e1 : DataW.trod enc Try.prog W 0 (fun _ => true) true m 3 [c1] = some x1 := hcell 1 (by decide)
    obtain ⟨z0, rfl, _⟩ := int_lit_of_trodT e0
    obtain ⟨z1, rfl, _⟩ := int_lit_of_trodT e1
    simp only at hx
    obtain ⟨ops, r1, hb, h56⟩ := opsT_of_trod h1' (fun k hk => hs k (by
      rw [hx]
      unfold DataW.weights; rw [Try.underlying25]
      exact DataW.weights_mem_each (j := 1) (t := 23) (d := y1.1) rfl rfl k hk))
    refine ⟨z0, z1, _, ops, rfl, r1, ?_, h56⟩
    rw [hx]
    simp only [Rows.uptoBulk, Rows.uptoBulkAll]
    omega
end Go.Proofs.Ytjcgfigbbbefcaa

/-
  From a row's reading of a script to what it reads.
  KEEP: set on app at below new trans refl start ap kept rd rds mono own row cells lt box lo ml ms c0 f0 form max find eq ma some none more map keep mv c kill kst book opened walk
-/
import Derived.Test.YtbhjpahieghepaaOpenS
import Derived.Test.YtbhjpahieghepaaJArK
set_option linter.unusedVariables false
set_option linter.unusedSimpArgs false
namespace Go.Proofs.Ytbhjpahieghepaa
open Go.RowKit Go.ChangeShapes Go.WideShapes Go.Deep

def ElO (W : World) (cs : List Value) (o : AOp) : Prop := ∃ u, cs = [.int .i64 o.kind, .int .i64 o.which, .int .i64 o.ref, u, .bool o.learnt] ∧ Rd W u o.lits ∧ (Lit.int .i64 o.ref).wf = true
theorem rdO_of {W : World} {c : Value} {ops : List AOp} (h : RdS 5 (ElO W) W c ops) : RdO W c ops := by
  obtain ⟨a, cap, e, h1, h2, h3⟩ := h
  refine ⟨a, cap, e, h1, h2, fun j hj => ?_⟩
  obtain ⟨b, off, cs, ea, hb, hl, hc, u, rfl, hr, hw⟩ := h3 j hj
  have c0 := hc 0 (by omega)
  have c1 := hc 1 (by omega)
  have c2 := hc 2 (by omega)
  have c3 := hc 3 (by omega)
  have c4 := hc 4 (by omega)
  exact ⟨b, off, u, ea, hb, by simpa using c0, by simpa using c1, by simpa using c2, by simpa using c3, by simpa using c4, hr, hw⟩
theorem int_lit_of_trod {H : Type} {enc : TypeId × Value → H} {W : World} {fuel : Nat} {c : Value} {y : DataW H × List MemPlace}
    (h : DataW.trod enc Try.prog W 0 (fun _ => true) true fuel 3 [c] = some y) : ∃ n, c = .int .i64 n ∧ (Lit.int .i64 n).wf = true := by
  obtain ⟨n, hn, hy, hwf⟩ := DataW.trod_int Try.underlying3 h
  simp at hn
  exact ⟨n, hn, hwf⟩
theorem bool_of_trod {H : Type} {enc : TypeId × Value → H} {W : World} {fuel : Nat} {c : Value} {y : DataW H × List MemPlace}
    (h : DataW.trod enc Try.prog W 0 (fun _ => true) true fuel 4 [c] = some y) : ∃ b, c = .bool b := by
  obtain ⟨b, hb, _⟩ := DataW.trod_bool Try.underlying4 h
  simp at hb
  exact ⟨b, hb⟩
set_option maxRecDepth 100000 in
theorem op_of_trod {H : Type} {enc : TypeId × Value → H} {W : World} (m : Nat) (cs : List Value) (y : DataW H × List MemPlace) (h : DataW.trod enc Try.prog W 0 (fun _ => true) true m 34 cs = some y)
    (hs : ∀ k ∈ y.1.weights Try.prog 34, k ≤ reachBytes) : ∃ o : AOp, ElO W cs o ∧ o.lits.length + 1 ≤ Rows.uptoBulk y.1 := by
  obtain ⟨y0, y1, y2, y3, y4, n, hx, hl, h0, h1, h2, h3, h4⟩ := trod_struct5 Try.underlying34 h
  have hl5 : cs.length = 5 := hl.trans (by kernel_rfl)
  match cs, hl5 with
  | [c0, c1, c2, c3, c4], _ =>
    have h0' : DataW.trod enc Try.prog W 0 (fun _ => true) true n 3 [c0] = some y0 := h0
    have h1' : DataW.trod enc Try.prog W 0 (fun _ => true) true n 3 [c1] = some y1 := h1
    have h2' : DataW.trod enc Try.prog W 0 (fun _ => true) true n 3 [c2] = some y2 := h2
    have h3' : DataW.trod enc Try.prog W 0 (fun _ => true) true n 32 [c3] = some y3 := h3
    have h4' : DataW.trod enc Try.prog W 0 (fun _ => true) true n 4 [c4] = some y4 := h4
    obtain ⟨k, rfl, _⟩ := int_lit_of_trod h0'
    obtain ⟨wh, rfl, _⟩ := int_lit_of_trod h1'
    obtain ⟨r, rfl, wr⟩ := int_lit_of_trod h2'
    obtain ⟨b, rfl⟩ := bool_of_trod h4'
    obtain ⟨zs, hr, hz⟩ := ints_of_trod h3' (fun k hk => hs k (by
      rw [hx]
      unfold DataW.weights; rw [Try.underlying34]
      exact DataW.weights_mem_each (j := 3) (t := 32) (d := y3.1) rfl rfl k hk))
    refine ⟨⟨k, wh, r, zs, b⟩, ⟨c3, rfl, hr, wr⟩, ?_⟩
    rw [hx]
    simp only [Rows.uptoBulk, Rows.uptoBulkAll]
    show zs.length + 1 ≤ _
    omega
set_option maxRecDepth 100000 in
/-- a script, and what it costs at most -/
theorem ops_open {H : Type} {enc : TypeId × Value → H} {W : World} {r : Reach} {b0 : Nat} {v : Value} {d : DataW H} {p : List MemPlace} (hv : Value.okWide Try.prog W r b0 22 v)
    (h : DataW.Trod enc Try.prog W 0 (fun _ => true) true 22 v d p) (hs : ∀ n ∈ d.weights Try.prog 22, n ≤ reachBytes) :
    ∃ ops, RdO W v ops ∧ cost ops ≤ Rows.uptoBulk d := by
  obtain ⟨a, l, c, rfl⟩ := okWide_slice Try.underlying22 hv
  obtain ⟨fuel, hf⟩ := h
  have hf' : DataW.trod enc Try.prog W 0 (fun _ => true) true fuel 22 [.slice a l c] = some (d, p) := by simpa [Value.cells] using hf
  obtain ⟨ops, hr, hb⟩ := rows_of_trod Try.underlying22 (n := 5) (by kernel_rfl) (by omega) (ElO W) (fun o => o.lits.length) op_of_trod hf' hs
  refine ⟨ops, rdO_of hr, ?_⟩
  have : ∀ l : List AOp, cost l = l.length + (l.map (fun o => o.lits.length)).sum := by
    intro l
    induction l with
    | nil => rfl
    | cons x r ih => simp only [cost, List.map_cons, List.sum_cons, List.length_cons] at ih ⊢; omega
  rw [this]; exact hb

end Go.Proofs.Ytbhjpahieghepaa

/-
  From a row's reading of a list of steps to what it reads.
-/
import Derived.Test.YtilcokpaeapmeaaDoorJOpenU
import Derived.Test.YtilcokpaeapmeaaDoorJAppK
set_option linter.unusedVariables false
set_option linter.unusedSimpArgs false
namespace Go.Proofs.YtilcokpaeapmeaaDoor
open Go.RowKit Go.ChangeShapes Go.WideShapes Go.Deep

/-- how much a list of steps holds -/
def stpN (l : List Stp) : Nat := l.length + (l.map (fun x => x.2.length)).sum
def ElZ (W : World) (cs : List Value) (x : Stp) : Prop := ∃ u, cs = [.bool x.1, u] ∧ Rd W u x.2
theorem rdZ_of {W : World} {c : Value} {l : List Stp} (h : RdS 2 (ElZ W) W c l) (hl : l.length * 32 ≤ 140737488351232) : RdZ W c l := by
  obtain ⟨a, cap, e, h1, h2, h3⟩ := h
  refine ⟨hl, a, cap, e, h1, h2, fun hne => ?_⟩
  have hp : 0 < l.length := List.length_pos_iff.2 hne
  obtain ⟨b, off, cs, ea, hb, _, _, _⟩ := h3 0 hp
  refine ⟨b, off, ea, hb, fun j hj => ?_⟩
  obtain ⟨b', off', cs, ea', hb', hl', hc, u, rfl, hr⟩ := h3 j hj
  rw [ea] at ea'
  injection ea' with ea'
  injection ea' with q1 q2 q3
  subst q1; subst q2
  have e0 : l.getD j (false, []) = l[j] := by simp [List.getD_eq_getElem?_getD, hj]
  rw [e0]
  have c0 := hc 0 (by omega)
  have c1 := hc 1 (by omega)
  exact ⟨u, by simpa using c0, by simpa using c1, hr⟩
theorem bool_of_trod9 {H : Type} {enc : TypeId × Value → H} {W : World} {fuel : Nat} {c : Value} {y : DataW H × List MemPlace}
    (h : DataW.trod enc Tryd.prog W 0 (fun _ => true) true fuel 4 [c] = some y) : ∃ b, c = .bool b := by
  obtain ⟨b, hb, _⟩ := DataW.trod_bool Tryd.underlying4 h
  simp at hb
  exact ⟨b, hb⟩
theorem trod_struct2 {H : Type} {enc : TypeId × Value → H} {P : Program} {w : World} {base : Nat} {spare : Nat → Bool} {held : Bool} {t : TypeId} {f0 f1 : Field} {fuel : Nat} {cs : List Value} {x : DataW H × List MemPlace} (ht : P.underlying t = some (.struct #[f0, f1])) (h : DataW.trod enc P w base spare held fuel t cs = some x) :
    ∃ y0 y1 n, x.1 = .agg [y0.1, y1.1] ∧ cs.length = P.cellsOf t ∧ DataW.trod enc P w base spare held n f0.type ((cs.drop f0.offset).take (P.cellsOf f0.type)) = some y0 ∧
      DataW.trod enc P w base spare held n f1.type ((cs.drop f1.offset).take (P.cellsOf f1.type)) = some y1 := by
  obtain ⟨xs, n, _, rfl, hl, hlen, hf⟩ := DataW.trod_struct ht h
  match xs, hlen with
  | [y0, y1], _ => exact ⟨y0, y1, n, by simp, hl, by simpa using hf 0 f0 rfl, by simpa using hf 1 f1 rfl⟩
set_option maxRecDepth 100000 in
theorem stp_of_trod {H : Type} {enc : TypeId × Value → H} {W : World} (m : Nat) (cs : List Value) (y : DataW H × List MemPlace) (h : DataW.trod enc Tryd.prog W 0 (fun _ => true) true m 61 cs = some y)
    (hs : ∀ k ∈ y.1.weights Tryd.prog 61, k ≤ reachBytes) : ∃ x : Stp, ElZ W cs x ∧ x.2.length + 1 ≤ Rows.uptoBulk y.1 := by
  obtain ⟨y0, y1, n, hx, hl, h0, h1⟩ := trod_struct2 Tryd.underlying61 h
  have hl2 : cs.length = 2 := hl.trans (by kernel_rfl)
  match cs, hl2 with
  | [c0, c1], _ =>
    have h0' : DataW.trod enc Tryd.prog W 0 (fun _ => true) true n 4 [c0] = some y0 := h0
    have h1' : DataW.trod enc Tryd.prog W 0 (fun _ => true) true n 58 [c1] = some y1 := h1
    obtain ⟨b, rfl⟩ := bool_of_trod9 h0'
    obtain ⟨zs, hr, hz⟩ := ints_of_trod h1' (fun k hk => hs k (by
      rw [hx]
      unfold DataW.weights; rw [Tryd.underlying61]
      exact DataW.weights_mem_each (j := 1) (t := 58) (d := y1.1) rfl rfl k hk))
    refine ⟨(b, zs), ⟨c1, rfl, hr⟩, ?_⟩
    rw [hx]
    simp only [Rows.uptoBulk, Rows.uptoBulkAll]
    show zs.length + 1 ≤ _
    omega
set_option maxRecDepth 100000 in
/-- a list of steps, and how much it holds at most -/
theorem steps_open {H : Type} {enc : TypeId × Value → H} {W : World} {r : Reach} {b0 : Nat} {v : Value} {d : DataW H} {p : List MemPlace} (hv : Value.okWide Tryd.prog W r b0 22 v)
    (h : DataW.Trod enc Tryd.prog W 0 (fun _ => true) true 22 v d p) (hs : ∀ n ∈ d.weights Tryd.prog 22, n ≤ reachBytes) (hd : Rows.uptoBulk d ≤ 1048576) :
    ∃ l, RdZ W v l ∧ stpN l ≤ Rows.uptoBulk d := by
  obtain ⟨a, n, c, rfl⟩ := okWide_slice Tryd.underlying22 hv
  obtain ⟨fuel, hf⟩ := h
  have hf' : DataW.trod enc Tryd.prog W 0 (fun _ => true) true fuel 22 [.slice a n c] = some (d, p) := by simpa [Value.cells] using hf
  obtain ⟨l, hr, hb⟩ := rows_of_trod Tryd.underlying22 (n := 2) (by kernel_rfl) (by omega) (ElZ W) (fun x => x.2.length) stp_of_trod hf' hs
  exact ⟨l, rdZ_of hr (by have := hb; simp only at this; omega), hb⟩

end Go.Proofs.YtilcokpaeapmeaaDoor

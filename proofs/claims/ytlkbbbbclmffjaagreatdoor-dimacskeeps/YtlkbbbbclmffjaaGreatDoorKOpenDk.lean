/-
  From a row's reading of the struct of two formulas, a model and two texts to what it reads, and how much it holds at most.
-/
import Derived.Test.YtlkbbbbclmffjaaGreatDoorKOpenW
import Derived.Test.YtlkbbbbclmffjaaGreatDoorKOpenM
set_option linter.unusedVariables false
set_option linter.unusedSimpArgs false
namespace Go.Proofs.YtlkbbbbclmffjaaGreatDoor
open Go.RowKit Go.ChangeShapes Go.WideShapes Go.Deep

theorem array7d {α : Type} {cs : Array α} (h : cs.size = 7) : ∃ c0 c1 c2 c3 c4 c5 c6, cs = #[c0, c1, c2, c3, c4, c5, c6] := by
  obtain ⟨l⟩ := cs
  match l, h with
  | [c0, c1, c2, c3, c4, c5, c6], _ => exact ⟨c0, c1, c2, c3, c4, c5, c6, rfl⟩
theorem trod_struct5d {H : Type} {enc : TypeId × Value → H} {P : Program} {w : World} {base : Nat} {spare : Nat → Bool} {held : Bool} {t : TypeId} {f0 f1 f2 f3 f4 : Field} {fuel : Nat} {cs : List Value} {x : DataW H × List MemPlace} (ht : P.underlying t = some (.struct #[f0, f1, f2, f3, f4])) (h : DataW.trod enc P w base spare held fuel t cs = some x) :
    ∃ y0 y1 y2 y3 y4 n, x.1 = .agg [y0.1, y1.1, y2.1, y3.1, y4.1] ∧ cs.length = P.cellsOf t ∧ DataW.trod enc P w base spare held n f0.type ((cs.drop f0.offset).take (P.cellsOf f0.type)) = some y0 ∧
      DataW.trod enc P w base spare held n f1.type ((cs.drop f1.offset).take (P.cellsOf f1.type)) = some y1 ∧ DataW.trod enc P w base spare held n f2.type ((cs.drop f2.offset).take (P.cellsOf f2.type)) = some y2 ∧
      DataW.trod enc P w base spare held n f3.type ((cs.drop f3.offset).take (P.cellsOf f3.type)) = some y3 ∧ DataW.trod enc P w base spare held n f4.type ((cs.drop f4.offset).take (P.cellsOf f4.type)) = some y4 := by
  obtain ⟨xs, n, _, rfl, hl, hlen, hf⟩ := DataW.trod_struct ht h
  match xs, hlen with
  | [y0, y1, y2, y3, y4], _ => exact ⟨y0, y1, y2, y3, y4, n, by simp, hl, by simpa using hf 0 f0 rfl, by simpa using hf 1 f1 rfl, by simpa using hf 2 f2 rfl, by simpa using hf 3 f3 rfl, by simpa using hf 4 f4 rfl⟩
/-- a model in a cell, and how long it is at most -/
theorem rdB_bulkD {H : Type} {enc : TypeId × Value → H} {W : World} {fuel : Nat} {c : Value} {y : DataW H × List MemPlace}
    (h : DataW.trod enc Tryz.prog W 0 (fun _ => true) true fuel 25 [c] = some y) (hs : ∀ n ∈ y.1.weights Tryz.prog 25, n ≤ reachBytes) : ∃ ms, RdB W c ms ∧ ms.length ≤ Rows.uptoBulk y.1 := by
  rcases Go.Deep.open_bools Tryz.underlying25 Tryz.underlying4 (by kernel_rfl) h with ⟨hcs, _⟩ | ⟨x, l, c', B, hcs, _, hl, hm, hx, hcell⟩
  · simp at hcs; subst hcs; exact ⟨[], RdB.nil _, Nat.zero_le _⟩
  · simp at hcs; subst hcs
    subst hx
    have hw := hs ((((List.range l).map fun i => DataW.lit (H := H) (.bool (B i))).length + ((List.range (c' - l)).map fun j => DataW.lit (H := H) (.bool (B (l + j)))).length) * Tryz.prog.bytesOf 4) (by
      simp only [Go.Deep.boolRow]
      unfold DataW.weights; rw [Tryz.underlying25]; exact List.mem_cons_self ..)
    simp only [List.length_map, List.length_range] at hw
    rw [Nat.add_sub_cancel' hl] at hw
    refine ⟨_, RdB.opened (H := H) hl hw hcell, ?_⟩
    have h1 := bulk_len ((List.range l).map fun i => DataW.lit (H := H) (.bool (B i)))
    simp only [Go.Deep.boolRow, Rows.uptoBulk]
    simp only [List.length_map, List.length_range] at h1 ⊢
    omega
set_option maxRecDepth 100000 in
/-- a formula's two cells, and how much it holds at most -/
theorem form_of_trod_bulkD {H : Type} {enc : TypeId × Value → H} {W : World} {fuel : Nat} {c0 c1 : Value} {y : DataW H × List MemPlace}
    (h : DataW.trod enc Tryz.prog W 0 (fun _ => true) true fuel 24 [c0, c1] = some y) (hs : ∀ n ∈ y.1.weights Tryz.prog 24, n ≤ reachBytes) :
    ∃ n css, c0 = .int .i64 n ∧ (Lit.int .i64 n).wf = true ∧ Rds W c1 css ∧ css.length + litsN css ≤ Rows.uptoBulk y.1 := by
  obtain ⟨y0, y1, m, hx, _, h0, h1⟩ := trod_struct2 Tryz.underlying24 h
  subst hx
  have h0' : DataW.trod enc Tryz.prog W 0 (fun _ => true) true m 3 [c0] = some y0 := h0
  have h1' : DataW.trod enc Tryz.prog W 0 (fun _ => true) true m 22 [c1] = some y1 := h1
  obtain ⟨n, hn, hy, hwf⟩ := DataW.trod_int Tryz.underlying3 h0'
  simp at hn
  subst hn
  obtain ⟨css, hr, hb⟩ := rds_bulk h1' (fun k hk => hs k (by
    unfold DataW.weights; rw [Tryz.underlying24]
    exact DataW.weights_mem_each (j := 1) (t := 22) (d := y1.1) rfl rfl k hk))
  refine ⟨n, css, rfl, hwf, hr, ?_⟩
  simp only [Rows.uptoBulk, Rows.uptoBulkAll]
  omega
set_option maxRecDepth 100000 in
theorem asked_openD {H : Type} {enc : TypeId × Value → H} {W : World} {r : Reach} {b0 : Nat} {v : Value} {d : DataW H} {p : List MemPlace} (hv : Value.okWide Tryz.prog W r b0 27 v)
    (h : DataW.Trod enc Tryz.prog W 0 (fun _ => true) true 27 v d p) (hs : ∀ n ∈ d.weights Tryz.prog 27, n ≤ reachBytes) :
    ∃ n s css m t dss vb ms S T, v = .agg #[.int .i64 n, s, .int .i64 m, t, vb, .string S, .string T] ∧ Rds W s css ∧ Rds W t dss ∧ RdB W vb ms ∧ css.length + litsN css + (dss.length + litsN dss) + ms.length + S.data.toList.length + T.data.toList.length ≤ Rows.uptoBulk d := by
  obtain ⟨cs, rfl, hsz⟩ := okWide_struct Tryz.underlying27 hv
  obtain ⟨c0, c1, c2, c3, c4, c5, c6, rfl⟩ := array7d (hsz.trans (by kernel_rfl))
  obtain ⟨fuel, hf⟩ := h
  have hf' : DataW.trod enc Tryz.prog W 0 (fun _ => true) true fuel 27 [c0, c1, c2, c3, c4, c5, c6] = some (d, p) := by simpa [Value.cells] using hf
  obtain ⟨y0, y1, y2, y3, y4, m, hx, _, h0, h1, h2, h3, h4⟩ := trod_struct5d Tryz.underlying27 hf'
  have hd : d = .agg [y0.1, y1.1, y2.1, y3.1, y4.1] := hx
  subst hd
  have h0' : DataW.trod enc Tryz.prog W 0 (fun _ => true) true m 24 [c0, c1] = some y0 := h0
  have h1' : DataW.trod enc Tryz.prog W 0 (fun _ => true) true m 24 [c2, c3] = some y1 := h1
  have h2' : DataW.trod enc Tryz.prog W 0 (fun _ => true) true m 25 [c4] = some y2 := h2
  have h3' : DataW.trod enc Tryz.prog W 0 (fun _ => true) true m 9 [c5] = some y3 := h3
  have h4' : DataW.trod enc Tryz.prog W 0 (fun _ => true) true m 9 [c6] = some y4 := h4
  have hw : ∀ (j : Nat) (t : TypeId) (x : DataW H), [24, 24, 25, 9, 9][j]? = some t → [y0.1, y1.1, y2.1, y3.1, y4.1][j]? = some x → ∀ k ∈ x.weights Tryz.prog t, k ≤ reachBytes := fun j t x ht hx k hk => hs k (by
    unfold DataW.weights; rw [Tryz.underlying27]
    exact DataW.weights_mem_each (j := j) (t := t) (d := x) ht hx k hk)
  obtain ⟨n0, css, rfl, w0, r0, l0⟩ := form_of_trod_bulkD h0' (hw 0 24 _ rfl rfl)
  obtain ⟨n1, dss, rfl, w1, r1, l1⟩ := form_of_trod_bulkD h1' (hw 1 24 _ rfl rfl)
  obtain ⟨ms, r2, l2⟩ := rdB_bulkD h2' (hw 2 25 _ rfl rfl)
  obtain ⟨S, e3, d3, w3⟩ := DataW.trod_string Tryz.underlying9 h3'
  obtain ⟨T, e4, d4, w4⟩ := DataW.trod_string Tryz.underlying9 h4'
  simp at e3 e4
  subst e3
  subst e4
  have d3' := congrArg Prod.fst d3
  have d4' := congrArg Prod.fst d4
  simp only at d3' d4'
  refine ⟨n0, c1, css, n1, c3, dss, c4, ms, S, T, rfl, r0, r1, r2, ?_⟩
  rw [d3', d4']
  simp only [Rows.uptoBulk, Rows.uptoBulkAll]
  omega

end Go.Proofs.YtlkbbbbclmffjaaGreatDoor

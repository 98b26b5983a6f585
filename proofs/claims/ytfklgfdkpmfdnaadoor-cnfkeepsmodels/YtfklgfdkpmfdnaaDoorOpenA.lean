/-
  From a row's reading of the struct of two formulas, a list and a model to what it reads, and how long the formulas are at most.
-/
import Derived.Test.YtfklgfdkpmfdnaaDoorOpenU
import Derived.Test.YtfklgfdkpmfdnaaDoorOpenM
set_option linter.unusedVariables false
set_option linter.unusedSimpArgs false
namespace Go.Proofs.YtfklgfdkpmfdnaaDoor
open Go.RowKit Go.ChangeShapes Go.WideShapes Go.Deep

theorem array6 {α : Type} {cs : Array α} (h : cs.size = 6) : ∃ c0 c1 c2 c3 c4 c5, cs = #[c0, c1, c2, c3, c4, c5] := by
  obtain ⟨l⟩ := cs
  match l, h with
  | [c0, c1, c2, c3, c4, c5], _ => exact ⟨c0, c1, c2, c3, c4, c5, rfl⟩
/-- a list of ints in a cell -/
theorem rd_of_trod {H : Type} {enc : TypeId × Value → H} {W : World} {fuel : Nat} {c : Value} {y : DataW H × List MemPlace}
    (h : DataW.trod enc Tryd.prog W 0 (fun _ => true) true fuel 31 [c] = some y) (hs : ∀ n ∈ y.1.weights Tryd.prog 31, n ≤ reachBytes) : ∃ zs, Rd W c zs := by
  rcases open_ints Tryd.underlying31 Tryd.underlying3 (by kernel_rfl) h with ⟨hcs, _⟩ | ⟨x, l, c', zs, hcs, _, hl, hm, hz, hx, hcell, hwz⟩
  · simp at hcs; subst hcs; exact ⟨[], Rd.nil _⟩
  · simp at hcs; subst hcs
    subst hx
    refine ⟨_, Rd.opened (H := H) hl hm (by simpa using hz) (hs _ ?_) hcell⟩
    unfold DataW.weights; rw [Tryd.underlying31]; exact List.mem_cons_self ..
/-- a model in a cell -/
theorem rdB_of_trod {H : Type} {enc : TypeId × Value → H} {W : World} {fuel : Nat} {c : Value} {y : DataW H × List MemPlace}
    (h : DataW.trod enc Tryd.prog W 0 (fun _ => true) true fuel 32 [c] = some y) (hs : ∀ n ∈ y.1.weights Tryd.prog 32, n ≤ reachBytes) : ∃ ms, RdB W c ms := by
  rcases Go.Deep.open_bools Tryd.underlying32 Tryd.underlying4 (by kernel_rfl) h with ⟨hcs, _⟩ | ⟨x, l, c', B, hcs, _, hl, hm, hx, hcell⟩
  · simp at hcs; subst hcs; exact ⟨[], RdB.nil _⟩
  · simp at hcs; subst hcs
    subst hx
    have hw := hs ((((List.range l).map fun i => DataW.lit (H := H) (.bool (B i))).length + ((List.range (c' - l)).map fun j => DataW.lit (H := H) (.bool (B (l + j)))).length) * Tryd.prog.bytesOf 4) (by
      simp only [Go.Deep.boolRow]
      unfold DataW.weights; rw [Tryd.underlying32]; exact List.mem_cons_self ..)
    simp only [List.length_map, List.length_range] at hw
    rw [Nat.add_sub_cancel' hl] at hw
    exact ⟨_, RdB.opened (H := H) hl hw hcell⟩
set_option maxRecDepth 100000 in
/-- a formula's two cells, and how long its list is at most -/
theorem form_of_trod_upto {H : Type} {enc : TypeId × Value → H} {W : World} {fuel : Nat} {c0 c1 : Value} {y : DataW H × List MemPlace}
    (h : DataW.trod enc Tryd.prog W 0 (fun _ => true) true fuel 24 [c0, c1] = some y) (hs : ∀ n ∈ y.1.weights Tryd.prog 24, n ≤ reachBytes) :
    ∃ n css, c0 = .int .i64 n ∧ (Lit.int .i64 n).wf = true ∧ Rds W c1 css ∧ css.length ≤ Rows.uptoBulk y.1 := by
  obtain ⟨n, css, rfl, hwf, hr⟩ := form_of_trod h hs
  refine ⟨n, css, rfl, hwf, hr, ?_⟩
  obtain ⟨y0, y1, m, hx, _, h0, h1⟩ := trod_struct2 Tryd.underlying24 h
  have h1' : DataW.trod enc Tryd.prog W 0 (fun _ => true) true m 22 [c1] = some y1 := h1
  obtain ⟨a, c, rfl, _⟩ := hr.form
  have hl : Joins.sliceLen y1.1 = css.length := Joins.sliceLen_trod (ps := y1.2) Tryd.underlying22 h1'
  subst hx
  have := bulk_slice y1.1
  simp only [Rows.uptoBulk, Rows.uptoBulkAll]
  omega
set_option maxRecDepth 100000 in
theorem args_open {H : Type} {enc : TypeId × Value → H} {W : World} {r : Reach} {b0 : Nat} {v : Value} {d : DataW H} {p : List MemPlace} (hv : Value.okWide Tryd.prog W r b0 36 v)
    (h : DataW.Trod enc Tryd.prog W 0 (fun _ => true) true 36 v d p) (hs : ∀ n ∈ d.weights Tryd.prog 36, n ≤ reachBytes) :
    ∃ n s css m t dss vp zs vb ms, v = .agg #[.int .i64 n, s, .int .i64 m, t, vp, vb] ∧ (Lit.int .i64 n).wf = true ∧ Rds W s css ∧ (Lit.int .i64 m).wf = true ∧ Rds W t dss ∧ Rd W vp zs ∧ RdB W vb ms ∧ css.length + dss.length ≤ Rows.uptoBulk d := by
  obtain ⟨cs, rfl, hsz⟩ := okWide_struct Tryd.underlying36 hv
  obtain ⟨c0, c1, c2, c3, c4, c5, rfl⟩ := array6 (hsz.trans (by kernel_rfl))
  obtain ⟨fuel, hf⟩ := h
  have hf' : DataW.trod enc Tryd.prog W 0 (fun _ => true) true fuel 36 [c0, c1, c2, c3, c4, c5] = some (d, p) := by simpa [Value.cells] using hf
  obtain ⟨y0, y1, y2, y3, m, hx, _, h0, h1, h2, h3⟩ := Joins.trod_struct4 Tryd.underlying36 hf'
  have hd : d = .agg [y0.1, y1.1, y2.1, y3.1] := congrArg Prod.fst hx
  subst hd
  have h0' : DataW.trod enc Tryd.prog W 0 (fun _ => true) true m 24 [c0, c1] = some y0 := h0
  have h1' : DataW.trod enc Tryd.prog W 0 (fun _ => true) true m 24 [c2, c3] = some y1 := h1
  have h2' : DataW.trod enc Tryd.prog W 0 (fun _ => true) true m 31 [c4] = some y2 := h2
  have h3' : DataW.trod enc Tryd.prog W 0 (fun _ => true) true m 32 [c5] = some y3 := h3
  have hw : ∀ (j : Nat) (t : TypeId) (x : DataW H), [24, 24, 31, 32][j]? = some t → [y0.1, y1.1, y2.1, y3.1][j]? = some x → ∀ k ∈ x.weights Tryd.prog t, k ≤ reachBytes := fun j t x ht hx k hk => hs k (by
    unfold DataW.weights; rw [Tryd.underlying36]
    exact DataW.weights_mem_each (j := j) (t := t) (d := x) ht hx k hk)
  obtain ⟨n0, css, rfl, w0, r0, l0⟩ := form_of_trod_upto h0' (hw 0 24 _ rfl rfl)
  obtain ⟨n1, dss, rfl, w1, r1, l1⟩ := form_of_trod_upto h1' (hw 1 24 _ rfl rfl)
  obtain ⟨zs, r2⟩ := rd_of_trod h2' (hw 2 31 _ rfl rfl)
  obtain ⟨ms, r3⟩ := rdB_of_trod h3' (hw 3 32 _ rfl rfl)
  refine ⟨n0, c1, css, n1, c3, dss, c4, zs, c5, ms, rfl, w0, r0, w1, r1, r2, r3, ?_⟩
  simp only [Rows.uptoBulk, Rows.uptoBulkAll]
  omega

end Go.Proofs.YtfklgfdkpmfdnaaDoor

/-
  From a row's reading of the struct of two formulas and two lists to what it reads, and how much it holds at most.
-/
import Derived.Test.YtijhabhbeambeaaDoorOpenW
set_option linter.unusedVariables false
set_option linter.unusedSimpArgs false
namespace Go.Proofs.YtijhabhbeambeaaDoor
open Go.RowKit Go.ChangeShapes Go.WideShapes Go.Deep

theorem array6k {α : Type} {cs : Array α} (h : cs.size = 6) : ∃ c0 c1 c2 c3 c4 c5, cs = #[c0, c1, c2, c3, c4, c5] := by
  obtain ⟨l⟩ := cs
  match l, h with
  | [c0, c1, c2, c3, c4, c5], _ => exact ⟨c0, c1, c2, c3, c4, c5, rfl⟩
/-- a list of ints in a cell -/
theorem rd_bulk {H : Type} {enc : TypeId × Value → H} {W : World} {fuel : Nat} {c : Value} {y : DataW H × List MemPlace}
    (h : DataW.trod enc Tryd.prog W 0 (fun _ => true) true fuel 25 [c] = some y) (hs : ∀ n ∈ y.1.weights Tryd.prog 25, n ≤ reachBytes) : ∃ zs, Rd W c zs ∧ zs.length ≤ Rows.uptoBulk y.1 := by
  rcases open_ints Tryd.underlying25 Tryd.underlying3 (by kernel_rfl) h with ⟨hcs, _⟩ | ⟨x, l, c', zs, hcs, _, hl, hm, hz, hx, hcell, hwz⟩
  · simp at hcs; subst hcs; exact ⟨[], Rd.nil _, Nat.zero_le _⟩
  · simp at hcs; subst hcs
    subst hx
    refine ⟨_, Rd.opened (H := H) hl hm (by simpa using hz) (hs _ ?_) hcell, ?_⟩
    · unfold DataW.weights; rw [Tryd.underlying25]; exact List.mem_cons_self ..
    · have h1 := bulk_len (lits (H := H) .i64 (zs.take l))
      simp only [Rows.uptoBulk]
      simp only [lits, List.length_map] at h1 ⊢
      omega
set_option maxRecDepth 100000 in
/-- a formula's two cells, and how much it holds at most -/
theorem form_of_trod_bulk {H : Type} {enc : TypeId × Value → H} {W : World} {fuel : Nat} {c0 c1 : Value} {y : DataW H × List MemPlace}
    (h : DataW.trod enc Tryd.prog W 0 (fun _ => true) true fuel 24 [c0, c1] = some y) (hs : ∀ n ∈ y.1.weights Tryd.prog 24, n ≤ reachBytes) :
    ∃ n css, c0 = .int .i64 n ∧ (Lit.int .i64 n).wf = true ∧ Rds W c1 css ∧ css.length + litsN css ≤ Rows.uptoBulk y.1 := by
  obtain ⟨y0, y1, m, hx, _, h0, h1⟩ := trod_struct2 Tryd.underlying24 h
  subst hx
  have h0' : DataW.trod enc Tryd.prog W 0 (fun _ => true) true m 3 [c0] = some y0 := h0
  have h1' : DataW.trod enc Tryd.prog W 0 (fun _ => true) true m 22 [c1] = some y1 := h1
  obtain ⟨n, hn, hy, hwf⟩ := DataW.trod_int Tryd.underlying3 h0'
  simp at hn
  subst hn
  obtain ⟨css, hr, hb⟩ := rds_bulk h1' (fun k hk => hs k (by
    unfold DataW.weights; rw [Tryd.underlying24]
    exact DataW.weights_mem_each (j := 1) (t := 22) (d := y1.1) rfl rfl k hk))
  refine ⟨n, css, rfl, hwf, hr, ?_⟩
  simp only [Rows.uptoBulk, Rows.uptoBulkAll]
  omega
set_option maxRecDepth 100000 in
theorem asked_open {H : Type} {enc : TypeId × Value → H} {W : World} {r : Reach} {b0 : Nat} {v : Value} {d : DataW H} {p : List MemPlace} (hv : Value.okWide Tryd.prog W r b0 33 v)
    (h : DataW.Trod enc Tryd.prog W 0 (fun _ => true) true 33 v d p) (hs : ∀ n ∈ d.weights Tryd.prog 33, n ≤ reachBytes) :
    ∃ n s css m t dss vf zs vo os, v = .agg #[.int .i64 n, s, .int .i64 m, t, vf, vo] ∧ Rds W s css ∧ Rds W t dss ∧ Rd W vf zs ∧ Rd W vo os ∧ css.length + litsN css + (dss.length + litsN dss) + zs.length ≤ Rows.uptoBulk d := by
  obtain ⟨cs, rfl, hsz⟩ := okWide_struct Tryd.underlying33 hv
  obtain ⟨c0, c1, c2, c3, c4, c5, rfl⟩ := array6k (hsz.trans (by kernel_rfl))
  obtain ⟨fuel, hf⟩ := h
  have hf' : DataW.trod enc Tryd.prog W 0 (fun _ => true) true fuel 33 [c0, c1, c2, c3, c4, c5] = some (d, p) := by simpa [Value.cells] using hf
  obtain ⟨y0, y1, y2, y3, m, hx, _, h0, h1, h2, h3⟩ := Joins.trod_struct4 Tryd.underlying33 hf'
  have hd : d = .agg [y0.1, y1.1, y2.1, y3.1] := congrArg Prod.fst hx
  subst hd
  have h0' : DataW.trod enc Tryd.prog W 0 (fun _ => true) true m 24 [c0, c1] = some y0 := h0
  have h1' : DataW.trod enc Tryd.prog W 0 (fun _ => true) true m 24 [c2, c3] = some y1 := h1
  have h2' : DataW.trod enc Tryd.prog W 0 (fun _ => true) true m 25 [c4] = some y2 := h2
  have h3' : DataW.trod enc Tryd.prog W 0 (fun _ => true) true m 25 [c5] = some y3 := h3
  have hw : ∀ (j : Nat) (t : TypeId) (x : DataW H), [24, 24, 25, 25][j]? = some t → [y0.1, y1.1, y2.1, y3.1][j]? = some x → ∀ k ∈ x.weights Tryd.prog t, k ≤ reachBytes := fun j t x ht hx k hk => hs k (by
    unfold DataW.weights; rw [Tryd.underlying33]
    exact DataW.weights_mem_each (j := j) (t := t) (d := x) ht hx k hk)
  obtain ⟨n0, css, rfl, w0, r0, l0⟩ := form_of_trod_bulk h0' (hw 0 24 _ rfl rfl)
  obtain ⟨n1, dss, rfl, w1, r1, l1⟩ := form_of_trod_bulk h1' (hw 1 24 _ rfl rfl)
  obtain ⟨zs, r2, l2⟩ := rd_bulk h2' (hw 2 25 _ rfl rfl)
  obtain ⟨os, r3, l3⟩ := rd_bulk h3' (hw 3 25 _ rfl rfl)
  refine ⟨n0, c1, css, n1, c3, dss, c4, zs, c5, os, rfl, r0, r1, r2, r3, ?_⟩
  simp only [Rows.uptoBulk, Rows.uptoBulkAll]
  omega

end Go.Proofs.YtijhabhbeambeaaDoor

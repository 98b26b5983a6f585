/-
  From a row's reading of the struct of two trails and two lists to what it reads, and how much it holds at most.
  KEEP: len below nil form rd mono rde
-/
import Derived.Test.YtgngdohhlhlcpaaOpenE
import Derived.Test.YtgngdohhlhlcpaaOpenW
set_option linter.unusedVariables false
set_option linter.unusedSimpArgs false
namespace Go.Proofs.Ytgngdohhlhlcpaa
open Go.RowKit Go.ChangeShapes Go.WideShapes Go.Deep

theorem array4e {α : Type} {cs : Array α} (h : cs.size = 4) : ∃ c0 c1 c2 c3, cs = #[c0, c1, c2, c3] := by
  obtain ⟨l⟩ := cs
  match l, h with
  | [c0, c1, c2, c3], _ => exact ⟨c0, c1, c2, c3, rfl⟩
/-- a list of ints in a cell -/
theorem rd_bulk15 {H : Type} {enc : TypeId × Value → H} {W : World} {fuel : Nat} {c : Value} {y : DataW H × List MemPlace}
    (h : DataW.trod enc Try.prog W 0 (fun _ => true) true fuel 23 [c] = some y) (hs : ∀ n ∈ y.1.weights Try.prog 23, n ≤ reachBytes) : ∃ zs, Rd W c zs ∧ zs.length ≤ Rows.uptoBulk y.1 := by
  rcases open_ints Try.underlying23 Try.underlying3 (by kernel_rfl) h with ⟨hcs, _⟩ | ⟨x, l, c', zs, hcs, _, hl, hm, hz, hx, hcell, hwz⟩
  · simp at hcs; subst hcs; exact ⟨[], Rd.nil _, Nat.zero_le _⟩
  · simp at hcs; subst hcs
    subst hx
    refine ⟨_, Rd.opened (H := H) hl hm (by simpa using hz) (hs _ ?_) hcell, ?_⟩
    · unfold DataW.weights; rw [Try.underlying23]; exact List.mem_cons_self ..
    · have h1 := bulk_len (lits (H := H) .i64 (zs.take l))
      simp only [Rows.uptoBulk]
      simp only [lits, List.length_map] at h1 ⊢
      omega
/-- a trail in a cell -/
theorem ents_bulk {H : Type} {enc : TypeId × Value → H} {W : World} {fuel : Nat} {c : Value} {y : DataW H × List MemPlace}
    (h : DataW.trod enc Try.prog W 0 (fun _ => true) true fuel 22 [c] = some y) (hs : ∀ n ∈ y.1.weights Try.prog 22, n ≤ reachBytes) : ∃ l, RdE W c l ∧ l.length ≤ Rows.uptoBulk y.1 := by
  obtain ⟨l, hr, hb⟩ := rows_of_trod Try.underlying22 (n := 3) (by kernel_rfl) (by omega) (ElE W) (fun x => x.2.2.length) ent_of_trod h hs
  obtain ⟨a, cap, e, _⟩ := id hr
  subst e
  have hl := len_of_trod15 Try.underlying22 h hs
  rw [bytesE15] at hl
  exact ⟨l, rdE_of hr (by simpa [reachBytes] using hl), by omega⟩
set_option maxRecDepth 100000 in
theorem asked15_open {H : Type} {enc : TypeId × Value → H} {W : World} {r : Reach} {b0 : Nat} {v : Value} {d : DataW H} {p : List MemPlace} (hv : Value.okWide Try.prog W r b0 25 v)
    (h : DataW.Trod enc Try.prog W 0 (fun _ => true) true 25 v d p) (hs : ∀ n ∈ d.weights Try.prog 25, n ≤ reachBytes) :
    ∃ vt t vu us vc zs vd ds, v = .agg #[vt, vu, vc, vd] ∧ RdE W vt t ∧ RdE W vu us ∧ Rd W vc zs ∧ Rd W vd ds ∧ t.length + zs.length ≤ Rows.uptoBulk d := by
  obtain ⟨cs, rfl, hsz⟩ := okWide_struct Try.underlying25 hv
  obtain ⟨c0, c1, c2, c3, rfl⟩ := array4e (hsz.trans (by kernel_rfl))
  obtain ⟨fuel, hf⟩ := h
  have hf' : DataW.trod enc Try.prog W 0 (fun _ => true) true fuel 25 [c0, c1, c2, c3] = some (d, p) := by simpa [Value.cells] using hf
  obtain ⟨y0, y1, y2, y3, m, hx, _, h0, h1, h2, h3⟩ := Joins.trod_struct4 Try.underlying25 hf'
  have hd : d = .agg [y0.1, y1.1, y2.1, y3.1] := congrArg Prod.fst hx
  subst hd
  have h0' : DataW.trod enc Try.prog W 0 (fun _ => true) true m 22 [c0] = some y0 := h0
  have h1' : DataW.trod enc Try.prog W 0 (fun _ => true) true m 22 [c1] = some y1 := h1
  have h2' : DataW.trod enc Try.prog W 0 (fun _ => true) true m 23 [c2] = some y2 := h2
  have h3' : DataW.trod enc Try.prog W 0 (fun _ => true) true m 23 [c3] = some y3 := h3
  have hw : ∀ (j : Nat) (t : TypeId) (x : DataW H), [22, 22, 23, 23][j]? = some t → [y0.1, y1.1, y2.1, y3.1][j]? = some x → ∀ k ∈ x.weights Try.prog t, k ≤ reachBytes := fun j t x ht hx k hk => hs k (by
    unfold DataW.weights; rw [Try.underlying25]
    exact DataW.weights_mem_each (j := j) (t := t) (d := x) ht hx k hk)
  obtain ⟨t, r0, l0⟩ := ents_bulk h0' (hw 0 22 _ rfl rfl)
  obtain ⟨us, r1, l1⟩ := ents_bulk h1' (hw 1 22 _ rfl rfl)
  obtain ⟨zs, r2, l2⟩ := rd_bulk15 h2' (hw 2 23 _ rfl rfl)
  obtain ⟨ds, r3, l3⟩ := rd_bulk15 h3' (hw 3 23 _ rfl rfl)
  refine ⟨c0, t, c1, us, c2, zs, c3, ds, rfl, r0, r1, r2, r3, ?_⟩
  simp only [Rows.uptoBulk, Rows.uptoBulkAll]
  omega
end Go.Proofs.Ytgngdohhlhlcpaa

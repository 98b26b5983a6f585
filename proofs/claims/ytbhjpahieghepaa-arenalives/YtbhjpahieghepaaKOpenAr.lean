/-
  From a row's reading of a script to what it reads, every number an int.
  KEEP: set on app at below new trans refl start ap kept rd rds mono own row cells lt box lo ml ms c0 f0 form max find eq ma some none more map keep mv c kill kst book opened walk
-/
import Derived.Test.YtbhjpahieghepaaKOpenO
import Derived.Test.YtbhjpahieghepaaJArK
set_option linter.unusedVariables false
set_option linter.unusedSimpArgs false
namespace Go.Proofs.Ytbhjpahieghepaa
open Go.RowKit Go.ChangeShapes Go.WideShapes Go.Deep

theorem ints_rng {H : Type} {enc : TypeId × Value → H} {W : World} {fuel : Nat} {c : Value} {y : DataW H × List MemPlace}
    (h : DataW.trod enc Try.prog W 0 (fun _ => true) true fuel 32 [c] = some y) (hs : ∀ n ∈ y.1.weights Try.prog 32, n ≤ reachBytes) : ∃ zs, Rd W c zs ∧ zs.length ≤ Rows.uptoBulk y.1 ∧ ∀ x ∈ zs, Rng x := by
  rcases open_ints Try.underlying32 Try.underlying3 (by kernel_rfl) h with ⟨hcs, _⟩ | ⟨x, l, c', zs, hcs, _, hl, hm, hz, hx, hcell, hwz⟩
  · simp at hcs; subst hcs; exact ⟨[], Rd.nil _, by simp, by simp⟩
  · simp at hcs; subst hcs
    subst hx
    refine ⟨_, Rd.opened (H := H) hl hm (by simpa using hz) (hs _ ?_) hcell, ?_, fun n hn => wf_rng (hwz n (List.mem_of_mem_take hn))⟩
    · unfold DataW.weights; rw [Try.underlying32]; exact List.mem_cons_self ..
    · have := bulk_len (lits (H := H) .i64 (zs.take l))
      simp only [Rows.uptoBulk]
      simp [lits] at this ⊢
      omega
def ElR (W : World) (cs : List Value) (o : AOp) : Prop := ElO W cs o ∧ ∀ x ∈ o.lits, Rng x
set_option maxRecDepth 100000 in
theorem op_rng {H : Type} {enc : TypeId × Value → H} {W : World} (m : Nat) (cs : List Value) (y : DataW H × List MemPlace) (h : DataW.trod enc Try.prog W 0 (fun _ => true) true m 34 cs = some y)
    (hs : ∀ k ∈ y.1.weights Try.prog 34, k ≤ reachBytes) : ∃ o : AOp, ElR W cs o ∧ o.lits.length + 1 ≤ Rows.uptoBulk y.1 := by
  obtain ⟨y0, y1, y2, y3, y4, n, hx, hl, h0, h1, h2, h3, h4⟩ := trod_struct5 Try.underlying34 h
  have hl5 : cs.length = 5 := hl.trans (by kernel_rfl)
  match cs, hl5 with
  | [c0, c1, c2, c3, c4], _ =>
    have h0' : DataW.trod enc Try.prog W 0 (fun _ => true) true n 3 [c0] = some y0 := h0
    have h1' : DataW.trod enc Try.prog W 0 (fun _ => true) true n 3 [c1] = some y1 := h1
    have h2' : DataW.trod enc Try.prog W 0 (fun _ => true) true n 3 [c2] = some y2 := h2
    have h3' : DataW.trod enc Try.prog W 0 (fun _ => true) true n 32 [c3] = some y3 := h3
    have h4' : DataW.trod enc Try.prog W 0 (fun _ => true) true n 4 [c4] = some y4 := h4
    obtain ⟨k, rfl, _⟩ := int_lit_of_trod h0'
    obtain ⟨wh, rfl, _⟩ := int_lit_of_trod h1'
    obtain ⟨r, rfl, wr⟩ := int_lit_of_trod h2'
    obtain ⟨b, rfl⟩ := bool_of_trod h4'
    obtain ⟨zs, hr, hz, hg⟩ := ints_rng h3' (fun k hk => hs k (by
      rw [hx]
      unfold DataW.weights; rw [Try.underlying34]
      exact DataW.weights_mem_each (j := 3) (t := 32) (d := y3.1) rfl rfl k hk))
    refine ⟨⟨k, wh, r, zs, b⟩, ⟨⟨c3, rfl, hr, wr⟩, hg⟩, ?_⟩
    rw [hx]
    simp only [Rows.uptoBulk, Rows.uptoBulkAll]
    show zs.length + 1 ≤ _
    omega
set_option maxRecDepth 100000 in
/-- a script, and what it costs at most -/
theorem ops_rng {H : Type} {enc : TypeId × Value → H} {W : World} {r : Reach} {b0 : Nat} {v : Value} {d : DataW H} {p : List MemPlace} (hv : Value.okWide Try.prog W r b0 22 v)
    (h : DataW.Trod enc Try.prog W 0 (fun _ => true) true 22 v d p) (hs : ∀ n ∈ d.weights Try.prog 22, n ≤ reachBytes) :
    ∃ ops, RdO W v ops ∧ cost ops ≤ Rows.uptoBulk d ∧ ∀ o ∈ ops, ∀ x ∈ o.lits, Rng x := by
  obtain ⟨a, l, c, rfl⟩ := okWide_slice Try.underlying22 hv
  obtain ⟨fuel, hf⟩ := h
  have hf' : DataW.trod enc Try.prog W 0 (fun _ => true) true fuel 22 [.slice a l c] = some (d, p) := by simpa [Value.cells] using hf
  obtain ⟨ops, hr, hb⟩ := rows_of_trod Try.underlying22 (n := 5) (by kernel_rfl) (by omega) (ElR W) (fun o => o.lits.length) op_rng hf' hs
  obtain ⟨a', cap, e, h1, h2, h3⟩ := hr
  refine ⟨ops, rdO_of ⟨a', cap, e, h1, h2, fun j hj => ?_⟩, ?_, fun o ho => ?_⟩
  · obtain ⟨b, off, cs, ea, hb', hl', hc, hE⟩ := h3 j hj
    exact ⟨b, off, cs, ea, hb', hl', hc, hE.1⟩
  · have : ∀ l : List AOp, cost l = l.length + (l.map (fun o => o.lits.length)).sum := by
      intro l
      induction l with
      | nil => rfl
      | cons x r ih => simp only [cost, List.map_cons, List.sum_cons, List.length_cons] at ih ⊢; omega
    rw [this]; exact hb
  · obtain ⟨j, hj, rfl⟩ := List.getElem_of_mem ho
    obtain ⟨b, off, cs, ea, hb', hl', hc, hE⟩ := h3 j hj
    exact hE.2
end Go.Proofs.Ytbhjpahieghepaa

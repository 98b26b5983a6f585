/-
  How long a formula's list of clauses can be, where its reading is of small bulk.
-/
import Derived.Test.YtlkbbbbclmffjaaGreatDoorRows
import Derived.Test.YtlkbbbbclmffjaaGreatDoorKOpenF
import Derived.Lib.SmallJoins
set_option linter.unusedVariables false
set_option linter.unusedSimpArgs false
namespace Go.Proofs.YtlkbbbbclmffjaaGreatDoor
open Go.RowKit Go.ChangeShapes Go.WideShapes Go.Deep

theorem bulk_pos {H : Type} (d : DataW H) : 1 ≤ Rows.uptoBulk d := by
  cases d <;> (try simp [Rows.uptoBulk])
  rename_i l
  cases l <;> simp [Rows.uptoBulk]
theorem bulk_len {H : Type} : ∀ l : List (DataW H), l.length ≤ Rows.uptoBulkAll l
  | [] => Nat.zero_le _
  | d :: r => by
    have := bulk_len r
    have := bulk_pos d
    simp only [Rows.uptoBulkAll, List.length_cons]; omega
theorem bulk_slice {H : Type} (d : DataW H) : Joins.sliceLen d ≤ Rows.uptoBulk d := by
  cases d <;> (try simp [Joins.sliceLen])
  rename_i es sp
  have := bulk_len es
  simp only [Rows.uptoBulk]; omega

set_option maxRecDepth 100000 in
/-- a formula by value, and how long its list is at most -/
theorem form_open_upto {H : Type} {enc : TypeId × Value → H} {W : World} {r : Reach} {b0 : Nat} {v : Value} {d : DataW H} {p : List MemPlace} (hv : Value.okWide Tryz.prog W r b0 24 v)
    (h : DataW.Trod enc Tryz.prog W 0 (fun _ => true) true 24 v d p) (hs : ∀ n ∈ d.weights Tryz.prog 24, n ≤ reachBytes) :
    ∃ n s css, v = .agg #[.int .i64 n, s] ∧ (Lit.int .i64 n).wf = true ∧ Rds W s css ∧ css.length ≤ Rows.uptoBulk d := by
  obtain ⟨n, s, css, rfl, hwf, hr⟩ := form_open hv h hs
  refine ⟨n, s, css, rfl, hwf, hr, ?_⟩
  obtain ⟨fuel, hf⟩ := h
  have hf' : DataW.trod enc Tryz.prog W 0 (fun _ => true) true fuel 24 [.int .i64 n, s] = some (d, p) := by simpa [Value.cells] using hf
  obtain ⟨y0, y1, m, hx, _, h0, h1⟩ := trod_struct2 Tryz.underlying24 hf'
  have h1' : DataW.trod enc Tryz.prog W 0 (fun _ => true) true m 22 [s] = some y1 := h1
  obtain ⟨a, c, rfl, _⟩ := hr.form
  have hl : Joins.sliceLen y1.1 = css.length := Joins.sliceLen_trod (ps := y1.2) Tryz.underlying22 h1'
  have hd : d = .agg [y0.1, y1.1] := congrArg Prod.fst hx
  subst hd
  have := bulk_slice y1.1
  simp only [Rows.uptoBulk, Rows.uptoBulkAll]
  omega

end Go.Proofs.YtlkbbbbclmffjaaGreatDoor

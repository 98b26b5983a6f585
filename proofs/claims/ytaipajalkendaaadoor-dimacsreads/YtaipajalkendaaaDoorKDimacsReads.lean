/-
  DimacsReads, walked.
  KEEP: set on app at below new trans refl start ap kept rd rds mono nil form grown rdz out len row own
-/
import Derived.Test.YtaipajalkendaaaDoorKDmR
import Derived.Test.YtaipajalkendaaaDoorShaped
set_option linter.unusedSimpArgs false
set_option linter.unusedVariables false
namespace Go.Proofs.YtaipajalkendaaaDoor
open Go Go.RowKit

/-- what is read is no longer than the text -/
theorem eatF_len : ∀ (n : Int) (ws : List Wrd) (op : List Int) (all : List (List Int)), (eat n ws op all).1.length ≤ all.length + ws.length ∧ (∀ B : Nat, op.length + ws.length ≤ B → (∀ x ∈ all, x.length ≤ B) → ∀ x ∈ (eat n ws op all).1, x.length ≤ B)
  | n, [], op, all => ⟨by simp [eat], fun B _ h x hx => h x (by simpa [eat] using hx)⟩
  | n, (w, k) :: r, op, all => by
    cases hw : numW w with
    | none => rw [eat_none hw]; exact ⟨by simp, fun B _ h => h⟩
    | some z =>
      by_cases hz : z = 0
      · subst hz
        rw [eat_zero hw]
        obtain ⟨h1, h2⟩ := eatF_len n r [] (all ++ [op])
        simp only [List.length_append, List.length_cons, List.length_nil] at h1 ⊢
        exact ⟨by omega, fun B hB h => h2 B (by simp; omega) (fun x hx => by
          rcases List.mem_append.1 hx with hx | hx
          · exact h x hx
          · obtain rfl : x = op := by simpa using hx
            omega)⟩
      · cases hf : (!fmd z || decide (n < varOf z)) with
        | true => rw [eat_bad hw hz hf]; exact ⟨by simp, fun B _ h => h⟩
        | false =>
          rw [eat_lit hw hz hf]
          obtain ⟨h1, h2⟩ := eatF_len n r (op ++ [z]) all
          simp only [List.length_append, List.length_cons, List.length_nil] at h1 h2 ⊢
          exact ⟨by omega, fun B hB h => h2 B (by omega) h⟩
theorem spk_len : ∀ (ls : List (List UInt8)) (k : Nat), (spoken k ls).length ≤ lenS ls
  | [], k => by simp [spoken, lenS]
  | l :: r, k => by
    rw [spoken, lenS_cons, List.length_append]
    have h1 := spk_len r (k + 1)
    have h2 : (wordsOf l).length ≤ l.length := by rw [← wds_words]; have := wds_len l []; simpa using this
    split
    · simp; omega
    · simp; omega
theorem rdF_len (s : List UInt8) : (rdF s).cls.length ≤ s.length ∧ ∀ x ∈ (rdF s).cls, x.length ≤ s.length := by
  have none : ([] : List (List Int)).length ≤ s.length ∧ ∀ x ∈ ([] : List (List Int)), x.length ≤ s.length := ⟨by simp, fun x hx => by cases hx⟩
  cases hnx : nxt 1 (linesOf s) with
  | none => rw [rdF_bad1 hnx]; exact none
  | some y =>
    obtain ⟨ln, k, r⟩ := y
    cases hh : headW (wordsOf ln) with
    | none => unfold rdF; rw [hnx]; simp only [hh]; exact none
    | some vc =>
      obtain ⟨v, c⟩ := vc
      rw [rdF_head hnx hh]
      have h1 := eatF_len v (spoken (k + 1) r) [] []
      have h2 := (nxt_some hnx).1
      have h3 := spk_len (linesOf s) 1
      have h4 := lns_sum s []
      rw [lns_lines _ _ (Nat.le_refl _)] at h4
      rw [h2, List.length_append] at h3
      simp only [List.length_nil, Nat.add_zero, Nat.zero_add] at h1 h4
      generalize eat v (spoken (k + 1) r) [] [] = EE at *
      obtain ⟨all, op, o⟩ := EE
      cases o with
      | some ej => obtain ⟨e, j⟩ := ej; exact none
      | none =>
        simp only [finF]
        split
        · exact none
        · split
          · exact none
          · exact ⟨by have := h1.1; dsimp only at this ⊢; omega, fun x hx => h1.2 s.length (by omega) (fun x hx => by cases hx) x hx⟩

namespace dimacsReads
set_option maxHeartbeats 3200000 in
set_option maxRecDepth 100000 in
theorem walk (s : ByteArray) (w : World) (hs0 : s.data.toList.length ≤ 1048576) :
    Calls Tryd.prog 3 #[.string s] w fun e w' => e = .returned (.bool true) ∧ RowKit.Below w.heap.size w w' := by
  have hs : s.size ≤ 1048576 := by rw [← ba_len]; exact hs0
  have HR1 : Hid (∀ W : World, Calls Tryd.prog 8 #[.string s] W fun e w' => RdS W (rdF s.data.toList) e w') := fun W => dimRead_any s W (by omega) (fun x _ => x.toNat_lt)
  have HR2 : Hid (∀ W : World, Calls Tryd.prog 9 #[.string s] W fun e w' => RdS W (rdF s.data.toList) e w') := fun W => rDimRead_any s W (by omega)
  have hl := rdF_len s.data.toList
  have HLn : Hid ((rdF s.data.toList).cls.length ≤ 1048576 ∧ ∀ x ∈ (rdF s.data.toList).cls, x.length ≤ 1048576) := ⟨by omega, fun x hx => by have := hl.2 x hx; omega⟩
  clear hl hs0
  generalize rdF s.data.toList = A at *
  obtain ⟨n, css, E, P⟩ := A
  dsimp only at *
  go_enter Tryd.func3, Tryd.ntmps3
  go_wp2_with fail
  refine (HR1.out w).mono ?_
  rintro e w1 ⟨s1, rfl, own1, bel1⟩
  dsimp only at own1 ⊢
  have R1 : Hid (Rds w1 s1 css) := own1.rds (by have := HLn.out.1; omega) (fun x hx => by have := HLn.out.2 x hx; omega)
  obtain ⟨a1, c1, hs1, _⟩ := R1.out.form
  subst hs1
  have X1 : Hid (Bx w1 n (.slice a1 css.length c1) css (w1.alloc (.cells #[.int .i64 n, .slice a1 css.length c1] 24))) := Bx.new R1.out _
  have B1 : Hid (RowKit.Below w.heap.size w (w1.alloc (.cells #[.int .i64 n, .slice a1 css.length c1] 24))) := bel1.alloc bel1.size _
  clear own1 bel1 R1
  go_wp2_with fail
  generalize w1.alloc (.cells #[.int .i64 n, .slice a1 css.length c1] 24) = V1 at *
  refine (HR2.out V1).mono ?_
  rintro e w2 ⟨s2, rfl, own2, bel2⟩
  dsimp only at own2 ⊢
  have R2 : Hid (Rds w2 s2 css) := own2.rds (by have := HLn.out.1; omega) (fun x hx => by have := HLn.out.2 x hx; omega)
  obtain ⟨a2, c2, hs2, _⟩ := R2.out.form
  subst hs2
  have X2 : Hid (Bx w2 n (.slice a2 css.length c2) css (w2.alloc (.cells #[.int .i64 n, .slice a2 css.length c2] 24))) := Bx.new R2.out _
  have X1b : Hid (Bx w1 n (.slice a1 css.length c1) css (w2.alloc (.cells #[.int .i64 n, .slice a2 css.length c2] 24))) := (X1.out.on bel2).on (below_box _ _)
  have B2 : Hid (RowKit.Below w.heap.size w (w2.alloc (.cells #[.int .i64 n, .slice a2 css.length c2] 24))) := (B1.out.trans (bel2.mono B1.out.size)).alloc (Nat.le_trans B1.out.size bel2.size) _
  clear own2 bel2 R2 X1 B1
  have k0 := X1b.out.c0
  have k1 := X1b.out.c1
  have j0 := X2.out.c0
  have j1 := X2.out.c1
  have hE : (E == E) = true := beq_self_eq_true _
  have hP : ((P : Int) == (P : Int)) = true := beq_self_eq_true _
  have HSm : Hid (Calls Tryd.prog 10 #[.agg #[.int .i64 n, .slice a1 css.length c1], .agg #[.int .i64 n, .slice a2 css.length c2]] (w2.alloc (.cells #[.int .i64 n, .slice a2 css.length c2] 24)) fun e w' => e = .returned (.bool true) ∧ RowKit.Below (w2.alloc (.cells #[.int .i64 n, .slice a2 css.length c2] 24)).heap.size (w2.alloc (.cells #[.int .i64 n, .slice a2 css.length c2] 24)) w') := sameFormula_self n _ _ css _ X1b.out.rd X2.out.rd
  have HOne : Hid (∀ W : World, Calls Tryd.prog 11 #[] W fun e w' => e = .returned (.bool true) ∧ RowKit.Below W.heap.size W w') := fun W => readsOne_any W
  go_wp2_with (first
    | (go_at_call 10; refine HSm.out.mono ?_; rintro e w3 ⟨rfl, bel3⟩)
    | (go_at_call 11; refine (HOne.out _).mono ?_; rintro e w4 ⟨rfl, bel4⟩))
  go_ret
  exact ⟨rfl, Below.step (Below.step B2.out bel3) bel4⟩
end dimacsReads
end Go.Proofs.YtaipajalkendaaaDoor

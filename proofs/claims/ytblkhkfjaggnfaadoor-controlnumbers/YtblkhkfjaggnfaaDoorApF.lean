/-
  append of fields that are read onto nothing: a row of the call's own.
  KEEP: len below nil form rd mono rdz on app start at new trans refl kept own row ap out step each grown block
-/
import Derived.Test.YtblkhkfjaggnfaaDoorCtQ
import Derived.Test.YtblkhkfjaggnfaaDoorCtR
set_option linter.unusedSimpArgs false
set_option linter.unusedVariables false
namespace Go.Proofs.YtblkhkfjaggnfaaDoor
open Go Go.RowKit

theorem run_append_nil21 {P : Program} (w : World) (t ty e : TypeId) (i : TypeInfo) (c : Nat) (ht : P.underlying t = some (.slice e)) (hi : P.info? e = some i) :
    (Builtin.append_ #[t, t] ty #[.slice none 0 0, .slice none 0 c]).run P w = .ok (.slice none 0 0) w := by
  simp [Builtin.append_, run_underlying ht, sizeOf, typeInfo, hi, Builtin.lenOf, Builtin.firstCells]
theorem below_of_grown {w w' : World} (h : w.grownBy w' none) : Below w.heap.size w w' := ⟨h.os, h.tape, h.output, h.size, fun k hk => h.block k hk (by simp)⟩
/-- append of fields that are read onto nothing -/
theorem run_append_f (w : World) (ty : TypeId) (xv : Value) (fs : List Fld) (hr : RdG w xv fs) :
    ∃ v' w', (Builtin.append_ #[33, 33] ty #[.slice none 0 0, xv]).run Tryd.prog w = .ok v' w' ∧ OwnG w.heap.size w' v' fs ∧ Below w.heap.size w w' := by
  obtain ⟨il, hil, hzl0, hzl1, hzl2⟩ := info_parts infoG
  obtain ⟨h32, he, ad, c, rfl, hc, hm, h2⟩ := hr
  cases ad with
  | none =>
    have hl0 : fs = [] := by
      rcases Classical.em (fs = []) with h | h
      · exact h
      · obtain ⟨b, off, e, _⟩ := h2 h; cases e
    subst hl0
    exact ⟨_, _, run_append_nil21 (P := Tryd.prog) w 33 ty 37 il c Tryd.underlying33 hil, OwnG.nil _ _, Below.refl _ _⟩
  | some ad =>
    have hnews : ∀ j u, (fldC fs)[j]? = some u → w.cell? (ad.add j) = some u := by
      rcases Classical.em (fs = []) with h0 | h0
      · subst h0; intro j u hu; simp [fldC] at hu
      · obtain ⟨b, off, e, hb, hcell⟩ := h2 h0
        obtain rfl : ad = ⟨b, off, none⟩ := by simpa using e
        intro j u hu
        have hj : j < fs.length * 2 := by
          have := (List.getElem?_eq_some_iff.1 hu).1
          rwa [fldC_len] at this
        obtain ⟨e1, e2⟩ := fldC_at fs (j / 2) (by omega)
        obtain ⟨c1, c2⟩ := hcell (j / 2) (by omega)
        rw [Addr.add_lit]
        rcases Nat.mod_two_eq_zero_or_one j with hm2 | hm2
        · have ej : j / 2 * 2 = j := by omega
          rw [ej] at e1 c1
          rw [e1] at hu
          rw [c1]; exact hu
        · have ej : j / 2 * 2 + 1 = j := by omega
          rw [ej] at e2
          have ej2 : off + j / 2 * 2 + 1 = off + j := by omega
          rw [ej2] at c2
          rw [e2] at hu
          rw [c2]; exact hu
    have hone : ∀ u ∈ fldC fs, u.oneCell' = true := fun u hu => by
      unfold fldC at hu
      obtain ⟨x, hx, hu⟩ := List.mem_flatMap.1 hu
      simp at hu
      rcases hu with rfl | rfl <;> rfl
    obtain ⟨v', w', hrun, q1, q2, _⟩ := run_append_own (P := Tryd.prog) w w.heap.size 33 ty 37 il (.agg #[.string ⟨#[]⟩, .string ⟨#[]⟩]) 2 32 Tryd.underlying33 hil hzl0 hzl1 hzl2 rfl (by decide) (.slice none 0 0) 0 [] (World.ownsRow_nil _ _ _ _) ad fs.length c (fldC fs) (fldC_len fs) hnews hone (by unfold maxLen; omega) (by omega) (Nat.le_refl _)
    refine ⟨v', w', hrun, ?_, below_of_grown q2⟩
    unfold OwnG
    simpa using q1
theorem own_form21 {B : Nat} {W : World} {v : Value} {fs : List Fld} (h : OwnG B W v fs) : ∃ a c, v = .slice a fs.length c := by
  rcases h.2 with ⟨e, hn⟩ | ⟨g, cap, cur, e, _⟩
  · exact ⟨none, 0, by rw [e, hn]⟩
  · exact ⟨_, _, e⟩
theorem step_append_f {ops : Array Oper} {o : Oper} {a : Act} {w : World} {K : Act → World → Prop} {Q : Exit → Act → World → Prop} {E : Prop} (hg : o.guard = none) (s x : Operand)
    (hop : o.op = .call { callee := .builtin .append, args := #[s, x], argTypes := #[33, 33] }) (hs : a.eval s = .slice none 0 0)
    (xv : Value) (fs : List Fld) (hx : a.eval x = xv) (hr : RdG w xv fs)
    (hK : ∀ a' c' w', OwnG w.heap.size w' (.slice a' fs.length c') fs → Below w.heap.size w w' → K (a.put o.dst (.slice a' fs.length c')) w') :
    if Region.wanted o (yielded ops a.tmps) = true then Oper.wp Tryd.prog o a w K Q else E := by
  have hw : Region.wanted o (yielded ops a.tmps) = true := by simp [Region.wanted, hg]
  rw [if_pos hw]
  obtain ⟨v', w', hrun, r1, r2⟩ := run_append_f w o.type xv fs hr
  obtain ⟨a', c', rfl⟩ := own_form21 r1
  unfold Oper.wp
  simp [execOp, hop, resolve, invoke, builtin, hs, hx, hrun, Result.andThen]
  exact hK _ _ _ r1 r2
/-- a row of stanzas of one's own is read -/
theorem OwnSt.rd {B : Nat} {W : World} {v : Value} {L : List SG} (h : OwnSt B W v L) (h32 : L.length * 32 ≤ 140737488351232) (hf : ∀ x ∈ L, x.2.2.length * 32 ≤ 140737488351232 ∧ ∀ f ∈ x.2.2, f.1.length ≤ 281474976710656 ∧ f.2.length ≤ 281474976710656) : RdSt W v (sgS L) := by
  have sl : (sgS L).length = L.length := by simp [sgS]
  have hR : ∀ x ∈ L, RdG W x.2.1 x.2.2 := fun x hx => (h.own x hx).rd (hf x hx).1 (hf x hx).2
  rcases h.row.2 with ⟨rfl, hn⟩ | ⟨g, cap, cur, hv, hg, hh, hn, hm, hs, ht⟩
  · have : L = [] := List.length_eq_zero_iff.1 hn
    subst this; exact RdSt.nil W
  · subst hv
    refine ⟨by rw [sl]; exact h32, _, cap, by rw [sl], by rw [sl]; exact hn, hm, fun _ => ⟨g, 0, rfl, (Array.getElem?_eq_some_iff.1 hh).1, fun j hj => ?_⟩⟩
    have hj' : j < L.length := by rw [sl] at hj; exact hj
    have hsz := sgC_len L
    have e : (sgS L).getD j (0, []) = (L[j].1, L[j].2.2) := by simp [sgS, List.getD_eq_getElem?_getD, hj']
    have key : ∀ (M : List SG) (i : Nat) (hi : i < M.length), (sgC M)[i * 2]? = some (.int .i64 M[i].1) ∧ (sgC M)[i * 2 + 1]? = some M[i].2.1 := by
      intro M
      induction M with
      | nil => intro i hi; simp at hi
      | cons x r ih =>
        intro i hi
        have ec : sgC (x :: r) = .int .i64 x.1 :: x.2.1 :: sgC r := rfl
        rw [ec]
        cases i with
        | zero => exact ⟨rfl, rfl⟩
        | succ i =>
          have := ih i (by simpa using hi)
          rw [show (i + 1) * 2 = i * 2 + 1 + 1 by omega, show i * 2 + 1 + 1 + 1 = (i * 2 + 1) + 1 + 1 by omega]
          simpa using this
    obtain ⟨e1, e2⟩ := key L j hj'
    rw [e]
    refine ⟨L[j].2.1, ?_, ?_, hR _ (List.getElem_mem hj')⟩
    · rw [Nat.zero_add, World.ownsRow.cellAt h.row _ (by omega), e1]
    · rw [Nat.zero_add, World.ownsRow.cellAt h.row _ (by omega), e2]

end Go.Proofs.YtblkhkfjaggnfaaDoor

/-
  The document's Parse, in plain words: what is told of a text word by word, and its sizes.
  KEEP: nil below form mono app grown rdz
-/
import Derived.Test.YtaipajalkendaaaDoorRdX
set_option linter.unusedSimpArgs false
set_option linter.unusedVariables false
namespace Go.Proofs.YtaipajalkendaaaDoor
open Go.RowKit

/-- what is answered: the steps so far, and what is told of the tokens left -/
def finP (n : Nat) (acc : List Stp) (r : List Stp × Option Nat × RSt) : List Stp × Nat :=
  (acc ++ r.1, match r.2.1 with | some k => k | none => if r.2.2.op then n + 1 else 0)
theorem par_finP (s : List UInt8) : finP (lnsF s []).length [] (eatD (toks 1 (lnsF s [])) st0) = parD s := by
  rw [par_lines]; rfl
/-- the tokens of the line's words from a place on, and of the lines behind it -/
def tokR (k : Nat) (ws : List (List UInt8)) (ls : List (List UInt8)) : List Tok := ws.map (fun w => (some w, k)) ++ toks (k + 1) ls
theorem getD_drop {α : Type} (L : List α) (d : α) {k : Nat} (h : k < L.length) : L.drop k = L.getD k d :: L.drop (k + 1) := by
  rw [List.drop_eq_getElem_cons h, List.getD_eq_getElem?_getD, List.getElem?_eq_getElem h]; rfl
theorem fin_rem {n k : Nat} {acc : List Stp} {st : RSt} {ls : List (List UInt8)} {ln : List UInt8} {r : List (List UInt8)} (hL : ls = ln :: r) (h : ln.head? = some 99) (hp : ln.all plB = true) : finP n acc (eatD (toks k ls) st) = finP n acc (eatD (toks (k + 1) r) st) := by
  subst hL; rw [toks, tokL, if_pos h, if_pos hp]; rfl
theorem fin_bad {n k : Nat} {acc : List Stp} {st : RSt} {ls : List (List UInt8)} {ln : List UInt8} {r : List (List UInt8)} (hL : ls = ln :: r) (h : ln.head? = some 99) (hp : ln.all plB = false) : finP n acc (eatD (toks k ls) st) = (acc, k) := by
  subst hL; rw [toks, tokL, if_pos h, if_neg (by simp [hp])]; simp [eatD, finP]
theorem fin_line {n k : Nat} {acc : List Stp} {st : RSt} {ls : List (List UInt8)} {ln : List UInt8} {r : List (List UInt8)} (hL : ls = ln :: r) (h : ln.head? ≠ some 99) : finP n acc (eatD (toks k ls) st) = finP n acc (eatD (tokR k (wdsF ln []) r) st) := by
  subst hL; rw [toks, tokL, if_neg h]; rfl
theorem fin_next {n k : Nat} {acc : List Stp} {st : RSt} {r : List (List UInt8)} : finP n acc (eatD (tokR k [] r) st) = finP n acc (eatD (toks (k + 1) r) st) := rfl
theorem fin_take {n k : Nat} {acc : List Stp} {st st' : RSt} {w : List UInt8} {ws r : List (List UInt8)} {g : List Stp} (h : takeW st w = some (st', g)) : finP n acc (eatD (tokR k (w :: ws) r) st) = finP n (acc ++ g) (eatD (tokR k ws r) st') := by
  unfold tokR
  rw [List.map_cons, List.cons_append, eatD, h]
  simp only [finP, List.append_assoc]
theorem fin_no {n k : Nat} {acc : List Stp} {st : RSt} {w : List UInt8} {ws r : List (List UInt8)} (h : takeW st w = none) : finP n acc (eatD (tokR k (w :: ws) r) st) = (acc, k) := by
  unfold tokR
  rw [List.map_cons, List.cons_append, eatD, h]
  simp [finP]
theorem fin_end {n k : Nat} {acc : List Stp} {st : RSt} : finP n acc (eatD (toks k []) st) = (acc, if st.op then n + 1 else 0) := by simp [toks, eatD, finP]

/-- what becomes of a word -/
theorem takeP_d {dr : Bool} {cl : List Int} : takeW ⟨false, dr, cl⟩ [100] = some (⟨true, true, cl⟩, []) := rfl
theorem numD_48 : numD [48] = some 0 := rfl
theorem takeP_0 (st : RSt) : takeW st [48] = some (⟨false, false, []⟩, [(st.dr, st.cl)]) := by
  unfold takeW
  rw [numD_48]
  simp
theorem takeP_l {st : RSt} {w : List UInt8} (h : (w == [100] && !st.op) = false) (h0 : w ≠ [48]) (hq : litQ w = true) : ∃ z : Int, w = Lib.itoa z ∧ okN z = true ∧ takeW st w = some (⟨true, st.dr, st.cl ++ [z]⟩, []) := by
  unfold litQ at hq
  cases hn : numD w with
  | none => rw [hn] at hq; cases hq
  | some z =>
    rw [hn] at hq
    have hz : z ≠ 0 := by simpa using hq
    obtain ⟨e1, e2⟩ := numD_some hn
    refine ⟨z, e1, e2, ?_⟩
    unfold takeW
    rw [h, hn]
    simp [hz]
theorem takeP_n {st : RSt} {w : List UInt8} (h : (w == [100] && !st.op) = false) (h0 : w ≠ [48]) (hq : litQ w = false) : takeW st w = none := by
  unfold takeW
  rw [h]
  unfold litQ at hq
  cases hn : numD w with
  | none => simp
  | some z =>
    rw [hn] at hq
    have hz : z = 0 := by simpa using hq
    obtain ⟨e1, e2⟩ := numD_some hn
    subst hz
    exfalso; apply h0; rw [e1]
    unfold Lib.itoa
    rw [if_neg (by omega), show (0 : Int).toNat = 0 from rfl, Lib.decDigits]; rfl

/-! sizes -/
theorem wds_len : ∀ (s cur : List UInt8), (wdsF s cur).length ≤ s.length + cur.length
  | [], cur => by cases cur <;> simp [wdsF]
  | b :: r, cur => by
    rw [wdsF]
    split
    · have := wds_len r []
      cases cur <;> simp at this ⊢ <;> omega
    · have := wds_len r (cur ++ [b])
      simp at this ⊢; omega
theorem wds_each : ∀ (s cur : List UInt8), ∀ x ∈ wdsF s cur, x.length ≤ s.length + cur.length
  | [], cur => by
    intro x hx
    cases cur with
    | nil => simp [wdsF] at hx
    | cons c r => simp [wdsF] at hx; subst hx; simp
  | b :: r, cur => by
    intro x hx
    rw [wdsF] at hx
    split at hx
    · rcases List.mem_append.1 hx with hx | hx
      · split at hx
        · cases hx
        · obtain rfl : x = cur := by simpa using hx
          simp
      · have := wds_each r [] x hx
        simp at this ⊢; omega
    · have := wds_each r (cur ++ [b]) x hx
      simp at this ⊢; omega
def lenS (ls : List (List UInt8)) : Nat := (ls.map List.length).sum
theorem lns_len : ∀ (s cur : List UInt8), (lnsF s cur).length ≤ s.length + cur.length
  | [], cur => by cases cur <;> simp [lnsF]
  | b :: r, cur => by
    rw [lnsF]
    split
    · have := lns_len r []
      simp at this ⊢; omega
    · have := lns_len r (cur ++ [b])
      simp at this ⊢; omega
theorem lns_sum : ∀ (s cur : List UInt8), lenS (lnsF s cur) ≤ s.length + cur.length
  | [], cur => by cases cur <;> simp [lnsF, lenS]
  | b :: r, cur => by
    rw [lnsF]
    split
    · have := lns_sum r []
      simp [lenS] at this ⊢; omega
    · have := lns_sum r (cur ++ [b])
      simp [lenS] at this ⊢; omega
theorem lenS_cons (ln : List UInt8) (r : List (List UInt8)) : lenS (ln :: r) = ln.length + lenS r := by simp [lenS]
theorem lenS_each : ∀ (ls : List (List UInt8)), ∀ x ∈ ls, x.length ≤ lenS ls
  | [], x, h => by cases h
  | y :: r, x, h => by
    rw [lenS_cons]
    rcases List.mem_cons.1 h with rfl | h
    · omega
    · have := lenS_each r x h; omega

end Go.Proofs.YtaipajalkendaaaDoor

/-
  How much stanzas hold: what follows for each of their parts.
  KEEP: len below nil form rd mono own row out each one
-/
import Derived.Test.YtbeaoekbppdlmaaDoorKOpenSt
import Derived.Test.YtbeaoekbppdlmaaDoorJCvF
import Derived.Test.YtbeaoekbppdlmaaDoorJCtR
set_option linter.unusedVariables false
set_option linter.unusedSimpArgs false
namespace Go.Proofs.YtbeaoekbppdlmaaDoor
open Go Go.RowKit

theorem fldN_mem : ∀ {fs : List Fld} {f : Fld}, f ∈ fs → f.1.length + f.2.length + 1 ≤ fldN fs
  | x :: r, f, h => by
    have e : fldN (x :: r) = (x.1.length + x.2.length + 1) + fldN r := by simp [fldN]; omega
    rcases List.mem_cons.1 h with rfl | h
    · omega
    · have := fldN_mem h; omega
theorem stzN_mem : ∀ {l : List Stz} {s : Stz}, s ∈ l → fldN s.2 + 1 ≤ stzN l
  | x :: r, s, h => by
    have e : stzN (x :: r) = (fldN x.2 + 1) + stzN r := by simp [stzN]; omega
    rcases List.mem_cons.1 h with rfl | h
    · omega
    · have := stzN_mem h; omega
theorem totF_le : ∀ (l : List Stz), totF l ≤ stzN l
  | [] => Nat.zero_le _
  | x :: r => by
    have := totF_le r
    have e : stzN (x :: r) = (fldN x.2 + 1) + stzN r := by simp [stzN]; omega
    have e2 : totF (x :: r) = x.2.length + totF r := by simp [totF]
    have e3 : x.2.length ≤ fldN x.2 := by unfold fldN; omega
    omega
theorem len_stzN (l : List Stz) : l.length ≤ stzN l := by unfold stzN; omega
theorem len_fldN (fs : List Fld) : fs.length ≤ fldN fs := by unfold fldN; omega
theorem stzN_sz {l : List Stz} {B : Nat} (h : stzN l ≤ B) : ∀ s ∈ l, ∀ f ∈ s.2, f.1.length ≤ B ∧ f.2.length ≤ B := fun s hs f hf => by
  have h1 := stzN_mem hs
  have h2 := fldN_mem hf
  omega
/-- copies are read as what they were copied from -/
theorem own_rd {B : Nat} {W : World} {v : Value} {L : List SG} {l : List Stz} (h : OwnSt B W v L) (hL : sgS L = l) (hb : stzN l ≤ 1048576) : RdSt W v l := by
  subst hL
  refine h.rd (by have := len_stzN (sgS L); rw [sgS_len] at this; omega) fun x hx => ?_
  have hm : (x.1, x.2.2) ∈ sgS L := List.mem_map.2 ⟨x, hx, rfl⟩
  have h1 := stzN_mem hm
  have h2 := len_fldN x.2.2
  simp only at h1
  exact ⟨by omega, fun f hf => by have := fldN_mem hf; omega⟩

end Go.Proofs.YtbeaoekbppdlmaaDoor

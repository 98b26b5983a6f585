/-
  What Read answers is formed, and holds no more than the text (pure).
  KEEP: below len form out each rd mono nil own row set on app start grown at new one more take none some kept cell refl trans size map made look put blw get step next box lt Ap old weak
-/
import Derived.Test.YtbeaoekbppdlmaaDoorKCpB
import Derived.Test.YtbeaoekbppdlmaaDoorKRdN
set_option linter.unusedSimpArgs false
set_option linter.unusedVariables false
namespace Go.Proofs.YtbeaoekbppdlmaaDoor
open Go Go.RowKit

theorem trL_idem (l : List UInt8) : trL (trL l) = trL l := by
  unfold trL
  induction l with
  | nil => rfl
  | cons b r ih =>
    cases h : isBl b
    · simp [List.dropWhile_cons, h]
    · simpa [List.dropWhile_cons, h] using ih
theorem trR_idem (l : List UInt8) : trR (trR l) = trR l := by
  show (trL ((trL l.reverse).reverse).reverse).reverse = (trL l.reverse).reverse
  rw [List.reverse_reverse, trL_idem]
theorem trF_idem (l : List UInt8) : trF (trF l) = trF l := by
  show trR (trL (trR (trL l))) = trR (trL l)
  rw [trim_comm, trL_idem, trR_idem]
theorem bl_lt {b : UInt8} (h : isBl b = true) : b.toNat < 128 := by
  unfold isBl at h
  simp at h
  rcases h with rfl | rfl <;> decide
theorem trL_all (l : List UInt8) : ∃ a, l = a ++ trL l ∧ ∀ b ∈ a, isBl b = true := by
  induction l with
  | nil => exact ⟨[], rfl, fun b hb => by cases hb⟩
  | cons b r ih =>
    cases h : isBl b
    · exact ⟨[], by rw [trL_no h]; rfl, fun x hx => by cases hx⟩
    · obtain ⟨a, h1, h2⟩ := ih
      refine ⟨b :: a, by rw [trL_yes h, List.cons_append, ← h1], fun x hx => ?_⟩
      rcases List.mem_cons.1 hx with rfl | hx
      · exact h
      · exact h2 x hx
theorem fair_trL : ∀ {l : List UInt8}, fairF false l = true → fairF false (trL l) = true
  | [], h => h
  | b :: r, h => by
    cases hb : isBl b
    · rw [trL_no hb]; exact h
    · rw [trL_yes hb]
      rw [fair_cons _ _ (bl_lt hb), Bool.and_eq_true] at h
      exact fair_trL h.2
theorem fair_trR {l : List UInt8} (h : fairF false l = true) : fairF false (trR l) = true := by
  obtain ⟨a, h1, h2⟩ := trL_all l.reverse
  have e : l = trR l ++ a.reverse := by
    have := congrArg List.reverse h1
    rw [List.reverse_reverse, List.reverse_append] at this
    exact this
  cases ha : a.reverse with
  | nil => rw [ha, List.append_nil] at e; rw [← e]; exact h
  | cons b r =>
    have hb : isBl b = true := h2 b (by rw [← List.mem_reverse, ha]; exact List.mem_cons_self ..)
    rw [e, ha, fair_at _ _ _ (bl_lt hb), Bool.and_eq_true] at h
    exact h.1
theorem fair_trF {l : List UInt8} (h : fairF false l = true) : fairF false (trF l) = true := fair_trR (fair_trL h)
theorem hasN_no : ∀ {l : List UInt8}, (∀ b ∈ l, b ≠ 10) → hasN l = false ∧ cutN l = (l, [])
  | [], h => ⟨rfl, rfl⟩
  | b :: r, h => by
    have hb : (b == 10) = false := beq_eq_false_iff_ne.2 (h b (List.mem_cons_self ..))
    obtain ⟨h1, h2⟩ := hasN_no (l := r) fun x hx => h x (List.mem_cons_of_mem _ hx)
    exact ⟨by rw [hasN, hb, h1]; rfl, by rw [cutN, if_neg (by rw [hb]; simp), h2]⟩
theorem pcF_one {l : List UInt8} (h : ∀ b ∈ l, b ≠ 10) : pcF l = [l] := by
  obtain ⟨h1, h2⟩ := hasN_no h
  rw [pcF_cut, h1, h2]; rfl
theorem pcs_snoc : ∀ (v cur p : List UInt8), (∀ b ∈ p, b ≠ 10) → pcs (v ++ 10 :: p) cur = pcs v cur ++ [p]
  | [], cur, p, h => by
    have := pcF_one h
    unfold pcF at this
    have e : pcs (10 :: p) cur = cur :: pcs p [] := by rw [pcs, if_pos rfl]
    rw [List.nil_append, e, this]; rfl
  | b :: v, cur, p, h => by
    rw [List.cons_append, pcs, pcs]
    split
    · rw [pcs_snoc v [] p h]; rfl
    · rw [pcs_snoc v (cur ++ [b]) p h]
theorem pcsOk_app : ∀ (a b : List (List UInt8)) (k : Nat), pcsOk k (a ++ b) = (pcsOk k a && pcsOk (k + a.length) b)
  | [], b, k => by rw [List.nil_append, List.length_nil, Nat.add_zero]; cases b <;> simp [pcsOk]
  | x :: a, b, k => by
    rw [List.cons_append, pcsOk, pcsOk, pcsOk_app a b (k + 1), List.length_cons, show k + 1 + a.length = k + (a.length + 1) by omega, Bool.and_assoc]
theorem val_one {p : List UInt8} (h1 : fairF false p = true) (h2 : trF p = p) : valF p = true := by
  rw [valF_ok, pcF_one (no10_of_fair h1)]
  simp [pcsOk, pcOk, h1, h2]
theorem val_more {v p : List UInt8} (hv : valF v = true) (h1 : fairF false p = true) (h2 : trF p = p) (h3 : p ≠ []) : valF (v ++ 10 :: p) = true := by
  rw [valF_ok] at hv ⊢
  have e : pcF (v ++ 10 :: p) = pcF v ++ [p] := pcs_snoc v [] p (no10_of_fair h1)
  rw [e, pcsOk_app, hv]
  simp [pcsOk, pcOk, h1, h2, h3]
theorem fldOk_app {fs : List Fld} {x : Fld} {j : Nat} (h : j < fs.length) : fldOk (fs ++ [x]) j = fldOk fs j := by
  unfold fldOk twG
  rw [List.take_append_of_le_length (by omega)]
  have e : (fs ++ [x]).getD j ([], []) = fs.getD j ([], []) := by
    rw [List.getD_eq_getElem?_getD, List.getD_eq_getElem?_getD, List.getElem?_append_left h]
  rw [e]
theorem fldOk_last (fs : List Fld) (x : Fld) : fldOk (fs ++ [x]) fs.length = (!((getF fs x.1).isSome || !nameF x.1 || !valF x.2)) := by
  unfold fldOk twG
  have e : (fs ++ [x]).getD fs.length ([], []) = x := by simp [List.getD_eq_getElem?_getD]
  rw [e, List.take_left]
theorem fldsOk_snoc (fs : List Fld) (x : Fld) : ∀ (r j : Nat), j + r = fs.length → fldsOk (fs ++ [x]) j (r + 1) = (fldsOk fs j r && !((getF fs x.1).isSome || !nameF x.1 || !valF x.2))
  | 0, j, h => by
    have : j = fs.length := by omega
    subst this
    rw [fldsOk, fldsOk, fldsOk, fldOk_last]; simp
  | r + 1, j, h => by
    rw [fldsOk, fldsOk_snoc fs x r (j + 1) (by omega), fldOk_app (by omega), fldsOk, Bool.and_assoc]
def okF (fs : List Fld) : Bool := fldsOk fs 0 fs.length
theorem okF_snoc (fs : List Fld) (x : Fld) : okF (fs ++ [x]) = (okF fs && !((getF fs x.1).isSome || !nameF x.1 || !valF x.2)) := by
  unfold okF
  rw [List.length_append]
  exact fldsOk_snoc fs x fs.length 0 (by omega)
theorem step_ok {ln : Int} {fs : List Fld} {line : List UInt8} {k : Int} {n : Stz} (hf : fairF false line = true) (ht : trF line ≠ []) (ho : okF fs = true) (h : stepP (ln, fs) line k = .ok n) : okF n.2 = true := by
  unfold stepP at h
  split at h
  · split at h
    · cases h
    · rename_i hne
      injection h with h
      subst h
      simp only at hne
      rcases List.eq_nil_or_concat fs with e | ⟨gs, g, e⟩
      · exact absurd e hne
      · rw [List.concat_eq_append] at e
        subst e
        show okF (setL (gs ++ [g]) _) = true
        rw [setL_snoc, okF_snoc]
        rw [okF_snoc, Bool.and_eq_true] at ho
        have h2 := ho.2
        simp at h2
        have hv := val_more h2.2 (fair_trF hf) (trF_idem line) ht
        rw [ho.1]
        simp [h2.1, hv]
  · rename_i hbl
    split at h
    · cases h
    · rename_i hc
      split at h
      · cases h
      · rename_i hg
        injection h with h
        subst h
        have hc1 : ¬ Lib.indexByte line 58 < 0 := fun e => hc (.inl e)
        have hc2 : nameF (line.take (Lib.indexByte line 58).toNat) = true := by
          cases q : nameF (line.take (Lib.indexByte line 58).toNat)
          · exact absurd (.inr q) hc
          · rfl
        obtain ⟨j, hj⟩ : ∃ j : Nat, Lib.indexByte line 58 = j := ⟨(Lib.indexByte line 58).toNat, by omega⟩
        have hs := (Lib.indexByte_some hj).1
        have hlt : j < line.length := (List.getElem?_eq_some_iff.1 hs).1
        have e : line = line.take j ++ 58 :: line.drop (j + 1) := by
          conv => lhs; rw [← List.take_append_drop j line, List.drop_eq_getElem_cons hlt]
          rw [List.getElem?_eq_getElem hlt] at hs
          rw [Option.some.inj hs]
        have hfr : fairF false (line.drop (j + 1)) = true := by
          rw [e, fair_at _ _ _ (by decide), Bool.and_eq_true, Bool.and_eq_true] at hf
          exact hf.2.2
        rw [hj, Int.toNat_natCast] at hg hc2 ⊢
        show okF (fs ++ [(line.take j, trF (line.drop (j + 1)))]) = true
        rw [okF_snoc, ho]
        have hv := val_one (fair_trF hfr) (trF_idem (line.drop (j + 1)))
        simp at hg
        simp [hg, hc2, hv]
theorem rd_ok : ∀ (ps : List (List UInt8)) (k : Int) (out : List Stz) (now : Stz) (l : List Stz), (∀ s ∈ out, stzOk s.2 = true) → okF now.2 = true → rdS ps k out now = .ok l → ∀ s ∈ l, stzOk s.2 = true
  | [], k, out, now, l, ho, hn, h => by
    rw [rdS] at h
    injection h with h
    subst h
    intro s hs
    split at hs
    · exact ho s hs
    · rename_i hne
      rcases List.mem_append.1 hs with hs | hs
      · exact ho s hs
      · rw [List.mem_singleton.1 hs]
        unfold stzOk
        have : now.2.isEmpty = false := by cases q : now.2 with | nil => exact absurd q hne | cons x r => rfl
        rw [this]; exact hn
  | line :: r, k, out, now, l, ho, hn, h => by
    have hcl : ∀ s ∈ (if now.2 = [] then out else out ++ [now]), stzOk s.2 = true := by
      intro s hs
      split at hs
      · exact ho s hs
      · rename_i hne
        rcases List.mem_append.1 hs with hs | hs
        · exact ho s hs
        · rw [List.mem_singleton.1 hs]
          unfold stzOk
          have : now.2.isEmpty = false := by cases q : now.2 with | nil => exact absurd q hne | cons x r => rfl
          rw [this]; exact hn
    rw [rdS] at h
    split at h
    · cases h
    · rename_i hf
      have hf' : fairF false line = true := by simpa using hf
      split at h
      · exact rd_ok r _ _ _ l hcl rfl h
      · rename_i ht
        split at h
        · exact rd_ok r _ _ _ l ho hn h
        · split at h
          · cases h
          · rename_i n hst
            obtain ⟨ln, fs⟩ := now
            exact rd_ok r _ _ _ l ho (step_ok hf' ht hn hst) h
theorem read_formed {s : List UInt8} {l : List Stz} (h : rdF21 s = .ok l) : fmdL l = true := by
  unfold fmdL
  exact List.all_eq_true.2 (rd_ok _ _ _ _ l (fun s hs => by cases hs) rfl h)
theorem fldN_snoc (fs : List Fld) (f : Fld) : fldN (fs ++ [f]) = fldN fs + (f.1.length + f.2.length + 1) := by
  simp [fldN]; omega
theorem stzN_snoc (l : List Stz) (s : Stz) : stzN (l ++ [s]) = stzN l + (fldN s.2 + 1) := by
  simp [stzN]; omega
theorem step_tot {ln : Int} {fs : List Fld} {line : List UInt8} {k : Int} {n : Stz} (h : stepP (ln, fs) line k = .ok n) : fldN n.2 ≤ fldN fs + line.length + 1 := by
  unfold stepP at h
  have htl := trF_le line
  split at h
  · split at h
    · cases h
    · rename_i hne
      injection h with h
      subst h
      rcases List.eq_nil_or_concat fs with e | ⟨gs, g, e⟩
      · exact absurd e hne
      · rw [List.concat_eq_append] at e
        subst e
        show fldN (setL (gs ++ [g]) _) ≤ _
        rw [setL_snoc, fldN_snoc, fldN_snoc]
        simp
        omega
  · split at h
    · cases h
    · rename_i hc
      split at h
      · cases h
      · injection h with h
        subst h
        have hc1 : ¬ Lib.indexByte line 58 < 0 := fun e => hc (.inl e)
        obtain ⟨j, hj⟩ : ∃ j : Nat, Lib.indexByte line 58 = j := ⟨(Lib.indexByte line 58).toNat, by omega⟩
        have hs := (Lib.indexByte_some hj).1
        have hlt : j < line.length := (List.getElem?_eq_some_iff.1 hs).1
        show fldN (fs ++ [_]) ≤ _
        rw [fldN_snoc, hj, Int.toNat_natCast]
        have := trF_le (line.drop (j + 1))
        rw [List.length_drop] at this
        simp only [List.length_take]
        omega
theorem rd_tot : ∀ (ps : List (List UInt8)) (k : Int) (out : List Stz) (now : Stz) (l : List Stz), rdS ps k out now = .ok l → stzN l ≤ stzN out + fldN now.2 + totL ps + 1
  | [], k, out, now, l, h => by
    rw [rdS] at h
    injection h with h
    subst h
    split
    · omega
    · rw [stzN_snoc]; omega
  | line :: r, k, out, now, l, h => by
    rw [totL]
    rw [rdS] at h
    split at h
    · cases h
    · split at h
      · have := rd_tot r _ _ _ l h
        have e : fldN ([] : List Fld) = 0 := rfl
        split at this
        · rename_i q; rw [e] at this; omega
        · rw [stzN_snoc, e] at this; omega
      · split at h
        · have := rd_tot r _ _ _ l h; omega
        · split at h
          · cases h
          · rename_i n hst
            obtain ⟨ln, fs⟩ := now
            have h1 := rd_tot r _ _ _ l h
            have h2 := step_tot hst
            simp only at h1 h2 ⊢
            omega
theorem read_tot {s : List UInt8} {l : List Stz} (h : rdF21 s = .ok l) : stzN l ≤ s.length + 2 := by
  have h1 := tot_lns s []
  have h2 := rd_tot _ _ _ _ _ h
  simp only [List.length_nil] at h1
  have e1 : stzN ([] : List Stz) = 0 := rfl
  have e2 : fldN ([] : List Fld) = 0 := rfl
  simp only [e1, e2] at h2
  omega

theorem rdS_err : ∀ (ps : List (List UInt8)) (k : Int) (out : List Stz) (now : Stz) (c ln : Int), rdS ps k out now = .error (c, ln) → (c == 0) = false
  | [], k, out, now, c, ln, h => by rw [rdS] at h; cases h
  | line :: r, k, out, now, c, ln, h => by
    rw [rdS] at h
    split at h
    · injection h with h; injection h with h1 h2; subst h1; rfl
    · split at h
      · exact rdS_err r _ _ _ c ln h
      · split at h
        · exact rdS_err r _ _ _ c ln h
        · split at h
          · rename_i e he
            injection h with h; injection h with h1 h2; subst h1; exact (stepP_err he).1
          · exact rdS_err r _ _ _ c ln h
theorem rd_err {s : List UInt8} {c ln : Int} (h : rdF21 s = .error (c, ln)) : (c == 0) = false := rdS_err _ _ _ _ c ln h
/-- copies are read as what they were copied from -/
theorem own_rd2 {B : Nat} {W : World} {v : Value} {L : List SG} {l : List Stz} (h : OwnSt B W v L) (hL : sgS L = l) (hb : stzN l ≤ 1048578) : RdSt W v l := by
  subst hL
  refine h.rd (by have := len_stzN (sgS L); rw [sgS_len] at this; omega) fun x hx => ?_
  have hm : (x.1, x.2.2) ∈ sgS L := List.mem_map.2 ⟨x, hx, rfl⟩
  have h1 := stzN_mem hm
  have h2 := len_fldN x.2.2
  simp only at h1
  exact ⟨by omega, fun f hf => by have := fldN_mem hf; omega⟩

end Go.Proofs.YtbeaoekbppdlmaaDoor

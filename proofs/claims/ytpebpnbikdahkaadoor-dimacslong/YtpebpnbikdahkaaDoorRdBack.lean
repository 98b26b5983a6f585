/-
  A formula's text is read as it was written: in plain words.
-/
import Derived.Test.YtpebpnbikdahkaaDoorRdP
set_option linter.unusedSimpArgs false
set_option linter.unusedVariables false
namespace Go.Proofs.YtpebpnbikdahkaaDoor
open Go.RowKit

theorem cutN_line : ∀ (l r : List UInt8), (∀ b ∈ l, b ≠ 10) → cutN (l ++ 10 :: r) = (l, r)
  | [], r, _ => rfl
  | b :: l, r, h => by
    have hb : b ≠ 10 := h b (List.mem_cons_self ..)
    have ih := cutN_line l r (fun x hx => h x (List.mem_cons_of_mem _ hx))
    rw [List.cons_append, cutN, if_neg (by simpa using hb), ih]
theorem linesOf_line (l r : List UInt8) (h : ∀ b ∈ l, b ≠ 10) : linesOf (l ++ 10 :: r) = l :: linesOf r := by
  rw [linesOf_cons (by simp), cutN_line l r h]
theorem word1_blank {b : UInt8} (h : isBl b = true) (r : List UInt8) : wordsOf (b :: r) = wordsOf r := by
  have e : (b :: r).dropWhile isBl = r.dropWhile isBl := List.dropWhile_cons_of_pos h
  by_cases hr : r.dropWhile isBl = []
  · rw [wordsOf_nil hr, wordsOf_nil (e.trans hr)]
  · rw [wordsOf_cons hr, wordsOf_cons (by rw [e]; exact hr), e]
theorem take_all : ∀ (w r : List UInt8), (∀ b ∈ w, isBl b = false) → (r = [] ∨ ∃ b r', r = b :: r' ∧ isBl b = true) → (w ++ r).takeWhile notBl = w ∧ (w ++ r).dropWhile notBl = r
  | [], r, _, h => by
    rcases h with rfl | ⟨b, r', rfl, hb⟩
    · exact ⟨rfl, rfl⟩
    · exact ⟨List.takeWhile_cons_of_neg (by simp [notBl, hb]), List.dropWhile_cons_of_neg (by simp [notBl, hb])⟩
  | x :: w, r, hw, h => by
    have hx := hw x (List.mem_cons_self ..)
    obtain ⟨h1, h2⟩ := take_all w r (fun b hb => hw b (List.mem_cons_of_mem _ hb)) h
    rw [List.cons_append, List.takeWhile_cons_of_pos (by simp [notBl, hx]), List.dropWhile_cons_of_pos (by simp [notBl, hx]), h1, h2]
    exact ⟨rfl, rfl⟩
theorem wordsOf_word (w r : List UInt8) (h0 : w ≠ []) (hw : ∀ b ∈ w, isBl b = false) (h : r = [] ∨ ∃ b r', r = b :: r' ∧ isBl b = true) : wordsOf (w ++ r) = w :: wordsOf r := by
  have e : (w ++ r).dropWhile isBl = w ++ r := by
    cases w with
    | nil => exact absurd rfl h0
    | cons x w => rw [List.cons_append, List.dropWhile_cons_of_neg (by simp [hw x (List.mem_cons_self ..)])]
  obtain ⟨h1, h2⟩ := take_all w r hw h
  rw [wordsOf_cons (by rw [e]; simp [h0]), e, h1, h2]
theorem wordsOf_blank (w r : List UInt8) (h0 : w ≠ []) (hw : ∀ b ∈ w, isBl b = false) : wordsOf (w ++ 32 :: r) = w :: wordsOf r := by
  rw [wordsOf_word w (32 :: r) h0 hw (.inr ⟨32, r, rfl, rfl⟩), word1_blank rfl]
theorem itoa_neB (z : Int) : Lib.itoa z ≠ [] := by
  unfold Lib.itoa; split
  · simp
  · exact dec_ne _
theorem itoa_byte {z : Int} {b : UInt8} (h : b ∈ Lib.itoa z) : b = 45 ∨ (48 ≤ b.toNat ∧ b.toNat ≤ 57) := by
  unfold Lib.itoa at h
  split at h
  · rcases List.mem_cons.1 h with h | h
    · exact .inl h
    · exact .inr (dec_bytes _ _ h)
  · exact .inr (dec_bytes _ _ h)
theorem itoa_not {z : Int} {b c : UInt8} (h : b ∈ Lib.itoa z) (hc : c ≠ 45) (hc' : c.toNat < 48 ∨ 57 < c.toNat) : b ≠ c := by
  rintro rfl
  rcases itoa_byte h with h | h
  · exact hc h
  · omega
theorem itoa_bl {z : Int} {b : UInt8} (h : b ∈ Lib.itoa z) : isBl b = false := by
  have h1 := itoa_not (c := 32) h (by decide) (by decide)
  have h2 := itoa_not (c := 9) h (by decide) (by decide)
  simp [isBl, h1, h2]
theorem itoa_nl {z : Int} : ∀ b ∈ Lib.itoa z, b ≠ 10 := fun b h => itoa_not h (by decide) (by decide)
theorem itoa_headB (z : Int) (r : List UInt8) : ((Lib.itoa z ++ r).head? == some 99) = false := by
  cases h : Lib.itoa z with
  | nil => exact absurd h (itoa_neB z)
  | cons b t =>
    have := itoa_not (z := z) (b := b) (c := 99) (by rw [h]; exact List.mem_cons_self ..) (by decide) (by decide)
    simpa using this
theorem textOf_nl (c : List Int) : ∀ b ∈ textOf c, b ≠ 10 := by
  intro b hb
  obtain ⟨z, _, hz⟩ := List.mem_flatMap.1 hb
  rcases List.mem_append.1 hz with h | h
  · exact itoa_nl b h
  · obtain rfl : b = 32 := by simpa using h
    decide
theorem clause_words : ∀ c : List Int, wordsOf (textOf c ++ [48]) = c.map Lib.itoa ++ [[48]]
  | [] => by
    have := wordsOf_word [48] [] (by simp) (by intro b hb; obtain rfl : b = 48 := by simpa using hb
                                               rfl) (.inl rfl)
    rw [List.append_nil, wordsOf_nil (l := []) rfl] at this
    exact this
  | z :: c => by
    have e : textOf (z :: c) ++ [48] = Lib.itoa z ++ 32 :: (textOf c ++ [48]) := by simp [textOf]
    rw [e, wordsOf_blank _ _ (itoa_neB z) (fun b hb => itoa_bl hb), clause_words c]; rfl
theorem clause_idle (c : List Int) : idleL (textOf c ++ [48]) = false := by
  unfold idleL
  have h2 : (textOf c ++ [48]).all isBl = false := by rw [List.all_append]; simp [isBl]
  have h1 : ((textOf c ++ [48]).head? == some 99) = false := by
    cases c with
    | nil => rfl
    | cons z c =>
      have e : textOf (z :: c) ++ [48] = Lib.itoa z ++ 32 :: (textOf c ++ [48]) := by simp [textOf]
      rw [e]; exact itoa_headB z _
  rw [h1, h2]; rfl
theorem body_lines : ∀ css : List (List Int), linesOf (bodyOf css) = css.map (fun c => textOf c ++ [48])
  | [] => linesOf_nil
  | c :: css => by
    have e : bodyOf (c :: css) = (textOf c ++ [48]) ++ 10 :: bodyOf css := by simp [bodyOf]
    rw [e, linesOf_line _ _ (by
      intro b hb
      rcases List.mem_append.1 hb with h | h
      · exact textOf_nl c b h
      · obtain rfl : b = 48 := by simpa using h
        decide), body_lines css]; rfl
theorem eat_none {n : Int} {w : List UInt8} {k : Nat} {r : List (List UInt8 × Nat)} {op : List Int} {all : List (List Int)} (h : numW w = none) : eat n ((w, k) :: r) op all = (all, op, some (31, k)) := by
  rw [eat, h]
theorem eat_zero {n : Int} {w : List UInt8} {k : Nat} {r : List (List UInt8 × Nat)} {op : List Int} {all : List (List Int)} (h : numW w = some 0) : eat n ((w, k) :: r) op all = eat n r [] (all ++ [op]) := by
  rw [eat, h]; rfl
theorem eat_bad {n : Int} {w : List UInt8} {k : Nat} {r : List (List UInt8 × Nat)} {op : List Int} {all : List (List Int)} {z : Int} (h : numW w = some z) (hz : z ≠ 0) (hf : (!fmd z || decide (n < varOf z)) = true) : eat n ((w, k) :: r) op all = (all, op, some (32, k)) := by
  rw [eat, h]; simp only [hz, hf, if_true, if_false]
theorem eat_lit {n : Int} {w : List UInt8} {k : Nat} {r : List (List UInt8 × Nat)} {op : List Int} {all : List (List Int)} {z : Int} (h : numW w = some z) (hz : z ≠ 0) (hf : (!fmd z || decide (n < varOf z)) = false) : eat n ((w, k) :: r) op all = eat n r (op ++ [z]) all := by
  rw [eat, h]; simp only [hz, hf, if_false, Bool.false_eq_true]
theorem eat_append (n : Int) : ∀ (a b : List (List UInt8 × Nat)) (op : List Int) (all : List (List Int)), (eat n a op all).2.2 = none → eat n (a ++ b) op all = eat n b (eat n a op all).2.1 (eat n a op all).1
  | [], b, op, all, _ => rfl
  | (w, k) :: a, b, op, all, h => by
    rw [List.cons_append]
    cases hw : numW w with
    | none => rw [eat_none hw] at h; simp at h
    | some z =>
      by_cases hz : z = 0
      · subst hz
        rw [eat_zero hw] at h ⊢
        rw [eat_zero hw]
        exact eat_append n a b _ _ h
      · cases hf : (!fmd z || decide (n < varOf z)) with
        | true => rw [eat_bad hw hz hf] at h; simp at h
        | false =>
          rw [eat_lit hw hz hf] at h ⊢
          rw [eat_lit hw hz hf]
          exact eat_append n a b _ _ h
theorem eat_litsB (n : Int) (k : Nat) : ∀ (c : List Int) (op : List Int) (all : List (List Int)), fitsP n c = true → eat n (c.map (fun z => (Lib.itoa z, k))) op all = (all, op ++ c, none)
  | [], op, all, _ => by simp [eat]
  | z :: c, op, all, h => by
    simp only [fitsP, List.all_cons, Bool.and_eq_true, decide_eq_true_eq] at h
    have hr := fmd_range h.1.1
    rw [List.map_cons]
    unfold eat
    rw [numW_itoa z (by omega) (by omega)]
    simp only
    rw [if_neg hr.1, if_neg (by rw [h.1.1]; simp; omega), eat_litsB n k c (op ++ [z]) all (by simp only [fitsP]; exact h.2)]
    simp
theorem eat_clause (n : Int) (k : Nat) (c : List Int) (all : List (List Int)) (b : List (List UInt8 × Nat)) (h : fitsP n c = true) :
    eat n ((c.map Lib.itoa ++ [[48]]).map (fun w => (w, k)) ++ b) [] all = eat n b [] (all ++ [c]) := by
  have e : (c.map Lib.itoa ++ [[48]]).map (fun w => (w, k)) ++ b = c.map (fun z => (Lib.itoa z, k)) ++ (([48], k) :: b) := by simp
  rw [e, eat_append n _ _ _ _ (by rw [eat_litsB n k c _ _ h]), eat_litsB n k c _ _ h]
  simp only [List.nil_append]
  conv => lhs; unfold eat
  rw [numW_zero]; simp
theorem eat_body (n : Int) : ∀ (css : List (List Int)) (k : Nat) (all : List (List Int)), css.all (fitsP n) = true → eat n (spoken k (css.map (fun c => textOf c ++ [48]))) [] all = (all ++ css, [], none)
  | [], k, all, _ => by simp [spoken, eat]
  | c :: css, k, all, h => by
    simp only [List.all_cons, Bool.and_eq_true] at h
    rw [List.map_cons, spoken, clause_idle c, clause_words c]
    simp only [Bool.false_eq_true, if_false]
    rw [eat_clause n k c all _ h.1, eat_body n css (k + 1) _ h.2]
    simp
/-- the head's line, without its line feed -/
def headL (n : Int) (k : Nat) : List UInt8 := [112] ++ 32 :: ([99, 110, 102] ++ 32 :: (Lib.itoa n ++ 32 :: Lib.itoa k))
theorem headOf_eq (n : Int) (k : Nat) (r : List UInt8) : headOf n k ++ r = headL n k ++ 10 :: r := by simp [headOf, headL]
theorem head_words (n : Int) (k : Nat) : wordsOf (headL n k) = [[112], [99, 110, 102], Lib.itoa n, Lib.itoa k] := by
  unfold headL
  rw [wordsOf_blank _ _ (by simp) (by intro b hb; obtain rfl : b = 112 := by simpa using hb
                                      rfl), wordsOf_blank _ _ (by simp) (by decide), wordsOf_blank _ _ (itoa_neB n) (fun b hb => itoa_bl hb)]
  have := wordsOf_word (Lib.itoa k) [] (itoa_neB k) (fun b hb => itoa_bl hb) (.inl rfl)
  rw [List.append_nil, wordsOf_nil (l := []) rfl] at this
  rw [this]
theorem head_nl (n : Int) (k : Nat) : ∀ b ∈ headL n k, b ≠ 10 := by
  intro b hb
  unfold headL at hb
  simp only [List.cons_append, List.nil_append, List.mem_cons, List.mem_append] at hb
  rcases hb with rfl | rfl | rfl | rfl | rfl | rfl | h | rfl | h
  all_goals first | decide | exact itoa_nl b h
theorem rdF_wrF (n : Int) (css : List (List Int)) (h : frm n css = true) (hc : css.length ≤ 2147483647) : rdF (wrF n css) = ⟨n, css, 0, 0⟩ := by
  simp only [frm, Bool.and_eq_true, decide_eq_true_eq] at h
  unfold rdF
  have hl : linesOf (wrF n css) = headL n css.length :: css.map (fun c => textOf c ++ [48]) := by
    unfold wrF; rw [headOf_eq, linesOf_line _ _ (head_nl _ _), body_lines]
  have hid : idleL (headL n css.length) = false := by
    unfold idleL headL
    simp [isBl]
  rw [hl]
  rw [show nxt 1 (headL n css.length :: css.map (fun c => textOf c ++ [48])) = some (headL n css.length, 1, css.map (fun c => textOf c ++ [48])) by rw [nxt, hid]; rfl]
  simp only
  have hh : headW (wordsOf (headL n css.length)) = some (n, (css.length : Int)) := by
    rw [head_words]
    unfold headW
    simp only
    rw [if_pos (by decide), numW_itoa n (by omega) (by omega), numW_itoa _ (by omega) (by omega)]
    simp only
    rw [if_pos (by simp; omega)]
  rw [hh]
  simp only
  rw [eat_body n css 2 [] h.2]
  simp

end Go.Proofs.YtpebpnbikdahkaaDoor

/-
  A word that is no number behind a clause of a text that was written: in plain words.
-/
import Derived.Test.YthhimmkklnbecaaDoorRdBack
set_option linter.unusedSimpArgs false
set_option linter.unusedVariables false
namespace Go.Proofs.YthhimmkklnbecaaDoor
open Go.RowKit

theorem body_lines' (r : List UInt8) : ∀ css : List (List Int), linesOf (bodyOf css ++ r) = css.map (fun c => textOf c ++ [48]) ++ linesOf r
  | [] => rfl
  | c :: css => by
    have e : bodyOf (c :: css) ++ r = (textOf c ++ [48]) ++ 10 :: (bodyOf css ++ r) := by simp [bodyOf]
    rw [e, linesOf_line _ _ (by
      intro b hb
      rcases List.mem_append.1 hb with h | h
      · exact textOf_nl c b h
      · obtain rfl : b = 48 := by simpa using h
        decide), body_lines' r css]; rfl
theorem spoken_append : ∀ (a b : List (List UInt8)) (k : Nat), spoken k (a ++ b) = spoken k a ++ spoken (k + a.length) b
  | [], b, k => rfl
  | l :: a, b, k => by
    rw [List.cons_append, spoken, spoken, spoken_append a b (k + 1), List.append_assoc, List.length_cons, Nat.add_right_comm k 1 a.length]
    rfl
theorem frm_len_err : True := trivial
/-- words that are no numbers in tens -/
def fwords : List (List UInt8) := [[120], [43, 49], [45, 48], [48, 49], [49, 46], [45, 45, 49], [48, 120, 49], [99], [45], [49, 45], [49, 13], [217, 161], [48, 48], [45, 48, 49], [118], [37]]
theorem fwords_ok : ∀ fw ∈ fwords, fw ≠ [] ∧ (∀ b ∈ fw, isBl b = false) ∧ (∀ b ∈ fw, b ≠ 10) ∧ numW fw = none := by decide
theorem foreign_words (c : List Int) (fw : List UInt8) (h : fw ∈ fwords) : wordsOf ((textOf c ++ [48]) ++ 32 :: fw) = (c.map Lib.itoa ++ [[48]]) ++ [fw] := by
  obtain ⟨h0, hb, _, _⟩ := fwords_ok fw h
  induction c with
  | nil =>
    show wordsOf ([48] ++ 32 :: fw) = _
    rw [wordsOf_blank [48] fw (by simp) (by intro b hb; obtain rfl : b = 48 := by simpa using hb
                                            rfl)]
    have := wordsOf_word fw [] h0 hb (.inl rfl)
    rw [List.append_nil, wordsOf_nil (l := []) rfl] at this
    rw [this]; rfl
  | cons z c ih =>
    have e : (textOf (z :: c) ++ [48]) ++ 32 :: fw = Lib.itoa z ++ 32 :: ((textOf c ++ [48]) ++ 32 :: fw) := by simp [textOf]
    rw [e, wordsOf_blank _ _ (itoa_neB z) (fun b hb => itoa_bl hb), ih]; rfl
theorem foreign_idle (c : List Int) (fw : List UInt8) : idleL ((textOf c ++ [48]) ++ 32 :: fw) = false := by
  unfold idleL
  have h2 : ((textOf c ++ [48]) ++ 32 :: fw).all isBl = false := by rw [List.all_append, List.all_append]; simp [isBl]
  have h1 : (((textOf c ++ [48]) ++ 32 :: fw).head? == some 99) = false := by
    cases c with
    | nil => rfl
    | cons z c =>
      have e : (textOf (z :: c) ++ [48]) ++ 32 :: fw = Lib.itoa z ++ 32 :: ((textOf c ++ [48]) ++ 32 :: fw) := by simp [textOf]
      rw [e]; exact itoa_headB z _
  rw [h1, h2]; rfl
/-- what stands ahead of the line feed of the clause at, and behind it -/
def fX (n : Int) (css : List (List Int)) (k : Nat) : List UInt8 := headOf n css.length ++ bodyOf (css.take k) ++ (textOf (css.getD k []) ++ [48])
def fY (css : List (List Int)) (k : Nat) : List UInt8 := 10 :: bodyOf (css.drop (k + 1))
theorem fXY (n : Int) (css : List (List Int)) (k : Nat) (h : k < css.length) : wrF n css = fX n css k ++ fY css k := by
  have e : css = css.take k ++ css.getD k [] :: css.drop (k + 1) := by
    have := List.take_append_drop k css
    rw [List.drop_eq_getElem_cons h] at this
    simp [List.getD_eq_getElem?_getD, List.getElem?_eq_getElem h]
  unfold wrF fX fY
  conv => lhs; rw [show bodyOf css = bodyOf (css.take k ++ css.getD k [] :: css.drop (k + 1)) by rw [← e]]
  simp [bodyOf]
theorem rdF_foreign (n : Int) (css : List (List Int)) (k : Nat) (fw : List UInt8) (h : frm n css = true) (hc : css.length ≤ 2147483647) (hk : k < css.length) (hf : fw ∈ fwords) :
    rdF (fX n css k ++ 32 :: (fw ++ fY css k)) = ⟨0, [], 31, k + 2⟩ := by
  simp only [frm, Bool.and_eq_true, decide_eq_true_eq] at h
  obtain ⟨h0, hb, hn, hw⟩ := fwords_ok fw hf
  unfold rdF
  have hl : linesOf (fX n css k ++ 32 :: (fw ++ fY css k)) = headL n css.length :: ((css.take k).map (fun c => textOf c ++ [48]) ++ ((textOf (css.getD k []) ++ [48]) ++ 32 :: fw) :: linesOf (bodyOf (css.drop (k + 1)))) := by
    have e : fX n css k ++ 32 :: (fw ++ fY css k) = headOf n css.length ++ (bodyOf (css.take k) ++ (((textOf (css.getD k []) ++ [48]) ++ 32 :: fw) ++ 10 :: bodyOf (css.drop (k + 1)))) := by simp [fX, fY]
    rw [e, headOf_eq, linesOf_line _ _ (head_nl _ _), body_lines', linesOf_line]
    intro b hb
    rcases List.mem_append.1 hb with h | h
    · rcases List.mem_append.1 h with h | h
      · exact textOf_nl _ b h
      · obtain rfl : b = 48 := by simpa using h
        decide
    · rcases List.mem_cons.1 h with rfl | h
      · decide
      · exact hn b h
  have hid : idleL (headL n css.length) = false := by
    unfold idleL headL
    simp [isBl]
  rw [hl, nxt, hid]
  simp only [Bool.false_eq_true, if_false]
  have hh : headW (wordsOf (headL n css.length)) = some (n, (css.length : Int)) := by
    rw [head_words]
    unfold headW
    simp only
    rw [if_pos (by decide), numW_itoa n (by omega) (by omega), numW_itoa _ (by omega) (by omega)]
    simp only
    rw [if_pos (by simp; omega)]
  rw [hh]
  simp only
  have hfit : (css.take k).all (fitsP n) = true := by
    rw [List.all_eq_true]; intro c hc'
    exact List.all_eq_true.1 h.2 c (List.mem_of_mem_take hc')
  have hfk : fitsP n (css.getD k []) = true := List.all_eq_true.1 h.2 _ (by simp [List.getD_eq_getElem?_getD, List.getElem?_eq_getElem hk])
  rw [spoken_append, eat_append n _ _ _ _ (by rw [eat_body n _ 2 [] hfit]), eat_body n _ 2 [] hfit]
  rw [spoken, foreign_idle, foreign_words _ _ hf]
  simp only [Bool.false_eq_true, if_false, List.map_append, List.append_assoc]
  rw [← List.append_assoc, ← List.map_append, eat_clause n _ _ _ _ hfk]
  simp only [List.map_cons, List.map_nil, List.cons_append, List.nil_append]
  rw [eat_none hw]
  simp [List.length_take, Nat.min_eq_left (Nat.le_of_lt hk)]
  omega
/-- the place of a line feed is told by how many stand ahead of it -/
theorem nl_place {X Y s : List UInt8} {i c : Nat} (hs : s = X ++ 10 :: Y) (hX : X.count 10 = c) (hi : i < s.length) (hb : s.getD i 0 = 10) : ((s.take i).count 10 = c) ↔ i = X.length := by
  subst hs
  constructor
  · intro h
    rcases Nat.lt_trichotomy i X.length with hl | hl | hl
    · exfalso
      have e1 : (X ++ 10 :: Y).take i = X.take i := by rw [List.take_append_of_le_length (by omega)]
      have e2 : X.getD i 0 = 10 := by
        simpa [List.getD_eq_getElem?_getD, List.getElem?_append_left hl] using hb
      have e3 : X.take (i + 1) = X.take i ++ [10] := by rw [take_succ_getD X 0 i hl, e2]
      have e4 : (X.take (i + 1)).count 10 ≤ X.count 10 := (List.take_sublist _ _).count_le _
      rw [e3, List.count_append] at e4
      rw [e1] at h
      simp at e4; omega
    · exact hl
    · exfalso
      have e1 : (X ++ 10 :: Y).take i = X ++ 10 :: (Y.take (i - X.length - 1)) := by
        rw [List.take_append]
        rw [List.take_of_length_le (by omega)]
        rw [show i - X.length = (i - X.length - 1) + 1 by omega]
        rfl
      rw [e1, List.count_append, List.count_cons] at h
      simp at h; omega
  · rintro rfl
    rw [List.take_append_of_le_length (Nat.le_refl _), List.take_length, hX]
theorem textOf_count (c : List Int) : (textOf c).count 10 = 0 := List.count_eq_zero.2 (fun h => textOf_nl c 10 h rfl)
theorem bodyOf_count : ∀ css : List (List Int), (bodyOf css).count 10 = css.length
  | [] => rfl
  | c :: css => by
    have e : bodyOf (c :: css) = textOf c ++ ([48, 10] ++ bodyOf css) := by simp [bodyOf]
    rw [e, List.count_append, List.count_append, textOf_count, bodyOf_count css]
    simp; omega
theorem fX_count (n : Int) (css : List (List Int)) (k : Nat) (h : k < css.length) : (fX n css k).count 10 = k + 1 := by
  have h1 : (headOf n css.length).count 10 = 1 := by
    have := headOf_eq n css.length []
    rw [List.append_nil] at this
    rw [this, List.count_append, List.count_eq_zero.2 (fun h => head_nl _ _ 10 h rfl)]; rfl
  unfold fX
  rw [List.count_append, List.count_append, List.count_append, h1, bodyOf_count, textOf_count, List.length_take, Nat.min_eq_left (Nat.le_of_lt h)]
  simp; omega

end Go.Proofs.YthhimmkklnbecaaDoor

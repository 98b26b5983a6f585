/-
  The same numbers with other blanks, over other lines, with idle lines between: in plain words.
-/
import Derived.Test.YthdogkafmhnffaaDoorRdForeign
set_option linter.unusedSimpArgs false
set_option linter.unusedVariables false
namespace Go.Proofs.YthdogkafmhnffaaDoor
open Go.RowKit

theorem drop_app {a : List UInt8} (h : a.dropWhile isBl ≠ []) (q : List UInt8) : (a ++ q).dropWhile isBl = a.dropWhile isBl ++ q := by
  induction a with
  | nil => exact absurd rfl h
  | cons x a ih =>
    cases hx : isBl x with
    | true => rw [List.cons_append, List.dropWhile_cons_of_pos hx, List.dropWhile_cons_of_pos hx] at *; exact ih h
    | false => rw [List.cons_append, List.dropWhile_cons_of_neg (by simp [hx]), List.dropWhile_cons_of_neg (by simp [hx])]; rfl
theorem drop_app_nil {a : List UInt8} (h : a.dropWhile isBl = []) (q : List UInt8) : (a ++ q).dropWhile isBl = q.dropWhile isBl := by
  induction a with
  | nil => rfl
  | cons x a ih =>
    have hx := drop_none h x (List.mem_cons_self ..)
    rw [List.dropWhile_cons_of_pos hx] at h
    rw [List.cons_append, List.dropWhile_cons_of_pos hx]; exact ih h
theorem take_app : ∀ (a : List UInt8) {b : UInt8} (hb : isBl b = true) (q : List UInt8), (a ++ b :: q).takeWhile notBl = a.takeWhile notBl ∧ (a ++ b :: q).dropWhile notBl = a.dropWhile notBl ++ b :: q
  | [], b, hb, q => ⟨List.takeWhile_cons_of_neg (by simp [notBl, hb]), List.dropWhile_cons_of_neg (by simp [notBl, hb])⟩
  | x :: a, b, hb, q => by
    obtain ⟨h1, h2⟩ := take_app a hb q
    rw [List.cons_append]
    cases hx : notBl x with
    | true => rw [List.takeWhile_cons_of_pos hx, List.takeWhile_cons_of_pos hx, List.dropWhile_cons_of_pos hx, List.dropWhile_cons_of_pos hx, h1, h2]; exact ⟨rfl, rfl⟩
    | false => rw [List.takeWhile_cons_of_neg (by simp [hx]), List.takeWhile_cons_of_neg (by simp [hx]), List.dropWhile_cons_of_neg (by simp [hx]), List.dropWhile_cons_of_neg (by simp [hx])]; exact ⟨rfl, rfl⟩
theorem wordsOf_two (n : Nat) : ∀ (a : List UInt8), a.length ≤ n → ∀ {b : UInt8} (hb : isBl b = true) (q : List UInt8), wordsOf (a ++ b :: q) = wordsOf a ++ wordsOf q := by
  induction n with
  | zero =>
    intro a ha b hb q
    obtain rfl : a = [] := List.length_eq_zero_iff.1 (by omega)
    rw [wordsOf_nil (l := []) rfl, List.nil_append, List.nil_append]
    exact word1_blank hb q
  | succ n ih =>
    intro a ha b hb q
    by_cases h : a.dropWhile isBl = []
    · rw [wordsOf_nil h, List.nil_append]
      have e := drop_app_nil h (b :: q)
      rw [List.dropWhile_cons_of_pos hb] at e
      by_cases hq : q.dropWhile isBl = []
      · rw [wordsOf_nil hq, wordsOf_nil (e.trans hq)]
      · rw [wordsOf_cons hq, wordsOf_cons (by rw [e]; exact hq), e]
    · have e := drop_app h (b :: q)
      obtain ⟨h1, h2⟩ := take_app (a.dropWhile isBl) hb q
      rw [wordsOf_cons h, wordsOf_cons (by rw [e]; simp), e, h1, h2, ih _ (by have := drop_lt h; omega) hb q]
      rfl
/-- what begins a line that is no remark -/
def safe (p : List UInt8) : Prop := p.head? ≠ some 99 ∧ ∀ b ∈ p, b ≠ 10
/-- it ends with a blank, or is empty -/
def loose (p : List UInt8) : Prop := p = [] ∨ ∃ q b, p = q ++ [b] ∧ isBl b = true
theorem words_loose {p w g : List UInt8} (hp : loose p) (h0 : w ≠ []) (hw : ∀ b ∈ w, isBl b = false) (hg : ∀ b ∈ g, isBl b = true) : wordsOf (p ++ (w ++ g)) = wordsOf p ++ [w] := by
  have e1 : wordsOf (w ++ g) = [w] := by
    cases g with
    | nil =>
      rw [wordsOf_word w [] h0 hw (.inl rfl), wordsOf_nil (l := []) rfl]
    | cons b g =>
      rw [wordsOf_word w (b :: g) h0 hw (.inr ⟨b, g, rfl, hg b (List.mem_cons_self ..)⟩), wordsOf_nil]
      have : ∀ l : List UInt8, (∀ b ∈ l, isBl b = true) → l.dropWhile isBl = [] := by
        intro l
        induction l with
        | nil => intro _; rfl
        | cons x l ih => intro h; rw [List.dropWhile_cons_of_pos (h x (List.mem_cons_self ..))]; exact ih (fun y hy => h y (List.mem_cons_of_mem _ hy))
      exact this _ hg
  rcases hp with rfl | ⟨q, b, rfl, hb⟩
  · rw [List.nil_append, e1, wordsOf_nil (l := []) rfl, List.nil_append]
  · have e2 : (q ++ [b]) ++ (w ++ g) = q ++ b :: (w ++ g) := by simp
    have e3 : wordsOf (q ++ [b]) = wordsOf q := by
      have := wordsOf_two _ q (Nat.le_refl _) hb []
      rw [wordsOf_nil (l := []) rfl, List.append_nil] at this
      exact this
    rw [e2, wordsOf_two _ q (Nat.le_refl _) hb, e1, e3]
/-- the words of lines, without their numbers -/
def said (ls : List (List UInt8)) : List (List UInt8) := ls.flatMap (fun l => if idleL l then [] else wordsOf l)
theorem spoken_said : ∀ (ls : List (List UInt8)) (k : Nat), (spoken k ls).map Prod.fst = said ls
  | [], k => rfl
  | l :: r, k => by
    rw [spoken, List.map_append, spoken_said r (k + 1)]
    unfold said
    rw [List.flatMap_cons]
    split
    · simp
    · congr 1
      rw [List.map_map]
      exact (List.map_congr_left (fun _ _ => rfl)).trans (List.map_id _)
/-- the gaps -/
def gapsL : List (List UInt8) := [[32], [10], [9, 32, 9], [32, 10, 10, 99, 32, 49, 32, 48, 32, 120, 10, 9], [10, 32, 9, 10], [10, 99, 10], [32, 32], [10, 99, 110, 102, 32, 13, 32, 55, 10, 10]]
def gapB (z : Int) : List UInt8 := gapsL.getD (z % 8).toNat []
/-- words, each with its gap, one behind the other -/
def rend (ts : List (List UInt8 × List UInt8)) : List UInt8 := ts.flatMap (fun t => t.1 ++ t.2)
theorem idle_not {p : List UInt8} (h : p.head? ≠ some 99) (hw : wordsOf p ≠ []) : idleL p = false := by
  unfold idleL
  have h1 : (p.head? == some 99) = false := by simpa using h
  have h2 : p.all isBl = false := by
    cases hq : p.all isBl with
    | false => rfl
    | true =>
      exfalso
      apply hw
      apply wordsOf_nil
      have : ∀ l : List UInt8, (∀ b ∈ l, isBl b = true) → l.dropWhile isBl = [] := by
        intro l
        induction l with
        | nil => intro _; rfl
        | cons x l ih => intro h; rw [List.dropWhile_cons_of_pos (h x (List.mem_cons_self ..))]; exact ih (fun y hy => h y (List.mem_cons_of_mem _ hy))
      exact this _ (List.all_eq_true.1 hq)
  rw [h1, h2]; rfl
theorem said_line {p : List UInt8} (h : p.head? ≠ some 99) : (if idleL p then [] else wordsOf p) = wordsOf p := by
  by_cases hw : wordsOf p = []
  · rw [hw]; simp
  · rw [idle_not h hw]; simp
/-- a word of a formula's text -/
def wordy (w : List UInt8) : Prop := w ≠ [] ∧ (∀ b ∈ w, isBl b = false) ∧ (∀ b ∈ w, b ≠ 10) ∧ w.head? ≠ some 99
theorem head_app {a b : List UInt8} (ha : a ≠ []) : (a ++ b).head? = a.head? := by
  cases a with
  | nil => exact absurd rfl ha
  | cons x a => rfl
theorem safe_word {p w : List UInt8} (hp : safe p) (hw : wordy w) : safe (p ++ w) := by
  refine ⟨?_, ?_⟩
  · by_cases h : p = []
    · subst h; exact hw.2.2.2
    · rw [head_app h]; exact hp.1
  · intro b hb
    rcases List.mem_append.1 hb with h | h
    · exact hp.2 b h
    · exact hw.2.2.1 b h
theorem safe_blank {p : List UInt8} (hp : safe p) (hne : p ≠ []) {g : List UInt8} (hg : ∀ b ∈ g, isBl b = true) : safe (p ++ g) := by
  refine ⟨by rw [head_app hne]; exact hp.1, ?_⟩
  intro b hb
  rcases List.mem_append.1 hb with h | h
  · exact hp.2 b h
  · have := hg b h
    rintro rfl; exact absurd this (by decide)
theorem said_lines {p : List UInt8} (hp : safe p) (r : List UInt8) : said (linesOf (p ++ 10 :: r)) = wordsOf p ++ said (linesOf r) := by
  rw [linesOf_line p r hp.2]
  unfold said
  rw [List.flatMap_cons, said_line hp.1]
theorem said_skip (l r : List UInt8) (h1 : ∀ b ∈ l, b ≠ 10) (h2 : idleL l = true) : said (linesOf (l ++ 10 :: r)) = said (linesOf r) := by
  rw [linesOf_line l r h1]
  unfold said
  rw [List.flatMap_cons, h2]; simp
theorem said_rend : ∀ (ts : List (List UInt8 × List UInt8)) (p : List UInt8), (∀ t ∈ ts, wordy t.1 ∧ t.2 ∈ gapsL) → safe p → loose p → said (linesOf (p ++ rend ts)) = wordsOf p ++ ts.map Prod.fst
  | [], p, _, hp, _ => by
    have e : rend [] = [] := rfl
    rw [e, List.append_nil, List.map_nil, List.append_nil]
    by_cases h : p = []
    · subst h; rw [linesOf_nil, wordsOf_nil (l := []) rfl]; rfl
    · have hc : cutN p = (p, []) := by
        have : ∀ l : List UInt8, (∀ b ∈ l, b ≠ 10) → cutN l = (l, []) := by
          intro l
          induction l with
          | nil => intro _; rfl
          | cons x l ih => intro h; rw [cutN, if_neg (by simpa using h x (List.mem_cons_self ..)), ih (fun y hy => h y (List.mem_cons_of_mem _ hy))]
        exact this p hp.2
      rw [linesOf_cons h, hc]
      simp only [linesOf_nil]
      unfold said
      rw [List.flatMap_cons, said_line hp.1]; simp
  | t :: ts, p, h, hp, hl => by
    obtain ⟨hw, hg⟩ := h t (List.mem_cons_self ..)
    have hr := fun p' hp' hl' => said_rend ts p' (fun x hx => h x (List.mem_cons_of_mem _ hx)) hp' hl'
    have e : rend (t :: ts) = (t.1 ++ t.2) ++ rend ts := by simp [rend]
    have hsw := safe_word hp hw
    have hpne : p ++ t.1 ≠ [] := by simp [hw.1]
    have hwp : wordsOf (p ++ t.1) = wordsOf p ++ [t.1] := by
      have := words_loose (g := []) hl hw.1 hw.2.1 (by simp)
      rwa [List.append_nil] at this
    rw [e, List.map_cons]
    obtain ⟨w, g⟩ := t
    simp only at *
    simp only [gapsL, List.mem_cons, List.not_mem_nil, or_false] at hg
    have inl : ∀ g : List UInt8, g ≠ [] → (∀ b ∈ g, isBl b = true) → said (linesOf (p ++ (w ++ g ++ rend ts))) = wordsOf p ++ w :: ts.map Prod.fst := by
      intro g hne hgb
      have e2 : p ++ (w ++ g ++ rend ts) = ((p ++ w) ++ g) ++ rend ts := by simp
      rw [e2, hr _ (safe_blank hsw hpne hgb) (.inr ⟨(p ++ w) ++ g.dropLast, g.getLast hne, by rw [List.append_assoc (p ++ w) g.dropLast, List.dropLast_concat_getLast hne], hgb _ (List.getLast_mem hne)⟩)]
      rw [List.append_assoc, words_loose hl hw.1 hw.2.1 hgb]; simp
    have nl0 : said (linesOf ([] ++ rend ts)) = ts.map Prod.fst := by
      rw [hr [] ⟨by simp, by simp⟩ (.inl rfl), wordsOf_nil (l := []) rfl]; rfl
    rw [List.nil_append] at nl0
    have nl9 : said (linesOf (9 :: rend ts)) = ts.map Prod.fst := by
      have := hr [9] ⟨by decide, by decide⟩ (.inr ⟨[], 9, rfl, rfl⟩)
      rw [wordsOf_nil (l := [9]) rfl] at this
      exact this
    rcases hg with rfl | rfl | rfl | rfl | rfl | rfl | rfl | rfl
    · exact inl [32] (by simp) (by decide)
    · have e2 : p ++ (w ++ [10] ++ rend ts) = (p ++ w) ++ 10 :: rend ts := by simp
      rw [e2, said_lines hsw, hwp, nl0]; simp
    · exact inl [9, 32, 9] (by simp) (by decide)
    · have e2 : p ++ (w ++ [32, 10, 10, 99, 32, 49, 32, 48, 32, 120, 10, 9] ++ rend ts) = ((p ++ w) ++ [32]) ++ 10 :: ([] ++ 10 :: ([99, 32, 49, 32, 48, 32, 120] ++ 10 :: (9 :: rend ts))) := by simp
      rw [e2, said_lines (safe_blank hsw hpne (by decide)), said_skip [] _ (by decide) rfl, said_skip _ _ (by decide) rfl, nl9, List.append_assoc p w [32], words_loose hl hw.1 hw.2.1 (by decide)]; simp
    · have e2 : p ++ (w ++ [10, 32, 9, 10] ++ rend ts) = (p ++ w) ++ 10 :: ([32, 9] ++ 10 :: rend ts) := by simp
      rw [e2, said_lines hsw, said_skip _ _ (by decide) rfl, hwp, nl0]; simp
    · have e2 : p ++ (w ++ [10, 99, 10] ++ rend ts) = (p ++ w) ++ 10 :: ([99] ++ 10 :: rend ts) := by simp
      rw [e2, said_lines hsw, said_skip _ _ (by decide) rfl, hwp, nl0]; simp
    · exact inl [32, 32] (by simp) (by decide)
    · have e2 : p ++ (w ++ [10, 99, 110, 102, 32, 13, 32, 55, 10, 10] ++ rend ts) = (p ++ w) ++ 10 :: ([99, 110, 102, 32, 13, 32, 55] ++ 10 :: ([] ++ 10 :: rend ts)) := by simp
      rw [e2, said_lines hsw, said_skip _ _ (by decide) rfl, said_skip [] _ (by decide) rfl, hwp, nl0]; simp
/-- the lines' numbers count for nothing where nothing is wrong -/
theorem eat_said (n : Int) : ∀ (a b : List (List UInt8 × Nat)) (op : List Int) (all : List (List Int)), a.map Prod.fst = b.map Prod.fst → (eat n a op all).2.2 = none → eat n b op all = eat n a op all
  | [], [], op, all, _, _ => rfl
  | [], y :: b, op, all, h, _ => by simp at h
  | x :: a, [], op, all, h, _ => by simp at h
  | (w, k) :: a, (w', k') :: b, op, all, h, hn => by
    simp only [List.map_cons, List.cons.injEq] at h
    obtain ⟨rfl, h⟩ := h
    cases hw : numW w with
    | none => rw [eat_none hw] at hn; simp at hn
    | some z =>
      by_cases hz : z = 0
      · subst hz
        rw [eat_zero hw] at hn ⊢
        rw [eat_zero hw]
        exact eat_said n a b _ _ h hn
      · cases hf : (!fmd z || decide (n < varOf z)) with
        | true => rw [eat_bad hw hz hf] at hn; simp at hn
        | false =>
          rw [eat_lit hw hz hf] at hn ⊢
          rw [eat_lit hw hz hf]
          exact eat_said n a b _ _ h hn
/-- the words of all clauses -/
def allW (css : List (List Int)) : List (List UInt8) := css.flatMap (fun c => c.map Lib.itoa ++ [[48]])
theorem said_body (css : List (List Int)) (k : Nat) : (spoken k (css.map (fun c => textOf c ++ [48]))).map Prod.fst = allW css := by
  rw [spoken_said]
  unfold said allW
  rw [List.flatMap_map]
  congr 1
  funext c
  rw [clause_idle, clause_words]; simp
theorem itoa_wordy (z : Int) : wordy (Lib.itoa z) := ⟨itoa_ne z, fun b hb => itoa_bl hb, itoa_nl, by have := itoa_head z []; rw [List.append_nil] at this; simpa using this⟩
theorem allW_wordy (css : List (List Int)) : ∀ w ∈ allW css, wordy w := by
  intro w hw
  obtain ⟨c, _, hc⟩ := List.mem_flatMap.1 hw
  rcases List.mem_append.1 hc with h | h
  · obtain ⟨z, _, rfl⟩ := List.mem_map.1 h; exact itoa_wordy z
  · obtain rfl : w = [48] := by simpa using h
    exact ⟨by simp, by decide, by decide, by decide⟩
/-- the two idle lines and the head -/
def looseHead (n : Int) (k : Nat) : List UInt8 := [99, 32, 112, 32, 99, 110, 102, 32, 49, 32, 49, 10, 10, 32, 9, 112, 9, 32, 99, 110, 102, 32, 32] ++ Lib.itoa n ++ [32] ++ Lib.itoa k ++ [32, 10]
theorem rdF_loose (n : Int) (css : List (List Int)) (ts : List (List UInt8 × List UInt8)) (h : frm n css = true) (hc : css.length ≤ 2147483647) (ht : ts.map Prod.fst = allW css) (hg : ∀ t ∈ ts, t.2 ∈ gapsL) :
    rdF (looseHead n css.length ++ rend ts) = ⟨n, css, 0, 0⟩ := by
  simp only [frm, Bool.and_eq_true, decide_eq_true_eq] at h
  have e : looseHead n css.length ++ rend ts = [99, 32, 112, 32, 99, 110, 102, 32, 49, 32, 49] ++ 10 :: ([] ++ 10 :: ((([32, 9] ++ ([112] ++ 9 :: ([32] ++ ([99, 110, 102] ++ 32 :: ([32] ++ (Lib.itoa n ++ 32 :: (Lib.itoa css.length ++ [32]))))))) ++ 10 :: rend ts))) := by simp [looseHead]
  have hhl : ∀ b ∈ ([32, 9] ++ ([112] ++ 9 :: ([32] ++ ([99, 110, 102] ++ 32 :: ([32] ++ (Lib.itoa n ++ 32 :: (Lib.itoa css.length ++ [32]))))))), b ≠ 10 := by
    intro b hb
    simp only [List.cons_append, List.nil_append, List.mem_cons, List.mem_append, List.not_mem_nil, or_false] at hb
    rcases hb with rfl | rfl | rfl | rfl | rfl | rfl | rfl | rfl | rfl | rfl | h | rfl | h | rfl
    all_goals first | decide | exact itoa_nl b h
  have hhw : wordsOf ([32, 9] ++ ([112] ++ 9 :: ([32] ++ ([99, 110, 102] ++ 32 :: ([32] ++ (Lib.itoa n ++ 32 :: (Lib.itoa css.length ++ [32]))))))) = [[112], [99, 110, 102], Lib.itoa n, Lib.itoa css.length] := by
    have s1 : wordsOf (Lib.itoa css.length ++ [32]) = [Lib.itoa css.length] := by
      rw [wordsOf_blank _ _ (itoa_ne _) (fun b hb => itoa_bl hb), wordsOf_nil (l := []) rfl]
    have s2 := wordsOf_blank (Lib.itoa n) (Lib.itoa css.length ++ [32]) (itoa_ne n) (fun b hb => itoa_bl hb)
    have s3 := word1_blank (b := 32) rfl (Lib.itoa n ++ 32 :: (Lib.itoa css.length ++ [32]))
    have s4 := wordsOf_blank [99, 110, 102] (32 :: (Lib.itoa n ++ 32 :: (Lib.itoa css.length ++ [32]))) (by simp) (by decide)
    have s5 := word1_blank (b := 32) rfl ([99, 110, 102] ++ 32 :: (32 :: (Lib.itoa n ++ 32 :: (Lib.itoa css.length ++ [32]))))
    have s6 := wordsOf_word [112] (9 :: 32 :: ([99, 110, 102] ++ 32 :: (32 :: (Lib.itoa n ++ 32 :: (Lib.itoa css.length ++ [32]))))) (by simp) (by decide) (.inr ⟨9, _, rfl, rfl⟩)
    have s7 := word1_blank (b := 9) rfl (32 :: ([99, 110, 102] ++ 32 :: (32 :: (Lib.itoa n ++ 32 :: (Lib.itoa css.length ++ [32])))))
    have s8 := word1_blank (b := 9) rfl ([112] ++ 9 :: 32 :: ([99, 110, 102] ++ 32 :: (32 :: (Lib.itoa n ++ 32 :: (Lib.itoa css.length ++ [32])))))
    have s9 := word1_blank (b := 32) rfl (9 :: ([112] ++ 9 :: 32 :: ([99, 110, 102] ++ 32 :: (32 :: (Lib.itoa n ++ 32 :: (Lib.itoa css.length ++ [32]))))))
    refine s9.trans (s8.trans (s6.trans ?_))
    rw [s7, s5, s4, s3, s2, s1]
  have hid : idleL ([32, 9] ++ ([112] ++ 9 :: ([32] ++ ([99, 110, 102] ++ 32 :: ([32] ++ (Lib.itoa n ++ 32 :: (Lib.itoa css.length ++ [32]))))))) = false := idle_not (by simp) (by rw [hhw]; simp)
  have hsaid : said (linesOf (rend ts)) = allW css := by
    have := said_rend ts [] (fun t ht' => ⟨allW_wordy css _ (by rw [← ht]; exact List.mem_map_of_mem ht'), hg t ht'⟩) ⟨by simp, by simp⟩ (.inl rfl)
    rw [wordsOf_nil (l := []) rfl, List.nil_append, List.nil_append, ht] at this
    exact this
  unfold rdF
  rw [e, linesOf_line _ _ (by decide), linesOf_line _ _ (by decide), linesOf_line _ _ hhl]
  rw [nxt, show idleL [99, 32, 112, 32, 99, 110, 102, 32, 49, 32, 49] = true from rfl, if_pos rfl, nxt, show idleL [] = true from rfl, if_pos rfl, nxt, hid]
  simp only [Bool.false_eq_true, if_false]
  have hh : headW [[112], [99, 110, 102], Lib.itoa n, Lib.itoa css.length] = some (n, (css.length : Int)) := by
    unfold headW
    simp only
    rw [if_pos (by decide), numW_itoa n (by omega) (by omega), numW_itoa _ (by omega) (by omega)]
    simp only
    rw [if_pos (by simp; omega)]
  rw [hhw, hh]
  simp only
  rw [eat_said n (spoken 4 (css.map (fun c => textOf c ++ [48]))) _ [] [] (by rw [said_body, spoken_said, hsaid]) (by rw [eat_body n css 4 [] h.2]), eat_body n css 4 [] h.2]
  simp

end Go.Proofs.YthdogkafmhnffaaDoor

/-
  An answer's text, line by line: it is read as it was written, and its lines are full. No program here.
  KEEP: nil below form mono app grown rdz ex
-/
import Derived.Test.YtpebpnbikdahkaaDoorAnQ
import Derived.Test.YtpebpnbikdahkaaDoorRdBack
set_option linter.unusedSimpArgs false
set_option linter.unusedVariables false
namespace Go.Proofs.YtpebpnbikdahkaaDoor
open Go.RowKit

/-- a line of numbers -/
def tlL (c : List Int) : List UInt8 := c.flatMap (fun z => 32 :: Lib.itoa z)
def vlL (c : List Int) : List UInt8 := 118 :: tlL c
/-- lines, each with its end -/
def txL (ls : List (List UInt8)) : List UInt8 := ls.flatMap (fun l => l ++ [10])
/-- no line could have taken the next one's first number -/
def fulL : List (List Int) → Prop
  | [] => True
  | [_] => True
  | a :: b :: r => 78 < (vlL a).length + 1 + (Lib.itoa (b.headD 0)).length ∧ fulL (b :: r)
theorem tl_snoc (c : List Int) (z : Int) : tlL (c ++ [z]) = tlL c ++ [32] ++ Lib.itoa z := by
  unfold tlL; rw [List.flatMap_append]; simp
theorem vl_snoc (c : List Int) (z : Int) : vlL (c ++ [z]) = vlL c ++ [32] ++ Lib.itoa z := by
  unfold vlL; rw [tl_snoc]; simp
theorem tx_snoc (ls : List (List UInt8)) (l : List UInt8) : txL (ls ++ [l]) = txL ls ++ l ++ [10] := by
  unfold txL; rw [List.flatMap_append]; simp
theorem ful_snoc : ∀ (cs : List (List Int)) (a b : List Int), fulL (cs ++ [a]) → 78 < (vlL a).length + 1 + (Lib.itoa (b.headD 0)).length → fulL (cs ++ [a] ++ [b])
  | [], a, b, _, h => ⟨h, trivial⟩
  | [c], a, b, h1, h => ⟨h1.1, ful_snoc [] a b h1.2 h⟩
  | c :: d :: r, a, b, h1, h => ⟨h1.1, ful_snoc (d :: r) a b h1.2 h⟩
theorem ful_more : ∀ (cs : List (List Int)) (a : List Int) (z : Int), fulL (cs ++ [a]) → a ≠ [] → fulL (cs ++ [a ++ [z]])
  | [], a, z, _, _ => trivial
  | [c], a, z, h1, h => by
    refine ⟨?_, trivial⟩
    have h2 := h1.1
    cases a with
    | nil => exact absurd rfl h
    | cons x r => exact h2
  | c :: d :: r, a, z, h1, h => ⟨h1.1, ful_more (d :: r) a z h1.2 h⟩
/-- the writer's state, line by line -/
structure LgI (st : List UInt8 × List UInt8) (ns : List Int) : Prop where
  ex : ∃ cs cur, st.1 = satL ++ txL (cs.map vlL) ∧ st.2 = vlL cur ∧ cs.flatten ++ cur = ns ∧ (∀ c ∈ cs, c ≠ [] ∧ (vlL c).length ≤ 78) ∧ (vlL cur).length ≤ 78 ∧ fulL (cs ++ [cur]) ∧ (cur = [] → cs = [])
theorem lg_start : LgI (satL, [118]) [] := ⟨[], [], by simp [txL], rfl, rfl, by simp, by decide, trivial, fun _ => rfl⟩
theorem lg_put {st : List UInt8 × List UInt8} {ns : List Int} {z : Int} (h : LgI st ns) (h1 : -9223372036854775808 ≤ z) (h2 : z ≤ 9223372036854775807) : LgI (putN st z) (ns ++ [z]) := by
  obtain ⟨cs, cur, e1, e2, e3, h3, h4, h5, h6⟩ := h.ex
  have hil := Lib.itoa_length_le z (by omega) (by omega)
  unfold putN putW
  split
  · rename_i hl
    have hne : cur ≠ [] := fun e => by
      rw [e2, e] at hl
      have : (vlL []).length = 1 := rfl
      omega
    refine ⟨cs ++ [cur], [z], ?_, ?_, ?_, ?_, ?_, ful_snoc cs cur [z] h5 (by rw [e2] at hl; exact hl), fun e => by cases e⟩
    · show st.1 ++ st.2 ++ [10] = _
      rw [e1, e2, List.map_append, List.map_cons, List.map_nil, tx_snoc]; simp
    · show [118] ++ [32] ++ Lib.itoa z = vlL ([] ++ [z])
      rw [vl_snoc]; rfl
    · rw [← e3]; simp
    · intro c hc
      rcases List.mem_append.1 hc with e | e
      · exact h3 c e
      · rw [List.mem_singleton.1 e]; exact ⟨hne, h4⟩
    · have : (vlL ([] ++ [z])).length = 1 + 1 + (Lib.itoa z).length := by rw [vl_snoc, List.length_append, List.length_append]; rfl
      have e : ([] ++ [z] : List Int) = [z] := rfl
      rw [e] at this
      omega
  · rename_i hl
    refine ⟨cs, cur ++ [z], e1, ?_, ?_, h3, ?_, ?_, fun e => by simp at e⟩
    · show st.2 ++ [32] ++ Lib.itoa z = _
      rw [e2, vl_snoc]
    · rw [← e3]; simp
    · rw [vl_snoc, ← e2]; simp; omega
    · by_cases hne : cur = []
      · rw [h6 hne]; exact trivial
      · exact ful_more cs cur z h5 hne
theorem lg_to (m : List Bool) : ∀ k, k ≤ 1048576 → LgI (putTo m k) ((List.range k).map (numAt m))
  | 0, _ => lg_start
  | k + 1, h => by
    rw [putTo_succ, List.range_succ, List.map_append]
    have hr := numAt_range m k (by omega)
    exact lg_put (lg_to m k (by omega)) (by omega) (by omega)
theorem ans_lines (m : List Bool) (h : m.length ≤ 1048576) : ∃ Ls : List (List Int), ansT m = satL ++ txL (Ls.map vlL) ∧ Ls.flatten = numsOf m ∧ (∀ c ∈ Ls, c ≠ [] ∧ (vlL c).length ≤ 78) ∧ fulL Ls := by
  obtain ⟨cs, cur, e1, e2, e3, h3, h4, h5, h6⟩ := (lg_put (z := 0) (lg_to m m.length h) (by decide) (by decide)).ex
  have hne : cur ≠ [] := fun e => by
    have := h6 e
    rw [e, this] at e3
    simp at e3
  refine ⟨cs ++ [cur], ?_, ?_, ?_, h5⟩
  · unfold ansT
    rw [e1, e2, List.map_append, List.map_cons, List.map_nil, tx_snoc]; simp
  · unfold numsOf; rw [← e3]; simp
  · intro c hc
    rcases List.mem_append.1 hc with e | e
    · exact h3 c e
    · rw [List.mem_singleton.1 e]; exact ⟨hne, h4⟩
/-- how long the first number of a line is -/
def wrdN (cur : List UInt8) : Nat := ((cur.drop 2).takeWhile (fun b => b != 32)).length
/-- what the loop over the text asks: the rest of it, the line so far, the length of the line ahead, how many there were -/
def scn : List UInt8 → List UInt8 → Nat → Nat → Bool
  | [], _, _, _ => true
  | b :: r, cur, last, k => if b = 10 then (decide (cur.length ≤ 78) && !(decide (1 < k) && decide (last + 1 + wrdN cur ≤ 78))) && scn r [] cur.length (k + 1) else scn r (cur ++ [b]) last k
theorem scn_line : ∀ (l r cur : List UInt8) (last k : Nat), (∀ b ∈ l, b ≠ 10) → scn (l ++ 10 :: r) cur last k = ((decide ((cur ++ l).length ≤ 78) && !(decide (1 < k) && decide (last + 1 + wrdN (cur ++ l) ≤ 78))) && scn r [] (cur ++ l).length (k + 1))
  | [], r, cur, last, k, _ => by rw [List.nil_append, scn, if_pos rfl, List.append_nil]
  | b :: l, r, cur, last, k, h => by
    rw [List.cons_append, scn, if_neg (h b (by simp)), scn_line l r (cur ++ [b]) last k (fun x hx => h x (List.mem_cons_of_mem _ hx))]
    have e : cur ++ [b] ++ l = cur ++ b :: l := by simp
    rw [e]
theorem tl_nl : ∀ (c : List Int), ∀ b ∈ tlL c, b ≠ 10
  | [], b, h => by cases h
  | z :: c, b, h => by
    have e : tlL (z :: c) = 32 :: (Lib.itoa z ++ tlL c) := by unfold tlL; rw [List.flatMap_cons]; simp
    rw [e] at h
    rcases List.mem_cons.1 h with h | h
    · rw [h]; decide
    · rcases List.mem_append.1 h with h | h
      · exact itoa_nl b h
      · exact tl_nl c b h
theorem vl_nl (c : List Int) : ∀ b ∈ vlL c, b ≠ 10 := fun b h => by
  rcases List.mem_cons.1 h with h | h
  · rw [h]; decide
  · exact tl_nl c b h
theorem tl_head (c : List Int) : tlL c = [] ∨ ∃ b r', tlL c = b :: r' ∧ isBl b = true := by
  cases c with
  | nil => exact .inl rfl
  | cons z r => exact .inr ⟨32, Lib.itoa z ++ tlL r, by unfold tlL; rw [List.flatMap_cons]; simp, by decide⟩
theorem take_ne : ∀ (w r : List UInt8), (∀ b ∈ w, b ≠ 32) → (r = [] ∨ ∃ r', r = 32 :: r') → (w ++ r).takeWhile (fun b => b != 32) = w
  | [], r, _, h => by
    rcases h with h | ⟨r', h⟩
    · subst h; rfl
    · subst h; rfl
  | b :: w, r, hw, h => by
    rw [List.cons_append, List.takeWhile_cons_of_pos (by simpa using hw b (by simp)), take_ne w r (fun x hx => hw x (List.mem_cons_of_mem _ hx)) h]
theorem wrd_vl (z : Int) (c : List Int) : wrdN (vlL (z :: c)) = (Lib.itoa z).length := by
  have e : vlL (z :: c) = 118 :: 32 :: (Lib.itoa z ++ tlL c) := by unfold vlL tlL; rw [List.flatMap_cons]; simp
  unfold wrdN
  rw [e]
  show ((Lib.itoa z ++ tlL c).takeWhile _).length = _
  rw [take_ne]
  · exact fun b hb => itoa_not hb (by decide) (by decide)
  · cases c with
    | nil => exact .inl rfl
    | cons x r => exact .inr ⟨Lib.itoa x ++ tlL r, by unfold tlL; rw [List.flatMap_cons]; simp⟩
theorem tx_cons (l : List UInt8) (ls : List (List UInt8)) : txL (l :: ls) = l ++ 10 :: txL ls := by unfold txL; rw [List.flatMap_cons]; simp
/-- the next line may follow -/
def nxtL (last k : Nat) : List (List Int) → Prop
  | [] => True
  | c :: _ => k ≤ 1 ∨ 78 < last + 1 + (Lib.itoa (c.headD 0)).length
theorem scn_all : ∀ (Ls : List (List Int)) (last k : Nat), (∀ c ∈ Ls, c ≠ [] ∧ (vlL c).length ≤ 78) → fulL Ls → nxtL last k Ls → scn (txL (Ls.map vlL)) [] last k = true
  | [], last, k, _, _, _ => rfl
  | c :: r, last, k, h, hf, hx => by
    rw [List.map_cons, tx_cons, scn_line _ _ _ _ _ (vl_nl c), List.nil_append]
    obtain ⟨h1, h2⟩ := h c (by simp)
    have h3 : (decide (1 < k) && decide (last + 1 + wrdN (vlL c) ≤ 78)) = false := by
      rcases hx with hx | hx
      · rw [decide_eq_false (by omega)]; rfl
      · cases c with
        | nil => exact absurd rfl h1
        | cons z c' =>
          rw [wrd_vl]
          have e : (z :: c').headD 0 = z := rfl
          rw [e] at hx
          rw [decide_eq_false (p := last + 1 + (Lib.itoa z).length ≤ 78) (by omega), Bool.and_false]
    rw [decide_eq_true h2, h3]
    have h4 : fulL r := by
      cases r with
      | nil => trivial
      | cons d r' => exact hf.2
    have h5 : nxtL (vlL c).length (k + 1) r := by
      cases r with
      | nil => trivial
      | cons d r' => exact .inr hf.1
    rw [scn_all r _ _ (fun x hx => h x (List.mem_cons_of_mem _ hx)) h4 h5]
    rfl
def satW : List UInt8 := [115, 32, 83, 65, 84, 73, 83, 70, 73, 65, 66, 76, 69]
def unsW : List UInt8 := [115, 32, 85, 78, 83, 65, 84, 73, 83, 70, 73, 65, 66, 76, 69]
theorem sat_eq (r : List UInt8) : satL ++ r = satW ++ 10 :: r := rfl
theorem uns_eq : unsL = unsW ++ 10 :: [] := rfl
theorem scn_ans (m : List Bool) (h : m.length ≤ 1048576) : scn (ansT m) [] 0 0 = true := by
  obtain ⟨Ls, e1, e2, h3, h4⟩ := ans_lines m h
  rw [e1, sat_eq, scn_line _ _ _ _ _ (by decide), List.nil_append, scn_all Ls _ _ h3 h4 ?_]
  · decide
  · cases Ls with
    | nil => trivial
    | cons c r => exact .inl (Nat.le_refl _)
/-- what is read behind so many numbers -/
def stA (m : List Bool) (i : Nat) : List Bool × Bool := (m.take i, decide (m.length < i))
theorem nums_len (m : List Bool) : (numsOf m).length = m.length + 1 := by unfold numsOf; simp
theorem nums_at (m : List Bool) (i : Nat) (h : i < m.length) : (numsOf m)[i]? = some (numAt m i) := by
  unfold numsOf
  rw [List.getElem?_append_left (by simpa using h)]
  simp [h]
theorem nums_last (m : List Bool) : (numsOf m)[m.length]? = some 0 := by
  unfold numsOf
  rw [List.getElem?_append_right (by simp)]
  simp
theorem eat_nums (m : List Bool) (hm : m.length ≤ 1048576) (j : Nat) : ∀ (c r : List Int) (i : Nat) (rest : List (List UInt8 × Nat)), (numsOf m).drop i = c ++ r → eatA (c.map (fun z => (Lib.itoa z, j)) ++ rest) j (stA m i).2 (stA m i).1 = eatA rest j (stA m (i + c.length)).2 (stA m (i + c.length)).1
  | [], r, i, rest, _ => rfl
  | z :: c, r, i, rest, h => by
    have hz : (numsOf m)[i]? = some z := by
      have := congrArg (fun l => l[0]?) h
      simpa using this
    have hi : i < m.length + 1 := by
      rw [← nums_len]; exact (List.getElem?_eq_some_iff.1 hz).1
    have hd : (numsOf m).drop (i + 1) = c ++ r := by
      have := congrArg List.tail h
      rw [List.tail_drop] at this
      exact this
    have ih := eat_nums m hm j c r (i + 1) rest hd
    have e : i + (z :: c).length = i + 1 + c.length := by simp; omega
    rw [e, ← ih, List.map_cons, List.cons_append]
    have hen : (stA m i).2 = false := decide_eq_false (by omega)
    rw [hen]
    by_cases hlt : i < m.length
    · rw [nums_at m i hlt] at hz
      injection hz with hz
      have hen2 : (stA m (i + 1)).2 = false := decide_eq_false (by omega)
      have hl : (stA m i).1.length = i := by show (m.take i).length = i; simp; omega
      have ht : (stA m (i + 1)).1 = (stA m i).1 ++ [m.getD i false] := by
        show m.take (i + 1) = m.take i ++ _
        rw [List.take_succ_eq_append_getElem hlt]
        simp [List.getD_eq_getElem?_getD, hlt]
      rw [hen2, ht]
      subst hz
      cases hb : m.getD i false
      · have hn : numAt m i = -((i : Int) + 1) := by unfold numAt; rw [hb]; rfl
        have hv : varOf (numAt m i) = (((stA m i).1).length : Int) + 1 := by
          rw [hl, hn]
          unfold varOf
          rw [fmd_true (by omega) (by omega) (by omega), if_pos rfl, if_pos (by omega)]; omega
        rw [eatA_more (numW_itoa _ (by rw [hn]; omega) (by rw [hn]; omega)) (by rw [hn]; omega) hv, decide_eq_false (by rw [hn]; omega)]
      · have hn : numAt m i = (i : Int) + 1 := by unfold numAt; rw [hb]; rfl
        have hv : varOf (numAt m i) = (((stA m i).1).length : Int) + 1 := by
          rw [hl, hn]
          unfold varOf
          rw [fmd_true (by omega) (by omega) (by omega), if_pos rfl, if_neg (by omega)]
        rw [eatA_more (numW_itoa _ (by rw [hn]; omega) (by rw [hn]; omega)) (by rw [hn]; omega) hv, decide_eq_true (by rw [hn]; omega)]
    · obtain rfl : i = m.length := by omega
      rw [nums_last] at hz
      injection hz with hz
      subst hz
      have hen2 : (stA m (m.length + 1)).2 = true := decide_eq_true (by omega)
      have ht : (stA m (m.length + 1)).1 = (stA m m.length).1 := by
        show m.take (m.length + 1) = m.take m.length
        rw [List.take_of_length_le (by omega), List.take_of_length_le (Nat.le_refl _)]
      rw [hen2, ht, eatA_zero (numW_itoa 0 (by decide) (by decide))]
theorem tl_words : ∀ c : List Int, wordsOf (tlL c) = c.map Lib.itoa
  | [] => wordsOf_nil rfl
  | z :: c => by
    have e : tlL (z :: c) = 32 :: (Lib.itoa z ++ tlL c) := by unfold tlL; rw [List.flatMap_cons]; simp
    rw [e, word1_blank (by decide), wordsOf_word _ _ (itoa_neB z) (fun b hb => itoa_bl hb) (tl_head c), tl_words c]
    rfl
theorem vl_words (c : List Int) : wordsOf (vlL c) = [118] :: c.map Lib.itoa := by
  have e : vlL c = [118] ++ tlL c := rfl
  rw [e, wordsOf_word _ _ (by decide) (by decide) (tl_head c), tl_words]
theorem vl_idle (c : List Int) : idleL (vlL c) = false := by
  unfold idleL vlL
  simp
  intro h
  exact absurd h (by decide)
theorem eat_lines (m : List Bool) (hm : m.length ≤ 1048576) : ∀ (Ls : List (List Int)) (i k p : Nat), p ≠ k → p < k → (numsOf m).drop i = Ls.flatten → i ≤ m.length + 1 → eatA (spoken k (Ls.map vlL)) p (stA m i).2 (stA m i).1 = (m, true, none)
  | [], i, k, p, _, _, h, hi => by
    have h1 : (numsOf m).length ≤ i := List.drop_eq_nil_iff.1 h
    rw [nums_len] at h1
    have h2 : (stA m i).2 = true := decide_eq_true (by omega)
    have h3 : (stA m i).1 = m := List.take_of_length_le (by omega)
    rw [h2, h3]
    rfl
  | c :: r, i, k, p, hp, hlt, h, hi => by
    rw [List.flatten_cons] at h
    have hl := congrArg List.length h
    rw [List.length_drop, nums_len, List.length_append] at hl
    rw [List.map_cons]
    unfold spoken
    rw [vl_idle, if_neg (by simp), vl_words, List.map_cons, List.cons_append, eatA_line (fun e => hp e.symm) rfl, List.map_map]
    have e := eat_nums m hm k c r.flatten i (spoken (k + 1) (r.map vlL)) h
    have e2 : (c.map Lib.itoa).map (fun w => (w, k)) = c.map (fun z => (Lib.itoa z, k)) := by simp
    have e3 : List.map ((fun w => (w, k)) ∘ Lib.itoa) c = c.map (fun z => (Lib.itoa z, k)) := rfl
    rw [e3, e]
    refine eat_lines m hm r (i + c.length) (k + 1) k (by omega) (by omega) ?_ (by omega)
    rw [← List.drop_drop, h, List.drop_left]
theorem tx_lines : ∀ Ls : List (List Int), linesOf (txL (Ls.map vlL)) = Ls.map vlL
  | [] => linesOf_nil
  | c :: r => by rw [List.map_cons, tx_cons, linesOf_line _ _ (vl_nl c), tx_lines r]
theorem sat_words : wordsOf satW = [[115], yesW] := by
  have e : satW = [115] ++ 32 :: yesW := rfl
  have e2 : yesW = yesW ++ [] := rfl
  rw [e, wordsOf_blank _ _ (by decide) (by decide), e2, wordsOf_word _ _ (by decide) (by decide) (.inl rfl), wordsOf_nil rfl]
  rfl
theorem uns_words : wordsOf unsW = [[115], noW] := by
  have e : unsW = [115] ++ 32 :: noW := rfl
  have e2 : noW = noW ++ [] := rfl
  rw [e, wordsOf_blank _ _ (by decide) (by decide), e2, wordsOf_word _ _ (by decide) (by decide) (.inl rfl), wordsOf_nil rfl]
  rfl
theorem ans_read (m : List Bool) (h : m.length ≤ 1048576) : anF (ansT m) = ⟨true, m, 0, 0⟩ := by
  obtain ⟨Ls, e1, e2, h3, h4⟩ := ans_lines m h
  have hl : linesOf (ansT m) = satW :: Ls.map vlL := by rw [e1, sat_eq, linesOf_line _ _ (by decide), tx_lines]
  have hx : nxt 1 (satW :: Ls.map vlL) = some (satW, 1, Ls.map vlL) := by
    unfold nxt; rw [if_neg (by decide)]
  have ht : toldW [[115], yesW] = some true := by decide
  have he := eat_lines m h Ls 0 2 1 (by decide) (by decide) (by rw [List.drop_zero, e2]) (by omega)
  have hs : stA m 0 = ([], false) := rfl
  rw [hs] at he
  unfold anF
  rw [hl, hx]
  dsimp only
  rw [sat_words, ht]
  dsimp only
  rw [he]
  rfl
theorem uns_read : anF unsL = ⟨false, [], 0, 0⟩ := by
  have hl : linesOf unsL = [unsW] := by rw [uns_eq, linesOf_line _ _ (by decide), linesOf_nil]
  have hx : nxt 1 [unsW] = some (unsW, 1, []) := by
    unfold nxt; rw [if_neg (by decide)]
  have ht : toldW [[115], noW] = some false := by decide
  unfold anF
  rw [hl, hx]
  dsimp only
  rw [uns_words, ht]
  rfl
theorem ans_end (m : List Bool) : ∃ T, ansT m = T ++ [10] := ⟨_, rfl⟩
theorem ans_long (m : List Bool) (h : m.length ≤ 1048576) : (ansT m).length ≤ 100000000 := by
  have h1 := putTo_len m m.length (by omega)
  have h2 := putN_len (putTo m m.length) 0 (by omega) (by omega)
  unfold ansT
  simp only [List.length_append, List.length_cons, List.length_nil]
  omega
/-- the inner loop: how far the word goes -/
theorem wrd_step (L : List UInt8) (n : Nat) (h : n ≤ (L.takeWhile (fun b => b != 32)).length) : (∀ hn : n < L.length, L[n] ≠ 32 → n + 1 ≤ (L.takeWhile (fun b => b != 32)).length) ∧ (∀ hn : n < L.length, L[n] = 32 → n = (L.takeWhile (fun b => b != 32)).length) ∧ (L.length ≤ n → n = (L.takeWhile (fun b => b != 32)).length) := by
  induction L generalizing n with
  | nil => exact ⟨fun hn => absurd hn (Nat.not_lt_zero _), fun hn => absurd hn (Nat.not_lt_zero _), fun _ => by simpa using h⟩
  | cons b r ih =>
    by_cases hb : b = 32
    · have e : (b :: r).takeWhile (fun b => b != 32) = [] := by rw [List.takeWhile_cons_of_neg (by simp [hb])]
      rw [e] at h ⊢
      have hn0 : n = 0 := by simpa using h
      subst hn0
      exact ⟨fun _ q => absurd hb q, fun _ _ => rfl, fun _ => rfl⟩
    · have e : ((b :: r).takeWhile (fun b => b != 32)).length = (r.takeWhile (fun b => b != 32)).length + 1 := by rw [List.takeWhile_cons_of_pos (by simpa using hb)]; rfl
      rw [e] at h ⊢
      cases n with
      | zero => exact ⟨fun _ _ => by omega, fun _ q => absurd q hb, fun q => by simp at q⟩
      | succ n =>
        obtain ⟨i1, i2, i3⟩ := ih n (by omega)
        refine ⟨fun hn q => ?_, fun hn q => ?_, fun q => ?_⟩
        · have := i1 (by simpa using hn) (by simpa using q); omega
        · have := i2 (by simpa using hn) (by simpa using q); omega
        · have := i3 (by simpa using q); omega
end Go.Proofs.YtpebpnbikdahkaaDoor

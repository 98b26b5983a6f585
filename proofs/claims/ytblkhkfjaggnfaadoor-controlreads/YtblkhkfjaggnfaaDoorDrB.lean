/-
  A proof's text that was written is read back: in plain words.
  KEEP: nil below form mono app grown rdz
-/
import Derived.Test.YtblkhkfjaggnfaaDoorDrP
set_option linter.unusedSimpArgs false
set_option linter.unusedVariables false
namespace Go.Proofs.YtblkhkfjaggnfaaDoor
open Go.RowKit

/-- a byte within a word -/
def wdB (b : UInt8) : Bool := !(isBl b) && b != 10
theorem scan_in : ∀ (w : List UInt8) (r : List UInt8) (k : Nat) (cur : List UInt8), w.all wdB = true → scan (w ++ r) k cur false false = scan r k (cur ++ w) false false
  | [], r, k, cur, _ => by simp
  | b :: w, r, k, cur, h => by
    simp only [List.all_cons, Bool.and_eq_true] at h
    have hb := h.1
    simp only [wdB, Bool.and_eq_true, Bool.not_eq_true', bne_iff_ne, ne_eq] at hb
    have h10 : (b == 10) = false := by simpa using hb.2
    rw [List.cons_append, scan]
    simp only [Bool.false_and, h10, hb.1, Bool.false_eq_true, if_false]
    rw [scan_in w r k (cur ++ [b]) h.2]; simp
theorem scan_word {w : List UInt8} (r : List UInt8) (k : Nat) (beg : Bool) (h : w.all wdB = true) (h0 : w ≠ []) (hc : beg = true → w.head? ≠ some 99) : scan (w ++ r) k [] beg false = scan r k w false false := by
  cases w with
  | nil => exact absurd rfl h0
  | cons b w =>
    simp only [List.all_cons, Bool.and_eq_true] at h
    have hb := h.1
    simp only [wdB, Bool.and_eq_true, Bool.not_eq_true', bne_iff_ne, ne_eq] at hb
    have h10 : (b == 10) = false := by simpa using hb.2
    have h99 : (beg && b == 99) = false := by
      cases beg with
      | false => rfl
      | true => have := hc rfl; simpa using this
    rw [List.cons_append, scan]
    simp only [Bool.false_and, h10, hb.1, h99, Bool.false_eq_true, if_false]
    rw [scan_in w r k ([] ++ [b]) h.2]; simp
theorem scan_sp (r : List UInt8) (k : Nat) (cur : List UInt8) (beg : Bool) : scan (32 :: r) k cur beg false = one9 false cur k ++ scan r k [] false false := by
  rw [scan]; cases beg <;> simp [isBl]
theorem scan_nl (r : List UInt8) (k : Nat) (cur : List UInt8) (beg : Bool) : scan (10 :: r) k cur beg false = one9 false cur k ++ scan r (k + 1) [] true false := by
  rw [scan]; cases beg <;> simp
theorem one9_word {w : List UInt8} (k : Nat) (h : w ≠ []) : one9 false w k = [(some w, k)] := by
  cases w with
  | nil => exact absurd rfl h
  | cons b r => rfl
theorem itoa_ne (z : Int) : Lib.itoa z ≠ [] := by
  unfold Lib.itoa; split
  · simp
  · exact dec_ne _
theorem itoa_wd (z : Int) : (Lib.itoa z).all wdB = true := by
  have hd : ∀ u b, b ∈ Lib.decDigits u → wdB b = true := fun u b hb => by
    have := dec_bytes u b hb
    have h1 : b ≠ 32 := by rintro rfl; simp at this
    have h2 : b ≠ 9 := by rintro rfl; simp at this
    have h3 : b ≠ 10 := by rintro rfl; simp at this
    simp [wdB, isBl, h1, h2, h3]
  rw [List.all_eq_true]
  intro b hb
  unfold Lib.itoa at hb
  split at hb
  · rcases List.mem_cons.1 hb with rfl | hb
    · rfl
    · exact hd _ _ hb
  · exact hd _ _ hb
theorem itoa_head (z : Int) : (Lib.itoa z).head? ≠ some 99 := by
  intro e
  have hm : (99 : UInt8) ∈ Lib.itoa z := List.mem_of_mem_head? e
  unfold Lib.itoa at hm
  split at hm
  · rcases List.mem_cons.1 hm with h | h
    · exact absurd h (by decide)
    · have := (dec_bytes _ _ h).2; simp at this
  · have := (dec_bytes _ _ hm).2; simp at this
/-- a step's words -/
def stpW (x : Stp) : List (List UInt8) := (if x.1 then [[100]] else []) ++ x.2.map Lib.itoa ++ [[48]]
def tokW (k : Nat) (ws : List (List UInt8)) : List Tok := ws.map (fun w => (some w, k))
theorem scan_txt : ∀ (c : List Int) (r : List UInt8) (k : Nat) (beg : Bool), ∃ beg', scan (textOf c ++ r) k [] beg false = tokW k (c.map Lib.itoa) ++ scan r k [] beg' false
  | [], r, k, beg => ⟨beg, by simp [textOf, tokW]⟩
  | z :: c, r, k, beg => by
    obtain ⟨b', e⟩ := scan_txt c r k false
    refine ⟨b', ?_⟩
    have e1 : textOf (z :: c) ++ r = Lib.itoa z ++ (32 :: (textOf c ++ r)) := by simp [textOf]
    rw [e1, scan_word _ k beg (itoa_wd z) (itoa_ne z) (fun _ => itoa_head z), scan_sp, one9_word k (itoa_ne z), e]
    simp [tokW]
theorem scan_step (x : Stp) (r : List UInt8) (k : Nat) (beg : Bool) : scan (stpT x ++ r) k [] beg false = tokW k (stpW x) ++ scan r (k + 1) [] true false := by
  have tail : ∀ beg, scan (textOf x.2 ++ ([48, 10] ++ r)) k [] beg false = tokW k (x.2.map Lib.itoa ++ [[48]]) ++ scan r (k + 1) [] true false := fun beg => by
    obtain ⟨b', e⟩ := scan_txt x.2 ([48, 10] ++ r) k beg
    rw [e]
    have : scan ([48] ++ (10 :: r)) k [] b' false = [(some [48], k)] ++ scan r (k + 1) [] true false := by
      rw [scan_word _ k b' (by decide) (by decide) (fun _ => by decide), scan_nl, one9_word k (by decide)]
    rw [show [48, 10] ++ r = [48] ++ (10 :: r) from rfl, this]
    simp [tokW]
  unfold stpT stpW
  cases hx : x.1
  · have := tail beg; simpa [List.append_assoc] using this
  · simp only [if_true, List.append_assoc]
    have e1 : [100, 32] ++ (textOf x.2 ++ ([48, 10] ++ r)) = [100] ++ (32 :: (textOf x.2 ++ ([48, 10] ++ r))) := rfl
    rw [e1, scan_word _ k beg (by decide) (by decide) (fun _ => by decide), scan_sp, one9_word k (by decide), tail false]
    simp [tokW, List.append_assoc]
theorem eat_one {st st' : RSt} {w : List UInt8} {k : Nat} {r : List Tok} {g : List Stp} (h : takeW st w = some (st', g)) : eatD ((some w, k) :: r) st = (g ++ (eatD r st').1, (eatD r st').2) := by
  rw [eatD, h]
theorem take_lit {st : RSt} {z : Int} (h : fmd z = true) : takeW st (Lib.itoa z) = some (⟨true, st.dr, st.cl ++ [z]⟩, []) := by
  have hz : z ≠ 0 := by rintro rfl; revert h; decide
  have hd : (Lib.itoa z == [100]) = false := by
    rw [beq_eq_false_iff_ne]
    intro e
    have hm : (100 : UInt8) ∈ Lib.itoa z := by rw [e]; simp
    unfold Lib.itoa at hm
    split at hm
    · rcases List.mem_cons.1 hm with h | h
      · exact absurd h (by decide)
      · have := (dec_bytes _ _ h).2; simp at this
    · have := (dec_bytes _ _ hm).2; simp at this
  unfold takeW
  rw [hd, numD_itoa (by unfold okN; rw [h]; simp)]
  simp [hz]
theorem take_d {cl : List Int} : takeW ⟨false, false, cl⟩ [100] = some (⟨true, true, cl⟩, []) := rfl
theorem take_0 (st : RSt) : takeW st [48] = some (⟨false, false, []⟩, [(st.dr, st.cl)]) := by
  unfold takeW
  have h1 : (([48] : List UInt8) == [100]) = false := by decide
  have h2 : numD [48] = some 0 := by decide
  rw [h1, h2]; rfl
theorem eat_lits : ∀ (c : List Int) (ks : List Tok) (st : RSt) (r : List Tok), c.all fmd = true → ks.map Prod.fst = c.map (fun z => some (Lib.itoa z)) →
    eatD (ks ++ r) st = eatD r ⟨st.op || !c.isEmpty, st.dr, st.cl ++ c⟩
  | [], ks, st, r, _, hk => by
    have : ks = [] := by simpa using hk
    subst this; simp
  | z :: c, [], st, r, _, hk => by simp at hk
  | z :: c, (w, k) :: ks, st, r, h, hk => by
    simp only [List.all_cons, Bool.and_eq_true] at h
    simp only [List.map_cons, List.cons.injEq] at hk
    obtain ⟨rfl, hk2⟩ := hk
    rw [List.cons_append, eat_one (take_lit h.1), eat_lits c ks _ r h.2 hk2]
    simp
/-- a step's words, wherever they stand: the step is given -/
theorem eat_step (x : Stp) (ks : List Tok) (r : List Tok) (h : x.2.all fmd = true) (hk : ks.map Prod.fst = (stpW x).map some) : eatD (ks ++ r) st0 = (x :: (eatD r st0).1, (eatD r st0).2) := by
  obtain ⟨d, c⟩ := x
  have go : ∀ (ks : List Tok) (op dr : Bool), ks.map Prod.fst = (c.map Lib.itoa ++ [[48]]).map some → eatD (ks ++ r) ⟨op, dr, []⟩ = ((dr, c) :: (eatD r st0).1, (eatD r st0).2) := fun ks op dr hk => by
    have hl : ks.length = c.length + 1 := by have := congrArg List.length hk; simpa using this
    obtain ⟨k1, t, rfl⟩ : ∃ k1 t, ks = k1 ++ [t] := ⟨ks.dropLast, ks.getLast (by intro e; rw [e] at hl; simp at hl), (List.dropLast_concat_getLast _).symm⟩
    obtain ⟨w, k⟩ := t
    simp only [List.map_append, List.map_cons, List.map_nil] at hk
    have hl1 : k1.length = c.length := by simpa using hl
    obtain ⟨e1, e2⟩ := List.append_inj hk (by simp [hl1])
    have e3 : w = some [48] := by simpa using e2
    subst e3
    rw [List.append_assoc, eat_lits c k1 _ _ h (by rw [e1, List.map_map]; rfl), List.singleton_append, eat_one (take_0 _)]
    simp
    exact ⟨rfl, rfl⟩
  unfold stpW at hk
  cases d
  · exact go ks false false (by simpa using hk)
  · cases ks with
    | nil => simp at hk
    | cons t ks =>
      obtain ⟨w, k⟩ := t
      simp at hk
      obtain ⟨rfl, hk2⟩ := hk
      rw [List.cons_append, show st0 = ⟨false, false, []⟩ from rfl, eat_one take_d]
      have := go ks true true (by simpa using hk2)
      rw [this]; rfl
/-- the tokens of a text that was written -/
theorem eat_all : ∀ (l : List Stp) (r : List UInt8) (k : Nat), sndS l = true → ∃ beg, eatD (scan (drW l ++ r) k [] true false) st0 = (l ++ (eatD (scan r (k + l.length) [] beg false) st0).1, (eatD (scan r (k + l.length) [] beg false) st0).2) ∧ beg = true
  | [], r, k, _ => ⟨true, by simp [drW], rfl⟩
  | x :: l, r, k, h => by
    simp only [sndS, List.all_cons, Bool.and_eq_true] at h
    obtain ⟨beg, e, hb⟩ := eat_all l r (k + 1) h.2
    refine ⟨beg, ?_, hb⟩
    have e1 : drW (x :: l) ++ r = stpT x ++ (drW l ++ r) := by simp [drW]
    rw [e1, scan_step, eat_step x _ _ h.1 (by simp [tokW, List.map_map, Function.comp_def]), e]
    simp [Nat.add_assoc, Nat.add_comm 1]
/-- what was written is read back -/
theorem par_back (l : List Stp) (h : sndS l = true) : parD (drW l) = (l, 0) := by
  obtain ⟨beg, e, rfl⟩ := eat_all l [] 1 h
  rw [List.append_nil] at e
  unfold parD
  rw [e]
  simp [scan, one9, eatD, st0]
/-- what stands ahead of a foreign word is given -/
theorem par_foreign (a : List Stp) (f t : List UInt8) (h : sndS a = true) (hw : f.all wdB = true) (h0 : f ≠ []) (hn : numD f = none) : parD (drW a ++ ([49, 32] ++ (f ++ (32 :: t)))) = (a, a.length + 1) := by
  obtain ⟨beg, e, rfl⟩ := eat_all a ([49, 32] ++ (f ++ (32 :: t))) 1 h
  unfold parD
  have e2 : scan ([49, 32] ++ (f ++ (32 :: t))) (1 + a.length) [] true false = (some [49], 1 + a.length) :: (some f, 1 + a.length) :: scan t (1 + a.length) [] false false := by
    rw [show [49, 32] ++ (f ++ (32 :: t)) = [49] ++ (32 :: (f ++ (32 :: t))) from rfl, scan_word _ _ true (by decide) (by decide) (fun _ => by decide), scan_sp, one9_word _ (by decide), scan_word _ _ false hw h0 (fun h => by cases h), scan_sp, one9_word _ h0]
    rfl
  have e3 : takeW st0 [49] = some (⟨true, false, [1]⟩, []) := by
    unfold takeW; rw [show numD [49] = some 1 by decide]; rfl
  have e4 : takeW ⟨true, false, [1]⟩ f = none := by unfold takeW; rw [hn]; simp
  rw [e, e2, eat_one e3, eatD, e4]
  simp [Nat.add_comm]

end Go.Proofs.YtblkhkfjaggnfaaDoor

/-
  Bytes of steps are read back, and are those of what is read; no text of a proof holds a 0: in plain words.
-/
import Derived.Test.YtidlljeiholboaaDoorPkP
set_option linter.unusedSimpArgs false
set_option linter.unusedVariables false
namespace Go.Proofs.YtidlljeiholboaaDoor
open Go.RowKit

theorem litsB_len : ∀ c : List Int, c.length ≤ (litsB c).length
  | [] => by simp
  | l :: c => by
    have := litsB_len c
    have := numB_pos (litN l)
    have e : litsB (l :: c) = numB (litN l) ++ litsB c := rfl
    rw [e, List.length_append, List.length_cons]; omega
theorem encB_len : ∀ l : List Stp, 2 * l.length ≤ (encB l).length
  | [] => by simp
  | x :: l => by
    have := encB_len l
    have e : encB (x :: l) = stpB x ++ encB l := rfl
    have e2 : (stpB x).length = (litsB x.2).length + 2 := by simp [stpB]
    rw [e, List.length_append, List.length_cons]; omega
theorem drop_pre {α : Type} (a b : List α) {all : List α} (h : all = a ++ b) : all.drop a.length = b := by rw [h]; simp
theorem litO_ne {l : Int} (h : fmd l = true) : litO (litN l) ≠ 0 := by rw [litO_litN h]; exact (fmd_range h).1
theorem cl_enc (all : List UInt8) : ∀ (c : List Int) (pre r : List UInt8) (acc : List Int) (g : Nat), c.all fmd = true → all = pre ++ (litsB c ++ r) → clB all (c.length + g) pre.length acc = clB all g (pre.length + (litsB c).length) (acc ++ c)
  | [], pre, r, acc, g, _, _ => by simp [litsB]
  | l :: c, pre, r, acc, g, hc, h => by
    simp only [List.all_cons, Bool.and_eq_true] at hc
    have e : litsB (l :: c) = numB (litN l) ++ litsB c := rfl
    have hr := litN_range hc.1
    have hd : all.drop pre.length = numB (litN l) ++ (litsB c ++ r) := by rw [drop_pre pre _ h, e, List.append_assoc]
    have hk := tk_back (litN l) (litsB c ++ r) (by omega)
    rw [show (l :: c).length + g = (c.length + g) + 1 by simp; omega, clB, hd, hk]
    simp only [show ¬ ((0 : Int) = 33) by decide, show ¬ ((0 : Int) ≠ 0) by decide, show ¬ (litN l = 0) by omega, litO_ne hc.1, litO_litN hc.1, (fmd_range hc.1).1, if_false]
    have h2 : all = (pre ++ numB (litN l)) ++ (litsB c ++ r) := by rw [h, e]; simp
    have := cl_enc all c (pre ++ numB (litN l)) r (acc ++ [l]) g hc.2 h2
    rw [List.length_append] at this
    rw [this, e, List.length_append]
    simp [Nat.add_assoc]
theorem cl_done (all : List UInt8) (f p : Nat) (acc : List Int) (r : List UInt8) (h : all.drop p = 0 :: r) : clB all (f + 1) p acc = (acc, 0, p + 1) := by
  have e : tkB 0 0 (0 :: r) = (0, 1, 0) := by simp [tkB]
  rw [clB, h, e]; simp
theorem cl_short (all : List UInt8) (f p : Nat) (acc : List Int) (h : all.drop p = []) : clB all f p acc = ([], 33, all.length) := by
  cases f with
  | zero => rfl
  | succ f => rw [clB, h]; simp [tkB]
theorem knd_ne (d : Bool) : (kndB d = 100 ↔ d = true) ∧ (kndB d = 97 ↔ d = false) := by cases d <;> decide
theorem getD_pre {pre r all : List UInt8} {b : UInt8} (h : all = pre ++ b :: r) : all.getD pre.length 0 = b := by
  rw [h]; simp [List.getD_eq_getElem?_getD]
theorem st_of (all : List UInt8) (p : Nat) (d : Bool) (h : all.getD p 0 = kndB d) : stB all p = ((d, (clB all (all.length + 1) (p + 1) []).1), (clB all (all.length + 1) (p + 1) []).2) := by
  unfold stB
  rw [h]
  cases d
  · rw [if_neg (by decide), if_pos (by decide)]
  · rw [if_pos (by decide)]
theorem st_enc (all pre r : List UInt8) (x : Stp) (hx : x.2.all fmd = true) (h : all = pre ++ (stpB x ++ r)) : stB all pre.length = (x, 0, pre.length + (stpB x).length) := by
  have h1 : all = pre ++ kndB x.1 :: (litsB x.2 ++ 0 :: r) := by rw [h]; simp [stpB]
  have h2 : all = (pre ++ [kndB x.1]) ++ (litsB x.2 ++ 0 :: r) := by rw [h1]; simp
  have hl := litsB_len x.2
  have hlen : all.length = pre.length + ((litsB x.2).length + 1 + r.length) + 1 := by rw [h1]; simp; omega
  have hc := cl_enc all x.2 (pre ++ [kndB x.1]) (0 :: r) [] (all.length + 1 - x.2.length) hx h2
  have h3 : all.drop (pre.length + 1 + (litsB x.2).length) = 0 :: r := by
    have : all = ((pre ++ [kndB x.1]) ++ litsB x.2) ++ (0 :: r) := by rw [h2]; simp
    have := drop_pre _ _ this
    rw [List.length_append, List.length_append, List.length_singleton] at this
    exact this
  rw [st_of all pre.length x.1 (getD_pre h1)]
  rw [List.length_append, List.length_singleton, show x.2.length + (all.length + 1 - x.2.length) = all.length + 1 by omega, show all.length + 1 - x.2.length = (all.length - x.2.length) + 1 by omega, cl_done all _ _ _ r h3] at hc
  rw [hc]
  simp only [List.nil_append, stpB, List.length_cons, List.length_append, List.length_nil]
  congr 2; omega
theorem dc_enc (all : List UInt8) : ∀ (l : List Stp) (pre r : List UInt8) (acc : List Stp) (g : Nat), sndS l = true → all = pre ++ (encB l ++ r) → dcB all (l.length + g) pre.length acc = dcB all g (pre.length + (encB l).length) (acc ++ l)
  | [], pre, r, acc, g, _, _ => by simp [encB]
  | x :: l, pre, r, acc, g, hs, h => by
    have hs2 : x.2.all fmd = true ∧ sndS l = true := by simpa [sndS] using hs
    have e : encB (x :: l) = stpB x ++ encB l := rfl
    have h1 : all = pre ++ (stpB x ++ (encB l ++ r)) := by rw [h, e]; simp
    have h2 : all = (pre ++ stpB x) ++ (encB l ++ r) := by rw [h1]; simp
    have hlt : pre.length < all.length := by rw [h1]; simp [stpB]
    rw [show (x :: l).length + g = (l.length + g) + 1 by simp; omega, dcB, if_pos hlt, st_enc all pre _ x hs2.1 h1]
    simp only [if_true]
    have := dc_enc all l (pre ++ stpB x) r (acc ++ [x]) g hs2.2 h2
    rw [List.length_append] at this
    rw [this, e, List.length_append]
    simp [Nat.add_assoc]
theorem dc_end (all : List UInt8) (f p : Nat) (acc : List Stp) (h : all.length ≤ p) : dcB all f p acc = (acc, 0, 0) := by
  cases f with
  | zero => rfl
  | succ f => rw [dcB, if_neg (by omega)]
/-- steps are read back from their bytes -/
theorem dec_enc (l : List Stp) (hs : sndS l = true) : decB (encB l) = (l, 0, 0) := by
  have hl := encB_len l
  have := dc_enc (encB l) l [] [] [] ((encB l).length + 1 - l.length) hs (by simp)
  unfold decB
  rw [show l.length + ((encB l).length + 1 - l.length) = (encB l).length + 1 by omega] at this
  rw [List.length_nil] at this
  rw [this, dc_end _ _ _ _ (by omega)]
  simp
/-- a step that is open at the end -/
theorem dec_open (l : List Stp) (d : Bool) (c : List Int) (hs : sndS l = true) (hc : c.all fmd = true) : decB (encB l ++ kndB d :: litsB c) = ([], 33, (encB l ++ kndB d :: litsB c).length) := by
  have hl := encB_len l
  have hl2 := litsB_len c
  obtain ⟨all, ha⟩ : ∃ all, all = encB l ++ kndB d :: litsB c := ⟨_, rfl⟩
  rw [← ha]
  have hlen : all.length = (encB l).length + (litsB c).length + 1 := by rw [ha]; simp; omega
  have h1 := dc_enc all l [] (kndB d :: litsB c) [] (all.length + 1 - l.length) hs (by simp [ha])
  have hg := getD_pre (pre := encB l) (r := litsB c) (b := kndB d) ha
  have h2 := cl_enc all c (encB l ++ [kndB d]) [] [] (all.length + 1 - c.length) hc (by rw [ha]; simp)
  rw [cl_short all _ ((encB l ++ [kndB d]).length + (litsB c).length) _ (List.drop_eq_nil_of_le (by rw [List.length_append, List.length_singleton]; omega)), List.length_append, List.length_singleton, show c.length + (all.length + 1 - c.length) = all.length + 1 by omega] at h2
  have h3 := st_of all _ d hg
  rw [h2] at h3
  unfold decB
  rw [show l.length + (all.length + 1 - l.length) = all.length + 1 by omega, List.length_nil] at h1
  rw [h1, Nat.zero_add, show all.length + 1 - l.length = (all.length - l.length) + 1 by omega, dcB, if_pos (by omega), h3]
  simp

theorem drop_more {all : List UInt8} {p : Nat} {x : List UInt8} (n : Nat) (hn : n = x.length) (h : all.drop p = x ++ (all.drop p).drop n) : all.drop p = x ++ all.drop (p + n) := by
  rw [List.drop_drop] at h; exact h
/-- what a clause's reading says -/
theorem cl_say (all : List UInt8) : ∀ (f p : Nat) (acc : List Int), all.length < p + f → p ≤ all.length →
    (clB all f p acc = ([], 33, all.length)) ∨
    (∃ c, c.all fmd = true ∧ clB all f p acc = (acc ++ c, 0, p + ((litsB c).length + 1)) ∧ all.drop p = litsB c ++ 0 :: all.drop (p + ((litsB c).length + 1)) ∧ p + ((litsB c).length + 1) ≤ all.length) ∨
    (∃ c e, (e = 32 ∨ e = 101) ∧ c.all fmd = true ∧ clB all f p acc = ([], e, p + (litsB c).length) ∧ all.drop p = litsB c ++ all.drop (p + (litsB c).length) ∧ p + (litsB c).length < all.length)
  | 0, p, acc, h, _ => .inl rfl
  | f + 1, p, acc, h, hp => by
    have hnil : tkB 0 0 (all.drop p) ≠ (0, 0, 33) → p < all.length := fun hne => by
      rcases Nat.lt_or_ge p all.length with h | h
      · exact h
      · exact absurd (by rw [List.drop_eq_nil_of_le h]; rfl) hne
    rcases tk_all (all.drop p) with h1 | h1 | ⟨n, hn, h1, h2⟩
    · left; rw [clB, h1]; simp
    · have hlt := hnil (by rw [h1]; decide)
      right; right
      refine ⟨[], 101, .inr rfl, rfl, ?_, by simp [litsB], by simpa [litsB] using hlt⟩
      rw [clB, h1]; simp [litsB]
    · have hlt := hnil (by rw [h1]; simp)
      have hl : (all.drop p).length = all.length - p := by simp
      have hle : (numB n).length ≤ all.length - p := by
        rw [← hl, h2]; simp
      have hpos := numB_pos n
      have h2' := drop_more (numB n).length rfl h2
      have e : clB all (f + 1) p acc = if n = 0 then (acc, 0, p + (numB n).length) else if litO n = 0 then ([], 32, p) else clB all f (p + (numB n).length) (acc ++ [litO n]) := by
        rw [clB, h1]; simp
      rw [e]
      by_cases hn0 : n = 0
      · subst hn0
        have e0 : numB 0 = [0] := by rw [numB_small (by omega)]; rfl
        right; left
        refine ⟨[], rfl, ?_, ?_, ?_⟩
        · rw [if_pos rfl, e0]; simp [litsB]
        · rw [e0] at h2'; simpa [litsB] using h2'
        · rw [e0] at hle; simp [litsB] at hle ⊢; omega
      · rw [if_neg hn0]
        by_cases hl0 : litO n = 0
        · right; right
          refine ⟨[], 32, .inl rfl, rfl, ?_, by simp [litsB], by simpa [litsB] using hlt⟩
          rw [if_pos hl0]; simp [litsB]
        · rw [if_neg hl0]
          obtain ⟨hf, hN⟩ := litO_some hl0
          have eb : ∀ c, litsB (litO n :: c) = numB n ++ litsB c := fun c => by
            show numB (litN (litO n)) ++ litsB c = _; rw [hN]
          rcases cl_say all f (p + (numB n).length) (acc ++ [litO n]) (by omega) (by omega) with h3 | ⟨c, hc, h3, h4, h5⟩ | ⟨c, ee, he, hc, h3, h4, h5⟩
          · exact .inl h3
          · right; left
            have ee : p + ((litsB (litO n :: c)).length + 1) = p + (numB n).length + ((litsB c).length + 1) := by rw [eb, List.length_append]; omega
            refine ⟨litO n :: c, by simp [hf, hc], ?_, ?_, ?_⟩
            · rw [h3, ee]; simp
            · rw [ee, h2', eb, List.append_assoc, ← h4]
            · rw [ee]; exact h5
          · right; right
            have e3 : p + (litsB (litO n :: c)).length = p + (numB n).length + (litsB c).length := by rw [eb, List.length_append]; omega
            refine ⟨litO n :: c, ee, he, by simp [hf, hc], ?_, ?_, ?_⟩
            · rw [h3, e3]
            · rw [e3, h2', eb, List.append_assoc, ← h4]
            · rw [e3]; exact h5
theorem drop_head {all : List UInt8} {p : Nat} (h : p < all.length) : all.drop p = all.getD p 0 :: all.drop (p + 1) := by
  rw [List.drop_eq_getElem_cons h]; simp [List.getD_eq_getElem?_getD, h]
/-- what a step's reading says -/
theorem st_say (all : List UInt8) (p : Nat) (hp : p < all.length) :
    (∃ x, stB all p = (x, 33, all.length)) ∨
    (∃ x, x.2.all fmd = true ∧ stB all p = (x, 0, p + (stpB x).length) ∧ all.drop p = stpB x ++ all.drop (p + (stpB x).length) ∧ p + (stpB x).length ≤ all.length) ∨
    (∃ d c e y, (e = 32 ∨ e = 101) ∧ c.all fmd = true ∧ stB all p = (y, e, p + (litsB c).length + 1) ∧ all.drop p = kndB d :: litsB c ++ all.drop (p + (litsB c).length + 1) ∧ p + (litsB c).length + 1 < all.length) ∨
    (∃ y, stB all p = (y, 100, p) ∧ all.getD p 0 ≠ 97 ∧ all.getD p 0 ≠ 100) := by
  by_cases hk : ∃ d, all.getD p 0 = kndB d
  · obtain ⟨d, hd⟩ := hk
    rw [st_of all p d hd]
    have hh := drop_head hp
    rw [hd] at hh
    rcases cl_say all (all.length + 1) (p + 1) [] (by omega) (by omega) with h3 | ⟨c, hc, h3, h4, h5⟩ | ⟨c, ee, he, hc, h3, h4, h5⟩
    · left; rw [h3]; exact ⟨_, rfl⟩
    · right; left
      have el : p + (stpB (d, c)).length = p + 1 + ((litsB c).length + 1) := by simp [stpB]; omega
      refine ⟨(d, c), hc, ?_, ?_, ?_⟩
      · rw [h3, el]; rfl
      · rw [el, hh, h4]; simp [stpB]
      · rw [el]; exact h5
    · right; right; left
      have el : p + (litsB c).length + 1 = p + 1 + (litsB c).length := by omega
      refine ⟨d, c, ee, (d, []), he, hc, ?_, ?_, ?_⟩
      · rw [h3, el]
      · rw [el, hh, List.cons_append, ← h4]
      · rw [el]; exact h5
  · right; right; right
    have h97 : all.getD p 0 ≠ 97 := fun e => hk ⟨false, e⟩
    have h100 : all.getD p 0 ≠ 100 := fun e => hk ⟨true, e⟩
    refine ⟨(false, []), ?_, h97, h100⟩
    unfold stB; rw [if_neg h100, if_neg h97]
/-- what a reading says: whole; at the end; at a byte; within a step -/
theorem dc_say (all : List UInt8) : ∀ (f p : Nat) (acc : List Stp), all.length < p + f → p ≤ all.length →
    (∃ l, sndS l = true ∧ dcB all f p acc = (acc ++ l, 0, 0) ∧ all.drop p = encB l) ∨
    (dcB all f p acc = ([], 33, all.length)) ∨
    (∃ l, sndS l = true ∧ dcB all f p acc = ([], 100, p + (encB l).length) ∧ all.drop p = encB l ++ all.drop (p + (encB l).length) ∧ p + (encB l).length < all.length ∧ all.getD (p + (encB l).length) 0 ≠ 97 ∧ all.getD (p + (encB l).length) 0 ≠ 100) ∨
    (∃ l d c e, (e = 32 ∨ e = 101) ∧ sndS l = true ∧ c.all fmd = true ∧ dcB all f p acc = ([], e, p + (encB l ++ kndB d :: litsB c).length) ∧ all.drop p = (encB l ++ kndB d :: litsB c) ++ all.drop (p + (encB l ++ kndB d :: litsB c).length) ∧ p + (encB l ++ kndB d :: litsB c).length < all.length)
  | 0, p, acc, h, hp => by omega
  | f + 1, p, acc, h, hp => by
    by_cases hlt : p < all.length
    · have e : dcB all (f + 1) p acc = if (stB all p).2.1 = 0 then dcB all f (stB all p).2.2 (acc ++ [(stB all p).1]) else ([], (stB all p).2.1, (stB all p).2.2) := by rw [dcB, if_pos hlt]
      rw [e]
      rcases st_say all p hlt with ⟨x, h1⟩ | ⟨x, hx, h1, h2, h3⟩ | ⟨d, c, ee, y, he, hc, h1, h2, h3⟩ | ⟨y, h1, h2, h3⟩
      · right; left; rw [h1]; rfl
      · rw [h1]
        simp only [if_true]
        have hpos : 0 < (stpB x).length := by simp [stpB]
        have ex : ∀ l, encB (x :: l) = stpB x ++ encB l := fun l => rfl
        have sx : ∀ l, sndS l = true → sndS (x :: l) = true := fun l h => by
          have : (x :: l).all (fun x => x.2.all fmd) = (x.2.all fmd && l.all (fun x => x.2.all fmd)) := rfl
          unfold sndS at h ⊢; rw [this, hx, h]; rfl
        rcases dc_say all f (p + (stpB x).length) (acc ++ [x]) (by omega) h3 with ⟨l, s1, s2, s3⟩ | s2 | ⟨l, s1, s2, s3, s4⟩ | ⟨l, d, c, ee, he, s0, s1, s2, s3, s4⟩
        · left
          exact ⟨x :: l, sx l s1, by rw [s2]; simp, by rw [ex, h2, s3]⟩
        · right; left; exact s2
        · right; right; left
          have el : p + (encB (x :: l)).length = p + (stpB x).length + (encB l).length := by rw [ex, List.length_append]; omega
          refine ⟨x :: l, sx l s1, ?_, ?_, ?_⟩
          · rw [s2, el]
          · rw [el, h2, ex, List.append_assoc, ← s3]
          · rw [el]; exact s4
        · right; right; right
          have el : p + (encB (x :: l) ++ kndB d :: litsB c).length = p + (stpB x).length + (encB l ++ kndB d :: litsB c).length := by have e9 := @List.length_append _ (stpB x) (encB l ++ kndB d :: litsB c); rw [ex, List.append_assoc, e9]; omega
          refine ⟨x :: l, d, c, ee, he, sx l s0, s1, ?_, ?_, ?_⟩
          · rw [s2, el]
          · rw [el, h2, ex, List.append_assoc (stpB x), List.append_assoc (stpB x), ← s3]
          · rw [el]; exact s4
      · right; right; right
        have el : p + (encB [] ++ kndB d :: litsB c).length = p + (litsB c).length + 1 := by simp [encB]; omega
        refine ⟨[], d, c, ee, he, rfl, hc, ?_, ?_, ?_⟩
        · rw [h1, el]
          have : ee ≠ 0 := by rcases he with rfl | rfl <;> decide
          simp [this]
        · rw [el, h2]; simp [encB]
        · rw [el]; exact h3
      · right; right; left
        refine ⟨[], rfl, ?_, by simp [encB], by simpa [encB] using hlt, by simpa [encB] using h2, by simpa [encB] using h3⟩
        rw [h1]; simp [encB]
    · left
      refine ⟨[], rfl, ?_, ?_⟩
      · rw [dc_end _ _ _ _ (by omega)]; simp
      · rw [List.drop_eq_nil_of_le (by omega)]; rfl
/-- all bytes, by what Decode says of them -/
theorem dec_say (all : List UInt8) :
    (∃ l, sndS l = true ∧ decB all = (l, 0, 0) ∧ all = encB l) ∨
    (decB all = ([], 33, all.length)) ∨
    (∃ q, decB all = ([], 100, q) ∧ q < all.length ∧ (decB (all.take q)).2.1 = 0 ∧ all.getD q 0 ≠ 97 ∧ all.getD q 0 ≠ 100) ∨
    (∃ q e, (e = 32 ∨ e = 101) ∧ decB all = ([], e, q) ∧ q < all.length ∧ (decB (all.take q)).2 = (33, q) ∧ (decB (all.take q ++ [0])).2.1 = 0) := by
  rcases dc_say all (all.length + 1) 0 [] (by omega) (by omega) with ⟨l, s1, s2, s3⟩ | s2 | ⟨l, s1, s2, s3, s4, s5, s6⟩ | ⟨l, d, c, ee, he, s0, s1, s2, s3, s4⟩
  · left; exact ⟨l, s1, by simpa [decB] using s2, by simpa using s3⟩
  · right; left; exact s2
  · right; right; left
    rw [Nat.zero_add] at s2 s3 s4 s5 s6
    rw [List.drop_zero] at s3
    have ht : all.take (encB l).length = encB l := by
      have : (encB l ++ all.drop (encB l).length).take (encB l).length = encB l := List.take_left
      rw [← s3] at this; exact this
    exact ⟨_, s2, s4, by rw [ht, dec_enc l s1], s5, s6⟩
  · right; right; right
    rw [Nat.zero_add] at s2 s3 s4
    rw [List.drop_zero] at s3
    have ht : all.take (encB l ++ kndB d :: litsB c).length = encB l ++ kndB d :: litsB c := by
      have : ((encB l ++ kndB d :: litsB c) ++ all.drop (encB l ++ kndB d :: litsB c).length).take (encB l ++ kndB d :: litsB c).length = encB l ++ kndB d :: litsB c := List.take_left
      rw [← s3] at this; exact this
    refine ⟨_, ee, he, s2, s4, by rw [ht, dec_open l d c s0 s1], ?_⟩
    have e1 : (encB l ++ kndB d :: litsB c) ++ [0] = encB (l ++ [(d, c)]) := by rw [encB_snoc]; simp [stpB]
    have hs : sndS (l ++ [(d, c)]) = true := by
      unfold sndS at s0 ⊢; rw [List.all_append, s0]; simp only [List.all_cons, List.all_nil, s1, Bool.and_true]
    rw [ht, e1, dec_enc _ hs]

/-- no word that is taken holds a 0 -/
theorem take_no0 {st : RSt} {w : List UInt8} (h : takeW st w ≠ none) : (0 : UInt8) ∉ w := by
  unfold takeW at h
  split at h
  · rename_i hc
    simp only [Bool.and_eq_true, beq_iff_eq] at hc
    rw [hc.1]; decide
  · cases hn : numD w with
    | none => rw [hn] at h; exact absurd rfl h
    | some z =>
      rw [(numD_some hn).1]
      intro hm
      unfold Lib.itoa at hm
      split at hm
      · rcases List.mem_cons.1 hm with h | h
        · exact absurd h (by decide)
        · have := (dec_bytes _ _ h).1; simp at this
      · have := (dec_bytes _ _ hm).1; simp at this
theorem eat_none_cons {w : List UInt8} {k : Nat} {r : List Tok} {st : RSt} (h : (eatD ((some w, k) :: r) st).2.1 = none) : (0 : UInt8) ∉ w ∧ ∃ st', (eatD r st').2.1 = none := by
  rw [eatD] at h
  cases ht : takeW st w with
  | none => rw [ht] at h; cases h
  | some x =>
    rw [ht] at h
    exact ⟨take_no0 (st := st) (by rw [ht]; simp), x.1, h⟩
theorem eat_none_one {rem : Bool} {cur : List UInt8} {k : Nat} {r : List Tok} {st : RSt} (h : (eatD (one9 rem cur k ++ r) st).2.1 = none) : (rem = false → (0 : UInt8) ∉ cur) ∧ ∃ st', (eatD r st').2.1 = none := by
  unfold one9 at h
  split at h
  · obtain ⟨h1, h2⟩ := eat_none_cons h
    exact ⟨fun _ => h1, h2⟩
  · rename_i hc
    refine ⟨fun hr => ?_, st, h⟩
    subst hr
    have : cur = [] := by simpa using hc
    rw [this]; simp
/-- a text without a fault holds no 0 -/
theorem scan_no0 : ∀ (s : List UInt8) (k : Nat) (cur : List UInt8) (beg rem : Bool) (st : RSt), (eatD (scan s k cur beg rem) st).2.1 = none → (0 : UInt8) ∉ s ∧ (rem = false → beg = false → (0 : UInt8) ∉ cur)
  | [], k, cur, beg, rem, st, h => by
    rw [scan] at h
    have := (eat_none_one (r := []) (by rw [List.append_nil]; exact h)).1
    exact ⟨by simp, fun h _ => this h⟩
  | b :: r, k, cur, beg, rem, st, h => by
    rw [scan] at h
    split at h
    · rename_i hc
      simp only [Bool.and_eq_true] at hc
      split at h
      · rename_i hp
        have := scan_no0 r k cur false true st h
        refine ⟨fun hm => ?_, fun h => by rw [hc.1] at h; cases h⟩
        rcases List.mem_cons.1 hm with e | e
        · subst e; revert hp; decide
        · exact this.1 e
      · cases h
    · split at h
      · rename_i hc
        simp only [Bool.and_eq_true, beq_iff_eq] at hc
        have := scan_no0 r k cur false true st h
        refine ⟨fun hm => ?_, fun _ h => by rw [hc.1] at h; cases h⟩
        rcases List.mem_cons.1 hm with e | e
        · rw [hc.2] at e; revert e; decide
        · exact this.1 e
      · split at h
        · rename_i hb
          obtain ⟨h1, st', h2⟩ := eat_none_one h
          have := scan_no0 r (k + 1) [] true false st' h2
          refine ⟨fun hm => ?_, fun h _ => h1 h⟩
          rcases List.mem_cons.1 hm with e | e
          · subst e; revert hb; decide
          · exact this.1 e
        · split at h
          · rename_i hb
            obtain ⟨h1, st', h2⟩ := eat_none_one h
            have := scan_no0 r k [] false rem st' h2
            refine ⟨fun hm => ?_, fun h _ => h1 h⟩
            rcases List.mem_cons.1 hm with e | e
            · subst e; revert hb; decide
            · exact this.1 e
          · rename_i h1 h2 h3 h4
            have hrem : rem = false := by
              cases rem with
              | false => rfl
              | true => exact absurd (by simpa using h3) (by simpa using h1)
            subst hrem
            have := scan_no0 r k (cur ++ [b]) false false st h
            have h5 := this.2 rfl rfl
            refine ⟨fun hm => ?_, fun _ _ hm => h5 (List.mem_append_left _ hm)⟩
            rcases List.mem_cons.1 hm with e | e
            · exact h5 (by rw [e]; simp)
            · exact this.1 e
theorem scan_ge : ∀ (s : List UInt8) (k : Nat) (cur : List UInt8) (beg rem : Bool), ∀ t ∈ scan s k cur beg rem, k ≤ t.2 := fun s => by
  have h9 : ∀ rem cur k, ∀ t ∈ one9 rem cur k, k ≤ t.2 := fun rem cur k t ht => by
    unfold one9 at ht; split at ht
    · obtain rfl : t = (some cur, k) := by simpa using ht
      exact Nat.le_refl _
    · simp at ht
  induction s with
  | nil => intro k cur beg rem t ht; rw [scan] at ht; exact h9 _ _ _ t ht
  | cons b r ih =>
    intro k cur beg rem t ht
    rw [scan] at ht
    split at ht
    · split at ht
      · exact ih _ _ _ _ t ht
      · obtain rfl : t = (none, k) := by simpa using ht
        exact Nat.le_refl _
    · split at ht
      · exact ih _ _ _ _ t ht
      · split at ht
        · rcases List.mem_append.1 ht with h | h
          · exact h9 _ _ _ t h
          · have := ih _ _ _ _ t h; omega
        · split at ht
          · rcases List.mem_append.1 ht with h | h
            · exact h9 _ _ _ t h
            · exact ih _ _ _ _ t h
          · exact ih _ _ _ _ t ht
theorem eat_ln10 : ∀ (T : List Tok) (st : RSt) (k : Nat), (eatD T st).2.1 = some k → ∃ t ∈ T, t.2 = k
  | [], st, k, h => by rw [eatD] at h; cases h
  | (none, j) :: r, st, k, h => by
    rw [eatD] at h
    exact ⟨(none, j), by simp, by simpa using h⟩
  | (some w, j) :: r, st, k, h => by
    rw [eatD] at h
    cases ht : takeW st w with
    | none => rw [ht] at h; exact ⟨(some w, j), by simp, by simpa using h⟩
    | some x =>
      rw [ht] at h
      obtain ⟨t, h1, h2⟩ := eat_ln10 r x.1 k h
      exact ⟨t, List.mem_cons_of_mem _ h1, h2⟩
/-- a text that is taken holds no 0 -/
theorem par_no0 {s : List UInt8} (h : (parD s).2 = 0) : (0 : UInt8) ∉ s := by
  unfold parD at h
  have hE := eat_ln10 (scan s 1 [] true false) st0
  have hN := scan_no0 s 1 [] true false st0
  cases he : eatD (scan s 1 [] true false) st0 with
  | mk l x =>
    obtain ⟨o, st⟩ := x
    rw [he] at h hE hN
    cases o with
    | some k =>
      obtain ⟨t, h1, h2⟩ := hE k rfl
      have := scan_ge s 1 [] true false t h1
      have h3 : k = 0 := h
      omega
    | none => exact (hN rfl).1
theorem par_enc {l : List Stp} (hne : l ≠ []) : (parD (encB l)).2 ≠ 0 := fun h => by
  cases l with
  | nil => exact hne rfl
  | cons x r => exact par_no0 h (by show (0 : UInt8) ∈ stpB x ++ encB r; simp [stpB])

end Go.Proofs.YtidlljeiholboaaDoor

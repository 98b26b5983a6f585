/-
  A proof's text with other blanks and idle lines between its words: in plain words.
-/
import Derived.Test.YtfpmmjomccgndabDoorDrB
set_option linter.unusedSimpArgs false
set_option linter.unusedVariables false
namespace Go.Proofs.YtfpmmjomccgndabDoor
open Go.RowKit

/-- what may stand between two words -/
def gapsD : List (List UInt8) := [[32], [10], [9, 32, 9], [32, 10, 10, 99, 32, 49, 32, 48, 32, 100, 32, 120, 10, 9], [10, 99, 10], [10, 32, 9, 10], [10, 99, 100, 9, 126, 32, 48, 10, 10]]
theorem scan_gap {g : List UInt8} (h : g ∈ gapsD) (r : List UInt8) (k : Nat) (cur : List UInt8) : ∃ k' beg, scan (g ++ r) k cur false false = one9 false cur k ++ scan r k' [] beg false := by
  simp only [gapsD, List.mem_cons, List.not_mem_nil, or_false] at h
  rcases h with rfl | rfl | rfl | rfl | rfl | rfl | rfl
  · exact ⟨k, false, by simp [scan, one9, isBl]⟩
  · exact ⟨k + 1, true, by simp [scan, one9, isBl]⟩
  · exact ⟨k, false, by simp [scan, one9, isBl]⟩
  · exact ⟨_, _, by simp [scan, one9, isBl, plB]; rfl⟩
  · exact ⟨_, _, by simp [scan, one9, isBl, plB]; rfl⟩
  · exact ⟨_, _, by simp [scan, one9, isBl, plB]; rfl⟩
  · exact ⟨_, _, by simp [scan, one9, isBl, plB]; rfl⟩
/-- words with their gaps -/
abbrev Wg := List UInt8 × List UInt8
def rendD (ts : List Wg) : List UInt8 := ts.flatMap (fun t => t.1 ++ t.2)
def okW9 (w : List UInt8) : Prop := w.all wdB = true ∧ w ≠ [] ∧ w.head? ≠ some 99
theorem scan_rend : ∀ (ts : List Wg) (k : Nat) (beg : Bool), (∀ t ∈ ts, okW9 t.1 ∧ t.2 ∈ gapsD) → ∃ ks : List Tok, ks.map Prod.fst = ts.map (fun t => some t.1) ∧ scan (rendD ts) k [] beg false = ks
  | [], k, beg, _ => ⟨[], rfl, by simp [rendD, scan, one9]⟩
  | t :: ts, k, beg, h => by
    obtain ⟨⟨h1, h2, h3⟩, hg⟩ := h t List.mem_cons_self
    have e : rendD (t :: ts) = t.1 ++ (t.2 ++ rendD ts) := by simp [rendD]
    obtain ⟨k', b', e2⟩ := scan_gap hg (rendD ts) k t.1
    obtain ⟨ks, e3, e4⟩ := scan_rend ts k' b' (fun x hx => h x (List.mem_cons_of_mem _ hx))
    refine ⟨(some t.1, k) :: ks, by simp [e3], ?_⟩
    rw [e, scan_word _ k beg h1 h2 (fun _ => h3), e2, one9_word k h2, e4]
    rfl
theorem eat_ws : ∀ (l : List Stp) (ks : List Tok), sndS l = true → ks.map Prod.fst = (l.flatMap stpW).map some → eatD ks st0 = (l, none, st0)
  | [], ks, _, h => by
    have : ks = [] := by simpa using h
    subst this; rfl
  | x :: l, ks, hs, h => by
    simp only [sndS, List.all_cons, Bool.and_eq_true] at hs
    rw [List.flatMap_cons, List.map_append] at h
    have hl : ks = ks.take (stpW x).length ++ ks.drop (stpW x).length := (List.take_append_drop _ _).symm
    have e : (ks.take (stpW x).length).map Prod.fst = (stpW x).map some ∧ (ks.drop (stpW x).length).map Prod.fst = (l.flatMap stpW).map some := by
      rw [List.map_take, List.map_drop, h]
      constructor
      · rw [List.take_left' (by simp)]
      · rw [List.drop_left' (by simp)]
    rw [hl, eat_step x _ _ hs.1 e.1, eat_ws l _ hs.2 e.2]
theorem par_loose {l : List Stp} {ts : List Wg} (hs : sndS l = true) (hw : ts.map Prod.fst = l.flatMap stpW) (hg : ∀ t ∈ ts, okW9 t.1 ∧ t.2 ∈ gapsD) : parD (rendD ts) = (l, 0) := by
  obtain ⟨ks, e1, e2⟩ := scan_rend ts 1 true hg
  have e3 := eat_ws l ks hs (by rw [e1, ← hw, List.map_map]; rfl)
  unfold parD
  rw [e2, e3]; rfl
theorem okW_itoa (z : Int) : okW9 (Lib.itoa z) := ⟨itoa_wd z, itoa_ne z, itoa_head z⟩
theorem okW_stp (x : Stp) : ∀ w ∈ stpW x, okW9 w := fun w hw => by
  unfold stpW at hw
  rcases List.mem_append.1 hw with hw | hw
  · rcases List.mem_append.1 hw with hw | hw
    · split at hw
      · have : w = [100] := by simpa using hw
        subst this; exact ⟨by decide, by decide, by decide⟩
      · cases hw
    · obtain ⟨z, _, rfl⟩ := List.mem_map.1 hw
      exact okW_itoa z
  · have : w = [48] := by simpa using hw
    subst this; exact ⟨by decide, by decide, by decide⟩

end Go.Proofs.YtfpmmjomccgndabDoor

/-
  Remarks put in anywhere, more gaps where one stands, ahead of all and behind all (pure).
  KEEP: below len form out each rd mono nil own row set on app start grown at new one more take none some kept cell refl trans size map made look put blw get step next box lt Ap old weak
-/
import Derived.Test.YtbeaoekbppdlmaaDoorKCpB
set_option linter.unusedSimpArgs false
set_option linter.unusedVariables false
namespace Go.Proofs.YtbeaoekbppdlmaaDoor
open Go Go.RowKit

def remL : List UInt8 := [35, 9, 73, 110, 115, 116, 97, 108, 108, 101, 100, 58, 32, 110, 111]
def remT : List UInt8 := [35, 9, 73, 110, 115, 116, 97, 108, 108, 101, 100, 58, 32, 110, 111, 10]
def gapT : List UInt8 := [32, 10, 9, 9, 10]
/-- what is put in ahead of a byte that begins a line -/
def preT (b : UInt8) (z : Int) : List UInt8 := (if z.tmod 2 = 0 then remT else []) ++ (if b = 10 ∧ z.tmod 3 = 0 then gapT else [])
/-- the text, with what is put in -/
def insT : Bool → List UInt8 → List Int → List UInt8
  | _, [], _ => []
  | true, b :: r, z :: zs => preT b z ++ b :: insT (b == 10) r zs
  | true, b :: r, [] => b :: insT (b == 10) r []
  | false, b :: r, zs => b :: insT (b == 10) r zs
def preL (l : List UInt8) (z : Int) : List (List UInt8) := (if z.tmod 2 = 0 then [remL] else []) ++ (if l = [] ∧ z.tmod 3 = 0 then [[32], [9, 9]] else [])
def insL : List (List UInt8) → List Int → List (List UInt8)
  | [], _ => []
  | l :: r, [] => l :: insL r []
  | l :: r, z :: zs => preL l z ++ l :: insL r zs
theorem insT_line : ∀ (l r : List UInt8) (zs : List Int), (∀ b ∈ l, b ≠ 10) → insT false (l ++ 10 :: r) zs = l ++ 10 :: insT true r zs
  | [], r, zs, h => by rw [List.nil_append, insT]; rfl
  | b :: l, r, zs, h => by
    have hb : (b == 10) = false := beq_eq_false_iff_ne.2 (h b (List.mem_cons_self ..))
    rw [List.cons_append, insT, hb, insT_line l r zs (fun x hx => h x (List.mem_cons_of_mem _ hx))]
    rfl
theorem preT_txt (b : UInt8) (z : Int) (l : List UInt8) (h : b = 10 ↔ l = []) : preT b z = txt (preL l z) := by
  unfold preT preL
  rw [txt_app]
  congr 1
  · split <;> rfl
  · by_cases hb : b = 10 ∧ z.tmod 3 = 0
    · rw [if_pos hb, if_pos ⟨h.1 hb.1, hb.2⟩]; rfl
    · rw [if_neg hb, if_neg (fun e => hb ⟨h.2 e.1, e.2⟩)]; rfl
theorem insT_txt : ∀ (ls : List (List UInt8)) (zs : List Int), (∀ l ∈ ls, ∀ b ∈ l, b ≠ 10) → insT true (txt ls) zs = txt (insL ls zs)
  | [], zs, h => by cases zs <;> rfl
  | l :: r, zs, h => by
    have ih := fun zs => insT_txt r zs (fun x hx => h x (List.mem_cons_of_mem _ hx))
    have e : txt (l :: r) = l ++ 10 :: txt r := by simp [txt]
    have e2 : ∀ X : List (List UInt8), txt (l :: X) = l ++ 10 :: txt X := fun X => by simp [txt]
    rw [e]
    cases l with
    | nil =>
      cases zs with
      | nil =>
        show insT true (10 :: txt r) [] = txt ([] :: insL r [])
        rw [insT, show ((10 : UInt8) == 10) = true from rfl, ih, e2]; rfl
      | cons z zs =>
        show insT true (10 :: txt r) (z :: zs) = txt (preL [] z ++ [] :: insL r zs)
        rw [insT, show ((10 : UInt8) == 10) = true from rfl, ih, txt_app, e2, preT_txt 10 z [] (by simp)]; rfl
    | cons b l =>
      have hb := h (b :: l) (List.mem_cons_self ..)
      have hb1 : (b == 10) = false := beq_eq_false_iff_ne.2 (hb b (List.mem_cons_self ..))
      have hl := fun zs => insT_line l (txt r) zs (fun x hx => hb x (List.mem_cons_of_mem _ hx))
      cases zs with
      | nil =>
        show insT true (b :: (l ++ 10 :: txt r)) [] = txt ((b :: l) :: insL r [])
        rw [insT, hb1, hl, ih, e2]; rfl
      | cons z zs =>
        show insT true (b :: (l ++ 10 :: txt r)) (z :: zs) = txt (preL (b :: l) z ++ (b :: l) :: insL r zs)
        rw [insT, hb1, hl, ih, txt_app, e2, preT_txt b z (b :: l) (by simp; exact hb b (List.mem_cons_self ..))]; rfl
def sufL : List (List UInt8) := [[35, 32, 101, 110, 100], [], [32], [35]]
theorem rd_rem {l : List UInt8} (r : List (List UInt8)) (k : Int) (out : List Stz) (now : Stz) (h1 : fairF false l = true) (h2 : trF l ≠ []) (h3 : l.head? = some 35) : rdS (l :: r) k out now = rdS r (k + 1) out now := by
  rw [rdS, if_neg (by rw [h1]; simp), if_neg h2, if_pos h3]
theorem rd_bl {l : List UInt8} (r : List (List UInt8)) (k : Int) (out : List Stz) (now : Stz) (h1 : fairF false l = true) (h2 : trF l = []) : rdS (l :: r) k out now = rdS r (k + 1) (if now.2 = [] then out else out ++ [now]) (0, []) := by
  rw [rdS, if_neg (by rw [h1]; simp), if_pos h2]
theorem close_map {out out' : List Stz} {now now' : Stz} (ho : out.map Prod.snd = out'.map Prod.snd) (hn : now.2 = now'.2) : (if now.2 = [] then out else out ++ [now]).map Prod.snd = (if now'.2 = [] then out' else out' ++ [now']).map Prod.snd := by
  rw [← hn]
  split
  · exact ho
  · rw [List.map_append, List.map_append, ho]; simp [hn]
theorem step_same {now now' : Stz} {line : List UInt8} {k k' : Int} (hn : now.2 = now'.2) : (∀ e, stepP now line k = .error e → stepP now' line k' = .error e) ∧ ∀ n, stepP now line k = .ok n → ∃ n', stepP now' line k' = .ok n' ∧ n.2 = n'.2 := by
  unfold stepP
  rw [← hn]
  refine ⟨fun e h => ?_, fun n h => ?_⟩
  · split at h
    · rename_i q1; rw [if_pos q1]
      split at h
      · rename_i q2; rw [if_pos q2]; exact h
      · cases h
    · rename_i q1; rw [if_neg q1]
      split at h
      · rename_i q2; rw [if_pos q2]; exact h
      · rename_i q2; rw [if_neg q2]
        split at h
        · rename_i q3; rw [if_pos q3]; exact h
        · cases h
  · split at h
    · rename_i q1; rw [if_pos q1]
      split at h
      · cases h
      · rename_i q2; rw [if_neg q2]
        injection h with h; subst h
        exact ⟨_, rfl, rfl⟩
    · rename_i q1; rw [if_neg q1]
      split at h
      · cases h
      · rename_i q2; rw [if_neg q2]
        split at h
        · cases h
        · rename_i q3; rw [if_neg q3]
          injection h with h; subst h
          exact ⟨_, rfl, rfl⟩
theorem rd_pre (l : List UInt8) (z : Int) (r : List (List UInt8)) (k : Int) (out : List Stz) (now : Stz) : ∃ k', rdS (preL l z ++ r) k out now = if l = [] ∧ z.tmod 3 = 0 then rdS r k' (if now.2 = [] then out else out ++ [now]) (0, []) else rdS r k' out now := by
  unfold preL
  by_cases h2 : z.tmod 2 = 0
  · rw [if_pos h2]
    by_cases h3 : l = [] ∧ z.tmod 3 = 0
    · rw [if_pos h3]
      refine ⟨k + 1 + 1 + 1, ?_⟩
      rw [if_pos h3]
      show rdS (remL :: [32] :: [9, 9] :: r) k out now = _
      rw [rd_rem _ _ _ _ (by decide) (by decide) rfl, rd_bl _ _ _ _ (by decide) (by decide), rd_bl _ _ _ _ (by decide) (by decide), if_pos rfl]
    · rw [if_neg h3]
      refine ⟨k + 1, ?_⟩
      rw [if_neg h3]
      show rdS (remL :: r) k out now = _
      rw [rd_rem _ _ _ _ (by decide) (by decide) rfl]
  · rw [if_neg h2]
    by_cases h3 : l = [] ∧ z.tmod 3 = 0
    · rw [if_pos h3]
      refine ⟨k + 1 + 1, ?_⟩
      rw [if_pos h3]
      show rdS ([32] :: [9, 9] :: r) k out now = _
      rw [rd_bl _ _ _ _ (by decide) (by decide), rd_bl _ _ _ _ (by decide) (by decide), if_pos rfl]
    · rw [if_neg h3]
      exact ⟨k, by rw [if_neg h3]; rfl⟩
/-- the same, but for lines -/
def Sam (x : Except (Int × Int) (List Stz)) (l : List Stz) : Prop := ∃ m, x = .ok m ∧ m.map Prod.snd = l.map Prod.snd
theorem rd_one21 {line : List UInt8} {r r' : List (List UInt8)} {k k' : Int} {out out' : List Stz} {now now' : Stz} {l : List Stz} (ho : out.map Prod.snd = out'.map Prod.snd) (hn : now.2 = now'.2) (h : rdS (line :: r) k out now = .ok l)
    (ih : ∀ k k' out out' now now', out.map Prod.snd = out'.map Prod.snd → now.2 = now'.2 → rdS r k out now = .ok l → Sam (rdS r' k' out' now') l) : Sam (rdS (line :: r') k' out' now') l := by
  rw [rdS] at h
  rw [rdS]
  split at h
  · cases h
  · rename_i q1; rw [if_neg q1]
    split at h
    · rename_i q2; rw [if_pos q2]
      exact ih _ _ _ _ _ _ (close_map ho hn) rfl h
    · rename_i q2; rw [if_neg q2]
      split at h
      · rename_i q3; rw [if_pos q3]
        exact ih _ _ _ _ _ _ ho hn h
      · rename_i q3; rw [if_neg q3]
        split at h
        · cases h
        · rename_i n hst
          obtain ⟨n', e1, e2⟩ := (step_same (k' := k') hn).2 n hst
          rw [e1]
          exact ih _ _ _ _ _ _ ho e2 h
theorem rd_ins : ∀ (ls : List (List UInt8)) (zs : List Int) (k k' : Int) (out out' : List Stz) (now now' : Stz) (l : List Stz), out.map Prod.snd = out'.map Prod.snd → now.2 = now'.2 → rdS ls k out now = .ok l → Sam (rdS (insL ls zs ++ sufL) k' out' now') l
  | [], zs, k, k', out, out', now, now', l, ho, hn, h => by
    rw [rdS] at h
    injection h with h
    subst h
    have e : insL [] zs ++ sufL = [35, 32, 101, 110, 100] :: [] :: [32] :: [35] :: [] := by cases zs <;> rfl
    rw [e, rd_rem _ _ _ _ (by decide) (by decide) rfl, rd_bl _ _ _ _ (by decide) (by decide), rd_bl _ _ _ _ (by decide) (by decide), if_pos rfl, rd_rem _ _ _ _ (by decide) (by decide) rfl, rdS, if_pos rfl]
    exact ⟨_, rfl, (close_map ho hn).symm⟩
  | line :: r, [], k, k', out, out', now, now', l, ho, hn, h => by
    show Sam (rdS (line :: (insL r [] ++ sufL)) k' out' now') l
    exact rd_one21 ho hn h fun k k' out out' now now' ho hn h => rd_ins r [] k k' out out' now now' l ho hn h
  | line :: r, z :: zs, k, k', out, out', now, now', l, ho, hn, h => by
    have e : insL (line :: r) (z :: zs) ++ sufL = preL line z ++ (line :: (insL r zs ++ sufL)) := by simp [insL]
    rw [e]
    obtain ⟨k2, hp⟩ := rd_pre line z (line :: (insL r zs ++ sufL)) k' out' now'
    rw [hp]
    split
    · rename_i q
      rw [q.1] at h ⊢
      rw [rd_bl _ _ _ _ (by decide) rfl] at h
      rw [rd_bl _ _ _ _ (by decide) rfl, if_pos rfl]
      exact rd_ins r zs _ _ _ _ _ _ l (close_map ho hn) rfl h
    · exact rd_one21 ho hn h fun k k' out out' now now' ho hn h => rd_ins r zs k k' out out' now now' l ho hn h
theorem lns_app : ∀ (ls : List (List UInt8)) (t : List UInt8), (∀ l ∈ ls, ∀ b ∈ l, b ≠ 10) → lnsF (txt ls ++ t) [] = ls ++ lnsF t []
  | [], t, h => rfl
  | l :: r, t, h => by
    have e : txt (l :: r) ++ t = l ++ 10 :: (txt r ++ t) := by simp [txt]
    rw [e, lns_line l [] _ (h l (List.mem_cons_self ..)), lns_app r t (fun x hx => h x (List.mem_cons_of_mem _ hx))]
    rfl
theorem no10_ins : ∀ (ls : List (List UInt8)) (zs : List Int), (∀ l ∈ ls, ∀ b ∈ l, b ≠ 10) → ∀ l ∈ insL ls zs, ∀ b ∈ l, b ≠ 10
  | [], zs, h, l, hl => by cases zs <;> cases hl
  | x :: r, [], h, l, hl => by
    rw [insL] at hl
    rcases List.mem_cons.1 hl with rfl | hl
    · exact h _ (List.mem_cons_self ..)
    · exact no10_ins r [] (fun y hy => h y (List.mem_cons_of_mem _ hy)) l hl
  | x :: r, z :: zs, h, l, hl => by
    rw [insL] at hl
    rcases List.mem_append.1 hl with hl | hl
    · unfold preL at hl
      rcases List.mem_append.1 hl with hl | hl
      · split at hl
        · obtain rfl := List.mem_singleton.1 hl
          decide
        · cases hl
      · split at hl
        · rcases List.mem_cons.1 hl with rfl | hl
          · decide
          · obtain rfl := List.mem_singleton.1 hl
            decide
        · cases hl
    · rcases List.mem_cons.1 hl with rfl | hl
      · exact h _ (List.mem_cons_self ..)
      · exact no10_ins r zs (fun y hy => h y (List.mem_cons_of_mem _ hy)) l hl
def headT : List UInt8 := [35, 32, 111, 110, 101, 10, 32, 9, 10]
def tailT : List UInt8 := [35, 32, 101, 110, 100, 10, 10, 32, 10, 35]
theorem idle21 {l : List Stz} (zs : List Int) (h : fmdL l = true) : ∃ m, rdF21 (headT ++ (insT true (wrtF l) zs ++ tailT)) = .ok m ∧ SmL false l m := by
  obtain ⟨m0, h1, h2⟩ := rd_wrLn l h
  have hno := no10_all h
  obtain ⟨m, h3, h4⟩ := rd_ins (wrLn l) zs 1 3 [] [] (0, []) (0, []) m0 rfl rfl h1
  refine ⟨m, ?_, sml_map (h4.trans h2)⟩
  unfold rdF21
  have e1 : headT = txt [[35, 32, 111, 110, 101], [32, 9]] := rfl
  rw [wrtF_txt, insT_txt _ _ hno, e1, lns_app _ _ (by decide), lns_app _ _ (no10_ins _ _ hno), show lnsF tailT [] = sufL from rfl]
  show rdS ([35, 32, 111, 110, 101] :: [32, 9] :: (insL (wrLn l) zs ++ sufL)) 1 [] (0, []) = _
  rw [rd_rem _ _ _ _ (by decide) (by decide) rfl, rd_bl _ _ _ _ (by decide) (by decide), if_pos rfl]
  exact h3
theorem preT_len (b : UInt8) (z : Int) : (preT b z).length ≤ 21 := by
  unfold preT
  rw [List.length_append]
  have h1 : (if z.tmod 2 = 0 then remT else []).length ≤ 16 := by split <;> decide
  have h2 : (if b = 10 ∧ z.tmod 3 = 0 then gapT else []).length ≤ 5 := by split <;> decide
  omega
theorem insT_len : ∀ (bg : Bool) (s : List UInt8) (zs : List Int), (insT bg s zs).length ≤ 22 * s.length
  | bg, [], zs => by cases bg <;> cases zs <;> simp [insT]
  | true, b :: r, z :: zs => by
    have := insT_len (b == 10) r zs
    have := preT_len b z
    rw [insT]
    simp only [List.length_append, List.length_cons]
    omega
  | true, b :: r, [] => by
    have := insT_len (b == 10) r []
    rw [insT]
    simp only [List.length_cons]
    omega
  | false, b :: r, zs => by
    have := insT_len (b == 10) r zs
    rw [insT]
    simp only [List.length_cons]
    omega

end Go.Proofs.YtbeaoekbppdlmaaDoor

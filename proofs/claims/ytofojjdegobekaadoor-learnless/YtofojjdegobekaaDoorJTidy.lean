/-
  joined: Tidy RefB RefW RpP
-/
import Derived.Test.YtofojjdegobekaaDoorKJoin
import Derived.Test.YtofojjdegobekaaDoorShelf
import Derived.Test.YtofojjdegobekaaDoorJForms
import Derived.Test.YtofojjdegobekaaDoorJNum
set_option linter.unusedSimpArgs false
set_option linter.unusedVariables false
namespace Go.Proofs.YtofojjdegobekaaDoor
open Go.RowKit Go.Sort

theorem sortSaid : SortSaid := fun blk off cap zs w h1 h2 h3 => Tryd.slices_Sort_int blk off cap zs w h1 h2 h3
theorem compactSaid : CompactSaid := fun blk off cap zs w h1 h2 h3 => Tryd.slices_Compact_int blk off cap zs w h1 h2 h3

theorem tid8 (zs : List Int) : (tid zs).length * 8 ≤ 140737488351232 := by have := tid_len zs; omega

theorem tidy_any (v : Value) (zs : List Int) (w : World) (hr : Rd w v zs) :
    Calls Tryd.prog 36 #[v] w fun e w' => ∃ v', e = .returned v' ∧ Own w.heap.size w' v' (tid zs) ∧ Below w.heap.size w w' := by
  go_enter Tryd.func36, Tryd.ntmps36
  go_wp2_with fail
  refine (join_any sortSaid compactSaid v (.slice none 0 0) zs [] w hr (Rd.nil w)).mono ?_
  rintro e w' ⟨v', rfl, ho, hb⟩
  rw [List.append_nil] at ho
  go_wp2
  go_ret
  exact ⟨_, rfl, ho, hb⟩

theorem contains_any (v : Value) (zs : List Int) (l : Int) (w : World) (hr : Rd w v zs) :
    Calls Tryd.prog 75 #[v, .int .i64 l] w fun e w' => e = .returned (.bool (zs.contains l)) ∧ w' = w := by
  have hl := hr.len
  rcases hr.cases with ⟨rfl, a, c, rfl, _, _⟩ | ⟨b, off, c, rfl, hpos, hc, hm, hb, hcell⟩
  · exact Tryd.slices_Contains_int_empty a c l w
  · have := Tryd.slices_Contains_int b off zs.length c zs l w (Nat.le_refl _) (by omega) hcell
    rw [List.take_length] at this
    exact this

theorem has_any (v : Value) (zs : List Int) (l : Int) (w : World) (hr : Rd w v zs) :
    Calls Tryd.prog 71 #[v, .int .i64 l] w fun e w' => e = .returned (.bool (fmd l && zs.contains l)) ∧ w' = w := by
  have hc := contains_any v zs l w hr
  have HC : Hid (Calls Tryd.prog 75 #[v, .int .i64 l] w fun e w' => e = .returned (.bool (zs.contains l)) ∧ w' = w) := hc
  clear hc hr
  generalize zs.contains l = q at *
  cases hf : fmd l
  all_goals
    go_enter Tryd.func71, Tryd.ntmps71
    go_wp2_with (first | (go_at_call 48; refine (formed_any _ _).mono ?_; rintro e w' ⟨rfl, hw⟩; subst hw) | (go_at_call 75; refine HC.out.mono ?_; rintro e w' ⟨rfl, hw⟩; subst hw))
    go_ret
    exact ⟨by simp, rfl⟩

/-- two neighbours are opposites -/
def adj : List Int → Bool
  | a :: b :: r => (b == -a) || adj (b :: r)
  | _ => false
theorem adj_iff : ∀ l : List Int, adj l = true ↔ ∃ j, j + 1 < l.length ∧ l.getD (j + 1) 0 = -l.getD j 0
  | [] => by simp [adj]
  | [a] => by simp [adj]
  | a :: b :: r => by
    rw [adj, Bool.or_eq_true, adj_iff (b :: r)]
    constructor
    · rintro (h | ⟨j, h1, h2⟩)
      · exact ⟨0, by simp, by simpa using h⟩
      · exact ⟨j + 1, by simpa using h1, by simpa using h2⟩
    · rintro ⟨j, h1, h2⟩
      cases j with
      | zero => exact .inl (by simpa using h2)
      | succ j => exact .inr ⟨j, by simpa using h1, by simpa using h2⟩
theorem adj_false {l : List Int} (h : ∀ j, j + 1 < l.length → l.getD (j + 1) 0 ≠ -l.getD j 0) : adj l = false := by
  cases hc : adj l with
  | false => rfl
  | true => obtain ⟨j, h1, h2⟩ := (adj_iff l).1 hc; exact absurd h2 (h j h1)
theorem adj_true {l : List Int} {j : Nat} (h1 : j + 1 < l.length) (h2 : l.getD (j + 1) 0 = -l.getD j 0) : adj l = true := (adj_iff l).2 ⟨j, h1, h2⟩

/-- the one ahead of place k; 0 ahead of the first -/
def ahead1 (t : List Int) : Nat → Int
  | 0 => 0
  | k + 1 => t.getD k 0

theorem getD_fmd {zs : List Int} {k : Nat} (h : k < (tid zs).length) : fmd ((tid zs).getD k 0) = true := by
  rw [List.getD_eq_getElem?_getD, List.getElem?_eq_getElem h]
  exact tid_fmd _ (List.getElem_mem h)
theorem ahead1_range {zs : List Int} {k : Nat} (h : k < (tid zs).length) : -1048576 ≤ ahead1 (tid zs) k ∧ ahead1 (tid zs) k ≤ 1048576 := by
  cases k with
  | zero => simp [ahead1]
  | succ k => have := fmd_range (getD_fmd (zs := zs) (k := k) (by omega)); exact this.2

theorem taut_any (v : Value) (zs : List Int) (w : World) (hr : Rd w v zs) :
    Calls Tryd.prog 52 #[v] w fun e w' => e = .returned (.bool (adj (tid zs))) ∧ Below w.heap.size w w' := by
  have HT : Hid (Calls Tryd.prog 36 #[v] w fun e w' => ∃ v', e = .returned v' ∧ Own w.heap.size w' v' (tid zs) ∧ Below w.heap.size w w') := tidy_any v zs w hr
  have hl := tid_len zs
  have HF : Hid (∀ k, k < (tid zs).length → fmd ((tid zs).getD k 0) = true) := fun k h => getD_fmd h
  have HR : Hid (∀ k, k < (tid zs).length → -1048576 ≤ ahead1 (tid zs) k ∧ ahead1 (tid zs) k ≤ 1048576) := fun k h => ahead1_range h
  clear hr
  generalize tid zs = t at *
  go_enter Tryd.func52, Tryd.ntmps52
  go_wp2_with fail
  refine HT.out.mono ?_
  rintro e w1 ⟨v1, rfl, own, bel⟩
  have hrd := own.rd (by omega)
  clear own HT
  rcases hrd.cases with ⟨rfl, a, c, rfl, _, _⟩ | ⟨b, off, c, rfl, hpos, hc, hm, hb, hcell⟩
  · go_wp2
    refine wp_loop_rounds 1 ?_
    rw [rounds_succ]
    go_wp2
    go_ret
    exact ⟨rfl, bel⟩
  · have HC : Hid (∀ j, j < t.length → w1.cell? ⟨b, off + j, none⟩ = some (.int .i64 (t.getD j 0))) := hcell
    clear hcell hrd
    go_wp2
    go_loopg [3, 9] t.length (fun g l i wr => ∃ k : Nat, k + g = t.length ∧ i = .int .i64 k ∧ l = .int .i64 (ahead1 t k) ∧ (∀ j, j + 1 < k → t.getD (j + 1) 0 ≠ -t.getD j 0) ∧ wr = w1)
    case atStart => exact ⟨0, by omega, rfl, rfl, fun j h => absurd h (by omega), rfl⟩
    case round =>
      obtain ⟨k, hk, rfl, rfl, hno, rfl⟩ := hrel
      have HN : Hid (∀ j, j + 1 < k → t.getD (j + 1) 0 ≠ -t.getD j 0) := hno
      have HK : Hid (k + gk = t.length) := hk
      clear hno
      by_cases hlt : k < t.length
      · have hck := HC.out k hlt
        obtain ⟨r1, r2⟩ := HR.out k hlt
        have hz := fmd_range (HF.out k hlt)
        have hz1 := hz.2.1
        have hz2 := hz.2.2
        by_cases he : t.getD k 0 = -ahead1 t k
        · have hk1 : 0 < k := by
            rcases Nat.eq_zero_or_pos k with e | e
            · subst e; exfalso; rw [show ahead1 t 0 = 0 from rfl] at he; exact hz.1 (by simpa using he)
            · exact e
          have HA : Hid (adj t = true) := by
            obtain ⟨m, rfl⟩ : ∃ m, k = m + 1 := ⟨k - 1, by omega⟩
            exact adj_true hlt he
          have hb1 : (t.getD k 0 == -ahead1 t k) = true := beq_iff_eq.2 he
          clear he hz hk
          generalize t.getD k 0 = z at *
          generalize ahead1 t k = y at *
          go_wp2
          go_ret
          exact ⟨ret_bool HA.out.symm, bel⟩
        · have hb1 : (t.getD k 0 == -ahead1 t k) = false := beq_eq_false_iff_ne.2 he
          have HE : Hid (t.getD k 0 ≠ -ahead1 t k) := he
          have HAH : Hid (ahead1 t (k + 1) = t.getD k 0) := rfl
          clear he hz hk
          generalize hgz : t.getD k 0 = z at *
          generalize hgy : ahead1 t k = y at *
          have HZ : Hid (t.getD k 0 = z) := hgz
          have HY : Hid (ahead1 t k = y) := hgy
          clear hgz hgy
          go_wp2
          go_roundg (gk - 1)
          case measure => have := HK.out; omega
          case rel =>
            refine ⟨k + 1, by have := HK.out; omega, by go_num, by rw [HAH.out], fun j hj => ?_, rfl⟩
            by_cases hjk : j + 1 < k
            · exact HN.out j hjk
            · obtain rfl : k = j + 1 := by omega
              rw [HZ.out, show t.getD j 0 = y from HY.out]
              exact HE.out
      · obtain rfl : k = t.length := by omega
        have HA : Hid (adj t = false) := adj_false HN.out
        clear hk
        go_wp2
        go_ret
        exact ⟨ret_bool HA.out.symm, bel⟩

end Go.Proofs.YtofojjdegobekaaDoor
set_option linter.unusedSimpArgs false
set_option linter.unusedVariables false
namespace Go.Proofs.YtofojjdegobekaaDoor
open Go.RowKit

theorem refSound_any (v : Value) (zs : List Int) (w : World) (hr : Rd w v zs) :
    Calls Tryd.prog 38 #[v] w fun e w' => e = .returned (.bool (zs.all fmd)) ∧ w' = w := by
  have hl := hr.len
  rcases hr.cases with ⟨rfl, a, c, rfl, _, _⟩ | ⟨b, off, c, rfl, hpos, hc, hm, hb, hcell⟩
  · go_enter Tryd.func38, Tryd.ntmps38
    go_wp2
    refine wp_loop_rounds 1 ?_
    rw [rounds_succ]
    go_wp2
    go_ret
    exact ⟨rfl, rfl⟩
  · have HC : Hid (∀ j, j < zs.length → w.cell? ⟨b, off + j, none⟩ = some (.int .i64 (zs.getD j 0))) := hcell
    clear hcell hr
    go_enter Tryd.func38, Tryd.ntmps38
    go_wp2
    go_loopg [3] zs.length (fun g i wr => ∃ k : Nat, k + g = zs.length ∧ i = .int .i64 k ∧ (zs.take k).all fmd = true ∧ wr = w)
    case atStart => exact ⟨0, by omega, rfl, by simp, rfl⟩
    case round =>
      obtain ⟨k, hk, rfl, hall, rfl⟩ := hrel
      have HA : Hid ((zs.take k).all fmd = true) := hall
      have HK : Hid (k + gk = zs.length) := hk
      clear hall
      by_cases hlt : k < zs.length
      · have hck := HC.out k hlt
        have HS : Hid ((zs.take (k + 1)).all fmd = ((zs.take k).all fmd && fmd (zs.getD k 0))) := all_take_succ zs k hlt
        cases hf : fmd (zs.getD k 0)
        · have HF : Hid (zs.all fmd = false) := all_false_of hlt hf
          clear hk
          generalize zs.getD k 0 = z at *
          go_wp2_with (go_at_call 21; refine (refFormed_any _ _).mono ?_; rintro e w' ⟨rfl, rfl⟩)
          go_ret
          exact ⟨ret_bool HF.out.symm, rfl⟩
        · clear hk
          generalize zs.getD k 0 = z at *
          go_wp2_with (go_at_call 21; refine (refFormed_any _ _).mono ?_; rintro e w' ⟨rfl, rfl⟩)
          go_roundg (gk - 1)
          case measure => have := HK.out; omega
          case rel => exact ⟨k + 1, by have := HK.out; omega, by go_num, by rw [HS.out, HA.out, hf]; rfl, rfl⟩
      · obtain rfl : k = zs.length := by omega
        have HE : Hid (zs.all fmd = true) := by have := HA.out; rw [List.take_length] at this; exact this
        clear hk
        go_wp2
        go_ret
        exact ⟨ret_bool HE.out.symm, rfl⟩

theorem contains_take_succ (zs : List Int) (l : Int) (k : Nat) (h : k < zs.length) : (zs.take (k + 1)).contains l = ((zs.take k).contains l || (zs.getD k 0 == l)) := by
  rw [Bool.eq_iff_iff, Bool.or_eq_true, List.contains_iff_mem, List.contains_iff_mem, beq_iff_eq, mem_take_succ h l]
  constructor
  · rintro (p | p)
    · exact .inl p
    · exact .inr p.symm
  · rintro (p | p)
    · exact .inl p
    · exact .inr p.symm
theorem contains_true_of {zs : List Int} {l : Int} {k : Nat} (h : k < zs.length) (hf : (zs.getD k 0 == l) = true) : zs.contains l = true := by
  rw [List.contains_iff_mem]
  have e : zs[k] = l := by simpa [List.getD_eq_getElem?_getD, List.getElem?_eq_getElem h] using hf
  rw [← e]; exact List.getElem_mem h

theorem take_eq_succ {a b : List Int} {k : Nat} (ha : k < a.length) (hb : k < b.length) (h : a.take k = b.take k) (he : a.getD k 0 = b.getD k 0) : a.take (k + 1) = b.take (k + 1) := by
  have e : a[k] = b[k] := by simpa [List.getD_eq_getElem?_getD, List.getElem?_eq_getElem ha, List.getElem?_eq_getElem hb] using he
  rw [List.take_succ_eq_append_getElem ha, List.take_succ_eq_append_getElem hb, h, e]
theorem beq_false_at {a b : List Int} {k : Nat} (h : a.getD k 0 ≠ b.getD k 0) : (a == b) = false := by
  rw [beq_eq_false_iff_ne]; intro e; exact h (by rw [e])
theorem beq_false_len {a b : List Int} (h : a.length ≠ b.length) : (a == b) = false := by
  rw [beq_eq_false_iff_ne]; intro e; exact h (by rw [e])

theorem rd_take {w : World} {b off c : Nat} {zs : List Int} (h : Nat) (hh : h ≤ zs.length) (hl : zs.length * 8 ≤ 140737488351232) (hc : zs.length ≤ c) (hm : c ≤ maxLen) (hb : b < w.heap.size) (hcell : ∀ j, j < zs.length → w.cell? ⟨b, off + j, none⟩ = some (.int .i64 (zs.getD j 0))) : Rd w (.slice (some ⟨b, off, none⟩) h c) (zs.take h) := by
  have e : (zs.take h).length = h := by simp; omega
  refine ⟨by rw [e]; omega, _, c, by rw [e], by rw [e]; omega, hm, fun h => (by cases h), fun _ => ⟨b, off, rfl, hb, fun j hj => ?_⟩⟩
  rw [e] at hj
  rw [hcell j (by omega)]
  simp [List.getD_eq_getElem?_getD, List.getElem?_take, hj]
theorem rd_drop {w : World} {b off c : Nat} {zs : List Int} (h : Nat) (hh : h ≤ zs.length) (hl : zs.length * 8 ≤ 140737488351232) (hc : zs.length ≤ c) (hm : c ≤ maxLen) (hb : b < w.heap.size) (hcell : ∀ j, j < zs.length → w.cell? ⟨b, off + j, none⟩ = some (.int .i64 (zs.getD j 0))) : Rd w (.slice (some ⟨b, off + h, none⟩) (zs.length - h) (c - h)) (zs.drop h) := by
  have e : (zs.drop h).length = zs.length - h := by simp
  refine ⟨by rw [e]; omega, _, c - h, by rw [e], by rw [e]; omega, by omega, fun h => (by cases h), fun _ => ⟨b, off + h, rfl, hb, fun j hj => ?_⟩⟩
  rw [e] at hj
  rw [Nat.add_assoc, hcell (h + j) (by omega)]
  simp [List.getD_eq_getElem?_getD, List.getElem?_drop]
theorem tid_one_yes {z : Int} (h : fmd z = true) : tid [z] = [z] := by simp [tid, h, ins]
theorem tid_one_no {z : Int} (h : fmd z = false) : tid [z] = [] := by simp [tid, h]
theorem own_one (w : World) (z : Int) : Own w.heap.size (w.alloc (.cells #[.int .i64 z] 3)) (.slice (some ⟨w.heap.size, 0, none⟩) 1 1) [z] :=
  World.ownsRow_lit w #[.int .i64 z] 1 (Nat.le_refl _) (by unfold maxLen; omega) (by simp)

end Go.Proofs.YtofojjdegobekaaDoor
set_option linter.unusedSimpArgs false
set_option linter.unusedVariables false
namespace Go.Proofs.YtofojjdegobekaaDoor
open Go.RowKit

def wout (t : List Int) (l : Int) : List Int := t.filter (fun x => x != l)
theorem wout_take_yes {t : List Int} {l : Int} {k : Nat} (h : k < t.length) (hf : (t.getD k 0 == l) = false) : wout (t.take (k + 1)) l = wout (t.take k) l ++ [t.getD k 0] := by
  unfold wout
  rw [List.take_succ_eq_append_getElem h, List.filter_append]
  have e : t.getD k 0 = t[k] := by simp [List.getD_eq_getElem?_getD, List.getElem?_eq_getElem h]
  rw [e] at hf ⊢
  have hb : (t[k] != l) = true := by rw [bne_iff_ne]; exact beq_eq_false_iff_ne.1 hf
  rw [List.filter_cons_of_pos (by exact hb)]
  rfl
theorem wout_take_no {t : List Int} {l : Int} {k : Nat} (h : k < t.length) (hf : (t.getD k 0 == l) = true) : wout (t.take (k + 1)) l = wout (t.take k) l := by
  unfold wout
  rw [List.take_succ_eq_append_getElem h, List.filter_append]
  have e : t.getD k 0 = t[k] := by simp [List.getD_eq_getElem?_getD, List.getElem?_eq_getElem h]
  rw [e] at hf
  have hb : ¬ (t[k] != l) = true := by rw [bne_iff_ne]; simp [beq_iff_eq.1 hf]
  rw [List.filter_cons_of_neg (by exact hb)]
  simp
theorem wout_len (t : List Int) (l : Int) : (wout t l).length ≤ t.length := List.length_filter_le _ _

end Go.Proofs.YtofojjdegobekaaDoor
set_option linter.unusedSimpArgs false
set_option linter.unusedVariables false
namespace Go.Proofs.YtofojjdegobekaaDoor
open Go Go.RowKit

/-- the numbers below k of the clauses that hold l -/
def ptnK (css : List (List Int)) (l : Int) (k : Nat) : List Int := ((List.range k).filter (fun i => fmd l && (css.getD i []).contains l)).map (fun i : Nat => (i : Int))
def ptnA (n : Int) (css : List (List Int)) (l : Int) : List Int := if frm n css then ptnK css l css.length else []
theorem ptnK_no {css : List (List Int)} {l : Int} {k : Nat} (h : (fmd l && (css.getD k []).contains l) = false) : ptnK css l (k + 1) = ptnK css l k := by
  unfold ptnK; rw [List.range_succ, List.filter_append]; simp only [List.filter_cons, List.filter_nil, h]; simp
theorem ptnK_yes {css : List (List Int)} {l : Int} {k : Nat} (h : (fmd l && (css.getD k []).contains l) = true) : ptnK css l (k + 1) = ptnK css l k ++ [(k : Int)] := by
  unfold ptnK; rw [List.range_succ, List.filter_append]; simp only [List.filter_cons, List.filter_nil, h]; simp
theorem ptnK_len (css : List (List Int)) (l : Int) (k : Nat) : (ptnK css l k).length ≤ k := by
  unfold ptnK; rw [List.length_map]; exact Nat.le_trans (List.length_filter_le _ _) (by simp)
theorem ptnK_none {css : List (List Int)} {l : Int} (h : fmd l = false) (k : Nat) : ptnK css l k = [] := by
  unfold ptnK; rw [h]; simp
theorem ptnA_len (n : Int) (css : List (List Int)) (l : Int) : (ptnA n css l).length ≤ css.length := by
  unfold ptnA
  split
  · exact ptnK_len _ _ _
  · simp
theorem own_more8 {base : Nat} {w : World} {v : Value} {out : List Int} {x : Int} (h : w.ownsRow base 3 1 v (out.length + 1) (out.map (Value.int .i64) ++ [.int .i64 x])) : Own base w v (out ++ [x]) := by
  unfold Own; simpa using h

end Go.Proofs.YtofojjdegobekaaDoor

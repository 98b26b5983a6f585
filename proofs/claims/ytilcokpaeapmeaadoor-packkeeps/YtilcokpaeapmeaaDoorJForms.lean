/-
  joined: Forms Shape Sames
-/
import Derived.Test.YtilcokpaeapmeaaDoorKLists
import Derived.WalkSpells
import Derived.Deep.LoopGhost
import Derived.Test.YtilcokpaeapmeaaDoorKNum
import Derived.BigQuiet
import Derived.Deep.QuietTactic
set_option linter.unusedSimpArgs false
set_option linter.unusedVariables false
namespace Go.Proofs.YtilcokpaeapmeaaDoor
open Go.RowKit

/-- the slice reads the lists css -/
def Rds (w : World) (v : Value) (css : List (List Int)) : Prop :=
  css.length * 24 ≤ 140737488351232 ∧ ∃ a c, v = .slice a css.length c ∧ css.length ≤ c ∧ c ≤ maxLen ∧ (a = none → c = 0) ∧
    (css ≠ [] → ∃ b off, a = some ⟨b, off, none⟩ ∧ b < w.heap.size ∧ ∀ j, j < css.length → ∃ u, w.cell? ⟨b, off + j, none⟩ = some u ∧ Rd w u (css.getD j []))

theorem Rds.len {w : World} {v : Value} {css : List (List Int)} (h : Rds w v css) : css.length * 24 ≤ 140737488351232 := h.1
theorem Rds.below {w w' : World} {v : Value} {css : List (List Int)} (h : Rds w v css) (hb : Below w.heap.size w w') : Rds w' v css := by
  obtain ⟨h1, a, c, rfl, hc, hm, hn, h2⟩ := h
  refine ⟨h1, a, c, rfl, hc, hm, hn, fun hne => ?_⟩
  obtain ⟨b, off, rfl, hlt, hcell⟩ := h2 hne
  refine ⟨b, off, rfl, Nat.lt_of_lt_of_le hlt hb.size, fun j hj => ?_⟩
  obtain ⟨u, hu, hr⟩ := hcell j hj
  exact ⟨u, (hb.cell (p := ⟨b, off + j, none⟩) hlt).trans hu, hr.below hb⟩
theorem Rds.cases {w : World} {v : Value} {css : List (List Int)} (h : Rds w v css) :
    (css = [] ∧ ∃ a c, v = .slice a 0 c ∧ c ≤ maxLen ∧ (a = none → c = 0)) ∨ ∃ b off c, v = .slice (some ⟨b, off, none⟩) css.length c ∧ 0 < css.length ∧ css.length ≤ c ∧ c ≤ maxLen ∧ b < w.heap.size ∧ ∀ j, j < css.length → ∃ u, w.cell? ⟨b, off + j, none⟩ = some u ∧ Rd w u (css.getD j []) := by
  obtain ⟨h1, a, c, rfl, hc, hm, hn, h2⟩ := h
  by_cases hz : css = []
  · subst hz; exact .inl ⟨rfl, a, c, rfl, hm, hn⟩
  · obtain ⟨b, off, rfl, hlt, hcell⟩ := h2 hz
    exact .inr ⟨b, off, c, rfl, List.length_pos_iff.2 hz, hc, hm, hlt, hcell⟩
theorem Rds.nil (w : World) : Rds w (.slice none 0 0) [] := ⟨by simp, none, 0, rfl, Nat.le_refl _, Nat.zero_le _, fun _ => rfl, fun h => absurd rfl h⟩

/-- a slice's form and where its elements lie, in one breath (no parting on the empty one) -/
theorem Rd.form {w : World} {v : Value} {zs : List Int} (h : Rd w v zs) : ∃ a c, v = .slice a zs.length c ∧ zs.length ≤ c ∧ c ≤ maxLen ∧ ∀ k, k < zs.length → ∃ b off, a = some ⟨b, off, none⟩ ∧ w.cell? ⟨b, off + k, none⟩ = some (.int .i64 (zs.getD k 0)) := by
  obtain ⟨h1, a, c, rfl, hc, hm, hn, h2⟩ := h
  refine ⟨a, c, rfl, hc, hm, fun k hk => ?_⟩
  obtain ⟨b, off, e, _, hcell⟩ := h2 (by intro e; subst e; simp at hk)
  exact ⟨b, off, e, hcell k hk⟩
theorem Rds.form {w : World} {v : Value} {css : List (List Int)} (h : Rds w v css) : ∃ a c, v = .slice a css.length c ∧ css.length ≤ c ∧ c ≤ maxLen ∧ ∀ k, k < css.length → ∃ b off u, a = some ⟨b, off, none⟩ ∧ w.cell? ⟨b, off + k, none⟩ = some u ∧ Rd w u (css.getD k []) := by
  obtain ⟨h1, a, c, rfl, hc, hm, hn, h2⟩ := h
  refine ⟨a, c, rfl, hc, hm, fun k hk => ?_⟩
  obtain ⟨b, off, e, _, hcell⟩ := h2 (by intro e; subst e; simp at hk)
  obtain ⟨u, hu, hr⟩ := hcell k hk
  exact ⟨b, off, u, e, hu, hr⟩

/-- the list's literals are literals of the variables 1 to n -/
def fitsP (n : Int) (c : List Int) : Bool := c.all (fun l => fmd l && decide (varOf l ≤ n))
/-- well shaped -/
def frm (n : Int) (css : List (List Int)) : Bool := decide (0 ≤ n ∧ n ≤ 1048576) && css.all (fitsP n)
/-- the lengths together, as the machine adds them -/
def szs : List (List Int) → Int
  | css => css.foldl (fun a c => wrap64 (a + c.length)) 0

theorem take_succ_getD {α : Type} (l : List α) (d : α) (k : Nat) (h : k < l.length) : l.take (k + 1) = l.take k ++ [l.getD k d] := by
  rw [List.take_succ_eq_append_getElem h]; simp [List.getD_eq_getElem?_getD, List.getElem?_eq_getElem h]
theorem all_take_getD {α : Type} (f : α → Bool) (l : List α) (d : α) (k : Nat) (h : k < l.length) : (l.take (k + 1)).all f = ((l.take k).all f && f (l.getD k d)) := by
  rw [take_succ_getD l d k h, List.all_append]; simp
theorem all_false_getD {α : Type} {f : α → Bool} {l : List α} {d : α} {k : Nat} (h : k < l.length) (hf : f (l.getD k d) = false) : l.all f = false := by
  rw [List.all_eq_false]
  refine ⟨l[k], List.getElem_mem h, ?_⟩
  simp [List.getD_eq_getElem?_getD, List.getElem?_eq_getElem h] at hf
  simp [hf]
theorem any_take_getD {α : Type} (f : α → Bool) (l : List α) (d : α) (k : Nat) (h : k < l.length) : (l.take (k + 1)).any f = ((l.take k).any f || f (l.getD k d)) := by
  rw [take_succ_getD l d k h, List.any_append]; simp
theorem any_true_getD {α : Type} {f : α → Bool} {l : List α} {d : α} {k : Nat} (h : k < l.length) (hf : f (l.getD k d) = true) : l.any f = true := by
  rw [List.any_eq_true]
  refine ⟨l[k], List.getElem_mem h, ?_⟩
  simp [List.getD_eq_getElem?_getD, List.getElem?_eq_getElem h] at hf
  simp [hf]
theorem getD_mem' {α : Type} {l : List α} {d : α} {k : Nat} (h : k < l.length) : l.getD k d ∈ l := by
  rw [List.getD_eq_getElem?_getD, List.getElem?_eq_getElem h]; exact List.getElem_mem h

end Go.Proofs.YtilcokpaeapmeaaDoor
set_option linter.unusedSimpArgs false
set_option linter.unusedVariables false
namespace Go.Proofs.YtilcokpaeapmeaaDoor
open Go.RowKit

theorem fit1 (n : Int) (l : Int) : (fmd l && decide (varOf l ≤ n)) = (fmd l && (!decide (n < l) && !decide (n < -l))) := by
  unfold varOf
  rcases fmd_cases l with ⟨h, h0, h1, h2⟩ | ⟨h, h0⟩
  · rw [h, Bool.eq_iff_iff]
    by_cases hs : l < 0
    · simp only [hs, Bool.true_and, if_true, decide_eq_true_eq, Bool.and_eq_true, Bool.not_eq_true', decide_eq_false_iff_not]; omega
    · simp only [hs, Bool.true_and, if_true, if_false, decide_eq_true_eq, Bool.and_eq_true, Bool.not_eq_true', decide_eq_false_iff_not]; omega
  · rw [h]; rfl

theorem szs_step (css : List (List Int)) (k : Nat) (h : k < css.length) : szs (css.take (k + 1)) = wrap64 (szs (css.take k) + (css.getD k []).length) := by
  rw [take_succ_getD css [] k h]; unfold szs; rw [List.foldl_append]; rfl
theorem box0 (w : World) (x y : Value) (t : TypeId) : (w.alloc (.cells #[x, y] t)).cell? ⟨w.heap.size, 0, none⟩ = some x := by rw [World.cell?_alloc_at _ _ _ _ rfl]; rfl
theorem box1 (w : World) (x y : Value) (t : TypeId) : (w.alloc (.cells #[x, y] t)).cell? ⟨w.heap.size, 1, none⟩ = some y := by rw [World.cell?_alloc_at _ _ _ _ rfl]; rfl
theorem below_box (w : World) (o : Obj) : Below w.heap.size w (w.alloc o) := (Below.refl _ _).alloc (Nat.le_refl _) _

theorem fit2 {n l : Int} (h : fmd l = true) : wrap64 (-l) = -l := by
  have := fmd_range h; unfold wrap64; omega

theorem rSound_any (v : Value) (zs : List Int) (w : World) (hr : Rd w v zs) :
    Calls Tryd.prog 33 #[v] w fun e w' => e = .returned (.bool (zs.all fmd)) ∧ w' = w := by
  have hl := hr.len
  obtain ⟨a, c, rfl, hc, hm, hcell⟩ := hr.form
  have HC : Hid (∀ k, k < zs.length → ∃ b off, a = some ⟨b, off, none⟩ ∧ w.cell? ⟨b, off + k, none⟩ = some (.int .i64 (zs.getD k 0))) := hcell
  clear hcell hr
  go_enter Tryd.func33, Tryd.ntmps33
  go_wp2
  go_loopg [3] zs.length (fun g i wr => ∃ k : Nat, k + g = zs.length ∧ i = .int .i64 k ∧ (zs.take k).all fmd = true ∧ wr = w)
  case atStart => exact ⟨0, by omega, rfl, by simp, rfl⟩
  case round =>
    obtain ⟨k, hk, rfl, hall, rfl⟩ := hrel
    have HA : Hid ((zs.take k).all fmd = true) := hall
    have HK : Hid (k + gk = zs.length) := hk
    clear hall
    by_cases hlt : k < zs.length
    · obtain ⟨b, off, rfl, hck⟩ := HC.out k hlt
      have HS : Hid ((zs.take (k + 1)).all fmd = ((zs.take k).all fmd && fmd (zs.getD k 0))) := all_take_getD _ zs 0 k hlt
      have HF : Hid (fmd (zs.getD k 0) = false → zs.all fmd = false) := fun h => all_false_getD hlt h
      clear hk
      generalize zs.getD k 0 = z at *
      cases hf : fmd z
      · go_wp2_with (go_at_call 50; refine (refFormed_any _ _).mono ?_; rintro e w' ⟨rfl, rfl⟩)
        go_ret
        exact ⟨ret_bool (HF.out hf).symm, rfl⟩
      · go_wp2_with (go_at_call 50; refine (refFormed_any _ _).mono ?_; rintro e w' ⟨rfl, rfl⟩)
        go_roundg (gk - 1)
        case measure => have := HK.out; omega
        case rel => exact ⟨k + 1, by have := HK.out; omega, by go_num, by rw [HS.out, HA.out, hf]; rfl, rfl⟩
    · obtain rfl : k = zs.length := by omega
      have HE : Hid (zs.all fmd = true) := by have := HA.out; rw [List.take_length] at this; exact this
      clear hk
      go_wp2
      go_ret
      exact ⟨ret_bool HE.out.symm, rfl⟩

theorem fits_of_sound {n : Int} {zs : List Int} (h : zs.all fmd = true) : fitsP n zs = zs.all (fun l => !decide (n < l) && !decide (n < -l)) := by
  unfold fitsP
  have h' := List.all_eq_true.1 h
  rw [Bool.eq_iff_iff, List.all_eq_true, List.all_eq_true]
  constructor
  · intro k l hl
    have := k l hl
    rw [fit1, h' l hl] at this; exact this
  · intro k l hl
    rw [fit1, h' l hl]; exact k l hl
theorem fits_not_sound {n : Int} {zs : List Int} (h : zs.all fmd = false) : fitsP n zs = false := by
  obtain ⟨l, hl, hf⟩ := List.all_eq_false.1 h
  rw [fitsP, List.all_eq_false]
  exact ⟨l, hl, by simp at hf; simp [hf]⟩

/-- a formula in its box, in a world that has grown -/
structure Bx (w : World) (n : Int) (s : Value) (css : List (List Int)) (wr : World) : Prop where
  bel : Below w.heap.size w wr
  c0 : wr.cell? ⟨w.heap.size, 0, none⟩ = some (.int .i64 n)
  c1 : wr.cell? ⟨w.heap.size, 1, none⟩ = some s
  rd : Rds wr s css
theorem Bx.new {w : World} {n : Int} {s : Value} {css : List (List Int)} (hr : Rds w s css) (t : TypeId) : Bx w n s css (w.alloc (.cells #[.int .i64 n, s] t)) :=
  ⟨below_box _ _, box0 _ _ _ _, box1 _ _ _ _, hr.below (below_box _ _)⟩
theorem Bx.on {w : World} {n : Int} {s : Value} {css : List (List Int)} {wr w' : World} (h : Bx w n s css wr) (hb : Below wr.heap.size wr w') : Bx w n s css w' :=
  ⟨h.bel.trans (hb.mono h.bel.size), (hb.cell (p := ⟨w.heap.size, 0, none⟩) (World.block_lt_of_cell? wr _ h.c0)).trans h.c0, (hb.cell (p := ⟨w.heap.size, 1, none⟩) (World.block_lt_of_cell? wr _ h.c1)).trans h.c1, h.rd.below hb⟩
theorem Bx.at {w : World} {n : Int} {a : Option Addr} {c : Nat} {css : List (List Int)} {wr : World} (h : Bx w n (.slice a css.length c) css wr) {k : Nat} (hk : k < css.length) :
    ∃ b off u, a = some ⟨b, off, none⟩ ∧ wr.cell? ⟨b, off + k, none⟩ = some u ∧ Rd wr u (css.getD k []) := by
  obtain ⟨a', c', e, _, _, hcell⟩ := h.rd.form
  obtain ⟨rfl, _, rfl⟩ : a' = a ∧ css.length = css.length ∧ c' = c := by
    injection e with e1 e2 e3; exact ⟨e1.symm, rfl, e3.symm⟩
  exact hcell k hk

end Go.Proofs.YtilcokpaeapmeaaDoor
set_option linter.unusedSimpArgs false
set_option linter.unusedVariables false
namespace Go.Proofs.YtilcokpaeapmeaaDoor
open Go.RowKit

theorem take_eq_more {α : Type} {d : α} {a b : List α} {k : Nat} (ha : k < a.length) (hb : k < b.length) (h : a.take k = b.take k) (he : a.getD k d = b.getD k d) : a.take (k + 1) = b.take (k + 1) := by
  rw [take_succ_getD a d k ha, take_succ_getD b d k hb, h, he]
theorem beq_no_at {α : Type} [BEq α] [LawfulBEq α] {d : α} {a b : List α} {k : Nat} (h : a.getD k d ≠ b.getD k d) : (a == b) = false := by
  rw [beq_eq_false_iff_ne]; intro e; subst e; exact h rfl
theorem beq_no_len {α : Type} [BEq α] [LawfulBEq α] {a b : List α} (h : a.length ≠ b.length) : (a == b) = false := by
  rw [beq_eq_false_iff_ne]; intro e; subst e; exact h rfl

set_option maxHeartbeats 3200000 in
theorem sameInts_any (va vb : Value) (a b : List Int) (w : World) (ha : Rd w va a) (hb : Rd w vb b) :
    Calls Tryd.prog 42 #[va, vb] w fun e w' => e = .returned (.bool (a == b)) ∧ Below w.heap.size w w' := by
  have hla := ha.len
  have hlb := hb.len
  obtain ⟨aa, ca, rfl, hca, hma, hcella⟩ := ha.form
  obtain ⟨ab, cb, rfl, hcb, hmb, hcellb⟩ := hb.form
  by_cases hne : a.length = b.length
  case neg =>
    have HE : Hid ((a == b) = false) := beq_no_len hne
    have hd : ((a.length : Int) == (b.length : Int)) = false := beq_eq_false_iff_ne.2 (by omega)
    clear hcella hcellb ha hb
    go_enter Tryd.func42, Tryd.ntmps42
    go_wp2
    go_ret
    exact ⟨ret_bool HE.out.symm, Below.refl _ _⟩
  have HA : Hid (∀ k, k < a.length → ∃ b off, aa = some ⟨b, off, none⟩ ∧ w.cell? ⟨b, off + k, none⟩ = some (.int .i64 (a.getD k 0))) := hcella
  have HB : Hid (∀ k, k < b.length → ∃ b' off, ab = some ⟨b', off, none⟩ ∧ w.cell? ⟨b', off + k, none⟩ = some (.int .i64 (b.getD k 0))) := hcellb
  have HN : Hid (a.length = b.length) := hne
  have hd : ((a.length : Int) == (b.length : Int)) = true := beq_iff_eq.2 (by omega)
  clear hcella hcellb ha hb hne
  go_enter Tryd.func42, Tryd.ntmps42
  go_wp2
  go_loopg [5] a.length (fun g i wr => ∃ k : Nat, k + g = a.length ∧ i = .int .i64 k ∧ a.take k = b.take k ∧ Below w.heap.size w wr ∧ wr.heap = w.heap)
  case atStart => exact ⟨0, by omega, rfl, by simp, Below.refl _ _, rfl⟩
  case round =>
    obtain ⟨k, hk, rfl, hpre, bel, hheap⟩ := hrel
    have HK : Hid (k + gk = a.length) := hk
    have HP : Hid (a.take k = b.take k) := hpre
    have HB1 : Hid (Below w.heap.size w wr) := bel
    clear hpre
    by_cases hlt : k < a.length
    · obtain ⟨b1, o1, rfl, ck1⟩ := HA.out k hlt
      obtain ⟨b2, o2, rfl, ck2⟩ := HB.out k (by have := HN.out; omega)
      have hc1 : wr.cell? ⟨b1, o1 + k, none⟩ = some (.int .i64 (a.getD k 0)) := by rw [← ck1]; unfold World.cell?; rw [hheap]
      have hc2 : wr.cell? ⟨b2, o2 + k, none⟩ = some (.int .i64 (b.getD k 0)) := by rw [← ck2]; unfold World.cell?; rw [hheap]
      have HS : Hid (a.getD k 0 = b.getD k 0 → a.take (k + 1) = b.take (k + 1)) := fun h => take_eq_more hlt (by have := HN.out; omega) HP.out h
      have HF : Hid (a.getD k 0 ≠ b.getD k 0 → (a == b) = false) := fun h => beq_no_at (d := 0) h
      have hlt2 : k < b.length := by have := HN.out; omega
      have HH : Hid (wr.heap = w.heap) := hheap
      clear hk ck1 ck2 bel hheap
      generalize a.getD k 0 = x at *
      generalize b.getD k 0 = y at *
      by_cases he : x = y
      · have hb1 : (x == y) = true := beq_iff_eq.2 he
        have HE : Hid (x = y) := he
        clear he
        go_wp2_with fail
        go_quiet (fail)
        go_wp2
        go_roundg (gk - 1)
        case measure => have := HK.out; omega
        case rel => exact ⟨k + 1, by have := HK.out; omega, by go_num, HS.out HE.out, Below.step HB1.out (below_drewN _ _), HH.out⟩
      · have hb1 : (x == y) = false := beq_eq_false_iff_ne.2 he
        have HE : Hid (x ≠ y) := he
        clear he
        go_wp2_with fail
        go_quiet (fail)
        go_wp2
        go_ret
        exact ⟨ret_bool (HF.out HE.out).symm, Below.step HB1.out (below_drewN _ _)⟩
    · obtain rfl : k = a.length := by omega
      have HE : Hid ((a == b) = true) := by
        have := HP.out
        rw [List.take_length, HN.out, List.take_length] at this
        exact beq_iff_eq.2 this
      clear hk
      go_wp2
      go_ret
      exact ⟨ret_bool HE.out.symm, HB1.out⟩

theorem sameSelf_any (va vb : Value) (a : List Int) (w : World) (ha : Rd w va a) (hb : Rd w vb a) :
    Calls Tryd.prog 42 #[va, vb] w fun e w' => e = .returned (.bool true) ∧ Below w.heap.size w w' := by
  have := sameInts_any va vb a a w ha hb
  rw [show (a == a) = true from beq_self_eq_true a] at this
  exact this

end Go.Proofs.YtilcokpaeapmeaaDoor

/-
  lits.find, holds, Without, Subsumes: the search in a tidy list.
-/
import Derived.Test.YtgaojmcmpdjfmaaDoorJTidy
import Derived.Test.YtgaojmcmpdjfmaaDoorShelfB
set_option linter.unusedSimpArgs false
set_option linter.unusedVariables false
namespace Go.Proofs.YtgaojmcmpdjfmaaDoor
open Go.RowKit Go.Sort

/-- a rising list of literals -/
def Rises (t : List Int) : Prop := t.Pairwise (fun a b => idx a < idx b) ∧ ∀ x ∈ t, fmd x = true
theorem tid_rises (zs : List Int) : Rises (tid zs) := ⟨tid_rising zs, tid_fmd⟩
theorem Rises.len {t : List Int} (h : Rises t) : t.length ≤ 2097152 := by
  have := rising_len 2097152 t 0 (by omega) h.1 fun x hx => idx_range (h.2 x hx)
  omega
theorem Rises.lt {t : List Int} (h : Rises t) {i j : Nat} (hij : i < j) (hj : j < t.length) : idx t[i]! < idx t[j]! := by
  rw [getElem!_pos t i (by omega), getElem!_pos t j hj]
  exact List.pairwise_iff_getElem.1 h.1 i j (by omega) hj hij
theorem Rises.get {t : List Int} (h : Rises t) {i : Nat} (hi : i < t.length) : fmd t[i]! = true := by
  rw [getElem!_pos t i hi]; exact h.2 _ (List.getElem_mem hi)

/-- how many stand ahead of l's place -/
def pos (t : List Int) (l : Int) : Nat := t.countP (fun x => decide (idx x - idx l < 0))
theorem pos_le (t : List Int) (l : Int) : pos t l ≤ t.length := List.countP_le_length
theorem pos_at {t : List Int} (h : Rises t) {j : Nat} (hj : j < t.length) : pos t t[j]! = j := by
  unfold pos
  refine Lib.countP_boundary _ t j (by omega) (fun i hi => ?_) (fun i h1 h2 => ?_)
  · have := h.lt hi hj; exact decide_eq_true (by omega)
  · rcases Nat.lt_or_ge j i with h3 | h3
    · have := h.lt h3 h2; exact decide_eq_false (by omega)
    · obtain rfl : i = j := by omega
      exact decide_eq_false (by omega)
/-- what the search finds -/
theorem found_eq {t : List Int} (h : Rises t) (l : Int) : (decide (pos t l < t.length) && decide (idx t[pos t l]! - idx l = 0)) = (fmd l && t.contains l) := by
  rw [Bool.eq_iff_iff]
  simp only [Bool.and_eq_true, decide_eq_true_eq, List.contains_iff_mem]
  constructor
  · rintro ⟨h1, h2⟩
    have hf := h.get h1
    have hr := idx_range hf
    have hl : fmd l = true := by
      cases hc : fmd l with
      | true => rfl
      | false => have := idx_none hc; omega
    have e : t[pos t l]! = l := idx_inj hf hl (by omega)
    refine ⟨hl, ?_⟩
    have hm : t[pos t l]! ∈ t := by rw [getElem!_pos t _ h1]; exact List.getElem_mem h1
    rw [e] at hm
    exact hm
  · rintro ⟨hl, hm⟩
    obtain ⟨j, hj, e⟩ := List.getElem_of_mem hm
    have e' : t[j]! = l := by rw [getElem!_pos t j hj]; exact e
    have hp := pos_at h hj
    rw [e'] at hp
    rw [hp, e']
    exact ⟨hj, by omega⟩
theorem found_at {t : List Int} (h : Rises t) {l : Int} (hf : (fmd l && t.contains l) = true) : pos t l < t.length ∧ t[pos t l]! = l := by
  have h1 := (found_eq h l).trans hf
  simp only [Bool.and_eq_true, decide_eq_true_eq] at h1
  simp only [Bool.and_eq_true] at hf
  exact ⟨h1.1, idx_inj (h.get h1.1) hf.1 (by omega)⟩

/-- without l -/
def wout (t : List Int) (l : Int) : List Int := t.filter (fun x => x != l)
theorem wout_rises {t : List Int} (h : Rises t) (l : Int) : Rises (wout t l) :=
  ⟨h.1.filter _, fun x hx => h.2 x (List.mem_filter.1 hx).1⟩
theorem wout_found {t : List Int} (h : Rises t) {l : Int} (hf : (fmd l && t.contains l) = true) : t.take (pos t l) ++ t.drop (pos t l + 1) = wout t l := by
  obtain ⟨h1, h2⟩ := found_at h hf
  have e : t = t.take (pos t l) ++ t[pos t l]! :: t.drop (pos t l + 1) := by
    rw [getElem!_pos t _ h1, ← List.drop_eq_getElem_cons h1, List.take_append_drop]
  have e1 : ∀ x ∈ t.take (pos t l), x ≠ l := by
    intro x hx hxl
    obtain ⟨i, hi, rfl⟩ := List.getElem_of_mem hx
    rw [List.getElem_take] at hxl
    have hi' : i < pos t l := by simp at hi; omega
    have := h.lt hi' h1
    rw [h2, getElem!_pos t i (by omega), hxl] at this
    omega
  have e2 : ∀ x ∈ t.drop (pos t l + 1), x ≠ l := by
    intro x hx hxl
    obtain ⟨i, hi, rfl⟩ := List.getElem_of_mem hx
    rw [List.getElem_drop] at hxl
    have hi' : pos t l + 1 + i < t.length := by simp at hi; omega
    have := h.lt (show pos t l < pos t l + 1 + i by omega) hi'
    rw [h2, getElem!_pos t _ hi', hxl] at this
    omega
  have hw : wout t l = wout (t.take (pos t l) ++ t[pos t l]! :: t.drop (pos t l + 1)) l := by rw [← e]
  rw [hw]
  unfold wout
  rw [List.filter_append, List.filter_cons, h2]
  simp only [bne_self_eq_false, Bool.false_eq_true, if_false]
  rw [List.filter_eq_self.2 (fun x hx => by simpa using e1 x hx), List.filter_eq_self.2 (fun x hx => by simpa using e2 x hx)]
theorem wout_none {t : List Int} (h : Rises t) {l : Int} (hf : (fmd l && t.contains l) = false) : wout t l = t := by
  unfold wout
  refine List.filter_eq_self.2 fun x hx => ?_
  simp only [bne_iff_ne, ne_eq]
  intro e
  subst e
  have := h.2 x hx
  simp [this, hx] at hf

theorem find1_any (x y : Int) (w : World) (hy : -1 ≤ y) (hy2 : y < 2097152) :
    Calls Tryd.prog 58 #[.int .i64 x, .int .i64 y] w fun e w' => e = .returned (.int .i64 (idx x - y)) ∧ w' = w := by
  have hx : -1 ≤ idx x ∧ idx x < 2097152 := by
    cases hf : fmd x with
    | true => have := idx_range hf; omega
    | false => have := idx_none hf; omega
  obtain ⟨hx1, hx2⟩ := hx
  have HI : Hid (Calls Tryd.prog 43 #[.int .i64 x] w fun e w' => e = .returned (.int .i64 (idx x)) ∧ w' = w) := index_any x w
  generalize idx x = z at *
  go_enter Tryd.func58, Tryd.ntmps58
  go_wp2_with (go_at_call 43; refine HI.out.mono ?_; rintro e w' ⟨rfl, rfl⟩)
  go_ret
  exact ⟨rfl, rfl⟩

theorem own_holds {base : Nat} {w : World} {v : Value} {t : List Int} (h : Own base w v t) (hne : t ≠ []) :
    ∃ g cap, v = .slice (some ⟨g, 0, none⟩) t.length cap ∧ Holds (Value.int .i64) w g 0 t.toArray ∧ g < w.heap.size ∧ base ≤ g ∧ t.length ≤ cap ∧ cap ≤ maxLen := by
  rcases h.2 with ⟨_, hn⟩ | ⟨g, cap, cur, hv, hg, hh, hn, hm, hs, ht⟩
  · exact absurd (List.length_eq_zero_iff.1 hn) hne
  · exact ⟨g, cap, hv, holds_of_blockI hh (by simpa using ht), (Array.getElem?_eq_some_iff.1 hh).1, hg, hn, hm⟩

theorem sw_below {w w' : World} {g : Nat} {d : Array Int} (hH : Holds (Value.int .i64) w g 0 d) (h : SW (Value.int .i64) w g 0 d w') : Below w.heap.size w w' := by
  obtain ⟨n, os, rfl⟩ := h
  have hH' : Holds (Value.int .i64) (Sort.ahead w n) g 0 d := hH
  unfold sortWorld
  rw [putRow_self _ _ _ _ _ hH']
  exact ⟨rfl, rfl, rfl, by simp [grow, Sort.ahead], fun k hk => by rw [heap_grow_old _ _ (by simpa [Sort.ahead] using hk)]; rfl⟩

theorem find_any (v : Value) (t : List Int) (l : Int) (w : World) (own : Own 0 w v t) (hr : Rises t) :
    Calls Tryd.prog 40 #[v, .int .i64 l] w fun e w' => e = .returned (.tuple #[.int .i64 (pos t l : Nat), .bool (fmd l && t.contains l)]) ∧ Below w.heap.size w w' := by
  have hl := hr.len
  have hI : -1 ≤ idx l ∧ idx l < 2097152 := by
    cases hf : fmd l with
    | true => have := idx_range hf; omega
    | false => have := idx_none hf; omega
  have HX : Hid (Calls Tryd.prog 43 #[.int .i64 l] w fun e w' => e = .returned (.int .i64 (idx l)) ∧ w' = w) := index_any l w
  by_cases hne : t = []
  · subst hne
    obtain ⟨_, a, c, rfl, _⟩ := own.rd (by simp)
    have HB : Hid (∀ tv fv w, Calls Tryd.prog 44 #[.slice a 0 c, tv, fv] w fun e w' => e = .returned (.tuple #[.int .i64 0, .bool false]) ∧ w' = w) := fun tv fv w => Any.slices_BinarySearchFunc_none Tryd.bsf a c tv fv w
    clear own hr hl hI
    have e1 : (fmd l && ([] : List Int).contains l) = false := by simp
    have e2 : pos [] l = 0 := by simp [pos]
    rw [e1, e2]
    generalize idx l = y at *
    go_enter Tryd.func40, Tryd.ntmps40
    go_wp2_with (first | (go_at_call 43; refine HX.out.mono ?_; rintro e w' ⟨rfl, rfl⟩) | (go_at_call 44; refine (HB.out _ _ _).mono ?_; rintro e w' ⟨rfl, rfl⟩))
    go_ret2
    exact ⟨rfl, Below.refl _ _⟩
  · obtain ⟨g, cap, rfl, hH, hg, _, hn, hm⟩ := own_holds own hne
    have eg : ∀ args w, (callFunc 58 args).run Tryd.prog w = .ok (.enter 58 args) w := enters_of Tryd.func58 (by kernel_rfl) rfl
    have hcmp : CmpLaysT Tryd.prog 58 #[] (Value.int .i64) (.int .i64 (idx l)) (fun x => idx x - idx l) g 0 t.toArray.size w :=
      fun m os dk _ x => (find1_any x (idx l) _ hI.1 hI.2).mono fun _ _ ⟨he, hq⟩ => ⟨he, 0, #[], by rw [hq, grow_empty]; rfl⟩
    have hcon := Any.slices_BinarySearchFunc Tryd.bsf (Value.int .i64) (fun _ => rfl) (.int .i64 (idx l)) (fun x => idx x - idx l) 58 #[] g 0 cap t.toArray w eg hcmp hH hg (by simp; omega)
      (fun a b hab hb h => by
        have hb' : b < t.length := by simpa using hb
        rcases Nat.lt_or_ge a b with h3 | h3
        · have := hr.lt h3 hb'
          simp only [List.getElem!_toArray] at h ⊢
          omega
        · obtain rfl : a = b := by omega
          exact h)
    change Calls Tryd.prog 44 _ _ _ at hcon
    have e3 : t.toArray.toList.countP (fun x => decide (idx x - idx l < 0)) = pos t l := by simp [pos]
    rw [e3] at hcon
    have e4 : (decide (pos t l < t.toArray.size) && decide (idx t.toArray[pos t l]! - idx l = 0)) = (fmd l && t.contains l) := by
      rw [← found_eq hr l]; simp
    rw [e4, List.size_toArray] at hcon
    have HS : Hid (∀ w', SW (Value.int .i64) w g 0 t.toArray w' → Below w.heap.size w w') := fun w' h => sw_below hH h
    have HCON : Hid (Calls Tryd.prog 44 #[.slice (some ⟨g, 0, none⟩) t.length cap, .int .i64 (idx l), .func (.func 58) #[] #[]] w fun e w' => e = .returned (.tuple #[.int .i64 (pos t l : Nat), .bool (fmd l && t.contains l)]) ∧ SW (Value.int .i64) w g 0 t.toArray w') := hcon
    clear hcon hcmp hH eg own hr hI e3 e4
    generalize (fmd l && t.contains l) = q at *
    generalize pos t l = p at *
    generalize idx l = y at *
    go_enter Tryd.func40, Tryd.ntmps40
    go_wp2_with (first | (go_at_call 43; refine HX.out.mono ?_; rintro e w' ⟨rfl, rfl⟩) | (go_at_call 44; refine HCON.out.mono ?_; rintro e w' ⟨rfl, hsw⟩))
    go_ret2
    exact ⟨rfl, HS.out _ hsw⟩

/-- behind a call that leaves cs at the head of an owned row -/
theorem own_put {w : World} {base g cap q m : Nat} {ts cs : List Int} (h : w.ownsRow base 3 1 (.slice (some ⟨g, 0, none⟩) ts.length cap) ts.length (ts.map (Value.int .i64))) (hl : cs.length + m = ts.length) :
    Own base (putRow (Value.int .i64) (Sort.ahead w q) g 0 (cs ++ List.replicate m 0).toArray) (.slice (some ⟨g, 0, none⟩) cs.length cap) cs ∧ w.grownBy (putRow (Value.int .i64) (Sort.ahead w q) g 0 (cs ++ List.replicate m 0).toArray) (some g) := by
  have hgr := grownBy_sortedI (w := w) (g := g) (n := q) (os := #[]) (cs ++ List.replicate m 0).toArray
  rw [grow_empty] at hgr
  refine ⟨?_, hgr⟩
  rcases h.2 with ⟨h', _⟩ | ⟨g', cap', cur, h', hb, hg, hnc, hcm, hcs, htake⟩
  · simp at h'
  · simp only [Value.slice.injEq, Option.some.injEq, Addr.mk.injEq, and_true, true_and] at h'
    obtain ⟨rfl, rfl⟩ := h'
    have hh := heap_sortedI (n := q) (os := #[]) (cs ++ List.replicate m 0).toArray hg
    rw [grow_empty] at hh
    refine ⟨by simp, .inr ⟨g, cap, _, rfl, hb, hh, by omega, hcm, by simp [putCells, hcs], ?_⟩⟩
    rw [Nat.mul_one]
    exact take_compacted cur _ _ (by omega)

theorem without_any (v : Value) (zs : List Int) (l : Int) (w : World) (hr : Rd w v zs) :
    Calls Tryd.prog 29 #[v, .int .i64 l] w fun e w' => ∃ v', e = .returned v' ∧ Own w.heap.size w' v' (wout (tid zs) l) ∧ Below w.heap.size w w' := by
  have HT : Hid (Calls Tryd.prog 39 #[v] w fun e w' => ∃ v', e = .returned v' ∧ Own w.heap.size w' v' (tid zs) ∧ Below w.heap.size w w') := tidy_any v zs w hr
  have hri := tid_rises zs
  clear hr
  generalize tid zs = t at *
  have hl := hri.len
  have hpl := pos_le t l
  cases hq : (fmd l && t.contains l)
  · have HW : Hid (wout t l = t) := wout_none hri hq
    go_enter Tryd.func29, Tryd.ntmps29
    go_wp2_with fail
    refine HT.out.mono ?_
    rintro e w1 ⟨v1, rfl, own1, bel1⟩
    have HF : Hid (Calls Tryd.prog 40 #[v1, .int .i64 l] w1 fun e w' => e = .returned (.tuple #[.int .i64 (pos t l : Nat), .bool false]) ∧ Below w1.heap.size w1 w') := by have := find_any v1 t l w1 (own1.mono (Nat.zero_le _)) hri; rw [hq] at this; exact this
    go_wp2_with fail
    refine HF.out.mono ?_
    rintro e w2 ⟨rfl, bel2⟩
    go_wp2
    go_ret
    exact ⟨_, rfl, by rw [HW.out]; exact own1.below bel2, Below.step bel1 bel2⟩
  · have HW : Hid (t.take (pos t l) ++ t.drop (pos t l + 1) = wout t l) := wout_found hri hq
    obtain ⟨hp, _⟩ := found_at hri hq
    go_enter Tryd.func29, Tryd.ntmps29
    go_wp2_with fail
    refine HT.out.mono ?_
    rintro e w1 ⟨v1, rfl, own1, bel1⟩
    have HF : Hid (Calls Tryd.prog 40 #[v1, .int .i64 l] w1 fun e w' => e = .returned (.tuple #[.int .i64 (pos t l : Nat), .bool true]) ∧ Below w1.heap.size w1 w') := by have := find_any v1 t l w1 (own1.mono (Nat.zero_le _)) hri; rw [hq] at this; exact this
    go_wp2_with fail
    refine HF.out.mono ?_
    rintro e w2 ⟨rfl, bel2⟩
    have own2 := own1.below bel2
    have hne : t ≠ [] := by intro h; rw [h] at hp; simp at hp
    obtain ⟨g, cap, hv, hH, hg, hbase, hcap, hm⟩ := own_holds own2 hne
    rw [hv]
    rw [hv] at own2
    have hlen : (t.take (pos t l) ++ t.drop (pos t l + 1)).length + 1 = t.length := by simp; omega
    have OP : Hid (∀ q, Own w.heap.size (putRow (Value.int .i64) (Sort.ahead w2 q) g 0 (t.take (pos t l) ++ t.drop (pos t l + 1) ++ List.replicate 1 0).toArray) (.slice (some ⟨g, 0, none⟩) (t.take (pos t l) ++ t.drop (pos t l + 1)).length cap) (t.take (pos t l) ++ t.drop (pos t l + 1)) ∧ w2.grownBy (putRow (Value.int .i64) (Sort.ahead w2 q) g 0 (t.take (pos t l) ++ t.drop (pos t l + 1) ++ List.replicate 1 0).toArray) (some g)) := fun q => own_put own2 hlen
    have hdel := Tryd.slices_Delete_int g 0 cap (pos t l) (pos t l + 1) t w2 hH hcap (by unfold maxLen at hm; omega) (by omega) (by omega)
    rw [show pos t l + 1 - pos t l = 1 by omega, show t.length - 1 = (t.take (pos t l) ++ t.drop (pos t l + 1)).length by omega] at hdel
    have hin : ((pos t l + 1 : Nat) : Int) = (pos t l : Int) + 1 := by omega
    rw [hin] at hdel
    have HD : Hid (Calls Tryd.prog 41 #[.slice (some ⟨g, 0, none⟩) t.length cap, .int .i64 (pos t l : Nat), .int .i64 ((pos t l : Nat) + 1)] w2 fun e w' => e = .returned (.slice (some ⟨g, 0, none⟩) (t.take (pos t l) ++ t.drop (pos t l + 1)).length cap) ∧ ∃ q, w' = putRow (Value.int .i64) (Sort.ahead w2 q) g 0 (t.take (pos t l) ++ t.drop (pos t l + 1) ++ List.replicate 1 0).toArray) := hdel
    clear hdel hin hlen own2 hH hv own1 HF HT hri hq
    generalize hcs : t.take (pos t l) ++ t.drop (pos t l + 1) = cs at *
    have HCS : Hid (cs = wout t l) := HW.out
    clear hcs HW
    generalize pos t l = p at *
    go_wp2_with fail
    refine HD.out.mono ?_
    rintro e w3 ⟨rfl, q, hw3⟩
    obtain ⟨o1, o2⟩ := OP.out q
    rw [← hw3] at o1 o2
    have bel3 : Below w.heap.size w w3 := (Below.step bel1 bel2).grown o2 (Below.step bel1 bel2).size (fun j hj => by cases hj; exact hbase)
    clear hw3 o2
    go_wp2
    go_ret
    exact ⟨_, rfl, by rw [← HCS.out]; exact o1, bel3⟩

/-- is each of a one of t's -/
def allIn (a t : List Int) : Bool := a.all (fun l => fmd l && t.contains l)
theorem allIn_take_succ (a t : List Int) (k : Nat) (h : k < a.length) : allIn (a.take (k + 1)) t = (allIn (a.take k) t && (fmd (a.getD k 0) && t.contains (a.getD k 0))) := by
  unfold allIn
  rw [List.take_succ_eq_append_getElem h, List.all_append]
  simp [List.getD_eq_getElem?_getD, List.getElem?_eq_getElem h]
theorem allIn_false {a t : List Int} {k : Nat} (h : k < a.length) (hf : (fmd (a.getD k 0) && t.contains (a.getD k 0)) = false) : allIn a t = false := by
  unfold allIn
  rw [List.all_eq_false]
  refine ⟨a[k], List.getElem_mem h, ?_⟩
  simp only [List.getD_eq_getElem?_getD, List.getElem?_eq_getElem h, Option.getD_some] at hf
  rw [hf]; simp

end Go.Proofs.YtgaojmcmpdjfmaaDoor

/-
  trail: Back.
  KEEP: set on app at below new trans refl start ap kept rd rds mono
-/
import Derived.Test.YtjcgfigbbbefcaaTrN
import Derived.Test.YtjcgfigbbbefcaaShelf
import Derived.Sort.OwnSortedInts
import Derived.Lib.RowBridge
import Derived.WalkSpells
import Derived.Deep.LoopGhost
set_option linter.unusedSimpArgs false
set_option linter.unusedVariables false
namespace Go.Proofs.Ytjcgfigbbbefcaa
open Go Go.RowKit Go.Sort

theorem trown_holds {base : Nat} {w : World} {v : Value} {t : List Int} (h : Own base w v t) (hne : t ≠ []) :
    ∃ g cap, v = .slice (some ⟨g, 0, none⟩) t.length cap ∧ Holds (Value.int .i64) w g 0 t.toArray ∧ g < w.heap.size ∧ base ≤ g ∧ t.length ≤ cap ∧ cap ≤ maxLen := by
  rcases h.2 with ⟨_, hn⟩ | ⟨g, cap, cur, hv, hg, hh, hn, hm, hs, ht⟩
  · exact absurd (List.length_eq_zero_iff.1 hn) hne
  · exact ⟨g, cap, hv, holds_of_blockI hh (by simpa using ht), (Array.getElem?_eq_some_iff.1 hh).1, hg, hn, hm⟩
theorem trtake_compacted (cur : Array Value) (cs : List Int) (m : Nat) (h : cs.length + m ≤ cur.size) : (putCells (Value.int .i64) 0 (cs ++ List.replicate m 0).toArray cur).toList.take cs.length = cs.map (Value.int .i64) := by
  have h1 := take_putCellsI cur (cs ++ List.replicate m 0) (by simpa using h)
  have h2 : ((putCells (Value.int .i64) 0 (cs ++ List.replicate m 0).toArray cur).toList.take (cs ++ List.replicate m 0).length).take cs.length = ((cs ++ List.replicate m 0).map (Value.int .i64)).take cs.length := by rw [h1]
  rw [List.take_take, Nat.min_eq_left (by simp), ← List.map_take, List.take_left] at h2
  exact h2
/-- behind Compact the same row owns what is left -/
theorem trown_put {w : World} {base g cap q : Nat} {ts cs : List Int} (h : w.ownsRow base 3 1 (.slice (some ⟨g, 0, none⟩) ts.length cap) ts.length (ts.map (Value.int .i64))) (hl : cs.length = ts.length) :
    Own base (putRow (Value.int .i64) (Sort.ahead w q) g 0 cs.toArray) (.slice (some ⟨g, 0, none⟩) cs.length cap) cs ∧ w.grownBy (putRow (Value.int .i64) (Sort.ahead w q) g 0 cs.toArray) (some g) := by
  have hgr := grownBy_sortedI (w := w) (g := g) (n := q) (os := #[]) cs.toArray
  rw [grow_empty] at hgr
  refine ⟨?_, hgr⟩
  rcases h.2 with ⟨h', _⟩ | ⟨g', cap', cur, h', hb, hg, hnc, hcm, hcs, htake⟩
  · simp at h'
  · simp only [Value.slice.injEq, Option.some.injEq, Addr.mk.injEq, and_true, true_and] at h'
    obtain ⟨rfl, rfl⟩ := h'
    have hh := heap_sortedI (n := q) (os := #[]) cs.toArray hg
    rw [grow_empty] at hh
    refine ⟨by simp, .inr ⟨g, cap, _, rfl, hb, hh, by omega, hcm, by simp [putCells, hcs], ?_⟩⟩
    rw [Nat.mul_one]
    have := trtake_compacted cur cs 0 (by omega)
    simpa using this
def inR (R : List Pl) (k : Int) : Prop := 0 ≤ k ∧ k ≤ now R
instance (R : List Pl) (k : Int) : Decidable (inR R k) := by unfold inR; infer_instance
def backF (R : List Pl) (k : Int) : List Pl := if inR R k then cutR R k.toNat else R
def backE (R : List Pl) (k : Int) : Int := if inR R k then 0 else 2
def backO (R : List Pl) (k : Int) : List Int := if inR R k then ((R.drop (cutR R k.toNat).length).map Pl.lit).reverse else []

theorem behind_any (g i m c : Nat) (w : World) (hi : i < m) (hc : m ≤ c) (hm : c ≤ maxLen) :
    Calls Try.prog 43 #[.agg #[.int .i64 i], .slice (some ⟨g, 0, none⟩) m c] w fun e w' => e = .returned (.slice (some ⟨g, i, none⟩) (m - i) (c - i)) ∧ Below w.heap.size w w' := by
  have hb := below_box w (.cells #[.int .i64 i] 72)
  unfold maxLen at hm
  go_enter Try.func43, Try.ntmps43
  go_wp2
  go_ret
  exact ⟨rfl, hb⟩
theorem ahead_any (g i m c : Nat) (w : World) (hi : i < m) (hc : m ≤ c) (hm : c ≤ maxLen) :
    Calls Try.prog 47 #[.agg #[.int .i64 i], .slice (some ⟨g, 0, none⟩) m c] w fun e w' => e = .returned (.slice (some ⟨g, 0, none⟩) i c) ∧ Below w.heap.size w w' := by
  have hb := below_box w (.cells #[.int .i64 i] 72)
  unfold maxLen at hm
  go_enter Try.func47, Try.ntmps47
  go_wp2
  go_ret
  exact ⟨rfl, hb⟩

theorem rd_cut {w : World} {B g c i : Nat} {zs : List Int} (h : Own B w (.slice (some ⟨g, 0, none⟩) zs.length c) zs) (hi : i < zs.length) (hz : zs.length ≤ 1048576) : Rd w (.slice (some ⟨g, i, none⟩) (zs.length - i) (c - i)) (zs.drop i) := by
  obtain ⟨g', c', e, h1, h2, h3⟩ := row_some h (by omega)
  injection e with e1 _ e2
  injection e1 with e1
  injection e1 with e1
  subst e1 e2
  refine ⟨by simp; omega, some ⟨g, i, none⟩, c - i, by simp, by simp; omega, by unfold maxLen at *; omega, by simp, fun _ => ⟨g, i, rfl, h3, fun j hj => ?_⟩⟩
  rw [List.length_drop] at hj
  have := row_cell h (j := i + j) (x := .int .i64 (zs.getD (i + j) 0)) (by rw [List.getElem?_map, List.getElem?_eq_getElem (by omega)]; simp [List.getD_eq_getElem?_getD, show i + j < zs.length by omega])
  rw [this]
  simp [List.getD_eq_getElem?_getD]
/-- what Back leaves of the trail, its row and levels not yet cut -/
theorem pop_one {n : Nat} {R : List Pl} (hok : okT n R) {j : Nat} (hj : j < R.length) :
    (vals n (R.take (j + 1))).set (vr R[j] - 1) 0 = vals n (R.take j) ∧ ((facts n (R.take (j + 1))).set ((vr R[j] - 1) * 2) 0).set ((vr R[j] - 1) * 2 + 1) 0 = facts n (R.take j) := by
  have h1 := fnd_take hok hj
  have h2 := (hok.fit R[j] (List.getElem_mem hj)).1
  rw [List.take_succ_eq_append_getElem hj]
  exact ⟨vals_pop h1 h2, facts_pop h1 h2⟩

theorem trBack_out (b : Nat) (s : Sl) (n : Nat) (R : List Pl) (k : Int) (w : World) (h : Tr w b s n R) (hk : ¬ inR R k) :
    Calls Try.prog 16 #[.pointer (some ⟨b, 0, none⟩), .int .i64 k] w fun e w' => e = .returned (.tuple #[.slice none 0 0, .int .i64 2]) ∧ w' = w := by
  have HLv : Hid (Calls Try.prog 17 #[.pointer (some ⟨b, 0, none⟩)] w fun e w' => e = .returned (.int .i64 (now R : Int)) ∧ w' = w) := by
    have hnow := now_le R
    have hlen := h.ok.len
    have hN := h.n
    have h1 := trLevel_any b s n _ _ _ _ w h.q (by rw [lvs_len]; omega) (by rw [lvs_len]; omega)
    rw [lvs_len] at h1
    have e1 : ((now R + 1 : Nat) : Int) - 1 = (now R : Int) := by omega
    rw [e1] at h1
    exact h1
  clear h
  unfold inR at hk
  by_cases h0 : k < 0
  · clear hk
    go_enter Try.func16, Try.ntmps16
    go_wp2
    go_ret2
    exact ⟨rfl, rfl⟩
  · have h1 : (now R : Int) < k := by omega
    clear hk
    go_enter Try.func16, Try.ntmps16
    go_wp2_with fail
    refine HLv.out.mono ?_
    rintro e w1 ⟨rfl, rfl⟩
    go_wp2
    go_ret2
    exact ⟨rfl, rfl⟩
theorem trBack_none (b : Nat) (s : Sl) (n : Nat) (R : List Pl) (w : World) (h : Tr w b s n R) :
    Calls Try.prog 16 #[.pointer (some ⟨b, 0, none⟩), .int .i64 (now R : Int)] w fun e w' => e = .returned (.tuple #[.slice none 0 0, .int .i64 0]) ∧ w' = w := by
  have HLv : Hid (Calls Try.prog 17 #[.pointer (some ⟨b, 0, none⟩)] w fun e w' => e = .returned (.int .i64 (now R : Int)) ∧ w' = w) := by
    have hnow := now_le R
    have hlen := h.ok.len
    have hN := h.n
    have h1 := trLevel_any b s n _ _ _ _ w h.q (by rw [lvs_len]; omega) (by rw [lvs_len]; omega)
    rw [lvs_len] at h1
    have e1 : ((now R + 1 : Nat) : Int) - 1 = (now R : Int) := by omega
    rw [e1] at h1
    exact h1
  clear h
  generalize now R = k at *
  go_enter Try.func16, Try.ntmps16
  go_wp2_with fail
  refine HLv.out.mono ?_
  rintro e w1 ⟨rfl, rfl⟩
  go_wp2_with fail
  refine HLv.out.mono ?_
  rintro e w1 ⟨rfl, rfl⟩
  go_wp2
  go_ret2
  exact ⟨rfl, rfl⟩

set_option maxHeartbeats 3200000 in
theorem trBack_in (b : Nat) (s : Sl) (n : Nat) (R : List Pl) (k : Nat) (w : World) (h : Tr w b s n R) (hk : k < now R) :
    Calls Try.prog 16 #[.pointer (some ⟨b, 0, none⟩), .int .i64 (k : Int)] w fun e w' => ∃ u s', e = .returned (.tuple #[u, .int .i64 0]) ∧ Own w.heap.size w' u ((R.drop (cutR R k).length).map Pl.lit).reverse ∧ Tr w' b s' n (cutR R k) ∧ Mv w b s w' s' ∧ ∀ j, s'.own b j → s.own b j := by
  obtain ⟨i, hi, hl2, hlv, hcut, hnw⟩ := lvs_next h.ok hk
  have hcl : (cutR R k).length = i := by rw [hcut, List.length_take]; omega
  rw [hcl, hcut]
  have HT : Hid (Tr w b s n R) := h
  have hlen := h.ok.len
  have hN := h.n
  have hnow := now_le R
  have HLv : Hid (Calls Try.prog 17 #[.pointer (some ⟨b, 0, none⟩)] w fun e w' => e = .returned (.int .i64 (now R : Int)) ∧ w' = w) := by
    have h1 := trLevel_any b s n _ _ _ _ w h.q (by rw [lvs_len]; omega) (by rw [lvs_len]; omega)
    rw [lvs_len] at h1
    have e1 : ((now R + 1 : Nat) : Int) - 1 = (now R : Int) := by omega
    rw [e1] at h1
    exact h1
  obtain ⟨g3, c3, el, hc5, hc6, hg3⟩ := row_some h.q.l (by omega)
  obtain ⟨g2, c2, er, hc3, hc4, hg2⟩ := row_some (show w.ownsRow 0 3 1 s.R (R.map Pl.lit).length ((R.map Pl.lit).map (Value.int .i64)) from h.q.r) (by simp; omega)
  rw [lvs_len] at el hc5
  rw [List.length_map] at er hc3
  have hlq := h.q.l
  rw [el, lvs_len] at hlq
  have hat : (lvs R)[k + 1]? = some (i, R[i].lit) := by rw [List.getElem?_eq_getElem hl2, hlv]
  have d0 := row_cell hlq (two_at0 hat)
  have d1 := row_cell hlq (two_at1 hat)
  have k3 := h.q.box.c3
  rw [el] at k3
  have HER : Hid (s.R = .slice (some ⟨g2, 0, none⟩) R.length c2) := er
  have HEL : Hid (s.L = .slice (some ⟨g3, 0, none⟩) (now R + 1) c3) := el
  have HCt : Hid (now (R.take i) = k) := hnw
  generalize R[i].lit = dl at *
  have hb1 := below_box w (.cells #[.int .i64 i, .int .i64 dl] 74)
  have k2 := (h.q.below hb1).box.c2
  rw [er] at k2
  have e0 := World.alloc_heap_new w (.cells #[.int .i64 i, .int .i64 dl] 74)
  clear h hlv hat hlq el er hcl hcut hl2 hnw hg2
  generalize hRL : R.length = m at *
  have HRL : Hid (R.length = m) := hRL
  generalize hNW : now R = N at *
  have HNW : Hid (now R = N) := hNW
  clear hRL hNW
  go_enter Try.func16, Try.ntmps16
  go_wp2_with fail
  refine HLv.out.mono ?_
  rintro e w1 ⟨rfl, rfl⟩
  go_wp2_with fail
  refine HLv.out.mono ?_
  rintro e w1 ⟨rfl, rfl⟩
  clear HLv
  go_upto_region 6 with fail
  have HBx : Hid (Bx2 (w1.alloc (.cells #[.int .i64 i, .int .i64 dl] 74)) w1.heap.size 74 (.int .i64 i) (.int .i64 dl)) := e0
  have HB1 : Hid (Below w1.heap.size w1 (w1.alloc (.cells #[.int .i64 i, .int .i64 dl] 74))) := hb1
  have a0 := HBx.out.c0
  have hs1 : w1.heap.size < (w1.alloc (.cells #[.int .i64 i, .int .i64 dl] 74)).heap.size := by rw [World.size_alloc]; omega
  clear d0 d1 k3 e0 hb1 hg3
  generalize w1.alloc (.cells #[.int .i64 i, .int .i64 dl] 74) = W1 at *
  have HTQ1 : Hid (Tr W1 b s n R) := HT.out.below HB1.out
  have HRd : Hid (∀ W, Below W1.heap.size W1 W → Rd W (.slice (some ⟨g2, i, none⟩) (m - i) (c2 - i)) ((R.map Pl.lit).drop i)) := by
    intro W hW
    have ho := (HTQ1.out.below hW).q.r
    rw [HER.out] at ho
    have e1 : (R.map Pl.lit).length = m := by rw [List.length_map, HRL.out]
    rw [← e1] at ho
    have := rd_cut ho (i := i) (by omega) (by omega)
    rw [e1] at this
    exact this
  have HZl : Hid (((R.map Pl.lit).drop i).length = m - i) := by show _ = _; rw [List.length_drop, List.length_map, HRL.out]
  have hkN : ((k : Int) == (N : Int)) = false := by simp; omega
  rw [hkN]
  clear hkN
  generalize decide ((k : Int) < 0) = bz at *
  go_cut [7] from 30 to 37 (fun p wx => Own W1.heap.size wx p ((R.map Pl.lit).drop i) ∧ Below W1.heap.size W1 wx)
  case first =>
    have HS : Hid (∀ W', Below W1.heap.size W1 W' → Below W1.heap.size W1 W' ∧ W'.cell? ⟨w1.heap.size, 0, none⟩ = some (.int .i64 i) ∧ W'.cell? ⟨b, 2, none⟩ = some (.slice (some ⟨g2, 0, none⟩) m c2)) := fun W' h => ⟨h, (h.cell (p := ⟨w1.heap.size, 0, none⟩) (World.block_lt_of_cell? W1 _ a0)).trans a0, (h.cell (p := ⟨b, 2, none⟩) (World.block_lt_of_cell? W1 _ k2)).trans k2⟩
    have HBh : Hid (∀ W' : World, Calls Try.prog 43 #[.agg #[.int .i64 i], .slice (some ⟨g2, 0, none⟩) m c2] W' fun e w' => e = .returned (.slice (some ⟨g2, i, none⟩) (m - i) (c2 - i)) ∧ Below W'.heap.size W' w') := fun W' => behind_any g2 i m c2 W' hi hc3 hc4
    have HCl : Hid (∀ W', Below W1.heap.size W1 W' → Calls Try.prog 42 #[.slice (some ⟨g2, i, none⟩) (m - i) (c2 - i)] W' fun e w' => ∃ u, e = .returned u ∧ Own W'.heap.size w' u ((R.map Pl.lit).drop i) ∧ Below W'.heap.size W' w') := fun W' h => clone_any _ _ W' (HRd.out W' h)
    generalize (R.map Pl.lit).drop i = zs at *
    clear HTQ1 HRd HT HBx HB1 HER HEL HCt HNW HRL
    go_region_held (fun W' => Below W1.heap.size W1 W' ∧ W'.cell? ⟨w1.heap.size, 0, none⟩ = some (.int .i64 i) ∧ W'.cell? ⟨b, 2, none⟩ = some (.slice (some ⟨g2, 0, none⟩) m c2)) (first | exact HS.out _ (Below.refl _ _).drew | exact HS.out _ O3.out | exact HS.out _ O4.out.2) (first
      | (go_at_call 43; refine (HBh.out _).mono ?_; rintro e w3 ⟨rfl, bel3⟩; have O3 : Hid (Below W1.heap.size W1 w3) := Below.step (Below.refl _ _).drew bel3; clear bel3)
      | (go_at_call 42; refine (HCl.out _ O3.out).mono ?_; rintro e w4 ⟨x4, rfl, own4, bel4⟩; have O4 : Hid (Own W1.heap.size w4 x4 zs ∧ Below W1.heap.size W1 w4) := ⟨own4.mono O3.out.size, Below.step O3.out bel4⟩; clear own4 bel4))
    all_goals
      go_wp2_with fail
      go_meet
      exact ⟨O4.out.1, O4.out.2⟩
  case rest =>
  obtain ⟨own4, bel4⟩ := hcut
  generalize wc = w4 at *
  have hne : (R.map Pl.lit).drop i ≠ [] := fun e => by have := HZl.out; rw [e] at this; simp at this; omega
  obtain ⟨gu, cu, rfl, hH, hgu, hgb, hcu, hcm⟩ := trown_holds own4 hne
  have HRv : Hid (Calls Try.prog 44 #[.slice (some ⟨gu, 0, none⟩) ((R.map Pl.lit).drop i).length cu] w4 fun e w' => e = .returned (.tuple #[]) ∧ Own W1.heap.size w' (.slice (some ⟨gu, 0, none⟩) (m - i) cu) ((R.map Pl.lit).drop i).reverse ∧ Below W1.heap.size W1 w') :=
    (Try.slices_Reverse_int gu 0 cu _ w4 hH (by rw [HZl.out]; omega)).mono (by
      rintro e w' ⟨rfl, q, rfl⟩
      obtain ⟨o1, g1⟩ := trown_put (q := q) own4 (cs := ((R.map Pl.lit).drop i).reverse) (by simp)
      rw [List.length_reverse, HZl.out] at o1
      exact ⟨rfl, o1, bel4.grown g1 bel4.size (fun k e => by cases e; exact hgb)⟩)
  rw [HZl.out] at HRv ⊢
  have HZr : Hid (((R.drop i).map Pl.lit).reverse = ((R.map Pl.lit).drop i).reverse) := by show _ = _; rw [List.map_drop]
  clear own4 bel4 hH hgu hne hcu a0 k2
  go_wp2_with fail
  refine HRv.out.mono ?_
  rintro e w5 ⟨rfl, own5, bel5⟩
  clear HRv
  have HT5 : Hid (Tr w5 b s n R) := HTQ1.out.below bel5
  have HBx5 : Hid (Bx2 w5 w1.heap.size 74 (.int .i64 i) (.int .i64 dl)) := HBx.out.below bel5
  have HB5 : Hid (Below w1.heap.size w1 w5) := Below.step HB1.out bel5
  have HO5 : Hid (Own W1.heap.size w5 (.slice (some ⟨gu, 0, none⟩) (m - i) cu) ((R.map Pl.lit).drop i).reverse) := own5
  clear own5 bel5 HTQ1 HBx HB1 HRd
  go_wp2
  go_loopg [42] (m - i) (fun g i' wr => ∃ j : Nat, j + g = m - i ∧ i' = .int .i64 j ∧ Tq wr b s n (vals n (R.take (m - j))) (facts n (R.take (m - j))) (R.map Pl.lit) (lvs R) ∧ Mv w5 b s wr s)
  case atStart => exact ⟨0, by omega, rfl, by have e := HRL.out; rw [Nat.sub_zero, ← e, List.take_length]; exact HT5.out.q, Mv.refl _ _ _⟩
  case round =>
    obtain ⟨j, hj, rfl, hq, hm⟩ := hrel
    have HJ : Hid (j + gk = m - i) := hj
    have HQ : Hid (Tq wr b s n (vals n (R.take (m - j))) (facts n (R.take (m - j))) (R.map Pl.lit) (lvs R)) := hq
    have HM : Hid (Mv w5 b s wr s) := hm
    have hno : ∀ x, s.own b x → x < w1.heap.size := HT.out.q.lt
    have HOr : Hid (Own W1.heap.size wr (.slice (some ⟨gu, 0, none⟩) (m - i) cu) ((R.map Pl.lit).drop i).reverse) := row_kept HO5.out (fun x hx => hm.block x ((HO5.out.lt x hx.symm).2) (fun ho => by
      have h1 := hno x ho
      have h2 : x = gu := by simpa [Value.ownBlock] using hx
      omega))
    have HBr : Hid (Bx2 wr w1.heap.size 74 (.int .i64 i) (.int .i64 dl)) := (hm.block _ HBx5.out.lt (fun ho => by have := hno _ ho; omega)).trans HBx5.out
    clear hq hm hno
    by_cases hlt : j < m - i
    · obtain ⟨q, hq⟩ : ∃ q, m - j = q + 1 := ⟨m - j - 1, by omega⟩
      have HQ1 : Hid (m - (j + 1) = q) := by show _ = _; omega
      have hqm : q < R.length := by rw [HRL.out]; omega
      have HPop := pop_one HT.out.ok hqm
      have hfit := HT.out.ok.fit R[q] (List.getElem_mem hqm)
      have hvr := varOf_abs (n := n) (l := R[q].lit) hN (decide_eq_true ⟨hfit.1, hfit.2⟩)
      have hor := HOr.out
      have e1 : ((R.map Pl.lit).drop i).reverse.length = m - i := by rw [List.length_reverse, HZl.out]
      unfold Own at hor
      rw [e1] at hor
      have cj := row_cell hor (j := j) (x := .int .i64 R[q].lit) (by
        rw [List.getElem?_map, List.getElem?_reverse (by rw [HZl.out]; exact hlt), HZl.out, List.getElem?_drop, show i + (m - i - 1 - j) = q by omega, List.getElem?_map, List.getElem?_eq_getElem hqm]; rfl)
      have HV : Hid (varOf R[q].lit = ((vr R[q] - 1 : Nat) : Int) + 1) := by
        show _ = _
        rw [hvr.1]; unfold vr; omega
      have hvn : vr R[q] - 1 < n := by unfold vr; omega
      have HOp : Hid (Calls Try.prog 45 #[.pointer (some ⟨b, 0, none⟩), .int .i64 (((vr R[q] - 1 : Nat) : Int) + 1)] wr fun e w' => e = .returned (.tuple #[]) ∧ Tq w' b s n (vals n (R.take q)) (facts n (R.take q)) (R.map Pl.lit) (lvs R) ∧ Mv wr b s w' s) := by
        have h1 := HQ.out
        rw [hq] at h1
        have h2 := trOpen_any b s n _ _ _ _ (vr R[q] - 1) wr h1 hvn hN
        rw [HPop.1, HPop.2] at h2
        exact h2
      clear hor HPop hvr hfit HQ
      generalize R[q].lit = l0 at *
      generalize (vr R[q] - 1) = v0 at *
      clear hj
      go_wp2_with fail
      refine (var_any _ _).mono ?_
      rintro e w6 ⟨rfl, rfl⟩
      rw [HV.out]
      go_wp2_with fail
      refine HOp.out.mono ?_
      rintro e w7 ⟨rfl, hq7, hm7⟩
      have HQ7 : Hid (_ ∧ _) := ⟨hq7, HM.out.trans hm7⟩
      clear hq7 hm7 HOp
      go_wp2
      go_roundg (gk - 1)
      case measure => have := HJ.out; omega
      case rel => exact ⟨j + 1, by have := HJ.out; omega, by go_num, by rw [HQ1.out]; exact HQ7.out.1, HQ7.out.2⟩
    · obtain rfl : j = m - i := by omega
      have e1 : m - (m - i) = i := by omega
      rw [e1] at HQ
      clear hj e1 hlt
      have a0 := HBr.out.c0
      have k2 := HQ.out.box.c2
      rw [HER.out] at k2
      have HAh : Hid (∀ W' : World, Calls Try.prog 47 #[.agg #[.int .i64 i], .slice (some ⟨g2, 0, none⟩) m c2] W' fun e w' => e = .returned (.slice (some ⟨g2, 0, none⟩) i c2) ∧ Below W'.heap.size W' w') := fun W' => ahead_any g2 i m c2 W' hi hc3 hc4
      have HC2 : Hid (∀ W' : World, Below wr.heap.size wr W' → W'.cell? ⟨b, 2, none⟩ = some (.slice (some ⟨g2, 0, none⟩) m c2) ∧ W'.frozen? ⟨b, 2, none⟩ = false) := fun W' h => by
        have h1 := (HQ.out.below h).box
        refine ⟨?_, h1.fz 2⟩
        have h2 := h1.c2
        rw [HER.out] at h2
        exact h2
      have HPR : Hid (∀ W' : World, Below wr.heap.size wr W' → Tq (W'.setCell ⟨b, 2, none⟩ (.slice (some ⟨g2, 0, none⟩) i c2)) b { s with R := .slice (some ⟨g2, 0, none⟩) i c2 } n (vals n (R.take i)) (facts n (R.take i)) ((R.take i).map Pl.lit) (lvs R) ∧ Mv W' b s (W'.setCell ⟨b, 2, none⟩ (.slice (some ⟨g2, 0, none⟩) i c2)) { s with R := .slice (some ⟨g2, 0, none⟩) i c2 }) := by
        intro W' h
        have hq := HQ.out.below h
        refine hq.putR (W1 := W') ⟨rfl, rfl, rfl, Nat.le_refl _, fun _ _ _ => rfl⟩ (.inl (by rw [HER.out]; rfl)) ?_
        have ho := hq.r
        unfold Own at ho ⊢
        rw [HER.out, List.length_map, HRL.out] at ho
        have h3 := own_cut ho (m := i) (by omega)
        rw [Nat.mul_one, ← List.map_take, ← List.map_take] at h3
        have e3 : ((R.take i).map Pl.lit).length = i := by rw [List.length_map, List.length_take, HRL.out]; omega
        rw [e3]; exact h3
      go_upto_region 13 with fail
      go_region_law (go_simp; go_at_call 47; refine (HAh.out _).mono ?_; intro e w9 hh; obtain ⟨he, hw⟩ := hh; rw [he]; clear he; have B9 : Hid (Below wr.heap.size wr w9) := Below.step (Below.refl _ _).drew hw; clear hw; have q2 := (HC2.out w9 B9.out).1; have q3 := (HC2.out w9 B9.out).2; dsimp only)
      all_goals
        have hf9 := HPR.out w9 B9.out
        have HM9 : Hid (Mv w1 b s (w9.setCell ⟨b, 2, none⟩ (.slice (some ⟨g2, 0, none⟩) i c2)) { s with R := .slice (some ⟨g2, 0, none⟩) i c2 }) := ((Mv.below HB5.out).trans HM.out).trans ((Mv.below B9.out).trans hf9.2)
        have HQ9 : Hid (Tq (w9.setCell ⟨b, 2, none⟩ (.slice (some ⟨g2, 0, none⟩) i c2)) b { s with R := .slice (some ⟨g2, 0, none⟩) i c2 } n (vals n (R.take i)) (facts n (R.take i)) ((R.take i).map Pl.lit) (lvs R)) := hf9.1
        have HO9 : Hid (Own W1.heap.size (w9.setCell ⟨b, 2, none⟩ (.slice (some ⟨g2, 0, none⟩) i c2)) (.slice (some ⟨gu, 0, none⟩) (m - i) cu) ((R.map Pl.lit).drop i).reverse) :=
          row_kept (HOr.out.below B9.out) (fun x hx => hf9.2.block x (((HOr.out.below B9.out).lt x hx.symm).2) (fun ho => by
            have h1 := HT.out.q.lt x ho
            have h2 : x = gu := by simpa [Value.ownBlock] using hx
            omega))
        clear hf9 q2 q3 a0 k2 HPR HC2 HAh HQ HM HOr HBr B9
        generalize w9.setCell ⟨b, 2, none⟩ (.slice (some ⟨g2, 0, none⟩) i c2) = W9 at *
        have k3 := HQ9.out.box.c3
        have z3 := HQ9.out.box.fz 3
        simp only [HEL.out] at k3
        have HF : Hid (Tq (W9.setCell ⟨b, 3, none⟩ (.slice (some ⟨g3, 0, none⟩) (k + 1) c3)) b { s with R := .slice (some ⟨g2, 0, none⟩) i c2, L := .slice (some ⟨g3, 0, none⟩) (k + 1) c3 } n (vals n (R.take i)) (facts n (R.take i)) ((R.take i).map Pl.lit) (lvs (R.take i)) ∧ Mv W9 b { s with R := .slice (some ⟨g2, 0, none⟩) i c2 } (W9.setCell ⟨b, 3, none⟩ (.slice (some ⟨g3, 0, none⟩) (k + 1) c3)) { s with R := .slice (some ⟨g2, 0, none⟩) i c2, L := .slice (some ⟨g3, 0, none⟩) (k + 1) c3 }) := by
          refine HQ9.out.putL (W1 := W9) ⟨rfl, rfl, rfl, Nat.le_refl _, fun _ _ _ => rfl⟩ (.inl (by rw [show ({ s with R := .slice (some ⟨g2, 0, none⟩) i c2 } : Sl).L = s.L from rfl, HEL.out]; rfl)) ?_
          have ho := HQ9.out.l
          rw [show ({ s with R := .slice (some ⟨g2, 0, none⟩) i c2 } : Sl).L = s.L from rfl, HEL.out, lvs_len, HNW.out] at ho
          have h3 := own_cut ho (m := k + 1) (by omega)
          rw [two_take] at h3
          have e3 : lvs (R.take i) = (lvs R).take (k + 1) := by rw [lvs_take, HCt.out]
          rw [e3, List.length_take, lvs_len, HNW.out, Nat.min_eq_left (by omega)]
          exact h3
        have HO10 : Hid (Own W1.heap.size (W9.setCell ⟨b, 3, none⟩ (.slice (some ⟨g3, 0, none⟩) (k + 1) c3)) (.slice (some ⟨gu, 0, none⟩) (m - i) cu) ((R.map Pl.lit).drop i).reverse) :=
          row_kept HO9.out (fun x hx => HF.out.2.block x ((HO9.out.lt x hx.symm).2) (fun ho => by
            have h2 : x = gu := by simpa [Value.ownBlock] using hx
            rcases ho with e | e | e | e | e
            · have := HT.out.q.lt b (.inl rfl); omega
            · have := HT.out.q.lt x (.inr (.inl e)); omega
            · have := HT.out.q.lt x (.inr (.inr (.inl e))); omega
            · have h3 : x = g2 := by simpa [Value.ownBlock] using e
              have := HT.out.q.lt g2 (.inr (.inr (.inr (.inl (by rw [HER.out]; rfl))))); omega
            · have := HT.out.q.lt x (.inr (.inr (.inr (.inr e)))); omega))
        go_wp2
        go_ret2
        refine ⟨_, _, rfl, by rw [HZr.out]; exact HO10.out.mono (by omega), ⟨HF.out.1, HT.out.ok.take i, hN⟩, HM9.out.trans HF.out.2, ?_⟩
        rintro x (e | e | e | e | e)
        · exact .inl e
        · exact .inr (.inl e)
        · exact .inr (.inr (.inl e))
        · exact .inr (.inr (.inr (.inl (by rw [HER.out]; exact e))))
        · exact .inr (.inr (.inr (.inr (by rw [HEL.out]; exact e))))
end Go.Proofs.Ytjcgfigbbbefcaa

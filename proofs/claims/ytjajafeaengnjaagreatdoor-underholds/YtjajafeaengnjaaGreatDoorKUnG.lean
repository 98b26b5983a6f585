/-
  unit: greatest, room, empty.
  KEEP: set on app at below new trans refl start ap kept rd rds mono lt add none own nil put len pos setF setV putL putR other neV same_any
-/
import Derived.Test.YtjajafeaengnjaaGreatDoorJUnR
import Derived.Test.YtjajafeaengnjaaGreatDoorKAppK
import Derived.Deep.OwnRows
set_option linter.unusedSimpArgs false
set_option linter.unusedVariables false
namespace Go.Proofs.YtjajafeaengnjaaGreatDoor
open Go Go.RowKit

/-- the greatest variable -/
def mx (a : Int) (c : List Int) : Int := c.foldl (fun a l => max a (varOf l)) a
def grt (css : List (List Int)) : Int := css.foldl mx 0
theorem mx_take (a : Int) (c : List Int) {j : Nat} (h : j < c.length) : mx a (c.take (j + 1)) = max (mx a (c.take j)) (varOf (c.getD j 0)) := by
  unfold mx
  rw [List.take_succ_eq_append_getElem h, List.foldl_append, List.getD_eq_getElem?_getD, List.getElem?_eq_getElem h]; rfl
theorem grt_take (css : List (List Int)) {j : Nat} (h : j < css.length) : grt (css.take (j + 1)) = mx (grt (css.take j)) (css.getD j []) := by
  unfold grt
  rw [List.take_succ_eq_append_getElem h, List.foldl_append, List.getD_eq_getElem?_getD, List.getElem?_eq_getElem h]; rfl
theorem varOf_range (l : Int) : 0 ≤ varOf l ∧ varOf l ≤ 1048576 := by
  rcases fmd_cases l with ⟨h, h0, h1, h2⟩ | ⟨h, h0⟩
  · unfold varOf; rw [if_pos h]; split <;> omega
  · unfold varOf; rw [if_neg (by rw [h]; simp)]; omega
theorem mx_range (c : List Int) : ∀ a : Int, 0 ≤ a → a ≤ 1048576 → 0 ≤ mx a c ∧ mx a c ≤ 1048576 ∧ a ≤ mx a c ∧ ∀ l ∈ c, varOf l ≤ mx a c := by
  induction c with
  | nil => intro a h0 h1; exact ⟨h0, h1, Int.le_refl _, by simp⟩
  | cons x r ih =>
    intro a h0 h1
    have hx := varOf_range x
    obtain ⟨a1, a2, a3, a4⟩ := ih (max a (varOf x)) (by omega) (by omega)
    have e : mx a (x :: r) = mx (max a (varOf x)) r := rfl
    rw [e]
    refine ⟨a1, a2, by omega, fun l hl => ?_⟩
    rcases List.mem_cons.1 hl with e | e
    · subst e; omega
    · exact a4 l e
theorem grt_range (css : List (List Int)) : 0 ≤ grt css ∧ grt css ≤ 1048576 ∧ ∀ c ∈ css, ∀ l ∈ c, varOf l ≤ grt css := by
  have key : ∀ (css : List (List Int)) (a : Int), 0 ≤ a → a ≤ 1048576 → 0 ≤ css.foldl mx a ∧ css.foldl mx a ≤ 1048576 ∧ a ≤ css.foldl mx a ∧ ∀ c ∈ css, ∀ l ∈ c, varOf l ≤ css.foldl mx a := by
    intro css
    induction css with
    | nil => intro a h0 h1; exact ⟨h0, h1, Int.le_refl _, by simp⟩
    | cons x r ih =>
      intro a h0 h1
      obtain ⟨b1, b2, b3, b4⟩ := mx_range x a h0 h1
      obtain ⟨a1, a2, a3, a4⟩ := ih (mx a x) b1 b2
      refine ⟨a1, a2, by simp only [List.foldl_cons]; omega, fun c hc l hl => ?_⟩
      rcases List.mem_cons.1 hc with e | e
      · subst e; have := b4 l hl; simp only [List.foldl_cons]; omega
      · exact a4 c e l hl
  obtain ⟨a, b, _, c⟩ := key css 0 (by omega) (by omega)
  exact ⟨a, b, c⟩

set_option maxHeartbeats 1000000 in
theorem uGreatest_any (v : Int) (s : Value) (css : List (List Int)) (w : World) (hr : Rds w s css) (hN : css.length ≤ 1073741824) (hL : ∀ c ∈ css, c.length ≤ 1073741824) :
    Calls Tryz.prog 124 #[.agg #[.int .i64 v, s]] w fun e w' => e = .returned (.int .i64 (grt css)) ∧ Below w.heap.size w w' := by
  have HR : Hid (Rds w s css) := hr
  obtain ⟨a, c, rfl, h1, h2, hAT⟩ := hr.form
  have HAT : Hid (∀ W k, Below w.heap.size w W → k < css.length → ∃ b off u, a = some ⟨b, off, none⟩ ∧ W.cell? ⟨b, off + k, none⟩ = some u ∧ Rd W u (css.getD k [])) := fun W k hW hk => by
    obtain ⟨b, off, u, e, hc, hrd⟩ := hAT k hk
    exact ⟨b, off, u, e, (hW.cell (p := ⟨b, off + k, none⟩) (World.block_lt_of_cell? w _ hc)).trans hc, hrd.below hW⟩
  have HLn : Hid (∀ c ∈ css, c.length ≤ 1073741824) := hL
  have HG : Hid (∀ k, 0 ≤ grt (css.take k) ∧ grt (css.take k) ≤ 1048576) := fun k => ⟨(grt_range _).1, (grt_range _).2.1⟩
  clear hr hAT hL
  go_enter Tryz.func124, Tryz.ntmps124
  go_wp2
  have HB : Hid (Below w.heap.size w (w.alloc (.cells #[.int .i64 v, .slice a css.length c] 24))) := below_box _ _
  go_loopg [3, 11] css.length (fun g m' j' wr => ∃ j : Nat, j + g = css.length ∧ m' = .int .i64 (grt (css.take j)) ∧ j' = .int .i64 j ∧ Below w.heap.size w wr)
  case atStart => exact ⟨0, by omega, by simp [grt], rfl, HB.out⟩
  case round =>
    obtain ⟨j, hj, rfl, rfl, hbel⟩ := hrel
    have HJ : Hid (j + gk = css.length) := hj
    have HBel : Hid (Below w.heap.size w wr) := hbel
    clear hj hbel
    by_cases hlt : j < css.length
    · obtain ⟨b, off, u, rfl, kc, hrd⟩ := HAT.out wr j HBel.out hlt
      have hcl := HLn.out _ (getD_in hlt)
      have hgt := grt_take css hlt
      have hg0 := HG.out j
      obtain ⟨ax, cx, rfl, x1, x2, hcx⟩ := hrd.form
      have HCX : Hid (∀ i, i < (css.getD j []).length → ∃ b off, ax = some ⟨b, off, none⟩ ∧ wr.cell? ⟨b, off + i, none⟩ = some (.int .i64 ((css.getD j []).getD i 0))) := hcx
      clear hrd hcx
      generalize css.getD j [] = cc at *
      have HGT : Hid (grt (css.take (j + 1)) = mx (grt (css.take j)) cc) := hgt
      clear hgt
      generalize grt (css.take j) = g0 at *
      go_wp2
      go_loopg [3, 17] cc.length (fun g m' i' wx => ∃ i : Nat, i + g = cc.length ∧ m' = .int .i64 (mx g0 (cc.take i)) ∧ i' = .int .i64 i ∧ wx = wr)
      case atStart => exact ⟨0, by omega, by simp [mx], rfl, rfl⟩
      case round =>
        obtain ⟨i, hi, rfl, rfl, hwx⟩ := hrel
        subst hwx
        have HI : Hid (i + gk = cc.length) := hi
        clear hi
        by_cases hlt2 : i < cc.length
        · obtain ⟨b2, off2, rfl, kc2⟩ := HCX.out i hlt2
          have hmt := mx_take g0 cc hlt2
          have hm0 := mx_range (cc.take i) g0 hg0.1 hg0.2
          have hv0 := varOf_range (cc.getD i 0)
          generalize cc.getD i 0 = l at *
          have HMT : Hid (mx g0 (cc.take (i + 1)) = max (mx g0 (cc.take i)) (varOf l)) := hmt
          clear hmt
          obtain ⟨m1, m2, -, -⟩ := hm0
          generalize mx g0 (cc.take i) = m0 at *
          go_wp2_with fail
          refine (var_any _ _).mono ?_
          rintro e w9 ⟨rfl, hw9⟩
          obtain rfl : w9 = _ := hw9
          generalize varOf l = vl at *
          go_wp2
          go_roundg (gk - 1)
          case measure => have := HI.out; omega
          case rel => exact ⟨i + 1, by have := HI.out; omega, by rw [HMT.out], by go_num, rfl⟩
        · have hie : i = cc.length := by have := HI.out; omega
          rw [hie, List.take_length]
          clear hie
          generalize mx g0 cc = m1 at *
          go_wp2
          go_roundg (css.length - (j + 1))
          case measure => have := HJ.out; omega
          case rel => exact ⟨j + 1, by have := HJ.out; omega, by rw [HGT.out], by go_num, HBel.out⟩
    · have hje : j = css.length := by have := HJ.out; omega
      rw [hje, List.take_length]
      go_wp2
      go_ret
      exact ⟨rfl, HBel.out⟩

theorem infoU : (Tryz.prog.info? 117).map (fun i => (i.zero, i.size, i.bytes)) = some (some (.int .u64 0), 1, 8) := by kernel_rfl
theorem infoUs : (Tryz.prog.info? 159).map (fun i => (i.zero, i.size, i.bytes)) = some (some (.slice none 0 0), 1, 24) := by kernel_rfl
theorem made_zero6 (z : Value) (m : Nat) : madeCells #[z] m = (List.replicate m z).toArray := by
  apply Array.ext'
  refine List.ext_getElem? fun i => ?_
  by_cases hi : i < m
  · simp [madeCells, hi, Nat.mod_one]
  · simp [madeCells, hi]
theorem heap_al6 (w : World) (o : Obj) (i : Nat) : (w.alloc o).heap[i]? = if i = w.heap.size then some o else w.heap[i]? := by
  show (w.heap.push o)[i]? = _
  rw [Array.getElem?_push]
/-- the levels' sizes -/
def lvn (N : Nat) : Nat → Nat
  | 0 => N
  | j + 1 => (lvn N j + 63) / 64
theorem lvn_room (N : Nat) : ∀ j k, k < N → k / 64 ^ j < lvn N j
  | 0, k, h => by simpa [lvn] using h
  | j + 1, k, h => by
    have := lvn_room N j k h
    rw [div64]
    show _ < (lvn N j + 63) / 64
    omega
theorem lvn_top (N : Nat) : ∀ j, N ≤ lvn N j * 64 ^ j
  | 0 => by simp [lvn]
  | j + 1 => by
    have h := lvn_top N j
    have h2 : lvn N j ≤ lvn N (j + 1) * 64 := by show _ ≤ (lvn N j + 63) / 64 * 64; omega
    calc N ≤ lvn N j * 64 ^ j := h
      _ ≤ lvn N (j + 1) * 64 * 64 ^ j := Nat.mul_le_mul_right _ h2
      _ = lvn N (j + 1) * 64 ^ (j + 1) := by rw [Nat.pow_succ, Nat.mul_assoc, Nat.mul_comm 64]
theorem lvn_small {N : Nat} (h : N ≤ 1073741824) : lvn N 1 ≤ 16777216 ∧ lvn N 2 ≤ 262144 ∧ lvn N 3 ≤ 4096 ∧ lvn N 4 ≤ 64 ∧ lvn N 5 ≤ 1 := by
  simp only [lvn]
  omega
theorem lw_zero {N j n : Nat} (hn : 0 < n) (hr : ∀ k, k < N → k / 64 ^ (j + 1) < n) : Lw N (fun _ => false) j (List.replicate n 0) := by
  refine ⟨by simpa using hn, fun k hk => by simpa using hr k hk, fun i x hx => ?_, fun i x hx b hb => ?_⟩
  · rw [List.getElem?_replicate] at hx
    split at hx
    · injection hx with hx; subst hx; decide
    · cases hx
  · rw [List.getElem?_replicate] at hx
    split at hx
    · injection hx with hx; subst hx; simp
    · cases hx
/-- the levels that have been made -/
structure Rm (w W : World) (v : Value) (Ls : List Lev) (N j : Nat) : Prop where
  wt : Wt w.heap.size W v Ls
  len : Ls.length = j
  lw : ∀ (i : Nat) (ws : List Nat), (Ls.map Prod.snd)[i]? = some ws → Lw N (fun _ => false) i ws
  bel : Below w.heap.size w W
theorem u64s_zero (n : Nat) : u64s (List.replicate n 0) = List.replicate n (.int .u64 0) := by simp [u64s]
theorem Rm.more {w W W' : World} {v v' : Value} {Ls : List Lev} {N j n g : Nat} (h : Rm w W v Ls N j) (hn : 0 < n) (hmx : n ≤ maxLen) (hr : ∀ k, k < N → k / 64 ^ (j + 1) < n) (hg : W.heap[g]? = some (.cells (List.replicate n (Value.int .u64 0)).toArray 117 (0, 0))) (hgB : w.heap.size ≤ g) (hnew : ∀ c ∈ Ls, c.1.ownBlock ≠ some g)
    (own' : W'.ownsRow w.heap.size 159 1 v' (Ls.length + 1) (Ls.map Prod.fst ++ [.slice (some ⟨g, 0, none⟩) n n])) (ap : Ap W v W' v') : Rm w W' v' (Ls ++ [(.slice (some ⟨g, 0, none⟩) n n, List.replicate n 0)]) N (j + 1) := by
  have hrow : W.ownsRow w.heap.size 117 1 (.slice (some ⟨g, 0, none⟩) n n) n (u64s (List.replicate n 0)) := by
    rw [u64s_zero]
    exact ⟨by simp, .inr ⟨g, n, _, rfl, hgB, hg, Nat.le_refl _, hmx, by simp, by simp⟩⟩
  have ht : ∀ x, v.ownBlock = some x → Ty W x 159 := fun x e => row_ty h.wt.row e.symm
  refine ⟨⟨by simpa using own', fun c hc => ?_, ?_⟩, by simp [h.len], fun i ws hi => ?_, ?_⟩
  · rcases List.mem_append.1 hc with a | a
    · exact row_other (h.wt.lv c a) ap.grown ht (by decide)
    · have : c = (.slice (some ⟨g, 0, none⟩) n n, List.replicate n 0) := by simpa using a
      subst this
      have := row_other hrow ap.grown ht (by decide)
      simpa using this
  · rw [List.pairwise_append]
    refine ⟨h.wt.ap, by simp, fun a ha b hb => ?_⟩
    have : b = (.slice (some ⟨g, 0, none⟩) n n, List.replicate n 0) := by simpa using hb
    subst this
    exact hnew a ha
  · rw [List.map_append] at hi
    by_cases hlt : i < Ls.length
    · rw [List.getElem?_append_left (by simpa using hlt)] at hi
      exact h.lw i ws hi
    · have hl := (List.getElem?_eq_some_iff.1 hi).1
      simp at hl
      have e : i = Ls.length := by omega
      subst e
      rw [List.getElem?_append_right (by simp)] at hi
      simp at hi
      subst hi
      rw [h.len]
      exact lw_zero hn hr
  · refine h.bel.trans ⟨ap.grown.os, ap.grown.tape, ap.grown.output, ap.grown.size, fun k hk => ap.grown.block k (Nat.lt_of_lt_of_le hk h.bel.size) fun e => ?_⟩
    have := (h.wt.row.lt k e.symm).1
    omega
theorem Rm.below {w W W' : World} {v : Value} {Ls : List Lev} {N j : Nat} (h : Rm w W v Ls N j) (hb : Below W.heap.size W W') : Rm w W' v Ls N j := ⟨h.wt.kept fun k hk => hb.block k (h.wt.lt k hk).2, h.len, h.lw, Below.step h.bel hb⟩
theorem Rm.fin {w W : World} {v : Value} {Ls : List Lev} {N j : Nat} (h : Rm w W v Ls N j) (h0 : 0 < j) (h6 : j ≤ 6) (h1 : lvn N j ≤ 1) : ∃ fs, Wq w.heap.size W v fs N (fun _ => false) :=
  ⟨_, Ls, rfl, h.wt, by simpa [h.len] using h0, by simpa [h.len] using h6, by
    have h2 := lvn_top N j
    have h3 : lvn N j * 64 ^ j ≤ 1 * 64 ^ j := Nat.mul_le_mul_right _ h1
    rw [List.length_map, h.len]
    omega, fun k hk => by simp at hk, h.lw⟩

theorem uRoom_any (N : Nat) (w : World) (hN : N ≤ 1073741824) :
    Calls Tryz.prog 126 #[.int .i64 (N : Int)] w fun e w' => ∃ v fs, e = .returned v ∧ Wq w.heap.size w' v fs N (fun _ => false) ∧ Below w.heap.size w w' := by
  obtain ⟨i0, hi0, hz0, hz1, hz2⟩ := info_parts infoUs
  have HI : Hid (Tryz.prog.info? 159 = some i0 ∧ i0.zero = some (.slice none 0 0) ∧ i0.size = 1 ∧ i0.bytes = 24) := ⟨hi0, hz0, hz1, hz2⟩
  have HS := lvn_small hN
  have HS : Hid (lvn N 1 ≤ 16777216 ∧ lvn N 2 ≤ 262144 ∧ lvn N 3 ≤ 4096 ∧ lvn N 4 ≤ 64 ∧ lvn N 5 ≤ 1) := HS
  clear hi0 hz0 hz1 hz2
  go_enter Tryz.func126, Tryz.ntmps126
  go_wp2
  go_loopg [0, 3] 5 (fun g n' v' wr => ∃ (j : Nat) (Ls : List Lev), j + g = 5 ∧ j < 5 ∧ n' = .int .i64 (lvn N j : Int) ∧ Rm w wr v' Ls N j)
  case atStart => exact ⟨0, [], by omega, by omega, rfl, ⟨World.ownsRow_nil _ _ _ _, by simp, by simp⟩, rfl, by simp, Below.refl _ _⟩
  case round =>
    obtain ⟨j, Ls, hj, hj5, rfl, hrm⟩ := hrel
    have HRm : Hid (Rm w wr u3 Ls N j) := hrm
    have hb : lvn N j ≤ 1073741824 := by
      have := HS.out
      rcases (show j = 0 ∨ j = 1 ∨ j = 2 ∨ j = 3 ∨ j = 4 by omega) with rfl | rfl | rfl | rfl | rfl
      · exact hN
      all_goals omega
    have HNx : Hid (lvn N (j + 1) = (lvn N j + 63) / 64) := rfl
    have hlen := hrm.len
    have HRoom : Hid (∀ k, k < N → k / 64 ^ (j + 1) < lvn N (j + 1)) := fun k hk => lvn_room N (j + 1) k hk
    obtain ⟨av, cv, ev⟩ := row_form' hrm.wt.row
    rw [hlen] at ev
    clear hrm
    subst ev
    generalize lvn N j = m at *
    have HS5 : Hid (j = 4 → lvn N (j + 1) ≤ 1) := fun e => by subst e; exact HS.out.2.2.2.2
    have hnx : ((m : Int) + 63).tdiv 64 = (lvn N (j + 1) : Int) := by rw [HNx.out, Int.tdiv_eq_ediv_of_nonneg (by omega)]; omega
    have hm1 : lvn N (j + 1) ≤ 1073741824 := by rw [HNx.out]; omega
    have HTop : Hid (∀ (W : World) (v : Value) (Ls : List Lev), Rm w W v Ls N (j + 1) → lvn N (j + 1) ≤ 1 → ∃ fs, Wq w.heap.size W v fs N (fun _ => false)) := fun W v Ls h h1 => h.fin (by omega) (by omega) h1
    have HN1 : Hid (lvn N (j + 1) = lvn N (j + 1)) := rfl
    generalize hm1e : lvn N (j + 1) = m1 at *
    have HM1 : Hid (lvn N (j + 1) = m1) := hm1e
    clear hm1e HN1 HNx
    obtain ⟨p, hp⟩ : ∃ p : Nat, max (m1 : Int) 1 = (p : Int) := ⟨max m1 1, by omega⟩
    have hp1 : 0 < p ∧ m1 ≤ p ∧ p ≤ 1073741824 := by omega
    have hmk := run_make_row' (P := Tryz.prog) 159 117 (.int .u64 0) 8 Tryz.underlying159 infoU rfl .i64 .i64 p (by omega) (by omega)
    have HRmB : Hid (Rm w ((wr.alloc (.cells (madeCells #[.int .u64 0] p) 117)).alloc (.cells #[.slice (some ⟨wr.heap.size, 0, none⟩) p p] 159)) (.slice av j cv) Ls N j) := (HRm.out.below (below_box _ _)).below (below_box _ _)
    have HHp : Hid (((wr.alloc (.cells (madeCells #[.int .u64 0] p) 117)).alloc (.cells #[.slice (some ⟨wr.heap.size, 0, none⟩) p p] 159)).heap[wr.heap.size]? = some (.cells (List.replicate p (Value.int .u64 0)).toArray 117 (0, 0))) := by
      show _ = _
      rw [heap_al6, if_neg (by rw [World.size_alloc]; omega), heap_al6, if_pos rfl, made_zero6]
    have HCl : Hid (∀ j x, [Value.slice (some ⟨wr.heap.size, 0, none⟩) p p][j]? = some x → ((wr.alloc (.cells (madeCells #[.int .u64 0] p) 117)).alloc (.cells #[.slice (some ⟨wr.heap.size, 0, none⟩) p p] 159)).cell? ((⟨wr.heap.size + 1, 0, none⟩ : Addr).add j) = some x) := fun j x hx => by
      rw [Addr.add_lit]
      have hh := heap_al6 (wr.alloc (.cells (madeCells #[.int .u64 0] p) 117)) (.cells #[.slice (some ⟨wr.heap.size, 0, none⟩) p p] 159) (wr.heap.size + 1)
      rw [if_pos (by rw [World.size_alloc])] at hh
      show (match ((wr.alloc (.cells (madeCells #[.int .u64 0] p) 117)).alloc (.cells #[.slice (some ⟨wr.heap.size, 0, none⟩) p p] 159)).heap[wr.heap.size + 1]? with | some (Obj.cells c elem frozen) => c[0 + j]? | x => none) = _
      rw [hh]
      simpa using hx
    have HNew : Hid (w.heap.size ≤ wr.heap.size ∧ ∀ c ∈ Ls, c.1.ownBlock ≠ some wr.heap.size) := ⟨HRm.out.bel.size, fun c hc e => by have := ((HRm.out.wt.lv c hc).lt _ e).2; omega⟩
    have HMore : Hid (∀ v8 w8, w8.ownsRow w.heap.size 159 1 v8 (j + 1) (Ls.map Prod.fst ++ [.slice (some ⟨wr.heap.size, 0, none⟩) p p]) → Ap ((wr.alloc (.cells (madeCells #[.int .u64 0] p) 117)).alloc (.cells #[.slice (some ⟨wr.heap.size, 0, none⟩) p p] 159)) (.slice av j cv) w8 v8 → ∃ L3, Rm w w8 v8 L3 N (j + 1)) := fun v8 w8 own8 ap8 => ⟨_, HRmB.out.more hp1.1 (by unfold maxLen; omega) (fun k hk => Nat.lt_of_lt_of_le (HRoom.out k hk) hp1.2.1) HHp.out HNew.out.1 HNew.out.2 (by rw [hlen]; exact own8) ap8⟩
    have HRow : Hid (((wr.alloc (.cells (madeCells #[.int .u64 0] p) 117)).alloc (.cells #[.slice (some ⟨wr.heap.size, 0, none⟩) p p] 159)).ownsRow w.heap.size 159 1 (.slice av j cv) j (Ls.map Prod.fst)) := by have := HRmB.out.wt.row; rw [hlen] at this; exact this
    have HBas : Hid (w.heap.size ≤ ((wr.alloc (.cells (madeCells #[.int .u64 0] p) 117)).alloc (.cells #[.slice (some ⟨wr.heap.size, 0, none⟩) p p] 159)).heap.size) := HRmB.out.bel.size
    have hl63 : j + 1 ≤ maxLen := by unfold maxLen; omega
    have hl48 : (j + 1) * 24 ≤ 140737488355328 := by omega
    generalize htw : Ls.map Prod.fst = tw at *
    clear htw
    by_cases hstop : m1 ≤ 1
    · go_wp2_with (at_builtin; refine wpList_append_apk rfl _ _ 139 rfl w.heap.size 159 i0 (.slice none 0 0) 1 24 Tryz.underlying139 HI.out.1 HI.out.2.1 HI.out.2.2.1 HI.out.2.2.2 rfl (by decide) (.slice av j cv) j tw rfl HRow.out ⟨wr.heap.size + 1, 0, none⟩ 1 1 [.slice (some ⟨wr.heap.size, 0, none⟩) p p] rfl rfl HCl.out (by simp [Value.oneCell']) hl63 hl48 HBas.out ?_; intro v8 w8 own8 ap8; have HF8 : Hid (∃ L3, Rm w w8 v8 L3 N (j + 1)) := HMore.out v8 w8 own8 ap8; obtain ⟨a8, c8, hv8⟩ := row_form' own8; subst hv8; clear own8 ap8)
      go_ret
      obtain ⟨L3, h3⟩ := HF8.out
      obtain ⟨fs, hf⟩ := HTop.out _ _ L3 h3 hstop
      exact ⟨_, fs, rfl, hf, h3.bel⟩
    · go_wp2_with (at_builtin; refine wpList_append_apk rfl _ _ 139 rfl w.heap.size 159 i0 (.slice none 0 0) 1 24 Tryz.underlying139 HI.out.1 HI.out.2.1 HI.out.2.2.1 HI.out.2.2.2 rfl (by decide) (.slice av j cv) j tw rfl HRow.out ⟨wr.heap.size + 1, 0, none⟩ 1 1 [.slice (some ⟨wr.heap.size, 0, none⟩) p p] rfl rfl HCl.out (by simp [Value.oneCell']) hl63 hl48 HBas.out ?_; intro v8 w8 own8 ap8; have HF8 : Hid (∃ L3, Rm w w8 v8 L3 N (j + 1)) := HMore.out v8 w8 own8 ap8; obtain ⟨a8, c8, hv8⟩ := row_form' own8; subst hv8; clear own8 ap8)
      go_roundg (gk - 1)
      case measure => omega
      case rel =>
        obtain ⟨L3, h3⟩ := HF8.out
        exact ⟨j + 1, L3, by omega, Classical.byContradiction fun h5 => hstop (HS5.out (by omega)), by rw [HM1.out], h3⟩
end Go.Proofs.YtjajafeaengnjaaGreatDoor

/-
  lits.Resolve and Resolvents.
-/
import Derived.Test.YtbphbnfnolgkfaaDoorIter
import Derived.RangeFuncBox
set_option linter.unusedSimpArgs false
set_option linter.unusedVariables false
namespace Go.Proofs.YtbphbnfnolgkfaaDoor
open Go Go.RowKit Go.Shelf

attribute [local go_sem] Oper.semAt_some

theorem on_any (va vb vs : Value) (w : World) (ha : ∃ a n c, va = .slice a n c) (hb : ∃ a n c, vb = .slice a n c) (hs : ∃ a n c, vs = .slice a n c) :
    Calls Tryd.prog 38 #[va, vb, vs] w fun e w' => e = .returned (.func (.func 47) #[] #[.pointer (some ⟨w.heap.size + 1 + 1, 0, none⟩), .pointer (some ⟨w.heap.size, 0, none⟩), .pointer (some ⟨w.heap.size + 1, 0, none⟩)]) ∧
      w' = ((w.alloc (.cells #[va] 31)).alloc (.cells #[vb] 31)).alloc (.cells #[vs] 31) := by
  obtain ⟨a1, n1, c1, rfl⟩ := ha
  obtain ⟨a2, n2, c2, rfl⟩ := hb
  obtain ⟨a3, n3, c3, rfl⟩ := hs
  have hmf : ∀ (fn : Fn) (first cap : Array Value) (w : World), (Instr.makeFunc fn first cap).run Tryd.prog w = .ok (.func fn first cap) w := fun _ _ _ _ => rfl
  go_enter Tryd.func38, Tryd.ntmps38
  go_wp2
  go_ret
  exact ⟨rfl, rfl⟩

theorem Own.mid {lo hi : Nat} {w W : World} {v : Value} {zs : List Int} (h : Own lo w v zs) (hm : Mid lo hi w W) (hh : w.heap.size ≤ hi) : Own lo W v zs := by
  refine ⟨h.1, ?_⟩
  rcases h.2 with hn | ⟨g, cap, cur, hv, hb, hh', r⟩
  · exact .inl hn
  · refine .inr ⟨g, cap, cur, hv, hb, ?_, r⟩
    rw [hm.block g hb (Nat.lt_of_lt_of_le (Array.getElem?_eq_some_iff.1 hh').1 hh)]
    exact hh'

theorem VV_mono (R : List (Int × List Int)) (s s' : Nat) (pre : List Itm) (x : Itm) (W : World) (h : s' ≤ s) (hv : VV s R pre x W) : VV s' R pre x W := ⟨hv.1, hv.2.1.mono h, hv.2.2⟩
theorem iter_seqW (n : Nat) (hn : 1 ≤ n) (lo Bs Ba Bb : Nat) (va vb vs : Value) (A B ls : List Int) (hA : Rises A) (hB : Rises B) (hls : ls.length * 8 ≤ 140737488351232) (w : World)
    (hBs : Bs < w.heap.size) (hBa : Ba < w.heap.size) (hBb : Bb < w.heap.size) (lBs : lo ≤ Bs) (lBa : lo ≤ Ba) (lBb : lo ≤ Bb)
    (cs : w.cell? ⟨Bs, 0, none⟩ = some vs) (ca : w.cell? ⟨Ba, 0, none⟩ = some va) (cb : w.cell? ⟨Bb, 0, none⟩ = some vb)
    (oa : Own lo w va A) (ob : Own lo w vb B) (os : Own lo w vs ls) :
    SeqW Fence.wide n Tryd.prog 47 #[.pointer (some ⟨Bs, 0, none⟩), .pointer (some ⟨Ba, 0, none⟩), .pointer (some ⟨Bb, 0, none⟩)] (fun x : Itm => #[.int .i64 x.1, x.2.1]) (fun m => VV m (resOn A B ls)) (Mid lo w.heap.size)
      (fun xs => xs.map Itm.proj = resOn A B ls) (fun pre => pre.map Itm.proj <+: resOn A B ls) w := fun l J Jx W hW hJ hJx hY h0 =>
  iter_in n hn l Bs Ba Bb lo w.heap.size va vb vs A B ls hA hB W J Jx hJ hY hW.size hBs hBa hBb lBs lBa lBb
    ((hW.cell (p := ⟨Bs, 0, none⟩) lBs hBs).trans cs) ((hW.cell (p := ⟨Ba, 0, none⟩) lBa hBa).trans ca) ((hW.cell (p := ⟨Bb, 0, none⟩) lBb hBb).trans cb)
    (fun W' h => (oa.mid (hW.trans h) (Nat.le_refl _)).mono (Nat.zero_le _)) (fun W' h => (ob.mid (hW.trans h) (Nat.le_refl _)).mono (Nat.zero_le _)) (fun W' h => (os.mid (hW.trans h) (Nat.le_refl _)).rd hls) h0
theorem iter_seq (n : Nat) (hn : 1 ≤ n) (lo Bs Ba Bb : Nat) (va vb vs : Value) (A B ls : List Int) (hA : Rises A) (hB : Rises B) (hls : ls.length * 8 ≤ 140737488351232) (w : World)
    (hBs : Bs < w.heap.size) (hBa : Ba < w.heap.size) (hBb : Bb < w.heap.size) (lBs : lo ≤ Bs) (lBa : lo ≤ Ba) (lBb : lo ≤ Bb)
    (cs : w.cell? ⟨Bs, 0, none⟩ = some vs) (ca : w.cell? ⟨Ba, 0, none⟩ = some va) (cb : w.cell? ⟨Bb, 0, none⟩ = some vb)
    (oa : Own lo w va A) (ob : Own lo w vb B) (os : Own lo w vs ls) :
    SeqV Fence.wide n Tryd.prog 47 #[.pointer (some ⟨Bs, 0, none⟩), .pointer (some ⟨Ba, 0, none⟩), .pointer (some ⟨Bb, 0, none⟩)] (fun x : Itm => #[.int .i64 x.1, x.2.1]) (fun m => VV m (resOn A B ls)) (Mid lo w.heap.size)
      (fun xs => xs.map Itm.proj = resOn A B ls) (fun pre => pre.map Itm.proj <+: resOn A B ls) w :=
  (iter_seqW n hn lo Bs Ba Bb va vb vs A B ls hA hB hls w hBs hBa hBb lBs lBa lBb cs ca cb oa ob os).toV (VV_mono _)

theorem own_from {base : Nat} {w w' : World} {v : Value} {zs : List Int} {row : Option Nat} (h : Own base w v zs) (hg : w.grownBy w' row) (hr : ∀ r, row = some r → ∃ o : Obj, w.heap[r]? = some o ∧ o.isCells = false) : Own base w' v zs := by
  refine ⟨h.1, ?_⟩
  rcases h.2 with hn | ⟨g, cap, cur, hv, hb, hh, r⟩
  · exact .inl hn
  · refine .inr ⟨g, cap, cur, hv, hb, ?_, r⟩
    rw [hg.block g (Array.getElem?_eq_some_iff.1 hh).1 (fun e => by
      obtain ⟨o, ho, hc⟩ := hr g e.symm
      rw [hh] at ho
      cases ho
      cases hc)]
    exact hh
theorem VV_from (n₀ B : Nat) (R : List (Int × List Int)) (pre : List Itm) : OwnFrom B (VV n₀ R pre) := fun x W W' row h hg hr =>
  ⟨h.1, own_from h.2.1 hg (fun r e => (hr r e).2), h.2.2⟩

/-- what Resolve says -/
def resolveOf (a b : List Int) (v : Int) : Int × List Int :=
  if a.all fmd && b.all fmd && decide (1 ≤ v ∧ v ≤ 1048576) then (if a.contains v && b.contains (-v) then (0, tid (wout (tid a) v ++ wout (tid b) (-v))) else (10, [])) else (1, [])
theorem resolveOf_shape {a b : List Int} {v : Int} (h : (a.all fmd && b.all fmd && decide (1 ≤ v ∧ v ≤ 1048576)) = false) : resolveOf a b v = (1, []) := by
  unfold resolveOf; rw [h]; rfl
theorem resolveOf_on {a b : List Int} {v : Int} (h : (a.all fmd && b.all fmd && decide (1 ≤ v ∧ v ≤ 1048576)) = true) :
    (resOn (tid a) (tid b) [v] = [] ∧ resolveOf a b v = (10, [])) ∨ ∃ L, resOn (tid a) (tid b) [v] = [(v, L)] ∧ resolveOf a b v = (0, L) := by
  have hv : 1 ≤ v ∧ v ≤ 1048576 := by simp only [Bool.and_eq_true, decide_eq_true_eq] at h; exact h.2
  have f1 : fmd v = true := fmd_true (by omega) (by omega) (by omega)
  have f2 : fmd (-v) = true := fmd_neg f1
  have e1 : (tid a).contains v = a.contains v := by rw [Bool.eq_iff_iff, List.contains_iff_mem, List.contains_iff_mem, mem_tid]; exact ⟨fun h => h.1, fun h => ⟨h, f1⟩⟩
  have e2 : (tid b).contains (-v) = b.contains (-v) := by rw [Bool.eq_iff_iff, List.contains_iff_mem, List.contains_iff_mem, mem_tid]; exact ⟨fun h => h.1, fun h => ⟨h, f2⟩⟩
  have e3 : varOf v = v := (there_pos f1 (by omega)).2
  have er : resOne (tid a) (tid b) v = if (a.contains v && b.contains (-v)) then some (v, tid (wout (tid a) v ++ wout (tid b) (-v))) else none := by
    unfold resOne; rw [f1, f2, e1, e2, e3]; simp only [Bool.true_and]
  cases hc : (a.contains v && b.contains (-v))
  · left
    rw [hc] at er
    refine ⟨?_, ?_⟩
    · unfold resOn; rw [List.filterMap_cons_none (by rw [er]; rfl)]; rfl
    · unfold resolveOf; rw [h, hc]; rfl
  · right
    rw [hc] at er
    refine ⟨tid (wout (tid a) v ++ wout (tid b) (-v)), ?_, ?_⟩
    · unfold resOn; rw [List.filterMap_cons_some (by rw [er]; rfl)]; rfl
    · unfold resolveOf; rw [h, hc]; rfl

set_option maxRecDepth 100000 in
set_option maxHeartbeats 2000000 in
theorem resolve_shape (va vb : Value) (a b : List Int) (v : Int) (w : World) (ha : Rd w va a) (hb : Rd w vb b) (h : (a.all fmd && b.all fmd && decide (1 ≤ v ∧ v ≤ 1048576)) = false) :
    CallsIn Fence.wide 10 Tryd.prog 19 #[va, vb, .int .i64 v] w fun e w' => e = .returned (.tuple #[.slice none 0 0, .int .i64 1]) ∧ Below w.heap.size w w' := by
  have B2 : ∀ o o' : Obj, Below w.heap.size w ((w.alloc o).alloc o') := fun o o' => ((Below.refl _ w).alloc (Nat.le_refl _) _).alloc (by simp) _
  have HB2 : Hid (∀ o o' : Obj, Below w.heap.size w ((w.alloc o).alloc o')) := B2
  clear B2
  cases hfa : a.all fmd
  · refine callsIn_of_wp_marks Tryd.func19 rfl trivial ?_ rfl
    simp only [Tryd.ntmps19, List.size_toArray, List.length_cons, List.length_nil, Nat.reduceAdd, Nat.reduceSub, Array.replicate_succ, Array.replicate_zero, List.push_toArray, List.append_toArray, List.nil_append, List.cons_append]
    gi_wp2_with fail
    refine ⟨trivial, ?_⟩
    refine (callsIn_wide.2 (sound_any va a _ (ha.below (HB2.out _ _)))).mono ?_
    rintro e wx ⟨rfl, hwx⟩
    rw [hwx, hfa]
    clear hwx wx
    gi_wp2
    refine ⟨trivial, ?_⟩
    gi_wp2
    refine ⟨.tuple #[.slice none 0 0, .int .i64 1], by simp [results, Tryd.results19, go_sem], rfl, HB2.out _ _⟩
  cases hfb : b.all fmd
  · refine callsIn_of_wp_marks Tryd.func19 rfl trivial ?_ rfl
    simp only [Tryd.ntmps19, List.size_toArray, List.length_cons, List.length_nil, Nat.reduceAdd, Nat.reduceSub, Array.replicate_succ, Array.replicate_zero, List.push_toArray, List.append_toArray, List.nil_append, List.cons_append]
    gi_wp2_with fail
    refine ⟨trivial, ?_⟩
    refine (callsIn_wide.2 (sound_any va a _ (ha.below (HB2.out _ _)))).mono ?_
    rintro e wx ⟨rfl, hwx⟩
    rw [hwx, hfa]
    clear hwx wx
    gi_wp2_with fail
    refine ⟨trivial, ?_⟩
    refine (callsIn_wide.2 (sound_any vb b _ (hb.below (HB2.out _ _)))).mono ?_
    rintro e wx ⟨rfl, hwx⟩
    rw [hwx, hfb]
    clear hwx wx
    gi_wp2
    refine ⟨.tuple #[.slice none 0 0, .int .i64 1], by simp [results, Tryd.results19, go_sem], rfl, HB2.out _ _⟩
  have hv : v < 1 ∨ 1048576 < v := by
    rw [hfa, hfb] at h
    simp only [Bool.true_and, decide_eq_false_iff_not] at h
    omega
  rcases hv with hv | hv
  · refine callsIn_of_wp_marks Tryd.func19 rfl trivial ?_ rfl
    simp only [Tryd.ntmps19, List.size_toArray, List.length_cons, List.length_nil, Nat.reduceAdd, Nat.reduceSub, Array.replicate_succ, Array.replicate_zero, List.push_toArray, List.append_toArray, List.nil_append, List.cons_append]
    gi_wp2_with fail
    refine ⟨trivial, ?_⟩
    refine (callsIn_wide.2 (sound_any va a _ (ha.below (HB2.out _ _)))).mono ?_
    rintro e wx ⟨rfl, hwx⟩
    rw [hwx, hfa]
    clear hwx wx
    gi_wp2_with fail
    refine ⟨trivial, ?_⟩
    refine (callsIn_wide.2 (sound_any vb b _ (hb.below (HB2.out _ _)))).mono ?_
    rintro e wx ⟨rfl, hwx⟩
    rw [hwx, hfb]
    clear hwx wx
    gi_wp2
    refine ⟨.tuple #[.slice none 0 0, .int .i64 1], by simp [results, Tryd.results19, go_sem], rfl, HB2.out _ _⟩
  · have hv1 : decide (v < 1) = false := decide_eq_false (by omega)
    refine callsIn_of_wp_marks Tryd.func19 rfl trivial ?_ rfl
    simp only [Tryd.ntmps19, List.size_toArray, List.length_cons, List.length_nil, Nat.reduceAdd, Nat.reduceSub, Array.replicate_succ, Array.replicate_zero, List.push_toArray, List.append_toArray, List.nil_append, List.cons_append]
    gi_wp2_with fail
    refine ⟨trivial, ?_⟩
    refine (callsIn_wide.2 (sound_any va a _ (ha.below (HB2.out _ _)))).mono ?_
    rintro e wx ⟨rfl, hwx⟩
    rw [hwx, hfa]
    clear hwx wx
    gi_wp2_with fail
    refine ⟨trivial, ?_⟩
    refine (callsIn_wide.2 (sound_any vb b _ (hb.below (HB2.out _ _)))).mono ?_
    rintro e wx ⟨rfl, hwx⟩
    rw [hwx, hfb]
    clear hwx wx
    gi_wp2
    refine ⟨.tuple #[.slice none 0 0, .int .i64 1], by simp [results, Tryd.results19, go_sem], rfl, HB2.out _ _⟩

theorem on_seqW (lo : Nat) (va vb vs : Value) (A B ls : List Int) (w : World) (hlo : lo ≤ w.heap.size) (hA : Rises A) (hB : Rises B) (hls : ls.length * 8 ≤ 140737488351232) (oa : Own lo w va A) (ob : Own lo w vb B) (os : Own lo w vs ls) :
    Calls Tryd.prog 38 #[va, vb, vs] w fun e w' => ∃ lb, e = .returned (.func (.func 47) #[] lb) ∧ Below w.heap.size w w' ∧
      ∀ n, 1 ≤ n → SeqW Fence.wide n Tryd.prog 47 lb (fun x : Itm => #[.int .i64 x.1, x.2.1]) (fun m => VV m (resOn A B ls)) (Mid lo w'.heap.size)
        (fun xs => xs.map Itm.proj = resOn A B ls) (fun pre => pre.map Itm.proj <+: resOn A B ls) w' := by
  have sa : ∃ a n c, va = .slice a n c := by obtain ⟨_, a, c, e, _⟩ := oa.rd (by have := hA.len; omega); exact ⟨a, _, c, e⟩
  have sb : ∃ a n c, vb = .slice a n c := by obtain ⟨_, a, c, e, _⟩ := ob.rd (by have := hB.len; omega); exact ⟨a, _, c, e⟩
  have ss : ∃ a n c, vs = .slice a n c := by obtain ⟨_, a, c, e, _⟩ := os.rd hls; exact ⟨a, _, c, e⟩
  refine (on_any va vb vs w sa sb ss).mono ?_
  rintro e w' ⟨rfl, rfl⟩
  have b3 : Below w.heap.size w (((w.alloc (.cells #[va] 31)).alloc (.cells #[vb] 31)).alloc (.cells #[vs] 31)) := (((Below.refl _ w).alloc (Nat.le_refl _) _).alloc (by simp) _).alloc (by simp; omega) _
  refine ⟨_, rfl, b3, fun n hn => ?_⟩
  refine iter_seqW n hn lo _ _ _ va vb vs A B ls hA hB hls _ (by simp) (by simp; omega) (by simp) (by omega) hlo (by omega) ?_ ?_ ?_ (oa.below b3) (ob.below b3) (os.below b3)
  · rw [World.cell?_alloc_at _ _ _ _ (by simp)]; rfl
  · rw [World.cell?_alloc_past _ _ _ (by simp; omega), World.cell?_alloc_past _ _ _ (by simp), World.cell?_alloc_at _ _ _ _ rfl]; rfl
  · rw [World.cell?_alloc_past _ _ _ (by simp), World.cell?_alloc_at _ _ _ _ (by simp)]; rfl
theorem on_seq (lo : Nat) (va vb vs : Value) (A B ls : List Int) (w : World) (hlo : lo ≤ w.heap.size) (hA : Rises A) (hB : Rises B) (hls : ls.length * 8 ≤ 140737488351232) (oa : Own lo w va A) (ob : Own lo w vb B) (os : Own lo w vs ls) :
    Calls Tryd.prog 38 #[va, vb, vs] w fun e w' => ∃ lb, e = .returned (.func (.func 47) #[] lb) ∧ Below w.heap.size w w' ∧
      ∀ n, 1 ≤ n → SeqV Fence.wide n Tryd.prog 47 lb (fun x : Itm => #[.int .i64 x.1, x.2.1]) (fun m => VV m (resOn A B ls)) (Mid lo w'.heap.size)
        (fun xs => xs.map Itm.proj = resOn A B ls) (fun pre => pre.map Itm.proj <+: resOn A B ls) w' :=
  (on_seqW lo va vb vs A B ls w hlo hA hB hls oa ob os).mono fun e w' ⟨lb, he, hb, hs⟩ => ⟨lb, he, hb, fun n hn => (hs n hn).toV (VV_mono _)⟩


theorem two_stores {W : World} {r : Nat} {x y x0 y0 : Value} (h0 : W.cell? ⟨r, 0, none⟩ = some x0) (h1 : W.cell? ⟨r + 1, 0, none⟩ = some y0) :
    ((W.setCell ⟨r, 0, none⟩ x).setCell ⟨r + 1, 0, none⟩ y).cell? ⟨r, 0, none⟩ = some x ∧ ((W.setCell ⟨r, 0, none⟩ x).setCell ⟨r + 1, 0, none⟩ y).cell? ⟨r + 1, 0, none⟩ = some y := by
  have k1 : (W.setCell ⟨r, 0, none⟩ x).cell? ⟨r + 1, 0, none⟩ = some y0 := (World.cell?_of_block (Below.heap_setCell W ⟨r, 0, none⟩ _ (r + 1) (by show r + 1 ≠ r; omega))).trans h1
  exact ⟨(World.cell?_of_block (Below.heap_setCell _ ⟨r + 1, 0, none⟩ _ r (by show r ≠ r + 1; omega))).trans (World.cell?_setCell_same' _ _ _ (by rw [h0]; rfl)), World.cell?_setCell_same' _ _ _ (by rw [k1]; rfl)⟩

set_option maxRecDepth 100000 in
set_option maxHeartbeats 4000000 in
theorem resolve_main (va vb : Value) (a b : List Int) (v : Int) (w : World) (ha : Rd w va a) (hb : Rd w vb b) (hfa : a.all fmd = true) (hfb : b.all fmd = true) (hv1 : 1 ≤ v) (hv2 : v ≤ 1048576) :
    CallsIn Fence.wide 10 Tryd.prog 19 #[va, vb, .int .i64 v] w fun e w' => ∃ v', e = .returned (.tuple #[v', .int .i64 (resolveOf a b v).1]) ∧ Own w.heap.size w' v' (resolveOf a b v).2 ∧ Below w.heap.size w w' := by
  have B2 : ∀ o o' : Obj, Below w.heap.size w ((w.alloc o).alloc o') := fun o o' => ((Below.refl _ w).alloc (Nat.le_refl _) _).alloc (by simp) _
  have HB2 : Hid (∀ o o' : Obj, Below w.heap.size w ((w.alloc o).alloc o')) := B2
  clear B2
  have hd1 : decide (v < 1) = false := decide_eq_false (by omega)
  have hd2 : decide (1048576 < v) = false := decide_eq_false (by omega)
  have hon := resolveOf_on (a := a) (b := b) (v := v) (by rw [hfa, hfb]; simp; omega)
  have HON : Hid ((resOn (tid a) (tid b) [v] = [] ∧ resolveOf a b v = (10, [])) ∨ ∃ L, resOn (tid a) (tid b) [v] = [(v, L)] ∧ resolveOf a b v = (0, L)) := hon
  clear hon
  generalize resolveOf a b v = RR at *
  refine callsIn_of_wp_marks Tryd.func19 rfl trivial ?_ rfl
  simp only [Tryd.ntmps19, List.size_toArray, List.length_cons, List.length_nil, Nat.reduceAdd, Nat.reduceSub, Array.replicate_succ, Array.replicate_zero, List.push_toArray, List.append_toArray, List.nil_append, List.cons_append]
  gi_wp2_with fail
  refine ⟨trivial, ?_⟩
  refine (callsIn_wide.2 (sound_any va a _ (ha.below (HB2.out _ _)))).mono ?_
  rintro e wx ⟨rfl, hwx⟩
  rw [hwx, hfa]
  clear hwx wx
  gi_wp2_with fail
  refine ⟨trivial, ?_⟩
  refine (callsIn_wide.2 (sound_any vb b _ (hb.below (HB2.out _ _)))).mono ?_
  rintro e wx ⟨rfl, hwx⟩
  rw [hwx, hfb]
  clear hwx wx
  have B0 := HB2.out (.cells #[.slice none 0 0] 31) (.cells #[.int .i64 0] 36)
  have c0 : ((w.alloc (.cells #[.slice none 0 0] 31)).alloc (.cells #[.int .i64 0] 36)).cell? ⟨w.heap.size, 0, none⟩ = some (.slice none 0 0) := by
    rw [World.cell?_alloc_past _ _ _ (by simp), World.cell?_alloc_at _ _ _ _ rfl]; rfl
  have c1 : ((w.alloc (.cells #[.slice none 0 0] 31)).alloc (.cells #[.int .i64 0] 36)).cell? ⟨w.heap.size + 1, 0, none⟩ = some (.int .i64 0) := by
    rw [World.cell?_alloc_at _ _ _ _ (by simp)]; rfl
  have f0 : ((w.alloc (.cells #[.slice none 0 0] 31)).alloc (.cells #[.int .i64 0] 36)).frozen? ⟨w.heap.size, 0, none⟩ = false := by
    rw [World.frozen?_alloc_past _ _ _ (by simp)]; exact World.frozen?_alloc_at _ _ _ _ rfl
  have f1 : ((w.alloc (.cells #[.slice none 0 0] 31)).alloc (.cells #[.int .i64 0] 36)).frozen? ⟨w.heap.size + 1, 0, none⟩ = false := World.frozen?_alloc_at _ _ _ _ (by simp)
  have s0 : w.heap.size + 1 < ((w.alloc (.cells #[.slice none 0 0] 31)).alloc (.cells #[.int .i64 0] 36)).heap.size := by simp
  generalize ((w.alloc (.cells #[.slice none 0 0] 31)).alloc (.cells #[.int .i64 0] 36)) = W0 at *
  have ha0 := ha.below B0
  have hb0 := hb.below B0
  gi_wp2_with fail
  refine ⟨trivial, ?_⟩
  refine (callsIn_wide.2 (tidy_any va a W0 ha0)).mono ?_
  rintro e w1 ⟨v1, rfl, own1, bel1⟩
  gi_wp2_with fail
  refine ⟨trivial, ?_⟩
  refine (callsIn_wide.2 (tidy_any vb b w1 (hb0.below bel1))).mono ?_
  rintro e w2 ⟨v2, rfl, own2, bel2⟩
  have bv : Below w2.heap.size w2 (w2.alloc (.cells #[.int .i64 v] 3)) := (Below.refl _ _).alloc (Nat.le_refl _) _
  have os := (World.ownsRow_lit (e := 3) (size := 1) (base := w2.heap.size) w2 #[.int .i64 v] 1 (Nat.le_refl _) (by unfold maxLen; omega) (by simp))
  have con := on_seq 0 v1 v2 (.slice (some ⟨w2.heap.size, 0, none⟩) 1 1) (tid a) (tid b) [v] (w2.alloc (.cells #[.int .i64 v] 3)) (Nat.zero_le _) (tid_rises a) (tid_rises b) (by simp) (((own1.mono (Nat.zero_le _)).below bel2).below bv) ((own2.mono (Nat.zero_le _)).below bv) (Own.mono (base := w2.heap.size) (zs := [v]) os (Nat.zero_le _))
  gi_wp2_with fail
  refine ⟨trivial, ?_⟩
  refine (callsIn_wide.2 con).mono ?_
  rintro e w3 ⟨lb, rfl, bel3, hseq⟩
  have b03 : Below W0.heap.size W0 w3 := Below.step (Below.step (Below.step bel1 bel2) bv) bel3
  have B3 : Below w.heap.size w w3 := B0.trans (b03.mono B0.size)
  have c03 : w3.cell? ⟨w.heap.size, 0, none⟩ = some (.slice none 0 0) := (b03.cell (p := ⟨w.heap.size, 0, none⟩) (by show w.heap.size < _; omega)).trans c0
  have c13 : w3.cell? ⟨w.heap.size + 1, 0, none⟩ = some (.int .i64 0) := (b03.cell (p := ⟨w.heap.size + 1, 0, none⟩) s0).trans c1
  have f03 : w3.frozen? ⟨w.heap.size, 0, none⟩ = false := (b03.frozen (p := ⟨w.heap.size, 0, none⟩) (by show w.heap.size < _; omega)).trans f0
  have f13 : w3.frozen? ⟨w.heap.size + 1, 0, none⟩ = false := (b03.frozen (p := ⟨w.heap.size + 1, 0, none⟩) s0).trans f1
  gi_wp2
  refine wpIn_rangeV rfl (by omega) (gf := 47) (lb := lb) rfl trivial (enters_of Tryd.func47 (by kernel_rfl) rfl) (hseq (10 - 1) (by omega)) Mid.trans (midK_b (Nat.le_refl _)) (fun W o h => h.alloc (Nat.le_refl _) o) (Mid.refl _ _ _) (fun _ => rfl)
    (fun pre W => (pre = [] ∧ W.cell? ⟨w.heap.size, 0, none⟩ = some (.slice none 0 0) ∧ W.frozen? ⟨w.heap.size, 0, none⟩ = false ∧ W.cell? ⟨w.heap.size + 1, 0, none⟩ = some (.int .i64 0) ∧ W.frozen? ⟨w.heap.size + 1, 0, none⟩ = false) ∧ Below w.heap.size w W)
    (fun c pre W => (c = .ret ∧ ∃ x : Itm, pre = [x] ∧ Own (w3.heap.size + 2) W x.2.1 x.2.2 ∧ x.2.2.length ≤ 2097152 ∧ W.cell? ⟨w.heap.size, 0, none⟩ = some x.2.1 ∧ W.cell? ⟨w.heap.size + 1, 0, none⟩ = some (.int .i64 0)) ∧ Below w.heap.size w W)
    (OwnFrom.and (Own.from (fun s A B row hs hg hr => ⟨hs.1, cell_kept hs.2.1 hg hr, (frozen_kept hs.2.1 hg hr).trans hs.2.2.1, cell_kept hs.2.2.2.1 hg hr, (frozen_kept hs.2.2.2.1 hg hr).trans hs.2.2.2.2⟩) _) (ownFrom_below (Nat.le_refl _) B3.size))
    (fun c => OwnFrom.and (Own.from (fun s A B row hs hg hr => by
      obtain ⟨hc, x, e, ho, hl, h1', h2'⟩ := hs
      exact ⟨hc, x, e, own_from ho hg hr, hl, cell_kept h1' hg hr, cell_kept h2' hg hr⟩) _) (ownFrom_below (Nat.le_refl _) B3.size))
    (fun m pre => VV_from _ _ _ pre)
    ⟨⟨rfl, c03, f03, c13, f13⟩, B3⟩
    (fun x => { tmps := #[va, vb, .int .i64 v, undef, undef, undef, .pointer (some ⟨w.heap.size, 0, none⟩), .pointer (some ⟨w.heap.size + 1, 0, none⟩), undef, x.2.1, va, .bool true, .bool false, .bool false, vb, .bool true, .bool false, .bool false, .bool false, .int .i64 v, .bool false, .bool false, .bool false, .int .i64 v, .bool false, .bool false, va, v1, vb, v2, .int .i64 v, .slice (some ⟨w2.heap.size, 0, none⟩) 1 1, .func (.func 47) #[] lb, .int .i64 x.1, x.2.1, undef], defers := [] }) ?assign ?body ?done ?stop
  case assign =>
    intro l x W K hK
    gi_wp2
    exact hK
  case body =>
    rintro l pre ⟨xv, xs, xl⟩ W ⟨⟨rfl, g0, g1, g2, g3⟩, hB⟩ ⟨hp, ho, hl⟩
    obtain ⟨_, ax, cx, ex, _⟩ := Own.rd ho (by show xl.length * 8 ≤ _; have : xl.length ≤ 2097152 := hl; omega)
    have ex' : xs = .slice ax xl.length cx := ex
    subst ex'
    have hsz3 : w.heap.size + 1 < w3.heap.size := Nat.lt_of_lt_of_le s0 b03.size
    gi_wp2
    have two := two_stores (x := .slice ax xl.length cx) (y := .int .i64 0) g0 g2
    have oo : Own (w3.heap.size + 2) ((W.setCell ⟨w.heap.size, 0, none⟩ (.slice ax xl.length cx)).setCell ⟨w.heap.size + 1, 0, none⟩ (.int .i64 0)) (.slice ax xl.length cx) xl :=
      ownsRow_setCell_below (ownsRow_setCell_below ho (a := ⟨w.heap.size, 0, none⟩) (by show w.heap.size < _; omega) _) (a := ⟨w.heap.size + 1, 0, none⟩) (by show w.heap.size + 1 < _; omega) _
    have bb : Below w.heap.size w ((W.setCell ⟨w.heap.size, 0, none⟩ (.slice ax xl.length cx)).setCell ⟨w.heap.size + 1, 0, none⟩ (.int .i64 0)) := (hB.setCell (p := ⟨w.heap.size, 0, none⟩) (Nat.le_refl _) _).setCell (p := ⟨w.heap.size + 1, 0, none⟩) (by show w.heap.size ≤ w.heap.size + 1; omega) _
    have kk := (KeepsOthers.setCell W ⟨w.heap.size, 0, none⟩ (.slice ax xl.length cx)).trans (KeepsOthers.setCell _ ⟨w.heap.size + 1, 0, none⟩ (.int .i64 0))
    exact ⟨kk, ⟨rfl, xv, _, xl, rfl, oo, hl, two.1, two.2⟩, bb⟩
  case done =>
    rintro D ys W hD hS ⟨⟨rfl, g0, g1, g2, g3⟩, hB⟩ hK
    have hRR : Hid (RR = (10, [])) := by
      rcases HON.out with ⟨_, h⟩ | ⟨L, h, _⟩
      · exact h
      · rw [h] at hS; cases hS
    have hDw : w.heap.size + 1 < D := Nat.lt_of_lt_of_le (Nat.lt_of_lt_of_le s0 b03.size) hD
    gi_wp2
    have two := two_stores (x := .slice none 0 0) (y := .int .i64 10) g0 g2
    have bb : Below w.heap.size w ((W.setCell ⟨w.heap.size, 0, none⟩ (.slice none 0 0)).setCell ⟨w.heap.size + 1, 0, none⟩ (.int .i64 10)) := (hB.setCell (p := ⟨w.heap.size, 0, none⟩) (Nat.le_refl _) _).setCell (p := ⟨w.heap.size + 1, 0, none⟩) (by show w.heap.size ≤ w.heap.size + 1; omega) _
    have hK' := ((KeepsOthers.setCell W ⟨w.heap.size, 0, none⟩ (.slice none 0 0)).trans (KeepsOthers.setCell _ ⟨w.heap.size + 1, 0, none⟩ (.int .i64 10))).same D _ hK rfl
    refine ⟨by simp, .inl ⟨_, _, rfl, run_takeDeferred hK', ?_⟩⟩
    have k5 := cell_kept two.1 (grownBy_putObj' _ D (.deferred none)) (fun r e => by cases e; exact ⟨_, hK', rfl⟩)
    have k6 := cell_kept two.2 (grownBy_putObj' _ D (.deferred none)) (fun r e => by cases e; exact ⟨_, hK', rfl⟩)
    refine ⟨.tuple #[.slice none 0 0, .int .i64 10], by simp [results, Tryd.f19, go_sem, k5, k6], .slice none 0 0, by rw [hRR.out], by rw [hRR.out]; exact World.ownsRow_nil _ _ _ _, bb.trans (belowK_b (w := w) (Nat.le_refl _) _ D _ _ (by omega) hK' rfl rfl)⟩
  case stop =>
    rintro D c pre W hD hSp ⟨⟨rfl, x, rfl, ho, hl, g0, g1⟩, hB⟩ hK
    have hRR : Hid (RR = (0, x.2.2)) := by
      rcases HON.out with ⟨h, _⟩ | ⟨L, h, e⟩
      · rw [h] at hSp
        have := hSp.length_le
        simp at this
      · rw [h] at hSp
        obtain ⟨r, hr⟩ := hSp
        simp only [List.map_cons, List.map_nil, List.cons_append, List.nil_append, List.cons.injEq] at hr
        have h2 : x.2.2 = L := congrArg Prod.snd hr.1
        show RR = (0, x.2.2)
        rw [h2]; exact e
    have hDw : w.heap.size + 1 < D := Nat.lt_of_lt_of_le (Nat.lt_of_lt_of_le s0 b03.size) hD
    gi_wp2
    refine ⟨by simp, .inl ⟨_, _, rfl, run_takeDeferred hK, ?_⟩⟩
    have k5 := cell_kept g0 (grownBy_putObj' _ D (.deferred none)) (fun r e => by cases e; exact ⟨_, hK, rfl⟩)
    have k6 := cell_kept g1 (grownBy_putObj' _ D (.deferred none)) (fun r e => by cases e; exact ⟨_, hK, rfl⟩)
    have o5 := own_from ho (grownBy_putObj' W D (.deferred none)) (fun r e => by cases e; exact ⟨_, hK, rfl⟩)
    refine ⟨.tuple #[x.2.1, .int .i64 0], by simp [results, Tryd.f19, go_sem, k5, k6], x.2.1, by rw [hRR.out], by rw [hRR.out]; exact o5.mono (Nat.le_trans B3.size (Nat.le_add_right _ 2)), hB.trans (belowK_b (w := w) (Nat.le_refl _) _ D _ _ (by omega) hK rfl rfl)⟩

/-- RESOLVE -/
theorem resolve_any (va vb : Value) (a b : List Int) (v : Int) (w : World) (ha : Rd w va a) (hb : Rd w vb b) :
    Calls Tryd.prog 19 #[va, vb, .int .i64 v] w fun e w' => ∃ v', e = .returned (.tuple #[v', .int .i64 (resolveOf a b v).1]) ∧ Own w.heap.size w' v' (resolveOf a b v).2 ∧ Below w.heap.size w w' := by
  refine (callsIn_wide (n := 10)).1 ?_
  cases h : (a.all fmd && b.all fmd && decide (1 ≤ v ∧ v ≤ 1048576))
  · rw [resolveOf_shape h]
    refine (resolve_shape va vb a b v w ha hb h).mono ?_
    rintro e w' ⟨rfl, hb'⟩
    exact ⟨_, rfl, World.ownsRow_nil _ _ _ _, hb'⟩
  · have h' := h
    simp only [Bool.and_eq_true, decide_eq_true_eq] at h'
    exact resolve_main va vb a b v w ha hb h'.1.1 h'.1.2 h'.2.1 h'.2.2

end Go.Proofs.YtbphbnfnolgkfaaDoor

/-
  gives of the laws of layer 9, walked.
  KEEP: next kpd drew cell frozen cg kp nb wb rb bel q pf same block size os tape output mono lt own new c f set of_grownBy setCell refl trans
-/
import Derived.Test.YtaipajalkendaaaDoorRangeD
import Derived.Test.YtaipajalkendaaaDoorSamesQ
import Derived.Sort.CutIn
import Derived.Test.YtaipajalkendaaaDoorQuietR
set_option linter.unusedSimpArgs false
set_option linter.unusedVariables false
namespace Go.Proofs.YtaipajalkendaaaDoor
open Go Go.RowKit Go.Shelf

attribute [local go_sem] Oper.semAt_some

def noPanic9 (Q : Exit → Act → World → Prop) : Exit → Act → World → Prop
  | .panic _, _, _ => False
  | e, a, w => Q e a w
theorem calls_marks9 {P : Program} {f : FuncId} {fn : Func} {c : Code} {args : Array Value} {w : World} {R : Ending → World → Prop} (n : Nat) (hf : P.funcs[f]? = some fn) (hb : fn.body = some c)
    (h : c.wp P (noPanic9 (bodyPostM Fence.wide n P fn R)) { tmps := args ++ Array.replicate (fn.ntmps - args.size) undef, defers := [] } w) : Calls P f args w R :=
  callsIn_wide.1 (callsIn_of_wp_marks hf hb trivial (wpIn_wide.2 (wp_mono h (by intro e a w h; cases e <;> first | exact h | exact h.elim))))
theorem keeps_below9 {w w' : World} (h : Below w.heap.size w w') : KeepsOthers w w' := KeepsOthers.of_grownBy (grown_below h) (fun _ _ e _ => by cases e)
/-- a row that may be written -/
def Cg (W : World) (g n : Nat) : Prop := ∃ cur, W.heap[g]? = some (.cells cur 3 (0, 0)) ∧ n ≤ cur.size
theorem Cg.c {W : World} {g n k : Nat} (h : Cg W g n) (hk : k < n) : ∃ v, W.cell? ⟨g, k, none⟩ = some v ∧ W.frozen? ⟨g, k, none⟩ = false := by
  obtain ⟨cur, h1, h2⟩ := h
  exact ⟨cur[k]'(by omega), by simp [World.cell?, h1, show k < cur.size by omega], by simp [World.frozen?, h1]⟩
theorem Cg.set {W : World} {g n : Nat} (h : Cg W g n) (k : Nat) (v : Value) : Cg (W.setCell ⟨g, k, none⟩ v) g n := by
  obtain ⟨cur, h1, h2⟩ := h
  exact ⟨_, Joins.block_setCell h1 v, by simpa using h2⟩
theorem Cg.of {B : Nat} {W : World} {g c : Nat} {Y : List Int} (h : Own B W (.slice (some ⟨g, 0, none⟩) Y.length c) Y) : Cg W g Y.length ∧ B ≤ g ∧ g < W.heap.size := by
  rcases h.2 with ⟨h0, _⟩ | ⟨g', cap, cur, hv, hg, hh, hn, hm, hs, ht⟩
  · simp at h0
  · injection hv with q1 q2 q3
    injection q1 with q1
    injection q1 with q1 _ _
    subst q1
    exact ⟨⟨cur, hh, by omega⟩, hg, (Array.getElem?_eq_some_iff.1 hh).1⟩

set_option maxRecDepth 20000 in
theorem func_nil9 (k : Nat) (lb : Array Value) (w : World) : (binOp BinOp.eql 37 (.func (.func k) #[] lb) .nilFunc).run Tryd.prog w = .ok (.bool false) w := by rfl
/-- what gives holds between two rounds -/
structure GvI (w : World) (u : Value) (FS : List Stp) (Qs : Nat → Prop) (pre : List SV) (W : World) : Prop where
  nb : W.heap[w.heap.size + 2]? = some (.cells #[.int .i64 (pre.length : Nat)] 3 (0, 0))
  wb : W.heap[w.heap.size]? = some (.cells #[u] 42 (0, 0))
  rb : W.heap[w.heap.size + 1]? = some (.cells #[.bool false] 4 (0, 0))
  bel : Below w.heap.size w W
  q : ∀ k, Qs k → w.heap.size + 3 ≤ k
theorem GvI.keep {w : World} {u : Value} {FS : List Stp} {Qs Q' : Nat → Prop} {pre : List SV} {A B : World} (h : GvI w u FS Qs pre A) (hk : ∀ k, k < w.heap.size + 3 → B.heap[k]? = A.heap[k]?) (hs : A.heap.size ≤ B.heap.size) (h1 : B.os = A.os) (h2 : B.tape = A.tape) (h3 : B.output = A.output) (hq : ∀ k, Q' k → w.heap.size + 3 ≤ k) : GvI w u FS Q' pre B :=
  ⟨(hk _ (by omega)).trans h.nb, (hk _ (by omega)).trans h.wb, (hk _ (by omega)).trans h.rb, ⟨h1.trans h.bel.os, h2.trans h.bel.tape, h3.trans h.bel.output, Nat.le_trans h.bel.size hs, fun k hk' => (hk k (by omega)).trans (h.bel.block k hk')⟩, hq⟩
theorem GvI.size {w : World} {u : Value} {FS : List Stp} {Qs : Nat → Prop} {pre : List SV} {A : World} (h : GvI w u FS Qs pre A) : w.heap.size + 3 ≤ A.heap.size := (Array.getElem?_eq_some_iff.1 h.nb).1
theorem pre_lt {pre : List SV} {x : SV} {FS : List Stp} (h : svS (pre ++ [x]) <+: FS) : pre.length < FS.length ∧ FS.getD pre.length (false, []) = (x.1, x.2.2) := by
  obtain ⟨r, hr⟩ := h
  rw [svS_snoc, List.append_assoc] at hr
  have hl : (svS pre).length = pre.length := svS_len pre
  constructor
  · rw [← hr]; simp [svS_len]
  · rw [← hr, List.getD_eq_getElem?_getD, List.getElem?_append_right (by omega), hl]; simp

/-- what the inner loop leaves -/
structure Gl (W : World) (gg N : Nat) (V : World) : Prop where
  block : ∀ k, (0 < N → k ≠ gg) → V.heap[k]? = W.heap[k]?
  size : V.heap.size = W.heap.size
  os : V.os = W.os
  tape : V.tape = W.tape
  output : V.output = W.output
  cg : 0 < N → Cg V gg N
  kp : KeepsOthers W V
theorem Gl.drew {W : World} {gg N : Nat} (h : 0 < N → Cg W gg N) (n : Nat) : Gl W gg N (W.drewN n) :=
  ⟨fun _ _ => rfl, rfl, rfl, rfl, rfl, fun q => h q, keeps_below9 (below_drewN _ _)⟩
theorem Gl.set {W V : World} {gg N : Nat} (h : Gl W gg N V) (hN : 0 < N) (k : Nat) (v : Value) : Gl W gg N (V.setCell ⟨gg, k, none⟩ v) :=
  ⟨fun b hb => (Below.heap_setCell _ _ _ _ (hb hN)).trans (h.block b hb), (World.size_setCell ..).trans h.size, h.os, h.tape, h.output, fun q => (h.cg q).set k v, h.kp.trans (KeepsOthers.setCell _ _ _)⟩
theorem Gl.cell {W V : World} {gg N : Nat} (h : Gl W gg N V) {p : Addr} (hp : 0 < N → p.block ≠ gg) : V.cell? p = W.cell? p := World.cell?_of_block (h.block _ hp)
theorem Gl.frozen {W V : World} {gg N : Nat} (h : Gl W gg N V) {p : Addr} (hp : 0 < N → p.block ≠ gg) : V.frozen? p = W.frozen? p := by simp [World.frozen?, h.block _ hp]
theorem GvI.next {w : World} {u : Value} {FS : List Stp} {Qs : Nat → Prop} {pre p2 : List SV} {W V : World} {gg N m : Nat} (h : GvI w u FS Qs pre W) (hG : Gl W gg N V) (hg : w.heap.size + 5 ≤ gg) (hn : p2.length = m + 1) : GvI w u FS Qs p2 (V.setCell ⟨w.heap.size + 1 + 1, 0, none⟩ (.int .i64 ((m : Int) + 1))) := by
  have hk : ∀ k, k < w.heap.size + 3 → V.heap[k]? = W.heap[k]? := fun k hk => hG.block k (fun _ => by omega)
  refine ⟨?_, ?_, ?_, ?_, h.q⟩
  · rw [hn]
    have := Joins.block_setCell (i := 0) ((hk (w.heap.size + 2) (by omega)).trans h.nb) (.int .i64 ((m : Int) + 1))
    simpa using this
  · exact (Below.heap_setCell _ _ _ _ (by show w.heap.size ≠ w.heap.size + 1 + 1; omega)).trans ((hk _ (by omega)).trans h.wb)
  · exact (Below.heap_setCell _ _ _ _ (by show w.heap.size + 1 ≠ w.heap.size + 1 + 1; omega)).trans ((hk _ (by omega)).trans h.rb)
  · have b1 : Below w.heap.size w V := ⟨hG.os.trans h.bel.os, hG.tape.trans h.bel.tape, hG.output.trans h.bel.output, by rw [hG.size]; exact h.bel.size, fun k hk' => (hk k (by omega)).trans (h.bel.block k hk')⟩
    exact b1.setCell (p := ⟨w.heap.size + 1 + 1, 0, none⟩) (by show w.heap.size ≤ w.heap.size + 1 + 1; omega) _
theorem GvI.kpd {w : World} {u : Value} {FS : List Stp} {Qs : Nat → Prop} {pre : List SV} {W V : World} {gg N : Nat} (h : GvI w u FS Qs pre W) (hG : Gl W gg N V) (hq : ¬ Qs gg) (v : Value) : KpD Qs W (V.setCell ⟨w.heap.size + 1 + 1, 0, none⟩ v) :=
  ⟨fun k hk => (Below.heap_setCell _ _ _ _ (by have := h.q k hk; show k ≠ w.heap.size + 1 + 1; omega)).trans (hG.block k (fun _ e => hq (e ▸ hk))), by rw [World.size_setCell, hG.size]; exact Nat.le_refl _⟩

set_option maxRecDepth 100000 in
set_option maxHeartbeats 6400000 in
theorem gives9_any (s : ByteArray) (Bs : Nat) (u : Value) (w : World) (hb : w.cell? ⟨Bs, 0, none⟩ = some (.string s)) (hs : s.size ≤ 1099511627776) (hu : RdZ w u (parD s.data.toList).1) (he : Env w) :
    Calls Tryd.prog 15 #[.func (.func 36) #[] #[.pointer (some ⟨Bs, 0, none⟩)], u] w fun e w' => e = .returned (.bool true) ∧ Below w.heap.size w w' := by
  obtain ⟨FS, hFS⟩ : ∃ FS, FS = (parD s.data.toList).1 := ⟨_, rfl⟩
  rw [← hFS] at hu
  have hl := hu.len
  obtain ⟨au, cu, rfl, hcu, hmu, _⟩ := hu.form
  have HU : Hid (RdZ w (.slice au FS.length cu) FS) := hu
  have HE : Hid (Env w) := he
  have HFS : Hid (FS = (parD s.data.toList).1) := hFS
  have hBs : Bs < w.heap.size := World.block_lt_of_cell? w _ hb
  clear hu he hFS
  have hnil := func_nil9 36 #[.pointer (some ⟨Bs, 0, none⟩)]
  refine calls_marks9 12 Tryd.func15 rfl ?_
  simp only [Tryd.ntmps15, List.size_toArray, List.length_cons, List.length_nil, Nat.reduceAdd, Nat.reduceSub, Array.replicate_succ, Array.replicate_zero, List.push_toArray, List.append_toArray, List.nil_append, List.cons_append]
  go_wp2
  have h0 : GvI w (.slice au FS.length cu) FS (fun _ => False) [] (((w.alloc (.cells #[.slice au FS.length cu] 42)).alloc (.cells #[.bool false] 4)).alloc (.cells #[.int .i64 0] 3)) := by
    refine ⟨?_, ?_, ?_, Below.step (Below.step (below_box _ _) (below_box _ _)) (below_box _ _), fun k hk => hk.elim⟩
    · have := World.alloc_heap_new ((w.alloc (.cells #[.slice au FS.length cu] 42)).alloc (.cells #[.bool false] 4)) (.cells #[.int .i64 0] 3)
      simp only [World.size_alloc] at this
      exact this
    · exact (Below.heap_alloc _ _ _ (by simp; omega)).trans ((Below.heap_alloc _ _ _ (by simp)).trans (World.alloc_heap_new w _))
    · have := World.alloc_heap_new (w.alloc (.cells #[.slice au FS.length cu] 42)) (.cells #[.bool false] 4)
      rw [World.size_alloc] at this
      exact (Below.heap_alloc _ _ _ (by simp)).trans this
  have sz0 : (((w.alloc (.cells #[.slice au FS.length cu] 42)).alloc (.cells #[.bool false] 4)).alloc (.cells #[.int .i64 0] 3)).heap.size = w.heap.size + 3 := by simp
  generalize (((w.alloc (.cells #[.slice au FS.length cu] 42)).alloc (.cells #[.bool false] 4)).alloc (.cells #[.int .i64 0] 3)) = W0 at *
  have hb0 : W0.cell? ⟨Bs, 0, none⟩ = some (.string s) := (h0.bel.cell (p := ⟨Bs, 0, none⟩) hBs).trans hb
  refine (wpIn_wide (n := 12)).1 ?_
  refine' wpIn_rangeD (by omega) (Bs := Bs) (s := s) (FS := FS) rfl hb0 hs HFS.out rfl
    (GvI w (.slice au FS.length cu) FS) (fun c pre W => False)
    (fun Q s A B row hs hg hr => hs.keep (fun k hk => hg.block k (by have := hs.size; omega) (fun e => by have := (hr k e.symm).1; omega)) hg.size hg.os hg.tape hg.output hs.q)
    (fun Q Q' s A B hs hm => hs.keep (fun k hk => hm.block k (by have := hs.size; omega) (fun hq => by have := hs.q k hq; omega)) hm.size hm.os hm.tape hm.output (fun k hk => by
      rcases hm.new k hk with h | h
      · exact hs.q k h
      · have := hs.size; omega))
    (fun c s A B row hs hg hr => hs)
    (fun Q s A hs => HE.out.below hs.bel)
    h0
    (fun x Bx => { tmps := #[.func (.func 36) #[] #[.pointer (some ⟨Bs, 0, none⟩)], .slice au FS.length cu, undef, .pointer (some ⟨w.heap.size, 0, none⟩), .pointer (some ⟨w.heap.size + 1, 0, none⟩), .pointer (some ⟨w.heap.size + 1 + 1, 0, none⟩), .pointer (some ⟨Bx, 0, none⟩), undef, .func (.func 36) #[] #[.pointer (some ⟨Bs, 0, none⟩)], .bool false, .func (.func 36) #[] #[.pointer (some ⟨Bs, 0, none⟩)], .agg #[.bool x.1, x.2.1], undef, undef, undef, undef, undef, undef, undef, undef, undef, undef, undef, undef, undef, undef, undef, undef, undef, undef, undef, undef, undef, undef, undef, undef, undef, undef, undef, undef, undef, undef, undef, undef, undef, undef, undef, undef, undef, undef, undef, undef, undef, undef, undef, undef], defers := [] }) ?assign ?body ?done ?stop
  case assign =>
    rintro l ⟨xd, xv, xl⟩ W K ⟨aa, cc, hx⟩ hK
    dsimp only at hx hK ⊢
    subst hx
    gi_wp2
    exact hK
  case body =>
    rintro l Qs pre ⟨xd, xv, xl⟩ S0 Bx W hI hq hpf hS0 hS0B hown hxq hxl hbx
    dsimp only at hown hxq hxl hbx ⊢
    obtain ⟨hlt, hat⟩ := pre_lt hpf
    dsimp only at hat
    have hsz := hI.size
    obtain ⟨a', c', e', _, _, hcell⟩ := (HU.out.below hI.bel).form
    have e3 : a' = au ∧ c' = cu := by injection e' with q1 q2 q3; exact ⟨q1.symm, q3.symm⟩
    obtain ⟨rfl, rfl⟩ := e3
    obtain ⟨bw, ow, uw, rfl, hbw, hd, hl2, hr2⟩ := hcell _ hlt
    rw [hat] at hd hr2
    dsimp only at hd hr2
    have hx8 : xl.length * 8 ≤ 140737488351232 := by omega
    obtain ⟨gg, hg1, hg2, hg3, hg4⟩ : ∃ gg, (0 < xl.length → (∃ cc, xv = .slice (some ⟨gg, 0, none⟩) xl.length cc) ∧ Cg W gg xl.length ∧ gg ≠ Bx) ∧ w.heap.size + 5 ≤ gg ∧ ¬ Qs gg ∧ gg < W.heap.size := by
      have hBl := hbx.lt
      rcases own_cut9 hown with ⟨rfl, rfl⟩ | ⟨g, cap, rfl, _, _, _⟩
      · exact ⟨Bx, fun h => (by simp at h), by rw [sz0] at hS0; omega, fun h => (by have := (hq _ h).2; omega), hBl⟩
      · obtain ⟨c1, c2, c3⟩ := Cg.of hown
        exact ⟨g, fun _ => ⟨⟨cap, rfl⟩, c1, fun e => by subst e; exact hbx.not_row (by decide) hown rfl⟩, by rw [sz0] at hS0; omega, hxq g rfl, c3⟩
    obtain ⟨aa, cc, rfl⟩ := own_form hown
    obtain ⟨ya, yc, hy, _⟩ := hr2.form
    have HQ : Hid (∀ k, Calls Tryd.prog 18 #[.slice aa xl.length cc, uw] (W.drewN k) fun e w'' => e = .returned (.bool true) ∧ ∃ m, w'' = W.drewN m) := fun k => by
      have h1 := sameIntsQ_any _ uw xl xl (W.drewN k) ((hown.rd hx8).below (below_drewN _ _)) (hr2.below (below_drewN _ _))
      rw [show (xl == xl) = true from beq_self_eq_true xl] at h1
      exact h1.mono fun e w' ⟨q1, m, q2⟩ => ⟨q1, k + m, by rw [q2, World.drewN_drewN]⟩
    have HQ1 : Hid (Calls Tryd.prog 18 #[.slice aa xl.length cc, uw] W.drew fun e w'' => e = .returned (.bool true) ∧ ∃ m, w'' = W.drewN m) := HQ.out 1
    subst hy
    have g0 : W.cell? ⟨w.heap.size + 1 + 1, 0, none⟩ = some (.int .i64 (pre.length : Nat)) := by simp [World.cell?, show W.heap[w.heap.size + 1 + 1]? = _ from hI.nb]
    have g2 : W.cell? ⟨w.heap.size, 0, none⟩ = some (.slice (some ⟨bw, ow, none⟩) FS.length c') := by simp [World.cell?, show W.heap[w.heap.size]? = _ from hI.wb]
    have x0 := hbx.c0
    have x1 := hbx.c1
    have HI : Hid (GvI w (.slice (some ⟨bw, ow, none⟩) FS.length c') FS Qs pre W) := hI
    have HBx : Hid (Bx2 W Bx 41 (.bool xd) (.slice aa xl.length cc)) := hbx
    have HG1 : Hid (0 < xl.length → (∃ cc', Value.slice aa xl.length cc = .slice (some ⟨gg, 0, none⟩) xl.length cc') ∧ Cg W gg xl.length ∧ gg ≠ Bx) := hg1
    have HLn : Hid ((pre ++ [((xd, Value.slice aa xl.length cc, xl) : SV)]).length = pre.length + 1) := by show _ = _; simp
    have hBl := hbx.lt
    have hpl : pre.length ≤ 4398046510976 := by omega
    clear hcell e' hr2 hown hxq hI hbx hg1 hat hpf
    generalize pre.length = m at *
    gi_wp2_with fail
    refine region_quietR (by kernel_rfl) (by kernel_rfl) (by kernel_rfl) ?_
    repeat (refine wpQuietIn_step (fun _ _ _ _ => trivial) (fun Kqz hKqz => ?_); go_simp; first | (refine hKqz _ ?_; clear hKqz Kqz) | (apply Exists.intro; refine ⟨fun _ => ?_, hKqz _ ?_⟩; (first | (gi_at_call 18; exact CallsIn.inRound l (callsIn_wide.2 (HQ.out _)))); clear hKqz Kqz))
    refine wpQuietIn_nil ?_
    intro _ hwq1
    obtain ⟨nq, hwq2⟩ := hwq1
    subst hwq2
    simp only [show decide (FS.length ≤ m) = false from decide_eq_false (by omega)]
    have HW9 : Hid (Gl W gg xl.length (W.drewN nq)) := Gl.drew (fun q => (HG1.out q).2.1) nq
    have y0 : (W.drewN nq).cell? ⟨Bx, 1, none⟩ = some (.slice aa xl.length cc) := x1
    have HX1 : Hid (W.cell? ⟨Bx, 1, none⟩ = some (.slice aa xl.length cc)) := x1
    have HGN : Hid (W.cell? ⟨w.heap.size + 1 + 1, 0, none⟩ = some (.int .i64 (m : Nat))) := g0
    clear HQ HQ1 hd hl2 g2 x0 x1 g0
    generalize W.drewN nq = W9 at *
    gi_wp2_with fail
    gi_loopg [7] xl.length (fun g i wq => ∃ (k : Nat), k + g = xl.length ∧ i = .int .i64 k ∧ Gl W gg xl.length wq)
    case atStart => exact ⟨0, by omega, rfl, HW9.out⟩
    case round =>
      obtain ⟨k, hk, rfl, hG⟩ := hrel
      have HK : Hid (k + gk = xl.length) := hk
      have c1 : wr.cell? ⟨Bx, 1, none⟩ = some (.slice aa xl.length cc) := (hG.cell (p := ⟨Bx, 1, none⟩) (fun q => Ne.symm (HG1.out q).2.2)).trans HX1.out
      have c2 : wr.cell? ⟨w.heap.size + 1 + 1, 0, none⟩ = some (.int .i64 (m : Nat)) := (hG.cell (p := ⟨w.heap.size + 1 + 1, 0, none⟩) (fun q => by show w.heap.size + 1 + 1 ≠ gg; omega)).trans HGN.out
      have HGl : Hid (Gl W gg xl.length wr) := hG
      by_cases hkl : k < xl.length
      · obtain ⟨⟨cc', e⟩, _, hne⟩ := HG1.out (by omega)
        injection e with q1 q2 q3
        subst q1
        subst q3
        obtain ⟨v, hcv, hfv⟩ := (hG.cg (by omega)).c hkl
        clear hk hG
        gi_wp2
        gi_roundg (gk - 1)
        case measure => have := HK.out; omega
        case rel => exact ⟨k + 1, by have := HK.out; omega, by go_num, HGl.out.set (by omega) _ _⟩
      · obtain rfl : k = xl.length := by omega
        have f2 : wr.frozen? ⟨w.heap.size + 1 + 1, 0, none⟩ = false := by
          rw [hG.frozen (p := ⟨w.heap.size + 1 + 1, 0, none⟩) (fun q => by show w.heap.size + 1 + 1 ≠ gg; omega)]
          simp [World.frozen?, show W.heap[w.heap.size + 1 + 1]? = _ from HI.out.nb]
        clear hk hkl hG
        gi_wp2
        exact ⟨HGl.out.kp.trans (KeepsOthers.setCell _ _ _), HI.out.kpd HGl.out hg3 _, HI.out.next HGl.out hg2 HLn.out⟩
  case done =>
    rintro D Qs ys W hD hS hI hK
    have hn : ys.length = FS.length := by rw [← hS, svS_len]
    have g0 : W.cell? ⟨w.heap.size + 1 + 1, 0, none⟩ = some (.int .i64 (FS.length : Nat)) := by rw [← hn]; simp [World.cell?, show W.heap[w.heap.size + 1 + 1]? = _ from hI.nb]
    have g2 : W.cell? ⟨w.heap.size, 0, none⟩ = some (.slice au FS.length cu) := by simp [World.cell?, show W.heap[w.heap.size]? = _ from hI.wb]
    have g3 : W.cell? ⟨w.heap.size + 1, 0, none⟩ = some (.bool false) := by simp [World.cell?, show W.heap[w.heap.size + 1]? = _ from hI.rb]
    have g4 : W.frozen? ⟨w.heap.size + 1, 0, none⟩ = false := by simp [World.frozen?, show W.heap[w.heap.size + 1]? = _ from hI.rb]
    have hB := hI.bel
    clear hI hS
    go_wp2
    have k4 := World.cell?_setCell_same' W ⟨w.heap.size + 1, 0, none⟩ (.bool true) (by rw [g3]; rfl)
    have hK' := (KeepsOthers.setCell W ⟨w.heap.size + 1, 0, none⟩ (.bool true)).same D _ hK rfl
    refine ⟨by simp, .inl ⟨_, _, rfl, run_takeDeferred hK', ?_⟩⟩
    have gp := grownBy_putObj' (W.setCell ⟨w.heap.size + 1, 0, none⟩ (.bool true)) D (.deferred none)
    have bb : Below w.heap.size w (W.setCell ⟨w.heap.size + 1, 0, none⟩ (.bool true)) := hB.setCell (p := ⟨w.heap.size + 1, 0, none⟩) (by show w.heap.size ≤ w.heap.size + 1; omega) _
    have hwl : w.heap.size + 1 < (W.setCell ⟨w.heap.size + 1, 0, none⟩ (.bool true)).heap.size := World.block_lt_of_cell? _ _ k4
    have k5 := (World.cell?_of_block (a := ⟨w.heap.size + 1, 0, none⟩) (gp.block (w.heap.size + 1) hwl (by simp; omega))).trans k4
    exact ⟨.bool true, by simp [results, Tryd.f15, go_sem, k5], rfl, ⟨gp.os.trans bb.os, gp.tape.trans bb.tape, gp.output.trans bb.output, Nat.le_trans bb.size gp.size, fun k hk => (gp.block k (by have := bb.size; omega) (by simp; omega)).trans (bb.block k hk)⟩⟩
  case stop =>
    rintro D c pre W hD hSp h hK
    exact h.elim

end Go.Proofs.YtaipajalkendaaaDoor

/-
  pack's reader.step, walked.
  KEEP: box own below mono lt set kept new trans refl app on grown cell out block size os tape output c f c0 c1 f0 len nil form rd low set0 set1 set2 not_row at cut drop
-/
import Derived.Test.YtidlljeiholboaaDoorPkD
import Derived.Laws.ResultCell
set_option linter.unusedSimpArgs false
set_option linter.unusedVariables false
namespace Go.Proofs.YtidlljeiholboaaDoor
open Go Go.RowKit

/-- what is so while the step's own box is written -/
structure SfP (w0 W : World) (D E : Nat) (bv cv v : Value) (l : List Int) (q : Nat) (W' : World) : Prop where
  rk : ∃ cv' cl', Rk w0.heap.size D bv W' q cv' cl' ∧ some E ≠ cv'.ownBlock ∧ (v.ownBlock = none ∨ v.ownBlock ≠ cv'.ownBlock) ∧ Mk W (rkQ D cv) W' (rkQ D cv')
  own : Own W.heap.size W' v l
  nv : some E ≠ v.ownBlock
  ne : E ≠ D
  ge : W.heap.size ≤ E
theorem SfP.set {w0 W : World} {D E : Nat} {bv cv v : Value} {l : List Int} {q : Nat} {W' : World} (h : SfP w0 W D E bv cv v l q W') (o : Nat) (x : Value) : SfP w0 W D E bv cv v l q (W'.setCell ⟨E, o, none⟩ x) := by
  obtain ⟨cv', cl', h1, h2, h2', h3⟩ := h.rk
  have hk : ∀ k, k ≠ E → (W'.setCell ⟨E, o, none⟩ x).heap[k]? = W'.heap[k]? := fun k hk => Below.heap_setCell _ ⟨E, o, none⟩ _ k hk
  refine ⟨⟨cv', cl', ⟨h1.box.kept (hk D h.ne.symm), own_keepB h1.own fun k hq => hk k (fun e => h2 (by rw [← e]; exact hq))⟩, h2, h2', ⟨h3.os, h3.tape, h3.output, by rw [World.size_setCell]; exact h3.size, fun k hlt hq => ?_, h3.new⟩⟩, own_keepB h.own fun k hq => hk k (fun e => h.nv (by rw [← e]; exact hq)), h.nv, h.ne, h.ge⟩
  rw [hk k (by have := h.ge; omega)]
  exact h3.block k hlt hq
theorem ret_st2 {fn : Func} {p u : Tmp} {tmps : Array Value} {W : World} {E : Nat} {x y : Value} (h : fn.results = #[.cell p 29, .tmp u]) (hp : tmps.getD p undef = .pointer (some ⟨E, 0, none⟩)) (hb : Bx2 W E 29 x y) : (results fn tmps).run Tryd.prog W = .ok (.tuple #[.agg #[x, y], tmps.getD u undef]) W := by
  rw [results_cell_tmp h, hp]
  have c0 := hb.c0
  have c1 := hb.c1
  simp only [asAddr]
  go_simp
/-- what a step's reading leaves -/
def StpP (w0 W : World) (D : Nat) (bv cv : Value) (r : Stp × Int × Nat) (e : Ending) (W' : World) : Prop :=
  ∃ v cv' cl', e = .returned (.tuple #[.agg #[.bool r.1.1, v], .int .i64 r.2.1]) ∧ Rk w0.heap.size D bv W' r.2.2 cv' cl' ∧ Own W.heap.size W' v r.1.2 ∧ (v.ownBlock = none ∨ v.ownBlock ≠ cv'.ownBlock) ∧ Mk W (rkQ D cv) W' (rkQ D cv')

set_option maxHeartbeats 3200000 in
set_option maxRecDepth 100000 in
theorem step_any (w0 W : World) (D p : Nat) (all : List UInt8) (bv cv : Value) (cl : List Int) (hr : RdY w0 bv all) (hb0 : Below w0.heap.size w0 W) (hD : w0.heap.size ≤ D) (h : Rk w0.heap.size D bv W p cv cl) (hp : p < all.length) (hbig : all.length ≤ 1099511627776) :
    Calls Tryd.prog 52 #[.pointer (some ⟨D, 0, none⟩)] W (StpP w0 W D bv cv (stB all p)) := by
  have HR : Hid (RdY w0 bv all) := hr
  obtain ⟨a, c, rfl, hc, hm, hcell⟩ := hr.form
  obtain ⟨b, off, rfl, hbl, hcp⟩ := hcell p hp
  have HB0 : Hid (Below w0.heap.size w0 W) := hb0
  have hDW : D < W.heap.size := h.box.lt
  have hs0 := hb0.size
  have hne : W.heap.size ≠ D := by omega
  have hcve : some W.heap.size ≠ cv.ownBlock := fun e => by have := (World.ownsRow.lt h.own _ e.symm).2; omega
  have HQ : Hid (∀ k, rkQ D cv k → w0.heap.size ≤ k) := fun k hk => by
    rcases hk with rfl | hk
    · exact hD
    · exact own_ge h.own k hk
  have RK1 : Hid (Rk w0.heap.size D (.slice (some ⟨b, off, none⟩) all.length c) (W.alloc (.cells #[.bool false, .slice none 0 0] 29)) p cv cl) := h.below (below_box _ _)
  have BX1 : Hid (Bx2 (W.alloc (.cells #[.bool false, .slice none 0 0] 29)) W.heap.size 29 (.bool false) (.slice none 0 0)) := Bx2.new _ _ _ _
  have M1 : Hid (Mk W (rkQ D cv) (W.alloc (.cells #[.bool false, .slice none 0 0] 29)) (rkQ D cv)) := Mk.below (below_box _ _) _
  have hcy : (W.alloc (.cells #[.bool false, .slice none 0 0] 29)).cell? ⟨b, off + p, none⟩ = some (.int .u8 (all.getD p 0).toNat) := ((hb0.alloc hs0 _).cell (p := ⟨b, off + p, none⟩) hbl).trans hcp
  obtain ⟨c0, c1, c2⟩ := RK1.out.box.c
  clear hr hcell h hb0 hcp
  obtain ⟨y, hy0⟩ : ∃ y, all.getD p 0 = y := ⟨_, rfl⟩
  rw [hy0] at hcy
  have hyl : y.toNat < 256 := y.toNat_lt
  go_enter Tryd.func52, Tryd.ntmps52
  go_wp2_with fail
  generalize W.alloc (.cells #[.bool false, .slice none 0 0] 29) = W1 at *
  by_cases h100 : y = 100
  · subst h100
    have HX : Hid (stB all p = ((true, (clB all (all.length + 1) (p + 1) []).1), (clB all (all.length + 1) (p + 1) []).2)) := st_of all p true (by rw [hy0]; rfl)
    go_quiet (fail)
    have RK2 := RK1.out.below (below_drewN W1 nq)
    have BX2 := BX1.out.below (below_drewN W1 nq)
    have M2 := M1.out.trans (Mk.below (below_drewN W1 nq) _)
    have hD2 : D < (W1.drewN nq).heap.size := RK2.box.lt
    generalize W1.drewN nq = W2 at *
    have RK3 : Rk w0.heap.size D (.slice (some ⟨b, off, none⟩) all.length c) (W2.setCell ⟨W.heap.size, 0, none⟩ (.bool true)) p cv cl := ⟨RK2.box.kept (Below.heap_setCell _ ⟨W.heap.size, 0, none⟩ _ D hne.symm), own_keepB RK2.own fun k hq => Below.heap_setCell _ ⟨W.heap.size, 0, none⟩ _ k (fun e => hcve (by have e' : k = W.heap.size := e; rw [← e']; exact hq))⟩
    have M3 : Mk W (rkQ D cv) (W2.setCell ⟨W.heap.size, 0, none⟩ (.bool true)) (rkQ D cv) := ⟨M2.os, M2.tape, M2.output, by rw [World.size_setCell]; exact M2.size, fun k hk hq => (Below.heap_setCell _ ⟨W.heap.size, 0, none⟩ _ k (fun e => by have e' : k = W.heap.size := e; omega)).trans (M2.block k hk hq), M2.new⟩
    have BX3 := BX2.set0 (.bool true)
    have RK3' := RK3.at (p + 1)
    rw [Int.natCast_add] at RK3'
    have M3' := M3.trans (mk_set (o := 1) (.int .i64 ((p : Int) + 1)))
    have BX3' : Bx2 ((W2.setCell ⟨W.heap.size, 0, none⟩ (.bool true)).setCell ⟨D, 1, none⟩ (.int .i64 ((p : Int) + 1))) W.heap.size 29 (.bool true) (.slice none 0 0) := (Below.heap_setCell _ ⟨D, 1, none⟩ _ W.heap.size hne).trans BX3
    have RK4 : Hid (Rk w0.heap.size D (.slice (some ⟨b, off, none⟩) all.length c) ((W2.setCell ⟨W.heap.size, 0, none⟩ (.bool true)).setCell ⟨D, 1, none⟩ (.int .i64 ((p : Int) + 1))) (p + 1) cv cl) := RK3'
    have M4 : Hid (Mk W (rkQ D cv) ((W2.setCell ⟨W.heap.size, 0, none⟩ (.bool true)).setCell ⟨D, 1, none⟩ (.int .i64 ((p : Int) + 1))) (rkQ D cv)) := M3'
    have BX4 : Hid (Bx2 ((W2.setCell ⟨W.heap.size, 0, none⟩ (.bool true)).setCell ⟨D, 1, none⟩ (.int .i64 ((p : Int) + 1))) W.heap.size 29 (.bool true) (.slice none 0 0)) := BX3'
    obtain ⟨d0, d1, d2⟩ := RK2.box.c
    obtain ⟨g1, g2⟩ := RK2.box.f
    have e0 := BX2.c0
    have e1 := BX2.c1
    have j0 := BX2.f0
    have j1 := BX2.f1
    have HC : Hid (Calls Tryd.prog 67 #[.pointer (some ⟨D, 0, none⟩)] ((W2.setCell ⟨W.heap.size, 0, none⟩ (.bool true)).setCell ⟨D, 1, none⟩ (.int .i64 ((p : Int) + 1))) (ClaP w0 ((W2.setCell ⟨W.heap.size, 0, none⟩ (.bool true)).setCell ⟨D, 1, none⟩ (.int .i64 ((p : Int) + 1))) D (.slice (some ⟨b, off, none⟩) all.length c) cv (clB all (all.length + 1) (p + 1) []))) := clause_any w0 _ D (p + 1) all _ cv cl HR.out (M4.out.low HB0.out hs0 HQ.out) hD RK4.out (by omega) (by omega) hbig
    clear RK3' M3' BX3' RK2 BX2 M2 RK3 M3 BX3
    go_wp2_with (go_at_call 67; refine HC.out.mono ?_; rintro e w4 ⟨v, cv', cl', rfl, rk4, own4, ap4, mk4⟩; refine Hid.out ?_)
    refine Lib.hid ?_
    clear d0 d1 d2 g1 g2 e0 e1 j0 j1 HC
    generalize (W2.setCell ⟨W.heap.size, 0, none⟩ (.bool true)).setCell ⟨D, 1, none⟩ (.int .i64 ((p : Int) + 1)) = W3 at *
    have hE3 := BX4.out.lt
    have hrw := RK4.out.box.lt
    have BX5 : Bx2 w4 W.heap.size 29 (.bool true) (.slice none 0 0) := (mk4.block _ hE3 (fun hq => by
      rcases hq with e | e
      · exact hne e
      · exact hcve e)).trans BX4.out
    have hE4 : some W.heap.size ≠ cv'.ownBlock := fun e => by
      rcases mk4.new W.heap.size (.inr e) with (e' | e') | e'
      · exact hne e'
      · exact hcve e'
      · omega
    have hEv : some W.heap.size ≠ v.ownBlock := fun e => by have := own_ge own4 _ e; omega
    have SF : Hid (SfP w0 W D W.heap.size (.slice (some ⟨b, off, none⟩) all.length c) cv v (clB all (all.length + 1) (p + 1) []).1 (clB all (all.length + 1) (p + 1) []).2.2 w4) := ⟨⟨cv', cl', rk4, hE4, ap4, M4.out.trans mk4⟩, own4.mono M4.out.size, hEv, hne, Nat.le_refl _⟩
    have BX6 : Hid (Bx2 w4 W.heap.size 29 (.bool true) (.slice none 0 0)) := BX5
    obtain ⟨va, vc, hv⟩ := own_form own4
    generalize (clB all (all.length + 1) (p + 1) []).1.length = vl at hv
    subst hv
    generalize clB all (all.length + 1) (p + 1) [] = X at *
    obtain ⟨x1, x2, x3⟩ := X
    dsimp only at *
    have e0 := BX5.c0
    have e1 := BX5.c1
    have j0 := BX5.f0
    have j1 := BX5.f1
    clear rk4 own4 mk4 hE4 hEv BX5 ap4
    go_wp2
    refine bodyPost_ret (ret_st2 rfl rfl (((BX6.out.set1 (.slice va vl vc)).set0 (.bool true)).set1 (.slice va vl vc))) rfl ?_
    rw [HX.out]
    have SF9 := ((SF.out.set 1 (.slice va vl vc)).set 0 (.bool true)).set 1 (.slice va vl vc)
    obtain ⟨cv9, cl9, r9, _, a9, m9⟩ := SF9.rk
    exact ⟨_, cv9, cl9, rfl, r9, SF9.own, a9, m9⟩
  by_cases h97 : y = 97
  · subst h97
    have HX : Hid (stB all p = ((false, (clB all (all.length + 1) (p + 1) []).1), (clB all (all.length + 1) (p + 1) []).2)) := st_of all p false (by rw [hy0]; rfl)
    go_quiet (fail)
    have RK2 := RK1.out.below (below_drewN W1 nq)
    have BX2 := BX1.out.below (below_drewN W1 nq)
    have M2 := M1.out.trans (Mk.below (below_drewN W1 nq) _)
    have hD2 : D < (W1.drewN nq).heap.size := RK2.box.lt
    generalize W1.drewN nq = W2 at *
    have RK3 := RK2
    have M3 := M2
    have BX3 := BX2
    have RK3' := RK3.at (p + 1)
    rw [Int.natCast_add] at RK3'
    have M3' := M3.trans (mk_set (o := 1) (.int .i64 ((p : Int) + 1)))
    have BX3' : Bx2 (W2.setCell ⟨D, 1, none⟩ (.int .i64 ((p : Int) + 1))) W.heap.size 29 (.bool false) (.slice none 0 0) := (Below.heap_setCell _ ⟨D, 1, none⟩ _ W.heap.size hne).trans BX3
    have RK4 : Hid (Rk w0.heap.size D (.slice (some ⟨b, off, none⟩) all.length c) (W2.setCell ⟨D, 1, none⟩ (.int .i64 ((p : Int) + 1))) (p + 1) cv cl) := RK3'
    have M4 : Hid (Mk W (rkQ D cv) (W2.setCell ⟨D, 1, none⟩ (.int .i64 ((p : Int) + 1))) (rkQ D cv)) := M3'
    have BX4 : Hid (Bx2 (W2.setCell ⟨D, 1, none⟩ (.int .i64 ((p : Int) + 1))) W.heap.size 29 (.bool false) (.slice none 0 0)) := BX3'
    obtain ⟨d0, d1, d2⟩ := RK2.box.c
    obtain ⟨g1, g2⟩ := RK2.box.f
    have e0 := BX2.c0
    have e1 := BX2.c1
    have j0 := BX2.f0
    have j1 := BX2.f1
    have HC : Hid (Calls Tryd.prog 67 #[.pointer (some ⟨D, 0, none⟩)] (W2.setCell ⟨D, 1, none⟩ (.int .i64 ((p : Int) + 1))) (ClaP w0 (W2.setCell ⟨D, 1, none⟩ (.int .i64 ((p : Int) + 1))) D (.slice (some ⟨b, off, none⟩) all.length c) cv (clB all (all.length + 1) (p + 1) []))) := clause_any w0 _ D (p + 1) all _ cv cl HR.out (M4.out.low HB0.out hs0 HQ.out) hD RK4.out (by omega) (by omega) hbig
    clear RK3' M3' BX3' RK2 BX2 M2 RK3 M3 BX3
    go_wp2_with (go_at_call 67; refine HC.out.mono ?_; rintro e w4 ⟨v, cv', cl', rfl, rk4, own4, ap4, mk4⟩; refine Hid.out ?_)
    refine Lib.hid ?_
    clear d0 d1 d2 g1 g2 e0 e1 j0 j1 HC
    generalize W2.setCell ⟨D, 1, none⟩ (.int .i64 ((p : Int) + 1)) = W3 at *
    have hE3 := BX4.out.lt
    have hrw := RK4.out.box.lt
    have BX5 : Bx2 w4 W.heap.size 29 (.bool false) (.slice none 0 0) := (mk4.block _ hE3 (fun hq => by
      rcases hq with e | e
      · exact hne e
      · exact hcve e)).trans BX4.out
    have hE4 : some W.heap.size ≠ cv'.ownBlock := fun e => by
      rcases mk4.new W.heap.size (.inr e) with (e' | e') | e'
      · exact hne e'
      · exact hcve e'
      · omega
    have hEv : some W.heap.size ≠ v.ownBlock := fun e => by have := own_ge own4 _ e; omega
    have SF : Hid (SfP w0 W D W.heap.size (.slice (some ⟨b, off, none⟩) all.length c) cv v (clB all (all.length + 1) (p + 1) []).1 (clB all (all.length + 1) (p + 1) []).2.2 w4) := ⟨⟨cv', cl', rk4, hE4, ap4, M4.out.trans mk4⟩, own4.mono M4.out.size, hEv, hne, Nat.le_refl _⟩
    have BX6 : Hid (Bx2 w4 W.heap.size 29 (.bool false) (.slice none 0 0)) := BX5
    obtain ⟨va, vc, hv⟩ := own_form own4
    generalize (clB all (all.length + 1) (p + 1) []).1.length = vl at hv
    subst hv
    generalize clB all (all.length + 1) (p + 1) [] = X at *
    obtain ⟨x1, x2, x3⟩ := X
    dsimp only at *
    have e0 := BX5.c0
    have e1 := BX5.c1
    have j0 := BX5.f0
    have j1 := BX5.f1
    clear rk4 own4 mk4 hE4 hEv BX5 ap4
    go_wp2
    refine bodyPost_ret (ret_st2 rfl rfl (((BX6.out.set1 (.slice va vl vc)).set0 (.bool false)).set1 (.slice va vl vc))) rfl ?_
    rw [HX.out]
    have SF9 := ((SF.out.set 1 (.slice va vl vc)).set 0 (.bool false)).set 1 (.slice va vl vc)
    obtain ⟨cv9, cl9, r9, _, a9, m9⟩ := SF9.rk
    exact ⟨_, cv9, cl9, rfl, r9, SF9.own, a9, m9⟩
  · have HX : Hid (stB all p = ((false, []), 100, p)) := by show _ = _; unfold stB; rw [hy0, if_neg h100, if_neg h97]
    have hb100 : ((y.toNat : Int) == 100) = false := beq_eq_false_iff_ne.2 (fun e => h100 (UInt8.toNat_inj.1 ((by omega : y.toNat = 100).trans rfl)))
    have hb97 : ((y.toNat : Int) == 97) = false := beq_eq_false_iff_ne.2 (fun e => h97 (UInt8.toNat_inj.1 ((by omega : y.toNat = 97).trans rfl)))
    go_quiet (fail)
    have RK2 := RK1.out.below (below_drewN W1 nq)
    have BX2 := BX1.out.below (below_drewN W1 nq)
    have M2 := M1.out.trans (Mk.below (below_drewN W1 nq) _)
    generalize W1.drewN nq = W2 at *
    have SF : Hid (SfP w0 W D W.heap.size (.slice (some ⟨b, off, none⟩) all.length c) cv (.slice none 0 0) [] p W2) := ⟨⟨cv, cl, RK2, hcve, .inl rfl, M2⟩, World.ownsRow_nil _ _ _ _, by simp [Value.ownBlock], hne, Nat.le_refl _⟩
    have BX6 : Hid (Bx2 W2 W.heap.size 29 (.bool false) (.slice none 0 0)) := BX2
    have e0 := BX2.c0
    have e1 := BX2.c1
    have j0 := BX2.f0
    have j1 := BX2.f1
    clear RK2 BX2 M2
    go_wp2
    refine bodyPost_ret (ret_st2 rfl rfl ((BX6.out.set0 (.bool false)).set1 (.slice none 0 0))) rfl ?_
    rw [HX.out]
    have SF9 := (SF.out.set 0 (.bool false)).set 1 (.slice none 0 0)
    obtain ⟨cv9, cl9, r9, _, a9, m9⟩ := SF9.rk
    exact ⟨_, cv9, cl9, rfl, r9, SF9.own, a9, m9⟩

end Go.Proofs.YtidlljeiholboaaDoor

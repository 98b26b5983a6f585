/-
  LitsFollows, walked.
-/
import Derived.Test.YthplkllphpnaoabFolF
import Derived.Test.YthplkllphpnaoabOpenB
import Derived.BigQuiet
import Derived.Deep.CutBlock
import Derived.Sort.CutIn
import Derived.Deep.Cut
import Derived.Deep.RegionHeld
set_option linter.unusedSimpArgs false
set_option linter.unusedVariables false
namespace Go.Proofs.Ythplkllphpnaoab
open Go Go.RowKit Go.Shelf

attribute [local go_sem] Oper.semAt_some

theorem box_new (w : World) (x : Value) (t : TypeId) : (w.alloc (.cells #[x] t)).cell? ⟨w.heap.size, 0, none⟩ = some x := by rw [World.cell?_alloc_at _ _ _ _ rfl]; rfl
theorem szA (w : World) (o : Obj) : w.heap.size < (w.alloc o).heap.size := by simp
theorem box_old {w : World} {a : Addr} {x : Value} (h : w.cell? a = some x) (o : Obj) : (w.alloc o).cell? a = some x := (World.grownBy_alloc w o none).cell h (by simp)
/-- what the five boxes hold, in a world that has grown -/
structure Boxes (N : Nat) (u0 u1 u3 : Value) (v : Int) (W : World) : Prop where
  a : W.cell? ⟨N, 0, none⟩ = some u0
  b : W.cell? ⟨N + 1, 0, none⟩ = some u1
  v : W.cell? ⟨N + 1 + 1, 0, none⟩ = some (.int .i64 v)
  m : W.cell? ⟨N + 1 + 1 + 1, 0, none⟩ = some u3
  r : W.cell? ⟨N + 1 + 1 + 1 + 1, 0, none⟩ = some (.bool false)
  f : W.frozen? ⟨N + 1 + 1 + 1 + 1, 0, none⟩ = false
theorem Boxes.start (w : World) (u0 u1 u3 : Value) (v : Int) (t0 t1 t2 t3 t4 : TypeId) :
    Boxes w.heap.size u0 u1 u3 v (((((w.alloc (.cells #[u0] t0)).alloc (.cells #[u1] t1)).alloc (.cells #[.int .i64 v] t2)).alloc (.cells #[u3] t3)).alloc (.cells #[.bool false] t4)) := by
  have e1 := box_new (w.alloc (.cells #[u0] t0)) u1 t1
  have e2 := box_new ((w.alloc (.cells #[u0] t0)).alloc (.cells #[u1] t1)) (.int .i64 v) t2
  have e3 := box_new (((w.alloc (.cells #[u0] t0)).alloc (.cells #[u1] t1)).alloc (.cells #[.int .i64 v] t2)) u3 t3
  have e4 := box_new ((((w.alloc (.cells #[u0] t0)).alloc (.cells #[u1] t1)).alloc (.cells #[.int .i64 v] t2)).alloc (.cells #[u3] t3)) (.bool false) t4
  simp only [World.size_alloc] at e1 e2 e3 e4
  exact ⟨box_old (box_old (box_old (box_old (box_new w u0 t0) _) _) _) _, box_old (box_old (box_old e1 _) _) _, box_old (box_old e2 _) _, box_old e3 _, e4, World.frozen?_alloc_at _ _ _ _ (by simp)⟩
theorem Boxes.below {N B : Nat} {u0 u1 u3 : Value} {v : Int} {W W' : World} (h : Boxes N u0 u1 u3 v W) (hB : N + 1 + 1 + 1 + 1 < B) (hb : Below B W W') : Boxes N u0 u1 u3 v W' :=
  ⟨(hb.cell (p := ⟨N, 0, none⟩) (by show N < B; omega)).trans h.a, (hb.cell (p := ⟨N + 1, 0, none⟩) (by show N + 1 < B; omega)).trans h.b, (hb.cell (p := ⟨N + 1 + 1, 0, none⟩) (by show N + 1 + 1 < B; omega)).trans h.v, (hb.cell (p := ⟨N + 1 + 1 + 1, 0, none⟩) (by show N + 1 + 1 + 1 < B; omega)).trans h.m, (hb.cell (p := ⟨N + 1 + 1 + 1 + 1, 0, none⟩) hB).trans h.r, (hb.frozen (p := ⟨N + 1 + 1 + 1 + 1, 0, none⟩) hB).trans h.f⟩
/-- a post-condition under which nothing panics -/
def noPanic (Q : Exit → Act → World → Prop) : Exit → Act → World → Prop
  | .panic _, _, _ => False
  | e, a, w => Q e a w
theorem calls_marks {P : Program} {f : FuncId} {fn : Func} {c : Code} {args : Array Value} {w : World} {R : Ending → World → Prop} (n : Nat) (hf : P.funcs[f]? = some fn) (hb : fn.body = some c)
    (h : c.wp P (noPanic (bodyPostM Fence.wide n P fn R)) { tmps := args ++ Array.replicate (fn.ntmps - args.size) undef, defers := [] } w) : Calls P f args w R :=
  callsIn_wide.1 (callsIn_of_wp_marks hf hb trivial (wpIn_wide.2 (wp_mono h (by intro e a w h; cases e <;> first | exact h | exact h.elim))))
theorem rd_far {N g : Nat} {W : World} {v : Value} {zs : List Int} (h : Own N W v zs) (hl : zs.length * 8 ≤ 140737488351232) (hg : g < N) (x : Value) : Rd (W.setCell ⟨g, 0, none⟩ x) v zs := Own.rd (base := N) (ownsRow_setCell_below h (a := ⟨g, 0, none⟩) hg x) hl
theorem func_not_nil (gf : Nat) (lb : Array Value) (w : World) : (binOp BinOp.eql 39 (Value.func (Fn.func gf) #[] lb) Value.nilFunc).run Try.prog w = .ok (.bool false) w := by rfl
theorem below5 (w : World) (o0 o1 o2 o3 o4 : Obj) : Below w.heap.size w (((((w.alloc o0).alloc o1).alloc o2).alloc o3).alloc o4) :=
  (((((Below.refl _ w).alloc (Nat.le_refl _) _).alloc (by simp) _).alloc (by simp; omega) _).alloc (by simp; omega) _).alloc (by simp; omega) _

set_option maxRecDepth 100000 in
set_option maxHeartbeats 4000000 in
theorem follows_in (u0 u1 u3 : Value) (v : Int) (z0 z1 : List Int) (ms : List Bool) (w : World) (r0 : Rd w u0 z0) (r1 : Rd w u1 z1) (r3 : RdB w u3 ms) :
    Calls Try.prog 5 #[u0, u1, .int .i64 v, u3] w fun e w' => e = .returned (.bool true) ∧ Below w.heap.size w w' := by
  obtain ⟨hl0, aa, ca, rfl, -⟩ := id r0
  obtain ⟨hl1, ab, cb, rfl, -⟩ := id r1
  obtain ⟨hl3, am, cm, rfl, -⟩ := id r3
  have h8 : (resolveOf z0 z1 v).2.length * 8 ≤ 140737488351232 := by
    unfold resolveOf
    split
    · split
      · exact tid8 _
      · simp
    · simp
  have H8 : Hid ((resolveOf z0 z1 v).2.length * 8 ≤ 140737488351232) := h8
  clear h8
  refine calls_marks 12 Try.func5 rfl ?_
  simp only [Try.ntmps5, List.size_toArray, List.length_cons, List.length_nil, Nat.reduceAdd, Nat.reduceSub, Array.replicate_succ, Array.replicate_zero, List.push_toArray, List.append_toArray, List.nil_append, List.cons_append]
  go_upto_region 1 with fail
  have bx := Boxes.start w (.slice aa z0.length ca) (.slice ab z1.length cb) (.slice am ms.length cm) v 25 25 3 32 4
  have B0 := below5 w (.cells #[.slice aa z0.length ca] 25) (.cells #[.slice ab z1.length cb] 25) (.cells #[.int .i64 v] 3) (.cells #[.slice am ms.length cm] 32) (.cells #[.bool false] 4)
  have s0 : w.heap.size + 1 + 1 + 1 + 1 < (((((w.alloc (.cells #[.slice aa z0.length ca] 25)).alloc (.cells #[.slice ab z1.length cb] 25)).alloc (.cells #[.int .i64 v] 3)).alloc (.cells #[.slice am ms.length cm] 32)).alloc (.cells #[.bool false] 4)).heap.size := by simp
  generalize (((((w.alloc (.cells #[.slice aa z0.length ca] 25)).alloc (.cells #[.slice ab z1.length cb] 25)).alloc (.cells #[.int .i64 v] 3)).alloc (.cells #[.slice am ms.length cm] 32)).alloc (.cells #[.bool false] 4)) = W0 at *
  have HRA : Hid (∀ W', Below W0.heap.size W0 W' → Rd W' (.slice aa z0.length ca) z0) := fun W' h => (r0.below B0).below h
  have HRB : Hid (∀ W', Below W0.heap.size W0 W' → Rd W' (.slice ab z1.length cb) z1) := fun W' h => (r1.below B0).below h
  have HRM : Hid (∀ W', Below W0.heap.size W0 W' → RdB W' (.slice am ms.length cm) ms) := fun W' h => (r3.below B0).below h
  have HBX : Hid (∀ W', Below W0.heap.size W0 W' → Boxes w.heap.size (.slice aa z0.length ca) (.slice ab z1.length cb) (.slice am ms.length cm) v W') := fun W' h => bx.below s0 h
  obtain ⟨cA, cB, cV, cM, cR, fR⟩ := bx
  clear r0 r1 r3
  have HS : Hid (∀ W', Below W0.heap.size W0 W' → Below W0.heap.size W0 W' ∧ W'.cell? ⟨w.heap.size, 0, none⟩ = some (.slice aa z0.length ca) ∧ W'.cell? ⟨w.heap.size + 1, 0, none⟩ = some (.slice ab z1.length cb) ∧ W'.cell? ⟨w.heap.size + 1 + 1, 0, none⟩ = some (.int .i64 v)) := fun W' h => ⟨h, (HBX.out W' h).a, (HBX.out W' h).b, (HBX.out W' h).v⟩
  go_cut [9] from 17 (fun t wc => t = .bool (z0.all fmd && z1.all fmd) ∧ W0 = wc)
  case first =>
    cases hfa : z0.all fmd
    · go_wp2_with fail
      refine (sound01_any _ z0 W0 (HRA.out _ (Below.refl _ _))).mono ?_
      rintro e wx ⟨rfl, hwx⟩
      rw [hwx, hfa]
      clear hwx wx
      go_wp2_with fail
      go_meet
      exact ⟨by rw [hfa]; rfl, rfl⟩
    · go_wp2_with fail
      refine (sound01_any _ z0 W0 (HRA.out _ (Below.refl _ _))).mono ?_
      rintro e wx ⟨rfl, hwx⟩
      rw [hwx, hfa]
      clear hwx wx
      go_wp2_with fail
      refine (sound01_any _ z1 W0 (HRB.out _ (Below.refl _ _))).mono ?_
      rintro e wx ⟨rfl, hwx⟩
      rw [hwx]
      clear hwx wx
      cases hfb : z1.all fmd <;> (go_wp2_with fail; go_meet; exact ⟨by rw [hfa, hfb]; rfl, rfl⟩)

  case rest =>
  obtain ⟨rfl, rfl⟩ := hcut
  go_upto_region 2 with fail
  go_cut [10, 11] from 23 (fun p e wc => ∃ (g : Nat) (v3 : Value), p = .pointer (some ⟨g, 0, none⟩) ∧ e = .int .i64 (resolveOf z0 z1 v).1 ∧ wc.cell? ⟨g, 0, none⟩ = some v3 ∧ W0.heap.size ≤ g ∧ g < wc.heap.size ∧ Rd wc v3 (resolveOf z0 z1 v).2 ∧ Below W0.heap.size W0 wc)
  case first =>
    go_wp2_with fail
    go_region_held (fun W' => Below W0.heap.size W0 W' ∧ W'.cell? ⟨w.heap.size, 0, none⟩ = some (.slice aa z0.length ca) ∧ W'.cell? ⟨w.heap.size + 1, 0, none⟩ = some (.slice ab z1.length cb) ∧ W'.cell? ⟨w.heap.size + 1 + 1, 0, none⟩ = some (.int .i64 v)) (first | exact HS.out _ (Below.refl _ _).drew | exact HS.out _ ((Below.refl _ _).drew.alloc (Nat.le_refl _) _) | exact HS.out _ b1 | exact HS.out _ (b1.alloc z1' _) | exact HS.out _ b2 | exact HS.out _ (b2.alloc z2' _) | exact HS.out _ b3 | exact HS.out _ (b3.alloc z3' _) | exact HS.out _ (b3.setCell (p := ⟨_, 0, none⟩) (Nat.le_refl _) _) | exact HS.out _ (b3.setCell (p := ⟨_, 0, none⟩) z1' _) | exact HS.out _ (b3.setCell (p := ⟨_, 0, none⟩) z2' _) | exact HS.out _ ((b3.alloc z3' _).setCell (p := ⟨_, 0, none⟩) z3' _)) (first
      | (go_at_call_has 14 (Value.slice aa z0.length ca); refine (copied_any _ z0 _ (HRA.out _ (by first | exact (Below.refl _ _).drew | exact (Below.refl _ _).drew.alloc (Nat.le_refl _) _))).mono ?_; rintro e w1 ⟨v1, rfl, own1, bel1⟩; have b1 : Below W0.heap.size W0 w1 := Below.step (by first | exact (Below.refl _ _).drew | exact (Below.refl _ _).drew.alloc (Nat.le_refl _) _) bel1; have rd1 := own1.rd hl0; have z1' : W0.heap.size ≤ w1.heap.size := b1.size; (try have q10 : w1.cell? ⟨W0.heap.size, 0, none⟩ = some (.slice none 0 0) := (bel1.cell (p := ⟨W0.heap.size, 0, none⟩) (szA _ _)).trans (box_new W0 _ _)); (try have f10 : w1.frozen? ⟨W0.heap.size, 0, none⟩ = false := (bel1.frozen (p := ⟨W0.heap.size, 0, none⟩) (szA _ _)).trans (World.frozen?_alloc_at _ _ _ _ rfl)); (try have g10 : W0.heap.size < w1.heap.size := Nat.lt_of_lt_of_le (szA _ _) bel1.size))
      | (go_at_call_has 14 (Value.slice ab z1.length cb); refine (copied_any _ z1 _ (HRB.out _ (by first | exact b1 | exact b1.alloc z1' _))).mono ?_; rintro e w2 ⟨v2, rfl, own2, bel2⟩; have b12 : Below w1.heap.size w1 w2 := (by first | exact bel2 | exact Below.step ((Below.refl _ _).alloc (Nat.le_refl _) _) bel2); have b2 := Below.step b1 b12; have rd2 := own2.rd hl1; have rd12 := rd1.below b12; have z2' : W0.heap.size ≤ w2.heap.size := b2.size; (try have q20 : w2.cell? ⟨W0.heap.size, 0, none⟩ = some (.slice none 0 0) := (b12.cell (p := ⟨W0.heap.size, 0, none⟩) g10).trans q10); (try have f20 : w2.frozen? ⟨W0.heap.size, 0, none⟩ = false := (b12.frozen (p := ⟨W0.heap.size, 0, none⟩) g10).trans f10); (try have g20 : W0.heap.size < w2.heap.size := Nat.lt_of_lt_of_le g10 b12.size); (try have q21 : w2.cell? ⟨w1.heap.size, 0, none⟩ = some (.slice none 0 0) := (bel2.cell (p := ⟨w1.heap.size, 0, none⟩) (szA _ _)).trans (box_new w1 _ _)); (try have f21 : w2.frozen? ⟨w1.heap.size, 0, none⟩ = false := (bel2.frozen (p := ⟨w1.heap.size, 0, none⟩) (szA _ _)).trans (World.frozen?_alloc_at _ _ _ _ rfl)); (try have g21 : w1.heap.size < w2.heap.size := Nat.lt_of_lt_of_le (szA _ _) bel2.size))
      | (go_at_call 20; refine (resolve_any v1 v2 z0 z1 v _ (by first | exact rd12 | exact rd12.below ((Below.refl _ _).alloc (Nat.le_refl _) _)) (by first | exact rd2 | exact rd2.below ((Below.refl _ _).alloc (Nat.le_refl _) _))).mono ?_; rintro e w3 ⟨v3, rfl, own3, bel3⟩; have b23 : Below w2.heap.size w2 w3 := (by first | exact bel3 | exact Below.step ((Below.refl _ _).alloc (Nat.le_refl _) _) bel3); have b3 := Below.step b2 b23; have rd3 := own3.rd H8.out; obtain ⟨_, a3, c3, e3, _⟩ := own3.rd H8.out; subst e3; have z3' : W0.heap.size ≤ w3.heap.size := b3.size; (try have q30 : w3.cell? ⟨W0.heap.size, 0, none⟩ = some (.slice none 0 0) := (b23.cell (p := ⟨W0.heap.size, 0, none⟩) g20).trans q20); (try have f30 : w3.frozen? ⟨W0.heap.size, 0, none⟩ = false := (b23.frozen (p := ⟨W0.heap.size, 0, none⟩) g20).trans f20); (try have g30 : W0.heap.size < w3.heap.size := Nat.lt_of_lt_of_le g20 b23.size); (try have q31 : w3.cell? ⟨w1.heap.size, 0, none⟩ = some (.slice none 0 0) := (b23.cell (p := ⟨w1.heap.size, 0, none⟩) g21).trans q21); (try have f31 : w3.frozen? ⟨w1.heap.size, 0, none⟩ = false := (b23.frozen (p := ⟨w1.heap.size, 0, none⟩) g21).trans f21); (try have g31 : w1.heap.size < w3.heap.size := Nat.lt_of_lt_of_le g21 b23.size); (try have q32 : w3.cell? ⟨w2.heap.size, 0, none⟩ = some (.slice none 0 0) := (bel3.cell (p := ⟨w2.heap.size, 0, none⟩) (szA _ _)).trans (box_new w2 _ _)); (try have f32 : w3.frozen? ⟨w2.heap.size, 0, none⟩ = false := (bel3.frozen (p := ⟨w2.heap.size, 0, none⟩) (szA _ _)).trans (World.frozen?_alloc_at _ _ _ _ rfl)); (try have g32 : w2.heap.size < w3.heap.size := Nat.lt_of_lt_of_le (szA _ _) bel3.size)))
    all_goals
      go_wp2_with fail
      go_meet
      first
        | exact ⟨_, _, rfl, rfl, box_new _ _ _, z3', szA _ _, rd3.below ((Below.refl _ _).alloc (Nat.le_refl _) _), b3.alloc z3' _⟩
        | exact ⟨_, _, rfl, rfl, World.cell?_setCell_same' _ _ _ (by rw [q32]; rfl), z2', by rw [World.size_setCell]; exact g32, rd_far own3 H8.out (szA _ _) _, b3.setCell (p := ⟨_, 0, none⟩) z2' _⟩
        | exact ⟨_, _, rfl, rfl, World.cell?_setCell_same' _ _ _ (by rw [q31]; rfl), z1', by rw [World.size_setCell]; exact g31, rd_far own3 H8.out g21 _, b3.setCell (p := ⟨_, 0, none⟩) z1' _⟩
        | exact ⟨_, _, rfl, rfl, World.cell?_setCell_same' _ _ _ (by rw [q30]; rfl), Nat.le_refl _, by rw [World.size_setCell]; exact g30, rd_far own3 H8.out g20 _, b3.setCell (p := ⟨_, 0, none⟩) (Nat.le_refl _) _⟩
  case rest =>
  obtain ⟨g, v3, rfl, rfl, cG, hg, hgl, rdr, bc⟩ := hcut
  obtain ⟨cA2, cB2, cV2, cM2, cR2, fR2⟩ := HBX.out wc bc
  have hr4 : w.heap.size + 1 + 1 + 1 + 1 < wc.heap.size := Nat.lt_of_lt_of_le s0 bc.size
  have BW : Below w.heap.size w wc := B0.trans (bc.mono B0.size)
  have RA : Hid (Rd wc (.slice aa z0.length ca) z0) := HRA.out wc bc
  have RB : Hid (Rd wc (.slice ab z1.length cb) z1) := HRB.out wc bc
  have RM : Hid (RdB wc (.slice am ms.length cm) ms) := HRM.out wc bc
  have RR : Hid (Rd wc v3 (resolveOf z0 z1 v).2) := rdr
  clear rdr cA cB cV cM cR fR HRA HRB HRM HBX HS H8
  cases hsh : (z0.all fmd && z1.all fmd && decide (1 ≤ v ∧ v ≤ 1048576))
  · have eE := resolveOf_shape hsh
    rw [eE] at RR ⊢
    clear eE
    obtain ⟨_, a3, c3, rfl, -⟩ := RR.out
    dsimp only [List.length_nil] at *
    cases hbo : (z0.all fmd && z1.all fmd)
    · go_wp2
      refine ⟨.bool true, by simp [results, Try.f5, go_sem, World.cell?_setCell_same' _ _ _ (by rw [cR2]; rfl)], rfl, BW.setCell (p := ⟨w.heap.size + 1 + 1 + 1 + 1, 0, none⟩) (by show w.heap.size ≤ w.heap.size + 1 + 1 + 1 + 1; omega) _⟩
    · have hv : ¬ (1 ≤ v ∧ v ≤ 1048576) := by rw [hbo] at hsh; simpa using hsh
      by_cases h1 : v < 1
      · have d1 : decide (v < 1) = true := decide_eq_true h1
        go_wp2
        refine ⟨.bool true, by simp [results, Try.f5, go_sem, World.cell?_setCell_same' _ _ _ (by rw [cR2]; rfl)], rfl, BW.setCell (p := ⟨w.heap.size + 1 + 1 + 1 + 1, 0, none⟩) (by show w.heap.size ≤ w.heap.size + 1 + 1 + 1 + 1; omega) _⟩
      · have d1 : decide (v < 1) = false := decide_eq_false h1
        have d2 : decide (1048576 < v) = true := decide_eq_true (by omega)
        go_wp2
        refine ⟨.bool true, by simp [results, Try.f5, go_sem, World.cell?_setCell_same' _ _ _ (by rw [cR2]; rfl)], rfl, BW.setCell (p := ⟨w.heap.size + 1 + 1 + 1 + 1, 0, none⟩) (by show w.heap.size ≤ w.heap.size + 1 + 1 + 1 + 1; omega) _⟩
  have hsh' := hsh
  simp only [Bool.and_eq_true, decide_eq_true_eq] at hsh'
  obtain ⟨⟨hfa, hfb⟩, hv1, hv2⟩ := hsh'
  rw [hfa, hfb]
  have d1 : decide (v < 1) = false := decide_eq_false (by omega)
  have d2 : decide (1048576 < v) = false := decide_eq_false (by omega)
  have HWR : Hid (IntKind.i64.wrap (-v) = -v) := by show IntKind.i64.wrap (-v) = -v; rw [IntKind.wrap_i64]; omega
  have eR : resolveOf z0 z1 v = if z0.contains v && z1.contains (-v) then (0, tid (wout (tid z0) v ++ wout (tid z1) (-v))) else (10, []) := by unfold resolveOf; rw [hsh]; rfl
  cases hqa : z0.contains v
  · have eE : resolveOf z0 z1 v = (10, []) := by rw [eR, hqa]; rfl
    rw [eE] at RR ⊢
    clear eE eR
    obtain ⟨_, a3, c3, rfl, -⟩ := RR.out
    dsimp only [List.length_nil] at *
    go_wp2_with fail
    rw [show (Value.int IntKind.i64 v) = .int .i64 v from rfl]
    refine (within_any _ z0 v wc RA.out).mono ?_
    rintro e wx ⟨rfl, hwx⟩
    rw [hwx, hqa]
    clear hwx wx
    go_wp2
    refine ⟨.bool true, by simp [results, Try.f5, go_sem, World.cell?_setCell_same' _ _ _ (by rw [cR2]; rfl)], rfl, BW.setCell (p := ⟨w.heap.size + 1 + 1 + 1 + 1, 0, none⟩) (by show w.heap.size ≤ w.heap.size + 1 + 1 + 1 + 1; omega) _⟩
  cases hqb : z1.contains (-v)
  · have eE : resolveOf z0 z1 v = (10, []) := by rw [eR, hqa, hqb]; rfl
    rw [eE] at RR ⊢
    clear eE eR
    obtain ⟨_, a3, c3, rfl, -⟩ := RR.out
    dsimp only [List.length_nil] at *
    go_wp2_with fail
    refine (within_any _ z0 v wc RA.out).mono ?_
    rintro e wx ⟨rfl, hwx⟩
    rw [hwx, hqa]
    clear hwx wx
    go_wp2_with fail
    refine (within_any _ z1 (-v) wc RB.out).mono ?_
    rintro e wx ⟨rfl, hwx⟩
    rw [hwx, hqb]
    clear hwx wx
    go_wp2
    refine ⟨.bool true, by simp [results, Try.f5, go_sem, World.cell?_setCell_same' _ _ _ (by rw [cR2]; rfl)], rfl, BW.setCell (p := ⟨w.heap.size + 1 + 1 + 1 + 1, 0, none⟩) (by show w.heap.size ≤ w.heap.size + 1 + 1 + 1 + 1; omega) _⟩
  have eE : resolveOf z0 z1 v = (0, tid (wout (tid z0) v ++ wout (tid z1) (-v))) := by rw [eR, hqa, hqb]; rfl
  rw [eE] at RR ⊢
  clear eE eR
  have L1 : Hid (∀ k, k < (reso z0 z1 v).length → (z0.contains ((reso z0 z1 v).getD k 0) = true ∧ (reso z0 z1 v).getD k 0 ≠ v) ∨ (z1.contains ((reso z0 z1 v).getD k 0) = true ∧ (reso z0 z1 v).getD k 0 ≠ -v)) := fun k h => reso_at h
  have L2 : Hid (hol ms z0 = true → hol ms z1 = true → hol ms (reso z0 z1 v) = true) := reso_hol hfa hfb (fmd_true (by omega) (by omega) (by omega))
  have L3 : Hid (∀ p ∈ resAll z0 z1, (hol ms z0 = true → hol ms z1 = true → hol ms p.2 = true) ∧ ∀ x ∈ p.2, fmd x = true) := fun p hp => ⟨resAll_hol hp, resAll_fmd hp⟩
  have L4 : Hid ((v, reso z0 z1 v) ∈ resAll z0 z1) := resAll_pivot hfa hfb (by omega) hqa hqb
  have L5 : Hid (∀ x ∈ reso z0 z1 v, fmd x = true) := reso_fmd _ _ _
  have F0 : Hid (∀ x ∈ z0, fmd x = true) := List.all_eq_true.1 hfa
  have F1 : Hid (∀ x ∈ z1, fmd x = true) := List.all_eq_true.1 hfb
  have RR2 : Hid (Rd wc v3 (reso z0 z1 v)) := RR
  have EL : Hid ((0, tid (wout (tid z0) v ++ wout (tid z1) (-v))).2 = reso z0 z1 v) := rfl
  clear RR EL
  obtain ⟨h8, a3, c3, rfl, hR2⟩ := RR2.out
  have HR2 : Hid (reso z0 z1 v ≠ [] → ∃ b off, a3 = some ⟨b, off, none⟩ ∧ b < wc.heap.size ∧ ∀ j, j < (reso z0 z1 v).length → wc.cell? ⟨b, off + j, none⟩ = some (.int .i64 ((reso z0 z1 v).getD j 0))) := hR2.2.2.2
  clear hR2
  generalize reso z0 z1 v = L at *
  dsimp only at *
  go_wp2_with fail
  refine (within_any _ z0 v wc RA.out).mono ?_
  rintro e wx ⟨rfl, hwx⟩
  rw [hwx, hqa]
  clear hwx wx
  go_wp2_with fail
  refine (within_any _ z1 (-v) wc RB.out).mono ?_
  rintro e wx ⟨rfl, hwx⟩
  rw [hwx, hqb]
  clear hwx wx
  clear hqa hqb
  go_wp2
  go_loopg [12] L.length (fun g i wr => ∃ k : Nat, k + g = L.length ∧ i = .int .i64 k ∧ Below wc.heap.size wc wr)
  case atStart => exact ⟨0, by omega, rfl, Below.refl _ _⟩
  case round =>
    obtain ⟨k, hk, rfl, blr⟩ := hrel
    have HK : Hid (k + gk = L.length) := hk
    have cA3 : wr.cell? ⟨w.heap.size, 0, none⟩ = some (.slice aa z0.length ca) := (blr.cell (p := ⟨w.heap.size, 0, none⟩) (by show w.heap.size < _; omega)).trans cA2
    have cB3 : wr.cell? ⟨w.heap.size + 1, 0, none⟩ = some (.slice ab z1.length cb) := (blr.cell (p := ⟨w.heap.size + 1, 0, none⟩) (by show w.heap.size + 1 < _; omega)).trans cB2
    have cV3 : wr.cell? ⟨w.heap.size + 1 + 1, 0, none⟩ = some (.int .i64 v) := (blr.cell (p := ⟨w.heap.size + 1 + 1, 0, none⟩) (by show w.heap.size + 1 + 1 < _; omega)).trans cV2
    have cM3 : wr.cell? ⟨w.heap.size + 1 + 1 + 1, 0, none⟩ = some (.slice am ms.length cm) := (blr.cell (p := ⟨w.heap.size + 1 + 1 + 1, 0, none⟩) (by show w.heap.size + 1 + 1 + 1 < _; omega)).trans cM2
    have cR3 : wr.cell? ⟨w.heap.size + 1 + 1 + 1 + 1, 0, none⟩ = some (.bool false) := (blr.cell (p := ⟨w.heap.size + 1 + 1 + 1 + 1, 0, none⟩) (by show w.heap.size + 1 + 1 + 1 + 1 < _; omega)).trans cR2
    have cG3 : wr.cell? ⟨g, 0, none⟩ = some (.slice a3 L.length c3) := (blr.cell (p := ⟨g, 0, none⟩) hgl).trans cG
    have fR3 : wr.frozen? ⟨w.heap.size + 1 + 1 + 1 + 1, 0, none⟩ = false := (blr.frozen (p := ⟨w.heap.size + 1 + 1 + 1 + 1, 0, none⟩) hr4).trans fR2
    by_cases hlt : k < L.length
    · obtain ⟨bb, oo, e, hbb, hcell⟩ := HR2.out (by intro h; rw [h] at hlt; simp at hlt)
      have hck : wr.cell? ⟨bb, oo + k, none⟩ = some (.int .i64 (L.getD k 0)) := (blr.cell (p := ⟨bb, oo + k, none⟩) hbb).trans (hcell k hlt)
      clear hcell
      subst e
      have q1 := L1.out k hlt
      have BB : Hid (Below wc.heap.size wc wr) := blr
      have HA : Hid (∀ wv, Below wr.heap.size wr wv → Calls Try.prog 17 #[.slice aa z0.length ca, .int .i64 (L.getD k 0)] wv fun e w' => e = .returned (.bool (z0.contains (L.getD k 0))) ∧ w' = wv) := fun wv hv => within_any _ z0 _ wv ((RA.out.below blr).below hv)
      have HB : Hid (∀ wv, Below wr.heap.size wr wv → Calls Try.prog 17 #[.slice ab z1.length cb, .int .i64 (L.getD k 0)] wv fun e w' => e = .returned (.bool (z1.contains (L.getD k 0))) ∧ w' = wv) := fun wv hv => within_any _ z1 _ wv ((RB.out.below blr).below hv)
      clear hk
      generalize z0.contains (L.getD k 0) = qa at *
      generalize z1.contains (L.getD k 0) = qb at *
      generalize L.getD k 0 = z at *
      have key : (qa = true ∧ (z == v) = false ∧ (z != v) = true) ∨ (qa = false ∧ qb = true ∧ (z == -v) = false ∧ (z != -v) = true) ∨ (qa = true ∧ (z == v) = true ∧ (z != v) = false ∧ qb = true ∧ (z == -v) = false ∧ (z != -v) = true) := by
        have n1 : ∀ {x y : Int}, x ≠ y → (x == y) = false ∧ (x != y) = true := fun h => ⟨by simpa using h, by simpa using h⟩
        by_cases ez : z = v
        · rcases q1 with h | h
          · exact absurd ez h.2
          · have hz := n1 h.2
            cases qa
            · exact .inr (.inl ⟨rfl, h.1, hz.1, hz.2⟩)
            · exact .inr (.inr ⟨rfl, by simpa using ez, by simpa using ez, h.1, hz.1, hz.2⟩)
        · have hz := n1 ez
          cases qa
          · rcases q1 with h | h
            · cases h.1
            · exact .inr (.inl ⟨rfl, h.1, n1 h.2⟩)
          · exact .inl ⟨rfl, hz.1, hz.2⟩
      clear q1
      rcases key with ⟨rfl, e1, e2⟩ | ⟨rfl, rfl, e3, e4⟩ | ⟨rfl, e1, e2, rfl, e3, e4⟩
      all_goals
        go_wp2
        go_quiet ((first | (go_at_call_has 17 (Value.slice aa z0.length ca); exact Calls.quiet_of_same (HA.out _ (below_drewN _ _))) | (go_at_call_has 17 (Value.slice ab z1.length cb); exact Calls.quiet_of_same (HB.out _ (below_drewN _ _)))))
        go_wp2
        go_roundg (gk - 1)
        case measure => have := HK.out; omega
        case rel => exact ⟨k + 1, by have := HK.out; omega, by go_num, BB.out.trans ((below_drewN _ _).mono BB.out.size)⟩
    · obtain rfl : k = L.length := by omega
      clear hk hlt HK
      have hr5 : w.heap.size + 1 + 1 + 1 + 1 < wr.heap.size := Nat.lt_of_lt_of_le hr4 blr.size
      have RA3 : Hid (Rd wr (.slice aa z0.length ca) z0) := RA.out.below blr
      have RB3 : Hid (Rd wr (.slice ab z1.length cb) z1) := RB.out.below blr
      have RM3 : Hid (RdB wr (.slice am ms.length cm) ms) := RM.out.below blr
      have RR3 : Hid (Rd wr (.slice a3 L.length c3) L) := RR2.out.below blr
      have BW3 : Hid (Below w.heap.size w wr) := BW.trans (blr.mono BW.size)
      have hg3 : g < wr.heap.size := Nat.lt_of_lt_of_le hgl blr.size
      clear RA RB RM RR2 BW blr cA2 cB2 cV2 cM2 cR2 cG fR2 L1 HR2 HWR bc B0 s0 hr4 hgl
      go_upto_region 14 with fail
      go_cut [124] from 111 (fun t wx => t = .bool false ∧ wr = wx)
      case first =>
        cases h0 : hol ms z0
        · go_wp2_with fail
          refine (holds01_any (.slice am ms.length cm) (.slice aa z0.length ca) ms z0 wr RM3.out RA3.out F0.out).mono ?_
          rintro e wx ⟨rfl, hwx⟩
          rw [hwx, h0]
          clear hwx wx
          go_wp2_with fail
          go_meet
          exact ⟨rfl, rfl⟩
        cases h1 : hol ms z1
        · go_wp2_with fail
          refine (holds01_any (.slice am ms.length cm) (.slice aa z0.length ca) ms z0 wr RM3.out RA3.out F0.out).mono ?_
          rintro e wx ⟨rfl, hwx⟩
          rw [hwx, h0]
          clear hwx wx
          go_wp2_with fail
          refine (holds01_any (.slice am ms.length cm) (.slice ab z1.length cb) ms z1 wr RM3.out RB3.out F1.out).mono ?_
          rintro e wx ⟨rfl, hwx⟩
          rw [hwx, h1]
          clear hwx wx
          go_wp2_with fail
          go_meet
          exact ⟨rfl, rfl⟩
        · go_wp2_with fail
          refine (holds01_any (.slice am ms.length cm) (.slice aa z0.length ca) ms z0 wr RM3.out RA3.out F0.out).mono ?_
          rintro e wx ⟨rfl, hwx⟩
          rw [hwx, h0]
          clear hwx wx
          go_wp2_with fail
          refine (holds01_any (.slice am ms.length cm) (.slice ab z1.length cb) ms z1 wr RM3.out RB3.out F1.out).mono ?_
          rintro e wx ⟨rfl, hwx⟩
          rw [hwx, h1]
          clear hwx wx
          go_wp2_with fail
          refine (holds01_any (.slice am ms.length cm) (.slice a3 L.length c3) ms L wr RM3.out RR3.out L5.out).mono ?_
          rintro e wx ⟨rfl, hwx⟩
          rw [hwx, L2.out h0 h1]
          clear hwx wx
          go_wp2_with fail
          go_meet
          exact ⟨rfl, rfl⟩
      case rest =>
      obtain ⟨rfl, rfl⟩ := hcut
      go_wp2_with fail
      have e5 : Below wr.heap.size wr (wr.alloc (.cells #[.int .i64 0] 3)) := (Below.refl _ _).alloc (Nat.le_refl _) _
      have cN : (wr.alloc (.cells #[.int .i64 0] 3)).cell? ⟨wr.heap.size, 0, none⟩ = some (.int .i64 0) := box_new _ _ _
      have fN : (wr.alloc (.cells #[.int .i64 0] 3)).frozen? ⟨wr.heap.size, 0, none⟩ = false := World.frozen?_alloc_at _ _ _ _ rfl
      have s5 : wr.heap.size < (wr.alloc (.cells #[.int .i64 0] 3)).heap.size := szA _ _
      generalize (wr.alloc (.cells #[.int .i64 0] 3)) = W5 at *
      have cA5 : W5.cell? ⟨w.heap.size, 0, none⟩ = some (.slice aa z0.length ca) := (e5.cell (p := ⟨w.heap.size, 0, none⟩) (by show w.heap.size < _; omega)).trans cA3
      have cB5 : W5.cell? ⟨w.heap.size + 1, 0, none⟩ = some (.slice ab z1.length cb) := (e5.cell (p := ⟨w.heap.size + 1, 0, none⟩) (by show w.heap.size + 1 < _; omega)).trans cB3
      have cV5 : W5.cell? ⟨w.heap.size + 1 + 1, 0, none⟩ = some (.int .i64 v) := (e5.cell (p := ⟨w.heap.size + 1 + 1, 0, none⟩) (by show w.heap.size + 1 + 1 < _; omega)).trans cV3
      have cM5 : W5.cell? ⟨w.heap.size + 1 + 1 + 1, 0, none⟩ = some (.slice am ms.length cm) := (e5.cell (p := ⟨w.heap.size + 1 + 1 + 1, 0, none⟩) (by show w.heap.size + 1 + 1 + 1 < _; omega)).trans cM3
      have cR5 : W5.cell? ⟨w.heap.size + 1 + 1 + 1 + 1, 0, none⟩ = some (.bool false) := (e5.cell (p := ⟨w.heap.size + 1 + 1 + 1 + 1, 0, none⟩) (by show w.heap.size + 1 + 1 + 1 + 1 < _; omega)).trans cR3
      have HS5 : Hid (∀ W', Below W5.heap.size W5 W' → Below W5.heap.size W5 W' ∧ W'.cell? ⟨w.heap.size, 0, none⟩ = some (.slice aa z0.length ca) ∧ W'.cell? ⟨w.heap.size + 1, 0, none⟩ = some (.slice ab z1.length cb)) := fun W' h => ⟨h, (h.cell (p := ⟨w.heap.size, 0, none⟩) (by show w.heap.size < _; omega)).trans cA5, (h.cell (p := ⟨w.heap.size + 1, 0, none⟩) (by show w.heap.size + 1 < _; omega)).trans cB5⟩
      have HRA5 : Hid (∀ W', Below W5.heap.size W5 W' → Rd W' (.slice aa z0.length ca) z0) := fun W' h => (RA3.out.below e5).below h
      have HRB5 : Hid (∀ W', Below W5.heap.size W5 W' → Rd W' (.slice ab z1.length cb) z1) := fun W' h => (RB3.out.below e5).below h
      have BW5 : Hid (∀ W', Below W5.heap.size W5 W' → Below wr.heap.size wr W') := fun W' h => e5.trans (h.mono e5.size)
      clear e5 hl3
      go_region_held (fun W' => Below W5.heap.size W5 W' ∧ W'.cell? ⟨w.heap.size, 0, none⟩ = some (.slice aa z0.length ca) ∧ W'.cell? ⟨w.heap.size + 1, 0, none⟩ = some (.slice ab z1.length cb)) (first | exact HS5.out _ (Below.refl _ _).drew | exact HS5.out _ b6 | exact HS5.out _ b7 | exact HS5.out _ b8) (first
        | (go_at_call_has 14 (Value.slice aa z0.length ca); refine (copied_any _ z0 _ (HRA5.out _ (Below.refl _ _).drew)).mono ?_; rintro e w6 ⟨v6, rfl, own6, bel6⟩; have b6 : Below W5.heap.size W5 w6 := Below.step (Below.refl _ _).drew bel6; have rd6 := own6.rd hl0)
        | (go_at_call_has 14 (Value.slice ab z1.length cb); refine (copied_any _ z1 _ (HRB5.out _ b6)).mono ?_; rintro e w7 ⟨v7, rfl, own7, bel7⟩; have b7 := Below.step b6 bel7; have rd7 := own7.rd hl1; have rd67 := rd6.below bel7)
        | (go_at_call 22; refine (resolvents_any v6 v7 z0 z1 _ rd67 rd7).mono ?_; rintro e w8 ⟨f8, rfl, gv8, bel8⟩; have b8 := Below.step b7 bel8))
      have HG : Hid (GivesV w7.heap.size (resAll z0 z1) f8 w8) := gv8
      have B8 : Hid (Below W5.heap.size W5 w8) := b8
      have hlo : W5.heap.size ≤ w7.heap.size := b7.size
      have cN8 : w8.cell? ⟨wr.heap.size, 0, none⟩ = some (.int .i64 0) := (b8.cell (p := ⟨wr.heap.size, 0, none⟩) s5).trans cN
      have fN8 : w8.frozen? ⟨wr.heap.size, 0, none⟩ = false := (b8.frozen (p := ⟨wr.heap.size, 0, none⟩) s5).trans fN
      have B58 : Hid (Below wr.heap.size wr w8) := BW5.out _ b8
      have hw8 : W5.heap.size ≤ w8.heap.size := b8.size
      obtain ⟨gf, lb, rfl, -, -⟩ := gv8
      clear bel6 bel7 bel8 b6 b7 b8 rd6 rd7 rd67 own6 own7 HS5 HRA5 HRB5 BW5 cN fN cA5 cB5 cV5 cM5 cR5
      go_wp2
      rw [func_not_nil]
      go_wp2
      obtain ⟨gf', lb', e', heg, hseq⟩ := HG.out
      cases e'
      refine (wpIn_wide (n := 12)).1 ?_
      refine' wpIn_rangeV rfl (by omega) (gf := gf) (lb := lb) rfl trivial heg (hseq (12 - 1) (by omega)) Mid.trans (midK_b (Nat.le_refl _)) (fun W o h => h.alloc (Nat.le_refl _) o) (Mid.refl _ _ _) (fun _ => rfl)
        (fun pre W => (W.cell? ⟨wr.heap.size, 0, none⟩ = some (.int .i64 (hits v L (pre.map Itm.proj) : Nat)) ∧ W.frozen? ⟨wr.heap.size, 0, none⟩ = false ∧ w8.heap.size ≤ W.heap.size) ∧ Below wr.heap.size wr W)
        (fun c pre W => False)
        (OwnFrom.and (Own.from (fun s A B row hs hg hr => ⟨cell_kept hs.1 hg hr, (frozen_kept hs.1 hg hr).trans hs.2.1, Nat.le_trans hs.2.2 hg.size⟩) _) (ownFrom_below (Nat.le_refl _) B58.out.size))
        (fun c s A B row hs hg hr => hs)
        (fun pre => VV_from _ _ _ pre)
        ⟨⟨cN8, fN8, Nat.le_refl _⟩, B58.out⟩
        _ ?assign ?body ?done ?stop
      case assign =>
        intro l x W K hK
        gi_wp2
        exact hK
      case body =>
        rintro l pre ⟨xv, xs, xl⟩ W ⟨⟨g0, g1, hsw⟩, hB⟩ ⟨hp, ho, hl⟩
        have hm : (xv, xl) ∈ resAll z0 z1 := hp.subset (by simp [Itm.proj])
        have hle : hits v L (pre.map Itm.proj) ≤ 2097152 := by
          have h1 := hits_le v L (pre.map Itm.proj)
          have h2 := hp.length_le
          have h3 := resAll_len z0 z1
          simp only [List.map_append, List.length_append] at h2
          omega
        have h3 := L3.out _ hm
        have rx := Own.rd ho (by show xl.length * 8 ≤ _; have : xl.length ≤ 2097152 := hl; omega)
        obtain ⟨_, ax, cx, ex, -⟩ := id rx
        have ex' : xs = .slice ax xl.length cx := ex
        subst ex'
        have RX9 : Hid (Rd W (.slice ax xl.length cx) xl) := rx
        have RA9 : Hid (Rd W (.slice aa z0.length ca) z0) := RA3.out.below hB
        have RB9 : Hid (Rd W (.slice ab z1.length cb) z1) := RB3.out.below hB
        have RM9 : Hid (RdB W (.slice am ms.length cm) ms) := RM3.out.below hB
        have RR9 : Hid (Rd W (.slice a3 L.length c3) L) := RR3.out.below hB
        have HSZ : Hid (w8.heap.size ≤ W.heap.size) := hsw
        have HLO : Hid (wr.heap.size < w7.heap.size) := Nat.lt_of_lt_of_le s5 hlo
        have HNB : Hid (wr.heap.size < W.heap.size) := Nat.lt_of_lt_of_le (Nat.lt_of_lt_of_le s5 hw8) hsw
        obtain ⟨m, hmm⟩ : ∃ m, hits v L (pre.map Itm.proj) = m := ⟨_, rfl⟩
        rw [hmm] at g0 hle
        have HM : Hid (hits v L (pre.map Itm.proj) = m) := hmm
        clear hmm
        have cA9 : W.cell? ⟨w.heap.size, 0, none⟩ = some (.slice aa z0.length ca) := (hB.cell (p := ⟨w.heap.size, 0, none⟩) (by show w.heap.size < _; omega)).trans cA3
        have cB9 : W.cell? ⟨w.heap.size + 1, 0, none⟩ = some (.slice ab z1.length cb) := (hB.cell (p := ⟨w.heap.size + 1, 0, none⟩) (by show w.heap.size + 1 < _; omega)).trans cB3
        have cV9 : W.cell? ⟨w.heap.size + 1 + 1, 0, none⟩ = some (.int .i64 v) := (hB.cell (p := ⟨w.heap.size + 1 + 1, 0, none⟩) (by show w.heap.size + 1 + 1 < _; omega)).trans cV3
        have cM9 : W.cell? ⟨w.heap.size + 1 + 1 + 1, 0, none⟩ = some (.slice am ms.length cm) := (hB.cell (p := ⟨w.heap.size + 1 + 1 + 1, 0, none⟩) (by show w.heap.size + 1 + 1 + 1 < _; omega)).trans cM3
        have cR9 : W.cell? ⟨w.heap.size + 1 + 1 + 1 + 1, 0, none⟩ = some (.bool false) := (hB.cell (p := ⟨w.heap.size + 1 + 1 + 1 + 1, 0, none⟩) (by show w.heap.size + 1 + 1 + 1 + 1 < _; omega)).trans cR3
        have cG9 : W.cell? ⟨g, 0, none⟩ = some (.slice a3 L.length c3) := (hB.cell (p := ⟨g, 0, none⟩) hg3).trans cG3
        clear rx hm hl
        dsimp only at *
        cases h0 : hol ms z0
        · gi_wp2_with fail
          refine ⟨trivial, ?_⟩
          refine ((callsIn_wide.2 (holds01_any (.slice am ms.length cm) (.slice aa z0.length ca) ms z0 W RM9.out RA9.out F0.out)).inRound l).mono ?_
          rintro e wx ⟨rfl, hwx⟩
          rw [hwx, h0]
          clear hwx wx
          gi_wp2_with fail
          refine ⟨trivial, ?_⟩
          gi_wp2_with fail
          refine ⟨trivial, ?_⟩
          cases hxv : (xv == v)
          · have HI : Hid (hits v L ((pre ++ [((xv, .slice ax xl.length cx, xl) : Itm)]).map Itm.proj) = m) := by
              show _ = _
              rw [List.map_append, List.map_cons, List.map_nil, hits_snoc, HM.out, if_neg (by show ¬ ((xv == v) && (xl == L)) = true; rw [hxv]; simp), Nat.add_zero]
            clear h3 hp ho
            gi_wp2_with fail
            refine ⟨trivial, ?_⟩
            gi_wp2
            exact ⟨KeepsOthers.refl _, Mid.refl _ _ _, ⟨by rw [HI.out]; exact g0, g1, hsw⟩, hB⟩
          · have HS := same01_any (.slice ax xl.length cx) (.slice a3 L.length c3) xl L W RX9.out RR9.out
            cases hsl : (xl == L)
            · have HI : Hid (hits v L ((pre ++ [((xv, .slice ax xl.length cx, xl) : Itm)]).map Itm.proj) = m) := by
                show _ = _
                rw [List.map_append, List.map_cons, List.map_nil, hits_snoc, HM.out, if_neg (by show ¬ ((xv == v) && (xl == L)) = true; rw [hsl]; simp), Nat.add_zero]
              rw [hsl] at HS
              clear h3 hp ho
              gi_wp2_with fail
              refine ⟨trivial, ?_⟩
              refine ((callsIn_wide.2 HS).inRound l).mono ?_
              rintro e w9 ⟨rfl, bel9⟩
              gi_wp2
              exact ⟨KeepsOthers.of_grownBy (grown_of_below bel9) (fun _ _ e _ => by cases e), Mid.of_below bel9 HSZ.out, ⟨by rw [HI.out]; exact (bel9.cell (p := ⟨wr.heap.size, 0, none⟩) HNB.out).trans g0, (bel9.frozen (p := ⟨wr.heap.size, 0, none⟩) HNB.out).trans g1, Nat.le_trans hsw bel9.size⟩, hB.trans (bel9.mono hB.size)⟩
            · have HI : Hid (hits v L ((pre ++ [((xv, .slice ax xl.length cx, xl) : Itm)]).map Itm.proj) = m + 1) := by
                show _ = _
                rw [List.map_append, List.map_cons, List.map_nil, hits_snoc, HM.out, if_pos (by show ((xv == v) && (xl == L)) = true; rw [hxv, hsl]; rfl)]
              rw [hsl] at HS
              clear h3 hp ho
              gi_wp2_with fail
              refine ⟨trivial, ?_⟩
              refine ((callsIn_wide.2 HS).inRound l).mono ?_
              rintro e w9 ⟨rfl, bel9⟩
              have g09 := (bel9.cell (p := ⟨wr.heap.size, 0, none⟩) HNB.out).trans g0
              have g19 := (bel9.frozen (p := ⟨wr.heap.size, 0, none⟩) HNB.out).trans g1
              gi_wp2
              have K9 : Mid w7.heap.size w8.heap.size w9 (w9.setCell ⟨wr.heap.size, 0, none⟩ (.int .i64 (↑m + 1))) := ⟨by simp [World.setCell], fun k h1 _ => Below.heap_setCell _ _ _ _ (by show k ≠ wr.heap.size; have := HLO.out; omega)⟩
              exact ⟨(KeepsOthers.of_grownBy (grown_of_below bel9) (fun _ _ e _ => by cases e)).trans (KeepsOthers.setCell _ _ _), (Mid.of_below bel9 HSZ.out).trans K9, ⟨by rw [HI.out]; exact World.cell?_setCell_same' _ _ _ (by rw [g09]; rfl), by rw [World.frozen?_setCell]; exact g19, by rw [World.size_setCell]; exact Nat.le_trans hsw bel9.size⟩, (hB.trans (bel9.mono hB.size)).setCell (p := ⟨wr.heap.size, 0, none⟩) (Nat.le_refl _) _⟩
        cases h1 : hol ms z1
        · gi_wp2_with fail
          refine ⟨trivial, ?_⟩
          refine ((callsIn_wide.2 (holds01_any (.slice am ms.length cm) (.slice aa z0.length ca) ms z0 W RM9.out RA9.out F0.out)).inRound l).mono ?_
          rintro e wx ⟨rfl, hwx⟩
          rw [hwx, h0]
          clear hwx wx
          gi_wp2_with fail
          refine ⟨trivial, ?_⟩
          refine ((callsIn_wide.2 (holds01_any (.slice am ms.length cm) (.slice ab z1.length cb) ms z1 W RM9.out RB9.out F1.out)).inRound l).mono ?_
          rintro e wx ⟨rfl, hwx⟩
          rw [hwx, h1]
          clear hwx wx
          gi_wp2_with fail
          refine ⟨trivial, ?_⟩
          cases hxv : (xv == v)
          · have HI : Hid (hits v L ((pre ++ [((xv, .slice ax xl.length cx, xl) : Itm)]).map Itm.proj) = m) := by
              show _ = _
              rw [List.map_append, List.map_cons, List.map_nil, hits_snoc, HM.out, if_neg (by show ¬ ((xv == v) && (xl == L)) = true; rw [hxv]; simp), Nat.add_zero]
            clear h3 hp ho
            gi_wp2_with fail
            refine ⟨trivial, ?_⟩
            gi_wp2
            exact ⟨KeepsOthers.refl _, Mid.refl _ _ _, ⟨by rw [HI.out]; exact g0, g1, hsw⟩, hB⟩
          · have HS := same01_any (.slice ax xl.length cx) (.slice a3 L.length c3) xl L W RX9.out RR9.out
            cases hsl : (xl == L)
            · have HI : Hid (hits v L ((pre ++ [((xv, .slice ax xl.length cx, xl) : Itm)]).map Itm.proj) = m) := by
                show _ = _
                rw [List.map_append, List.map_cons, List.map_nil, hits_snoc, HM.out, if_neg (by show ¬ ((xv == v) && (xl == L)) = true; rw [hsl]; simp), Nat.add_zero]
              rw [hsl] at HS
              clear h3 hp ho
              gi_wp2_with fail
              refine ⟨trivial, ?_⟩
              refine ((callsIn_wide.2 HS).inRound l).mono ?_
              rintro e w9 ⟨rfl, bel9⟩
              gi_wp2
              exact ⟨KeepsOthers.of_grownBy (grown_of_below bel9) (fun _ _ e _ => by cases e), Mid.of_below bel9 HSZ.out, ⟨by rw [HI.out]; exact (bel9.cell (p := ⟨wr.heap.size, 0, none⟩) HNB.out).trans g0, (bel9.frozen (p := ⟨wr.heap.size, 0, none⟩) HNB.out).trans g1, Nat.le_trans hsw bel9.size⟩, hB.trans (bel9.mono hB.size)⟩
            · have HI : Hid (hits v L ((pre ++ [((xv, .slice ax xl.length cx, xl) : Itm)]).map Itm.proj) = m + 1) := by
                show _ = _
                rw [List.map_append, List.map_cons, List.map_nil, hits_snoc, HM.out, if_pos (by show ((xv == v) && (xl == L)) = true; rw [hxv, hsl]; rfl)]
              rw [hsl] at HS
              clear h3 hp ho
              gi_wp2_with fail
              refine ⟨trivial, ?_⟩
              refine ((callsIn_wide.2 HS).inRound l).mono ?_
              rintro e w9 ⟨rfl, bel9⟩
              have g09 := (bel9.cell (p := ⟨wr.heap.size, 0, none⟩) HNB.out).trans g0
              have g19 := (bel9.frozen (p := ⟨wr.heap.size, 0, none⟩) HNB.out).trans g1
              gi_wp2
              have K9 : Mid w7.heap.size w8.heap.size w9 (w9.setCell ⟨wr.heap.size, 0, none⟩ (.int .i64 (↑m + 1))) := ⟨by simp [World.setCell], fun k h1 _ => Below.heap_setCell _ _ _ _ (by show k ≠ wr.heap.size; have := HLO.out; omega)⟩
              exact ⟨(KeepsOthers.of_grownBy (grown_of_below bel9) (fun _ _ e _ => by cases e)).trans (KeepsOthers.setCell _ _ _), (Mid.of_below bel9 HSZ.out).trans K9, ⟨by rw [HI.out]; exact World.cell?_setCell_same' _ _ _ (by rw [g09]; rfl), by rw [World.frozen?_setCell]; exact g19, by rw [World.size_setCell]; exact Nat.le_trans hsw bel9.size⟩, (hB.trans (bel9.mono hB.size)).setCell (p := ⟨wr.heap.size, 0, none⟩) (Nat.le_refl _) _⟩
        · gi_wp2_with fail
          refine ⟨trivial, ?_⟩
          refine ((callsIn_wide.2 (holds01_any (.slice am ms.length cm) (.slice aa z0.length ca) ms z0 W RM9.out RA9.out F0.out)).inRound l).mono ?_
          rintro e wx ⟨rfl, hwx⟩
          rw [hwx, h0]
          clear hwx wx
          gi_wp2_with fail
          refine ⟨trivial, ?_⟩
          refine ((callsIn_wide.2 (holds01_any (.slice am ms.length cm) (.slice ab z1.length cb) ms z1 W RM9.out RB9.out F1.out)).inRound l).mono ?_
          rintro e wx ⟨rfl, hwx⟩
          rw [hwx, h1]
          clear hwx wx
          gi_wp2_with fail
          refine ⟨trivial, ?_⟩
          refine ((callsIn_wide.2 (holds01_any (.slice am ms.length cm) (.slice ax xl.length cx) ms xl W RM9.out RX9.out h3.2)).inRound l).mono ?_
          rintro e wx ⟨rfl, hwx⟩
          rw [hwx, h3.1 h0 h1]
          clear hwx wx
          cases hxv : (xv == v)
          · have HI : Hid (hits v L ((pre ++ [((xv, .slice ax xl.length cx, xl) : Itm)]).map Itm.proj) = m) := by
              show _ = _
              rw [List.map_append, List.map_cons, List.map_nil, hits_snoc, HM.out, if_neg (by show ¬ ((xv == v) && (xl == L)) = true; rw [hxv]; simp), Nat.add_zero]
            clear h3 hp ho
            gi_wp2_with fail
            refine ⟨trivial, ?_⟩
            gi_wp2
            exact ⟨KeepsOthers.refl _, Mid.refl _ _ _, ⟨by rw [HI.out]; exact g0, g1, hsw⟩, hB⟩
          · have HS := same01_any (.slice ax xl.length cx) (.slice a3 L.length c3) xl L W RX9.out RR9.out
            cases hsl : (xl == L)
            · have HI : Hid (hits v L ((pre ++ [((xv, .slice ax xl.length cx, xl) : Itm)]).map Itm.proj) = m) := by
                show _ = _
                rw [List.map_append, List.map_cons, List.map_nil, hits_snoc, HM.out, if_neg (by show ¬ ((xv == v) && (xl == L)) = true; rw [hsl]; simp), Nat.add_zero]
              rw [hsl] at HS
              clear h3 hp ho
              gi_wp2_with fail
              refine ⟨trivial, ?_⟩
              refine ((callsIn_wide.2 HS).inRound l).mono ?_
              rintro e w9 ⟨rfl, bel9⟩
              gi_wp2
              exact ⟨KeepsOthers.of_grownBy (grown_of_below bel9) (fun _ _ e _ => by cases e), Mid.of_below bel9 HSZ.out, ⟨by rw [HI.out]; exact (bel9.cell (p := ⟨wr.heap.size, 0, none⟩) HNB.out).trans g0, (bel9.frozen (p := ⟨wr.heap.size, 0, none⟩) HNB.out).trans g1, Nat.le_trans hsw bel9.size⟩, hB.trans (bel9.mono hB.size)⟩
            · have HI : Hid (hits v L ((pre ++ [((xv, .slice ax xl.length cx, xl) : Itm)]).map Itm.proj) = m + 1) := by
                show _ = _
                rw [List.map_append, List.map_cons, List.map_nil, hits_snoc, HM.out, if_pos (by show ((xv == v) && (xl == L)) = true; rw [hxv, hsl]; rfl)]
              rw [hsl] at HS
              clear h3 hp ho
              gi_wp2_with fail
              refine ⟨trivial, ?_⟩
              refine ((callsIn_wide.2 HS).inRound l).mono ?_
              rintro e w9 ⟨rfl, bel9⟩
              have g09 := (bel9.cell (p := ⟨wr.heap.size, 0, none⟩) HNB.out).trans g0
              have g19 := (bel9.frozen (p := ⟨wr.heap.size, 0, none⟩) HNB.out).trans g1
              gi_wp2
              have K9 : Mid w7.heap.size w8.heap.size w9 (w9.setCell ⟨wr.heap.size, 0, none⟩ (.int .i64 (↑m + 1))) := ⟨by simp [World.setCell], fun k h1 _ => Below.heap_setCell _ _ _ _ (by show k ≠ wr.heap.size; have := HLO.out; omega)⟩
              exact ⟨(KeepsOthers.of_grownBy (grown_of_below bel9) (fun _ _ e _ => by cases e)).trans (KeepsOthers.setCell _ _ _), (Mid.of_below bel9 HSZ.out).trans K9, ⟨by rw [HI.out]; exact World.cell?_setCell_same' _ _ _ (by rw [g09]; rfl), by rw [World.frozen?_setCell]; exact g19, by rw [World.size_setCell]; exact Nat.le_trans hsw bel9.size⟩, (hB.trans (bel9.mono hB.size)).setCell (p := ⟨wr.heap.size, 0, none⟩) (Nat.le_refl _) _⟩
      case done =>
        rintro D ys W hD hS ⟨⟨g0, g1, hsw⟩, hB⟩ hK
        have hpos : 0 < hits v L (ys.map Itm.proj) := by rw [hS]; exact hits_pos L4.out
        generalize hits v L (ys.map Itm.proj) = m at *
        have d9 : decide ((0 : Int) < ↑m) = true := decide_eq_true (by omega)
        have cA9 : W.cell? ⟨w.heap.size, 0, none⟩ = some (.slice aa z0.length ca) := (hB.cell (p := ⟨w.heap.size, 0, none⟩) (by show w.heap.size < _; omega)).trans cA3
        have cB9 : W.cell? ⟨w.heap.size + 1, 0, none⟩ = some (.slice ab z1.length cb) := (hB.cell (p := ⟨w.heap.size + 1, 0, none⟩) (by show w.heap.size + 1 < _; omega)).trans cB3
        have cV9 : W.cell? ⟨w.heap.size + 1 + 1, 0, none⟩ = some (.int .i64 v) := (hB.cell (p := ⟨w.heap.size + 1 + 1, 0, none⟩) (by show w.heap.size + 1 + 1 < _; omega)).trans cV3
        have cM9 : W.cell? ⟨w.heap.size + 1 + 1 + 1, 0, none⟩ = some (.slice am ms.length cm) := (hB.cell (p := ⟨w.heap.size + 1 + 1 + 1, 0, none⟩) (by show w.heap.size + 1 + 1 + 1 < _; omega)).trans cM3
        have cR9 : W.cell? ⟨w.heap.size + 1 + 1 + 1 + 1, 0, none⟩ = some (.bool false) := (hB.cell (p := ⟨w.heap.size + 1 + 1 + 1 + 1, 0, none⟩) (by show w.heap.size + 1 + 1 + 1 + 1 < _; omega)).trans cR3
        have fR9 : W.frozen? ⟨w.heap.size + 1 + 1 + 1 + 1, 0, none⟩ = false := (hB.frozen (p := ⟨w.heap.size + 1 + 1 + 1 + 1, 0, none⟩) hr5).trans fR3
        go_wp2
        have k4 := World.cell?_setCell_same' W ⟨w.heap.size + 1 + 1 + 1 + 1, 0, none⟩ (.bool true) (by rw [cR9]; rfl)
        have hK' := (KeepsOthers.setCell W ⟨w.heap.size + 1 + 1 + 1 + 1, 0, none⟩ (.bool true)).same D _ hK rfl
        refine ⟨by simp, .inl ⟨_, _, rfl, run_takeDeferred hK', ?_⟩⟩
        have k5 := cell_kept k4 (grownBy_putObj' _ D (.deferred none)) (fun r e => by cases e; exact ⟨_, hK', rfl⟩)
        have bb : Below w.heap.size w (W.setCell ⟨w.heap.size + 1 + 1 + 1 + 1, 0, none⟩ (.bool true)) := (BW3.out.trans (hB.mono BW3.out.size)).setCell (p := ⟨w.heap.size + 1 + 1 + 1 + 1, 0, none⟩) (by show w.heap.size ≤ w.heap.size + 1 + 1 + 1 + 1; omega) _
        exact ⟨.bool true, by simp [results, Try.f5, go_sem, k5], rfl, bb.trans (belowK_b (w := w) (Nat.le_refl _) _ D _ _ (by omega) hK' rfl rfl)⟩
      case stop =>
        rintro D c pre W hD hSp h hK
        exact h.elim

end Go.Proofs.Ythplkllphpnaoab

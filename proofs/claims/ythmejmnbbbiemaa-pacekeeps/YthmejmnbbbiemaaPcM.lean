/-
  A Pace in memory: its functions, walked.
  KEEP: putObj alloc same block size os tape output mono lt own new keep conf rest clr below
-/
import Derived.Test.YthmejmnbbbiemaaPcS
import Derived.Test.YthmejmnbbbiemaaPcQ
import Derived.Deep.QuietTactic
import Derived.BigQuiet
import Derived.Deep.RegionHeld
set_option linter.unusedSimpArgs false
set_option linter.unusedVariables false
namespace Go.Proofs.Ythmejmnbbbiemaa
open Go Go.RowKit

/-- what a step leaves: only the blocks from s on, n of them, turn -/
structure Mp (s n : Nat) (W W' : World) : Prop where
  os : W'.os = W.os
  tape : W'.tape = W.tape
  output : W'.output = W.output
  size : W.heap.size ≤ W'.heap.size
  block : ∀ k, k < W.heap.size → (k < s ∨ s + n ≤ k) → W'.heap[k]? = W.heap[k]?
  kept : ∀ (k : Nat) (o : Obj), W.heap[k]? = some o → o.isCells = false → W'.heap[k]? = some o
theorem Mp.refl (s n : Nat) (W : World) : Mp s n W W := ⟨rfl, rfl, rfl, Nat.le_refl _, fun _ _ _ => rfl, fun _ _ h _ => h⟩
theorem Mp.trans {s n : Nat} {A B C : World} (h : Mp s n A B) (k : Mp s n B C) : Mp s n A C :=
  ⟨k.os.trans h.os, k.tape.trans h.tape, k.output.trans h.output, Nat.le_trans h.size k.size, fun i hi hn => (k.block i (Nat.lt_of_lt_of_le hi h.size) hn).trans (h.block i hi hn), fun i o ho hc => k.kept i o (h.kept i o ho hc) hc⟩
theorem Mp.below {s n : Nat} {A B : World} (h : Below A.heap.size A B) : Mp s n A B := ⟨h.os, h.tape, h.output, h.size, fun k hk _ => h.block k hk, fun k o ho _ => (h.block k (Array.getElem?_eq_some_iff.1 ho).1).trans ho⟩
theorem Mp.set {s n : Nat} (W : World) (D k : Nat) (u : Value) (h1 : s ≤ D) (h2 : D < s + n) : Mp s n W (W.setCell ⟨D, k, none⟩ u) :=
  have hs := (KeepsOthers.setCell W ⟨D, k, none⟩ u)
  ⟨rfl, rfl, rfl, hs.size, fun i _ hi => Below.heap_setCell _ _ _ _ (by show i ≠ D; omega), fun i o ho hc => hs.same i o ho hc⟩
theorem Mp.others {s n : Nat} {W W' : World} (h : Mp s n W W') : KeepsOthers W W' := ⟨h.size, fun k o ho hc => h.kept k o ho hc⟩
theorem Mp.low {s n N : Nat} {w A B : World} (h : Mp s n A B) (hb : Below N w A) (hN : N ≤ A.heap.size) (hs : N ≤ s) : Below N w B :=
  ⟨h.os.trans hb.os, h.tape.trans hb.tape, h.output.trans hb.output, Nat.le_trans hb.size h.size, fun k hk => (h.block k (by omega) (by omega)).trans (hb.block k hk)⟩
theorem Bo.mp {s n : Nat} {W W' : World} {D : Nat} {t : TypeId} {v : Value} (h : Bo W D t v) (hm : Mp s n W W') (hD : D < s ∨ s + n ≤ D) : Bo W' D t v := (hm.block D h.lt hD).trans h
theorem Cb.mp {s n : Nat} {W W' : World} {D : Nat} {b f g : Int} {d : Nat} {p u : Int} (h : Cb W D b f g d p u) (hm : Mp s n W W') (hD : D < s ∨ s + n ≤ D) : Cb W' D b f g d p u := (hm.block D h.lt hD).trans h
theorem below_drewN13 (W : World) (k : Nat) : Below W.heap.size W (W.drewN k) := ⟨rfl, rfl, rfl, Nat.le_refl _, fun _ _ => rfl⟩

/-- the three functions of a Pace -/
def fConf (s : Nat) : Value := .func (.func 13) #[] #[.pointer (some ⟨s, 0, none⟩)]
def fRest (s : Nat) : Value := .func (.func 12) #[] #[.pointer (some ⟨s, 0, none⟩), .pointer (some ⟨s + 3, 0, none⟩), .pointer (some ⟨s + 1, 0, none⟩), .pointer (some ⟨s + 2, 0, none⟩)]
def fClr (s : Nat) : Value := .func (.func 12) #[] #[.pointer (some ⟨s, 0, none⟩), .pointer (some ⟨s + 6, 0, none⟩), .pointer (some ⟨s + 4, 0, none⟩), .pointer (some ⟨s + 5, 0, none⟩)]
/-- a Pace in memory: the config's box C; from s on: the count, Restart's three boxes, Clear's three -/
structure Pz (W : World) (C s : Nat) (b f g : Int) (x : Ps) : Prop where
  cb : ∃ d p u, Cb W C b f g d p u
  lt : C < s
  kb : Bo W s 3 (.int .i64 x.k)
  w1 : Bo W (s + 1) 38 (.func (.func 14) #[] #[.pointer (some ⟨C, 0, none⟩)])
  t1 : Bo W (s + 2) 3 (.int .i64 x.t1)
  l1 : Bo W (s + 3) 3 (.int .i64 x.l1)
  w2 : Bo W (s + 4) 38 (.func (.func 15) #[] #[.pointer (some ⟨C, 0, none⟩)])
  t2 : Bo W (s + 5) 3 (.int .i64 x.t2)
  l2 : Bo W (s + 6) 3 (.int .i64 x.l2)
theorem Pz.size {W : World} {C s : Nat} {b f g : Int} {x : Ps} (h : Pz W C s b f g x) : s + 7 ≤ W.heap.size := by have := h.l2.lt; omega
theorem Pz.below {W W' : World} {C s : Nat} {b f g : Int} {x : Ps} (h : Pz W C s b f g x) (hb : Below W.heap.size W W') : Pz W' C s b f g x := by
  obtain ⟨d, p, u, hc⟩ := h.cb
  exact ⟨⟨d, p, u, hc.on hb hc.lt⟩, h.lt, h.kb.below hb, h.w1.below hb, h.t1.below hb, h.l1.below hb, h.w2.below hb, h.t2.below hb, h.l2.below hb⟩
theorem Pz.mp {r n : Nat} {W W' : World} {C s : Nat} {b f g : Int} {x : Ps} (h : Pz W C s b f g x) (hm : Mp r n W W') (hC : C < r ∨ r + n ≤ C) (hs : s + 7 ≤ r ∨ r + n ≤ s) : Pz W' C s b f g x := by
  obtain ⟨d, p, u, hc⟩ := h.cb
  exact ⟨⟨d, p, u, hc.mp hm hC⟩, h.lt, h.kb.mp hm (by omega), h.w1.mp hm (by omega), h.t1.mp hm (by omega), h.l1.mp hm (by omega), h.w2.mp hm (by omega), h.t2.mp hm (by omega), h.l2.mp hm (by omega)⟩
theorem Pz.grown {W W' : World} {C s : Nat} {b f g : Int} {x : Ps} {row : Option Nat} (h : Pz W C s b f g x) (hg : W.grownBy W' row) (hr : ∀ r, row = some r → ∃ o : Obj, W.heap[r]? = some o ∧ o.isCells = false) : Pz W' C s b f g x := by
  obtain ⟨d, p, u, hc⟩ := h.cb
  have hc' : Cb W' C b f g d p u := by
    refine (hg.block C hc.lt ?_).trans hc
    intro e
    obtain ⟨o, ho, hcc⟩ := hr C e.symm
    unfold Cb at hc
    rw [hc] at ho
    cases ho
    simp [Obj.isCells] at hcc
  exact ⟨⟨d, p, u, hc'⟩, h.lt, h.kb.grown hg hr, h.w1.grown hg hr, h.t1.grown hg hr, h.l1.grown hg hr, h.w2.grown hg hr, h.t2.grown hg hr, h.l2.grown hg hr⟩

theorem conf_any (W : World) (C s : Nat) (b f g : Int) (x : Ps) (h : Pz W C s b f g x) (hk0 : 0 ≤ x.k) (hk : x.k < 1152921504606846976) :
    Calls Try.prog 13 #[.pointer (some ⟨s, 0, none⟩)] W fun e w' => e = .returned (.tuple #[]) ∧ Pz w' C s b f g x.conf ∧ Mp s 7 W w' := by
  have c0 := h.kb.c
  have f0 := h.kb.f
  have HH : Hid (Pz W C s b f g x) := h
  clear h
  go_enter Try.func13, Try.ntmps13
  go_wp2
  refine bodyPost_end (results_none rfl _ _ _) rfl ?_
  have h := HH.out
  refine ⟨rfl, ⟨?_, h.lt, h.kb.set _, h.w1.other (by omega) _ _, h.t1.other (by omega) _ _, h.l1.other (by omega) _ _, h.w2.other (by omega) _ _, h.t2.other (by omega) _ _, h.l2.other (by omega) _ _⟩, Mp.set _ _ _ _ (by omega) (by omega)⟩
  obtain ⟨d, p, u, hc⟩ := h.cb
  exact ⟨d, p, u, (Below.heap_setCell _ _ _ _ (by show C ≠ s; have := h.lt; omega)).trans hc⟩

set_option maxHeartbeats 1600000 in
theorem want1_any (W : World) (C : Nat) (b f g : Int) (d : Nat) (p u t : Int) (h : Cb W C b f g d p u) (ht0 : 0 ≤ t) (ht : t ≤ 1152921504606846976) (hw0 : 0 ≤ b * lubI (t + 1)) (hw : b * lubI (t + 1) ≤ 2305843009213693952) :
    Calls Try.prog 14 #[.int .i64 t, .pointer (some ⟨C, 0, none⟩)] W fun e w' => e = .returned (.int .i64 (b * lubI (t + 1))) ∧ ∃ n, w' = W.drewN n := by
  have c0 := h.cells.1
  have HL : Hid (∀ W, Calls Try.prog 9 #[.int .i64 (t + 1)] W fun e w' => e = .returned (.int .i64 (lubI (t + 1))) ∧ w' = W) := fun W => luby_any (t + 1) W (by omega) (by omega)
  clear h
  generalize lubI (t + 1) = y at *
  go_enter Try.func14, Try.ntmps14
  go_wp2
  go_quiet ((go_at_call 9; exact Calls.quiet_of_same (HL.out _)))
  go_wp2
  go_ret
  exact ⟨ret_int13 (by first | rfl | (unfold wrap64; omega)), _, rfl⟩
theorem want2_any (W : World) (C : Nat) (b f g : Int) (d : Nat) (p u t : Int) (h : Cb W C b f g d p u) (hw0 : 0 ≤ t * g) (hw1 : t * g ≤ 2305843009213693952) (hf0 : 0 ≤ f) (hf : f ≤ 1048576) :
    Calls Try.prog 15 #[.int .i64 t, .pointer (some ⟨C, 0, none⟩)] W fun e w' => e = .returned (.int .i64 (f + t * g)) ∧ w' = W := by
  have c1 := h.cells.2.1
  have c2 := h.cells.2.2.1
  clear h
  go_enter Try.func15, Try.ntmps15
  go_wp2
  go_ret
  exact ⟨ret_int13 (by first | rfl | (unfold wrap64; omega)), rfl⟩

theorem below_drew13 (W : World) : Below W.heap.size W W.drew := (Below.refl _ _).drew
theorem Pz.rested {W : World} {C s : Nat} {b f g : Int} {x : Ps} (h : Pz W C s b f g x) (hr : x.r b = true) :
    Pz ((W.setCell ⟨s + 2, 0, none⟩ (.int .i64 (x.t1 + 1))).setCell ⟨s + 3, 0, none⟩ (.int .i64 x.k)).drew C s b f g (x.rest b) ∧ Mp s 7 W ((W.setCell ⟨s + 2, 0, none⟩ (.int .i64 (x.t1 + 1))).setCell ⟨s + 3, 0, none⟩ (.int .i64 x.k)).drew := by
  obtain ⟨d, p, u, hc⟩ := h.cb
  have hlt := h.lt
  refine ⟨Pz.below ?_ (below_drew13 _), ((Mp.set _ _ _ _ (by omega) (by omega)).trans (Mp.set _ _ _ _ (by omega) (by omega))).trans (Mp.below (below_drew13 _))⟩
  rw [Ps.rest_yes hr]
  exact ⟨⟨d, p, u, (Below.heap_setCell _ _ _ _ (by show C ≠ s + 3; omega)).trans ((Below.heap_setCell _ _ _ _ (by show C ≠ s + 2; omega)).trans hc)⟩, h.lt, (h.kb.other (by omega) _ _).other (by omega) _ _, (h.w1.other (by omega) _ _).other (by omega) _ _, (h.t1.set _).other (by omega) _ _, (h.l1.other (by omega) _ _).set _, (h.w2.other (by omega) _ _).other (by omega) _ _, (h.t2.other (by omega) _ _).other (by omega) _ _, (h.l2.other (by omega) _ _).other (by omega) _ _⟩
theorem Pz.cleared {W : World} {C s : Nat} {b f g : Int} {x : Ps} (h : Pz W C s b f g x) (hr : x.c f g = true) :
    Pz ((W.setCell ⟨s + 5, 0, none⟩ (.int .i64 (x.t2 + 1))).setCell ⟨s + 6, 0, none⟩ (.int .i64 x.k)).drew C s b f g (x.clr f g) ∧ Mp s 7 W ((W.setCell ⟨s + 5, 0, none⟩ (.int .i64 (x.t2 + 1))).setCell ⟨s + 6, 0, none⟩ (.int .i64 x.k)).drew := by
  obtain ⟨d, p, u, hc⟩ := h.cb
  have hlt := h.lt
  refine ⟨Pz.below ?_ (below_drew13 _), ((Mp.set _ _ _ _ (by omega) (by omega)).trans (Mp.set _ _ _ _ (by omega) (by omega))).trans (Mp.below (below_drew13 _))⟩
  rw [Ps.clr_yes hr]
  exact ⟨⟨d, p, u, (Below.heap_setCell _ _ _ _ (by show C ≠ s + 6; omega)).trans ((Below.heap_setCell _ _ _ _ (by show C ≠ s + 5; omega)).trans hc)⟩, h.lt, (h.kb.other (by omega) _ _).other (by omega) _ _, (h.w1.other (by omega) _ _).other (by omega) _ _, (h.t1.other (by omega) _ _).other (by omega) _ _, (h.l1.other (by omega) _ _).other (by omega) _ _, (h.w2.other (by omega) _ _).other (by omega) _ _, (h.t2.set _).other (by omega) _ _, (h.l2.other (by omega) _ _).set _⟩

set_option maxHeartbeats 1600000 in
theorem rest_any (W : World) (C s : Nat) (b f g : Int) (x : Ps) (h : Pz W C s b f g x) (hn : Pn b f g x) :
    Calls Try.prog 12 #[.pointer (some ⟨s, 0, none⟩), .pointer (some ⟨s + 3, 0, none⟩), .pointer (some ⟨s + 1, 0, none⟩), .pointer (some ⟨s + 2, 0, none⟩)] W fun e w' => e = .returned (.bool (x.r b)) ∧ Pz w' C s b f g (x.rest b) ∧ Mp s 7 W w' := by
  have c0 := h.kb.c
  have c1 := h.w1.c
  have c2 := h.t1.c
  have c3 := h.l1.c
  have f2 := h.t1.f
  have f3 := h.l1.f
  have HH : Hid (Pz W C s b f g x) := h
  obtain ⟨d, p, u, hc⟩ := h.cb
  have hw := hn.w1r
  have hb1 := hn.b1
  have ht := hn.t1r
  have ht0 := hn.t1
  have hl := hn.l1
  have hlk := hn.l1k
  have hkx := hn.kx
  unfold Ps.w1 at hw
  have HW : Hid (∀ n, Calls Try.prog 14 #[.int .i64 x.t1, .pointer (some ⟨C, 0, none⟩)] (W.drewN n) fun e w' => e = .returned (.int .i64 (b * lubI (x.t1 + 1))) ∧ ∃ m, w' = (W.drewN n).drewN m) := fun n =>
    want1_any (W.drewN n) C b f g d p u x.t1 (hc.on (below_drewN13 W n) hc.lt) ht0 (by omega) (by omega) (by omega)
  have HR : Hid (x.r b = decide (b * lubI (x.t1 + 1) ≤ x.k - x.l1)) := rfl
  clear h hc hn
  generalize b * lubI (x.t1 + 1) = y at *
  go_enter Try.func12, Try.ntmps12
  go_wp2
  go_quiet ((go_at_call 14; exact Calls.quiet_of (HW.out _)))
  by_cases hq : y ≤ x.k - x.l1
  · have HT : Hid (x.r b = true) := by show _ = _; rw [HR.out]; exact decide_eq_true hq
    have HM1 : Hid (Mp s 7 W (W.drewN nq)) := Mp.below (below_drewN13 W nq)
    have HH1 : Hid (Pz (W.drewN nq) C s b f g x) := HH.out.below (below_drewN13 W nq)
    clear c0 c1 c2 c3 f2 f3 HW HH
    generalize W.drewN nq = W1 at *
    have c0 := HH1.out.kb.c
    have c2 := HH1.out.t1.c
    have c3 := HH1.out.l1.c
    have f2 := HH1.out.t1.f
    have f3 := HH1.out.l1.f
    have hwr : IntKind.i64.wrap (x.t1 + 1) = x.t1 + 1 := by rw [IntKind.wrap_i64]; omega
    go_wp2
    go_region_with (fail)
    all_goals
      go_wp2
      go_ret
      exact ⟨ret_bool13 HT.out.symm, (HH1.out.rested HT.out).1, HM1.out.trans (HH1.out.rested HT.out).2⟩
  · have HT : Hid (x.r b = false) := by show _ = _; rw [HR.out]; exact decide_eq_false hq
    go_wp2
    go_ret
    have bd := below_drewN13 W nq
    refine ⟨ret_bool13 HT.out.symm, ?_, Mp.below bd⟩
    rw [Ps.rest_no HT.out]
    exact HH.out.below bd

set_option maxHeartbeats 1600000 in
theorem clr_any (W : World) (C s : Nat) (b f g : Int) (x : Ps) (h : Pz W C s b f g x) (hn : Pn b f g x) :
    Calls Try.prog 12 #[.pointer (some ⟨s, 0, none⟩), .pointer (some ⟨s + 6, 0, none⟩), .pointer (some ⟨s + 4, 0, none⟩), .pointer (some ⟨s + 5, 0, none⟩)] W fun e w' => e = .returned (.bool (x.c f g)) ∧ Pz w' C s b f g (x.clr f g) ∧ Mp s 7 W w' := by
  have c0 := h.kb.c
  have c1 := h.w2.c
  have c2 := h.t2.c
  have c3 := h.l2.c
  have f2 := h.t2.f
  have f3 := h.l2.f
  have HH : Hid (Pz W C s b f g x) := h
  obtain ⟨d, p, u, hc⟩ := h.cb
  have hw := hn.w2r
  have hf1 := hn.f1
  have hf2 := hn.f2
  have ht := hn.t2r
  have ht0 := hn.t2
  have hl := hn.l2
  have hlk := hn.l2k
  have hkx := hn.kx
  unfold Ps.w2 at hw
  have HW : Hid (∀ n, Calls Try.prog 15 #[.int .i64 x.t2, .pointer (some ⟨C, 0, none⟩)] (W.drewN n) fun e w' => e = .returned (.int .i64 (f + x.t2 * g)) ∧ w' = W.drewN n) := fun n =>
    want2_any (W.drewN n) C b f g d p u x.t2 (hc.on (below_drewN13 W n) hc.lt) (by omega) (by omega) (by omega) (by omega)
  have HR : Hid (x.c f g = decide (f + x.t2 * g ≤ x.k - x.l2)) := rfl
  clear h hc hn
  generalize f + x.t2 * g = y at *
  go_enter Try.func12, Try.ntmps12
  go_wp2
  go_quiet ((go_at_call 15; exact Calls.quiet_of_same (HW.out _)))
  by_cases hq : y ≤ x.k - x.l2
  · have HT : Hid (x.c f g = true) := by show _ = _; rw [HR.out]; exact decide_eq_true hq
    have HM1 : Hid (Mp s 7 W (W.drewN nq)) := Mp.below (below_drewN13 W nq)
    have HH1 : Hid (Pz (W.drewN nq) C s b f g x) := HH.out.below (below_drewN13 W nq)
    clear c0 c1 c2 c3 f2 f3 HW HH
    generalize W.drewN nq = W1 at *
    have c0 := HH1.out.kb.c
    have c2 := HH1.out.t2.c
    have c3 := HH1.out.l2.c
    have f2 := HH1.out.t2.f
    have f3 := HH1.out.l2.f
    have hwr : IntKind.i64.wrap (x.t2 + 1) = x.t2 + 1 := by rw [IntKind.wrap_i64]; omega
    go_wp2
    go_region_with (fail)
    all_goals
      go_wp2
      go_ret
      exact ⟨ret_bool13 HT.out.symm, (HH1.out.cleared HT.out).1, HM1.out.trans (HH1.out.cleared HT.out).2⟩
  · have HT : Hid (x.c f g = false) := by show _ = _; rw [HR.out]; exact decide_eq_false hq
    go_wp2
    go_ret
    have bd := below_drewN13 W nq
    refine ⟨ret_bool13 HT.out.symm, ?_, Mp.below bd⟩
    rw [Ps.clr_no HT.out]
    exact HH.out.below bd
end Go.Proofs.Ythmejmnbbbiemaa

/-
  The document's Pace, walked.
  KEEP: putObj alloc same block size os tape output mono lt own new keep conf rest clr below grown
-/
import Derived.Test.YthcbpdnaocpleaaPcM
import Derived.Lib.SmallJoins
set_option linter.unusedSimpArgs false
set_option linter.unusedVariables false
namespace Go.Proofs.Ythcbpdnaocpleaa
open Go Go.RowKit

/-- the document's Pace in memory -/
def Rz (W : World) (r : Nat) (b f g : Int) (d : Nat) (p u : Int) (x : Ps) : Prop :=
  W.heap[r]? = some (.cells #[.int .i64 b, .int .i64 f, .int .i64 g, .float .f64 d, .int .i64 p, .int .i64 u, .int .i64 (x.k - x.l1), .int .i64 x.t1, .int .i64 (x.k - x.l2), .int .i64 x.t2] 54 (0, 0))
theorem Rz.lt {W : World} {r : Nat} {b f g : Int} {d : Nat} {p u : Int} {x : Ps} (h : Rz W r b f g d p u x) : r < W.heap.size := by unfold Rz at h; exact (Array.getElem?_eq_some_iff.1 h).1
theorem Rz.below {W W' : World} {r : Nat} {b f g : Int} {d : Nat} {p u : Int} {x : Ps} (h : Rz W r b f g d p u x) (hb : Below W.heap.size W W') : Rz W' r b f g d p u x := (hb.block _ h.lt).trans h
theorem Rz.mp {s n : Nat} {W W' : World} {r : Nat} {b f g : Int} {d : Nat} {p u : Int} {x : Ps} (h : Rz W r b f g d p u x) (hm : Mp s n W W') (hr : r < s ∨ s + n ≤ r) : Rz W' r b f g d p u x := (hm.block r h.lt hr).trans h
theorem Rz.fz {W : World} {r : Nat} {b f g : Int} {d : Nat} {p u : Int} {x : Ps} (h : Rz W r b f g d p u x) : ∀ i, W.frozen? ⟨r, i, none⟩ = false := fun i => by unfold Rz at h; simp [World.frozen?, h]
theorem Rz.cells {W : World} {r : Nat} {b f g : Int} {d : Nat} {p u : Int} {x : Ps} (h : Rz W r b f g d p u x) : W.cell? ⟨r, 0, none⟩ = some (.int .i64 b) ∧ W.cell? ⟨r, 1, none⟩ = some (.int .i64 f) ∧ W.cell? ⟨r, 2, none⟩ = some (.int .i64 g) ∧ W.cell? ⟨r, 6, none⟩ = some (.int .i64 (x.k - x.l1)) ∧ W.cell? ⟨r, 7, none⟩ = some (.int .i64 x.t1) ∧ W.cell? ⟨r, 8, none⟩ = some (.int .i64 (x.k - x.l2)) ∧ W.cell? ⟨r, 9, none⟩ = some (.int .i64 x.t2) :=
  ⟨cell_at h rfl, cell_at h rfl, cell_at h rfl, cell_at h rfl, cell_at h rfl, cell_at h rfl, cell_at h rfl⟩
theorem Rz.set2 {W : World} {r : Nat} {b f g : Int} {d : Nat} {p u : Int} {x y : Ps} (h : Rz W r b f g d p u x) (i j : Nat) (v v' : Value)
    (e : ((#[.int .i64 b, .int .i64 f, .int .i64 g, .float .f64 d, .int .i64 p, .int .i64 u, .int .i64 (x.k - x.l1), .int .i64 x.t1, .int .i64 (x.k - x.l2), .int .i64 x.t2] : Array Value).setIfInBounds i v).setIfInBounds j v' = #[.int .i64 b, .int .i64 f, .int .i64 g, .float .f64 d, .int .i64 p, .int .i64 u, .int .i64 (y.k - y.l1), .int .i64 y.t1, .int .i64 (y.k - y.l2), .int .i64 y.t2]) :
    Rz ((W.setCell ⟨r, i, none⟩ v).setCell ⟨r, j, none⟩ v') r b f g d p u y ∧ Mp r 1 W ((W.setCell ⟨r, i, none⟩ v).setCell ⟨r, j, none⟩ v') := by
  refine ⟨?_, (Mp.set _ _ _ _ (by omega) (by omega)).trans (Mp.set _ _ _ _ (by omega) (by omega))⟩
  have h1 := Joins.block_setCell (i := i) h v
  have h2 := Joins.block_setCell (i := j) h1 v'
  unfold Rz
  rw [h2, e]

theorem rConf_any (W : World) (r : Nat) (b f g : Int) (d : Nat) (p u : Int) (x : Ps) (h : Rz W r b f g d p u x) (hn : Pn b f g x) (hk : x.k < 1152921504606846976) :
    Calls Try.prog 28 #[.pointer (some ⟨r, 0, none⟩)] W fun e w' => e = .returned (.tuple #[]) ∧ Rz w' r b f g d p u x.conf ∧ Mp r 1 W w' := by
  obtain ⟨c0, c1, c2, c6, c7, c8, c9⟩ := h.cells
  have fz := h.fz
  have HH : Hid (Rz W r b f g d p u x) := h
  have q1 := hn.l1; have q2 := hn.l1k; have q3 := hn.l2; have q4 := hn.l2k
  clear h hn
  go_enter Try.func28, Try.ntmps28
  go_wp2
  refine bodyPost_end (results_none rfl _ _ _) rfl ⟨rfl, ?_⟩
  refine HH.out.set2 6 8 _ _ ?_
  have e1 : x.conf.k - x.conf.l1 = x.k - x.l1 + 1 := by show x.k + 1 - x.l1 = _; omega
  have e2 : x.conf.k - x.conf.l2 = x.k - x.l2 + 1 := by show x.k + 1 - x.l2 = _; omega
  rw [e1, e2]; rfl

set_option maxHeartbeats 1600000 in
theorem rRest_any (W : World) (r : Nat) (b f g : Int) (d : Nat) (p u : Int) (x : Ps) (h : Rz W r b f g d p u x) (hn : Pn b f g x) :
    Calls Try.prog 29 #[.pointer (some ⟨r, 0, none⟩)] W fun e w' => e = .returned (.bool (x.r b)) ∧ Rz w' r b f g d p u (x.rest b) ∧ Mp r 1 W w' := by
  obtain ⟨c0, c1, c2, c6, c7, c8, c9⟩ := h.cells
  have fz := h.fz
  have HH : Hid (Rz W r b f g d p u x) := h
  have q1 := hn.l1; have q2 := hn.l1k; have q3 := hn.l2; have q4 := hn.l2k; have q5 := hn.kx
  have hw := hn.w1r
  have ht := hn.t1r
  have ht0 := hn.t1
  have hb1 := hn.b1
  have hb2 := hn.b2
  unfold Ps.w1 at hw
  have HL : Hid (∀ W, Calls Try.prog 13 #[.int .i64 (x.t1 + 1)] W fun e w' => e = .returned (.int .i64 (lubI (x.t1 + 1))) ∧ w' = W) := fun W => rLuby_any (x.t1 + 1) W (by omega) (by omega)
  have HR : Hid (x.r b = decide (b * lubI (x.t1 + 1) ≤ x.k - x.l1)) := rfl
  clear h hn
  generalize lubI (x.t1 + 1) = z at *
  go_enter Try.func29, Try.ntmps29
  go_wp2
  go_quiet ((go_at_call 13; exact Calls.quiet_of_same (HL.out _)))
  have hwz : wrap64 (b * z) = b * z := by unfold wrap64; omega
  by_cases hq : b * z ≤ x.k - x.l1
  · have HT : Hid (x.r b = true) := by show _ = _; rw [HR.out]; exact decide_eq_true hq
    have HM1 : Hid (Mp r 1 W (W.drewN nq)) := Mp.below (below_drewN13 W nq)
    have HH1 : Hid (Rz (W.drewN nq) r b f g d p u x) := HH.out.below (below_drewN13 W nq)
    clear c0 c1 c2 c6 c7 c8 c9 fz HL HH
    generalize W.drewN nq = W1 at *
    obtain ⟨c0, c1, c2, c6, c7, c8, c9⟩ := HH1.out.cells
    have fz := HH1.out.fz
    go_wp2
    go_ret
    have hs := HH1.out.set2 (y := x.rest b) 6 7 (.int .i64 0) (.int .i64 (x.t1 + 1)) (by
      rw [Ps.rest_yes HT.out]
      simp)
    exact ⟨ret_bool13 HT.out.symm, hs.1, HM1.out.trans hs.2⟩
  · have HT : Hid (x.r b = false) := by show _ = _; rw [HR.out]; exact decide_eq_false hq
    go_wp2
    go_ret
    have bd := below_drewN13 W nq
    refine ⟨ret_bool13 HT.out.symm, ?_, Mp.below bd⟩
    rw [Ps.rest_no HT.out]
    exact HH.out.below bd

set_option maxHeartbeats 1600000 in
theorem rClr_any (W : World) (r : Nat) (b f g : Int) (d : Nat) (p u : Int) (x : Ps) (h : Rz W r b f g d p u x) (hn : Pn b f g x) :
    Calls Try.prog 30 #[.pointer (some ⟨r, 0, none⟩)] W fun e w' => e = .returned (.bool (x.c f g)) ∧ Rz w' r b f g d p u (x.clr f g) ∧ Mp r 1 W w' := by
  obtain ⟨c0, c1, c2, c6, c7, c8, c9⟩ := h.cells
  have fz := h.fz
  have HH : Hid (Rz W r b f g d p u x) := h
  have q1 := hn.l1; have q2 := hn.l1k; have q3 := hn.l2; have q4 := hn.l2k; have q5 := hn.kx
  have hw := hn.w2r
  have ht := hn.t2r
  have ht0 := hn.t2
  have hf1 := hn.f1
  have hf2 := hn.f2
  unfold Ps.w2 at hw
  have HR : Hid (x.c f g = decide (f + g * x.t2 ≤ x.k - x.l2)) := by show decide (f + x.t2 * g ≤ x.k - x.l2) = _; rw [Int.mul_comm]
  rw [Int.mul_comm x.t2 g] at hw
  clear h hn
  have hwz : wrap64 (g * x.t2) = g * x.t2 := by unfold wrap64; omega
  go_enter Try.func30, Try.ntmps30
  go_wp2
  go_quiet (fail)
  by_cases hq : f + g * x.t2 ≤ x.k - x.l2
  · have HT : Hid (x.c f g = true) := by show _ = _; rw [HR.out]; exact decide_eq_true hq
    have HM1 : Hid (Mp r 1 W (W.drewN nq)) := Mp.below (below_drewN13 W nq)
    have HH1 : Hid (Rz (W.drewN nq) r b f g d p u x) := HH.out.below (below_drewN13 W nq)
    clear c0 c1 c2 c6 c7 c8 c9 fz HH
    generalize W.drewN nq = W1 at *
    obtain ⟨c0, c1, c2, c6, c7, c8, c9⟩ := HH1.out.cells
    have fz := HH1.out.fz
    go_wp2
    go_ret
    have hs := HH1.out.set2 (y := x.clr f g) 8 9 (.int .i64 0) (.int .i64 (x.t2 + 1)) (by
      rw [Ps.clr_yes HT.out]
      simp)
    exact ⟨ret_bool13 HT.out.symm, hs.1, HM1.out.trans hs.2⟩
  · have HT : Hid (x.c f g = false) := by show _ = _; rw [HR.out]; exact decide_eq_false hq
    go_wp2
    go_ret
    have bd := below_drewN13 W nq
    refine ⟨ret_bool13 HT.out.symm, ?_, Mp.below bd⟩
    rw [Ps.clr_no HT.out]
    exact HH.out.below bd
end Go.Proofs.Ythcbpdnaocpleaa

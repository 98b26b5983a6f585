/-
  pace.Make, walked.
  KEEP: putObj alloc same block size os tape output mono lt own new keep conf rest clr below
-/
import Derived.Test.YthmejmnbbbiemaaPcM
set_option linter.unusedSimpArgs false
set_option linter.unusedVariables false
namespace Go.Proofs.Ythmejmnbbbiemaa
open Go Go.RowKit

theorem ask_any (W : World) (K : Nat) (v : Value) (hv : ∃ n lb, v = .func (.func n) #[] lb) :
    Calls Try.prog 11 #[v, .pointer (some ⟨K, 0, none⟩)] W fun e w' => e = .returned (.func (.func 12) #[] #[.pointer (some ⟨K, 0, none⟩), .pointer (some ⟨W.heap.size + 1 + 1, 0, none⟩), .pointer (some ⟨W.heap.size, 0, none⟩), .pointer (some ⟨W.heap.size + 1, 0, none⟩)]) ∧
      w' = ((W.alloc (.cells #[v] 38)).alloc (.cells #[.int .i64 0] 3)).alloc (.cells #[.int .i64 0] 3) := by
  obtain ⟨n, lb, rfl⟩ := hv
  go_enter Try.func11, Try.ntmps11
  go_wp2
  go_ret
  exact ⟨rfl, rfl⟩

/-- the box of a Pace's three functions -/
def Rb (W : World) (D : Nat) (x y z : Value) : Prop := W.heap[D]? = some (.cells #[x, y, z] 31 (0, 0))
theorem Rb.cells {W : World} {D : Nat} {x y z : Value} (h : Rb W D x y z) : W.cell? ⟨D, 0, none⟩ = some x ∧ W.cell? ⟨D, 1, none⟩ = some y ∧ W.cell? ⟨D, 2, none⟩ = some z := ⟨cell_at h rfl, cell_at h rfl, cell_at h rfl⟩
theorem Rb.fz {W : World} {D : Nat} {x y z : Value} (h : Rb W D x y z) : ∀ i, W.frozen? ⟨D, i, none⟩ = false := fun i => by unfold Rb at h; simp [World.frozen?, h]
theorem Rb.lt {W : World} {D : Nat} {x y z : Value} (h : Rb W D x y z) : D < W.heap.size := by unfold Rb at h; exact (Array.getElem?_eq_some_iff.1 h).1
theorem Rb.below {W W' : World} {D : Nat} {x y z : Value} (h : Rb W D x y z) (hb : Below W.heap.size W W') : Rb W' D x y z := (hb.block _ h.lt).trans h
theorem Rb.mp {s n : Nat} {W W' : World} {D : Nat} {x y z : Value} (h : Rb W D x y z) (hm : Mp s n W W') (hD : D < s ∨ s + n ≤ D) : Rb W' D x y z := (hm.block D h.lt hD).trans h
theorem Rb.new (W : World) (x y z : Value) : Rb (W.alloc (.cells #[x, y, z] 31)) W.heap.size x y z := heap_new W _
theorem Rb.grown {W W' : World} {D : Nat} {x y z : Value} {row : Option Nat} (h : Rb W D x y z) (hg : W.grownBy W' row) (hr : ∀ r, row = some r → ∃ o : Obj, W.heap[r]? = some o ∧ o.isCells = false) : Rb W' D x y z := by
  refine (hg.block D h.lt ?_).trans h
  intro e
  obtain ⟨o, ho, hc⟩ := hr D e.symm
  unfold Rb at h
  rw [h] at ho
  cases ho
  simp [Obj.isCells] at hc

set_option maxHeartbeats 1600000 in
theorem make_no (b f g : Int) (d : Nat) (p u : Int) (w : World) (hf : fmC b f g d p = false) :
    Calls Try.prog 5 #[.agg #[.int .i64 b, .int .i64 f, .int .i64 g, .float .f64 d, .int .i64 p, .int .i64 u]] w fun e w' => e = .returned (.tuple #[.agg #[.nilFunc, .nilFunc, .nilFunc], .int .i64 1]) ∧ Below w.heap.size w w' := by
  have HF : Hid (∀ W, Calls Try.prog 8 #[.agg #[.int .i64 b, .int .i64 f, .int .i64 g, .float .f64 d, .int .i64 p, .int .i64 u]] W fun e w' => e = .returned (.bool false) ∧ Below W.heap.size W w') := fun W => by
    have := formed_any b f g d p u W
    rwa [hf] at this
  clear hf
  go_enter Try.func5, Try.ntmps5
  go_upto_region 1 with fail
  have HR : Hid (Rb ((w.alloc (.cells #[.int .i64 b, .int .i64 f, .int .i64 g, .float .f64 d, .int .i64 p, .int .i64 u] 24)).alloc (.cells #[.nilFunc, .nilFunc, .nilFunc] 31)) (w.heap.size + 1) .nilFunc .nilFunc .nilFunc) := by
    have := Rb.new (w.alloc (.cells #[.int .i64 b, .int .i64 f, .int .i64 g, .float .f64 d, .int .i64 p, .int .i64 u] 24)) .nilFunc .nilFunc .nilFunc
    rwa [World.size_alloc] at this
  have HC : Hid (Cb ((w.alloc (.cells #[.int .i64 b, .int .i64 f, .int .i64 g, .float .f64 d, .int .i64 p, .int .i64 u] 24)).alloc (.cells #[.nilFunc, .nilFunc, .nilFunc] 31)) w.heap.size b f g d p u) := (Cb.new _ _ _ _ _ _ _).on (below_new _ _) (Cb.new _ _ _ _ _ _ _).lt
  have HB : Hid (Below w.heap.size w ((w.alloc (.cells #[.int .i64 b, .int .i64 f, .int .i64 g, .float .f64 d, .int .i64 p, .int .i64 u] 24)).alloc (.cells #[.nilFunc, .nilFunc, .nilFunc] 31))) := (below_new _ _).next (below_new _ _) (Nat.le_refl _)
  generalize (w.alloc (.cells #[.int .i64 b, .int .i64 f, .int .i64 g, .float .f64 d, .int .i64 p, .int .i64 u] 24)).alloc (.cells #[.nilFunc, .nilFunc, .nilFunc] 31) = W1 at *
  obtain ⟨k0, k1, k2, k3, k4, k5⟩ := HC.out.cells
  go_upto_region 2 with (go_at_call 8; refine (HF.out _).mono ?_; rintro e w2 ⟨rfl, bel⟩)
  have HR2 := HR.out.below bel
  have hB2 : Hid (Below w.heap.size w w2) := HB.out.next bel (Nat.le_refl _)
  have hlt := HR2.lt
  obtain ⟨r0, r1, r2⟩ := HR2.cells
  have fz := HR2.fz
  clear bel HR HC HF HB k0 k1 k2 k3 k4 k5
  go_wp2
  refine bodyPost_ret (v := .tuple #[.agg #[.nilFunc, .nilFunc, .nilFunc], .int .i64 1]) ?_ rfl ⟨rfl, ?_⟩
  · simp [results, Try.results5, go_sem, r0, r1, r2]
  · exact ((hB2.out.setCell (by show w.heap.size ≤ w.heap.size + 1; omega) _).setCell (by show w.heap.size ≤ w.heap.size + 1; omega) _).setCell (by show w.heap.size ≤ w.heap.size + 1; omega) _

/-- the boxes that Make lays from s on -/
def mkW (W : World) (C : Nat) : World := ((((((W.alloc (.cells #[.int .i64 0] 3)).alloc (.cells #[.func (.func 14) #[] #[.pointer (some ⟨C, 0, none⟩)]] 38)).alloc (.cells #[.int .i64 0] 3)).alloc (.cells #[.int .i64 0] 3)).alloc (.cells #[.func (.func 15) #[] #[.pointer (some ⟨C, 0, none⟩)]] 38)).alloc (.cells #[.int .i64 0] 3)).alloc (.cells #[.int .i64 0] 3)
theorem mkW_pz (W : World) (C : Nat) (b f g : Int) (d : Nat) (p u : Int) (hc : Cb W C b f g d p u) : Pz (mkW W C) C W.heap.size b f g ps0 ∧ Below W.heap.size W (mkW W C) := by
  unfold mkW
  have b1 := Bo.new W 3 (.int .i64 0)
  have s1 : (W.alloc (.cells #[.int .i64 0] 3)).heap.size = W.heap.size + 1 := by simp
  have e1 := below_new W (.cells #[.int .i64 0] 3)
  generalize W.alloc (.cells #[.int .i64 0] 3) = W1 at *
  have b2 := Bo.new W1 38 (.func (.func 14) #[] #[.pointer (some ⟨C, 0, none⟩)])
  have s2 : (W1.alloc (.cells #[.func (.func 14) #[] #[.pointer (some ⟨C, 0, none⟩)]] 38)).heap.size = W.heap.size + 2 := by simp [s1]
  have e2 := below_new W1 (.cells #[.func (.func 14) #[] #[.pointer (some ⟨C, 0, none⟩)]] 38)
  generalize W1.alloc (.cells #[.func (.func 14) #[] #[.pointer (some ⟨C, 0, none⟩)]] 38) = W2 at *
  have b3 := Bo.new W2 3 (.int .i64 0)
  have s3 : (W2.alloc (.cells #[.int .i64 0] 3)).heap.size = W.heap.size + 3 := by simp [s2]
  have e3 := below_new W2 (.cells #[.int .i64 0] 3)
  generalize W2.alloc (.cells #[.int .i64 0] 3) = W3 at *
  have b4 := Bo.new W3 3 (.int .i64 0)
  have s4 : (W3.alloc (.cells #[.int .i64 0] 3)).heap.size = W.heap.size + 4 := by simp [s3]
  have e4 := below_new W3 (.cells #[.int .i64 0] 3)
  generalize W3.alloc (.cells #[.int .i64 0] 3) = W4 at *
  have b5 := Bo.new W4 38 (.func (.func 15) #[] #[.pointer (some ⟨C, 0, none⟩)])
  have s5 : (W4.alloc (.cells #[.func (.func 15) #[] #[.pointer (some ⟨C, 0, none⟩)]] 38)).heap.size = W.heap.size + 5 := by simp [s4]
  have e5 := below_new W4 (.cells #[.func (.func 15) #[] #[.pointer (some ⟨C, 0, none⟩)]] 38)
  generalize W4.alloc (.cells #[.func (.func 15) #[] #[.pointer (some ⟨C, 0, none⟩)]] 38) = W5 at *
  have b6 := Bo.new W5 3 (.int .i64 0)
  have s6 : (W5.alloc (.cells #[.int .i64 0] 3)).heap.size = W.heap.size + 6 := by simp [s5]
  have e6 := below_new W5 (.cells #[.int .i64 0] 3)
  generalize W5.alloc (.cells #[.int .i64 0] 3) = W6 at *
  have b7 := Bo.new W6 3 (.int .i64 0)
  have e7 := below_new W6 (.cells #[.int .i64 0] 3)
  generalize W6.alloc (.cells #[.int .i64 0] 3) = W7 at *
  rw [s1] at b2
  rw [s2] at b3
  rw [s3] at b4
  rw [s4] at b5
  rw [s5] at b6
  rw [s6] at b7
  have eA : Below W.heap.size W W7 := (((((e1.next e2 (Nat.le_refl _)).next e3 (Nat.le_refl _)).next e4 (Nat.le_refl _)).next e5 (Nat.le_refl _)).next e6 (Nat.le_refl _)).next e7 (Nat.le_refl _)
  exact ⟨⟨⟨d, p, u, hc.on eA hc.lt⟩, hc.lt, (((((b1.below e2).below e3).below e4).below e5).below e6).below e7, ((((b2.below e3).below e4).below e5).below e6).below e7, (((b3.below e4).below e5).below e6).below e7, ((b4.below e5).below e6).below e7, (b5.below e6).below e7, b6.below e7, b7⟩, eA⟩

set_option maxHeartbeats 1600000 in
theorem make_yes (b f g : Int) (d : Nat) (p u : Int) (w : World) (hf : fmC b f g d p = true) :
    Calls Try.prog 5 #[.agg #[.int .i64 b, .int .i64 f, .int .i64 g, .float .f64 d, .int .i64 p, .int .i64 u]] w fun e w' => ∃ s, e = .returned (.tuple #[.agg #[fConf s, fRest s, fClr s], .int .i64 0]) ∧ Pz w' w.heap.size s b f g ps0 ∧ Below w.heap.size w w' := by
  have HF : Hid (∀ W, Calls Try.prog 8 #[.agg #[.int .i64 b, .int .i64 f, .int .i64 g, .float .f64 d, .int .i64 p, .int .i64 u]] W fun e w' => e = .returned (.bool true) ∧ Below W.heap.size W w') := fun W => by
    have := formed_any b f g d p u W
    rwa [hf] at this
  clear hf
  go_enter Try.func5, Try.ntmps5
  go_upto_region 1 with fail
  have HR : Hid (Rb ((w.alloc (.cells #[.int .i64 b, .int .i64 f, .int .i64 g, .float .f64 d, .int .i64 p, .int .i64 u] 24)).alloc (.cells #[.nilFunc, .nilFunc, .nilFunc] 31)) (w.heap.size + 1) .nilFunc .nilFunc .nilFunc) := by
    have := Rb.new (w.alloc (.cells #[.int .i64 b, .int .i64 f, .int .i64 g, .float .f64 d, .int .i64 p, .int .i64 u] 24)) .nilFunc .nilFunc .nilFunc
    rwa [World.size_alloc] at this
  have HC : Hid (Cb ((w.alloc (.cells #[.int .i64 b, .int .i64 f, .int .i64 g, .float .f64 d, .int .i64 p, .int .i64 u] 24)).alloc (.cells #[.nilFunc, .nilFunc, .nilFunc] 31)) w.heap.size b f g d p u) := (Cb.new _ _ _ _ _ _ _).on (below_new _ _) (Cb.new _ _ _ _ _ _ _).lt
  have HB : Hid (Below w.heap.size w ((w.alloc (.cells #[.int .i64 b, .int .i64 f, .int .i64 g, .float .f64 d, .int .i64 p, .int .i64 u] 24)).alloc (.cells #[.nilFunc, .nilFunc, .nilFunc] 31))) := (below_new _ _).next (below_new _ _) (Nat.le_refl _)
  generalize (w.alloc (.cells #[.int .i64 b, .int .i64 f, .int .i64 g, .float .f64 d, .int .i64 p, .int .i64 u] 24)).alloc (.cells #[.nilFunc, .nilFunc, .nilFunc] 31) = W1 at *
  obtain ⟨k0, k1, k2, k3, k4, k5⟩ := HC.out.cells
  go_upto_region 3 with (go_at_call 8; refine (HF.out _).mono ?_; rintro e w2 ⟨rfl, bel⟩)
  have HR2 : Hid (Rb w2 (w.heap.size + 1) .nilFunc .nilFunc .nilFunc) := HR.out.below bel
  have HC2 : Hid (Cb w2 w.heap.size b f g d p u) := HC.out.on bel HC.out.lt
  have HB2 : Hid (Below w.heap.size w w2) := HB.out.next bel (Nat.le_refl _)
  have hlt := HR2.out.lt
  clear bel HR HC HF HB k0 k1 k2 k3 k4 k5
  go_upto_region 5 with fail
  have HMK : Hid (∀ W', W' = mkW w2 w.heap.size → (W'.cell? ⟨w.heap.size + 1, 0, none⟩ = some .nilFunc ∧ W'.cell? ⟨w.heap.size + 1, 1, none⟩ = some .nilFunc ∧ W'.cell? ⟨w.heap.size + 1, 2, none⟩ = some .nilFunc) ∧ (∀ i, W'.frozen? ⟨w.heap.size + 1, i, none⟩ = false) ∧ Hid (Pz W' w.heap.size w2.heap.size b f g ps0) ∧ Hid (Below w.heap.size w W')) := by
    rintro W' rfl
    have hz := mkW_pz w2 w.heap.size b f g d p u HC2.out
    exact ⟨(HR2.out.below hz.2).cells, (HR2.out.below hz.2).fz, hz.1, HB2.out.next hz.2 (Nat.le_refl _)⟩
  go_wp2_with (first
    | (go_at_call 11; refine (ask_any _ _ _ ⟨_, _, rfl⟩).mono ?_; rintro e w3 ⟨rfl, hw3⟩; have hw4 : w3 = mkW w2 w.heap.size := hw3; obtain ⟨⟨r0, r1, r2⟩, fz, HP, HB⟩ := HMK.out _ hw4; clear hw3 hw4)
    | (go_at_call 11; refine (ask_any _ _ _ ⟨_, _, rfl⟩).mono ?_; rintro e w3 ⟨rfl, rfl⟩))
  refine bodyPost_ret (v := .tuple #[.agg #[fConf w2.heap.size, fRest w2.heap.size, fClr w2.heap.size], .int .i64 0]) ?_ rfl ⟨_, rfl, ?_, ?_⟩
  · simp [results, Try.results5, go_sem, r0, r1, r2]
    exact ⟨rfl, rfl, rfl⟩
  · have h1 := HP.out
    have hm : Mp (w.heap.size + 1) 1 w3 (((w3.setCell ⟨w.heap.size + 1, 0, none⟩ (fConf w2.heap.size)).setCell ⟨w.heap.size + 1, 1, none⟩ (fRest w2.heap.size)).setCell ⟨w.heap.size + 1, 2, none⟩ (fClr w2.heap.size)) := ((Mp.set _ _ _ _ (by omega) (by omega)).trans (Mp.set _ _ _ _ (by omega) (by omega))).trans (Mp.set _ _ _ _ (by omega) (by omega))
    exact h1.mp hm (by omega) (by omega)
  · exact ((HB.out.setCell (by show w.heap.size ≤ w.heap.size + 1; omega) _).setCell (by show w.heap.size ≤ w.heap.size + 1; omega) _).setCell (by show w.heap.size ≤ w.heap.size + 1; omega) _
end Go.Proofs.Ythmejmnbbbiemaa

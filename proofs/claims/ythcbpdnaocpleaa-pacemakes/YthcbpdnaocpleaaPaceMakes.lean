/-
  PaceMakes, walked.
  KEEP: walk putObj alloc same block size os tape output mono lt own new keep conf rest clr below grown step no yes done
-/
import Derived.Test.YthcbpdnaocpleaaPcZs
import Derived.Test.YthcbpdnaocpleaaPcW
import Derived.Test.YthcbpdnaocpleaaLists
import Derived.Sort.AtCall
import Derived.Deep.CutRange
import Derived.Deep.Cut
set_option linter.unusedSimpArgs false
set_option linter.unusedVariables false
namespace Go.Proofs.Ythcbpdnaocpleaa.paceMakes
open Go Go.RowKit

theorem nil0 (w : World) : (binOp BinOp.neq 1 .nilFunc .nilFunc).run Try.prog w = .ok (.bool false) w := by rfl
theorem nil1 (w : World) : (binOp BinOp.neq 25 .nilFunc .nilFunc).run Try.prog w = .ok (.bool false) w := by rfl
theorem fun0 (k : Nat) (lb : Array Value) (w : World) : (binOp BinOp.eql 1 (.func (.func k) #[] lb) .nilFunc).run Try.prog w = .ok (.bool false) w := by rfl
theorem fun1 (k : Nat) (lb : Array Value) (w : World) : (binOp BinOp.eql 25 (.func (.func k) #[] lb) .nilFunc).run Try.prog w = .ok (.bool false) w := by rfl

/-- the configs' boxes, and what was there -/
structure Ms (w : World) (b0 f0 g0 : Int) (y0 : Nat) (o0 u0 : Int) (b1 f1 g1 : Int) (y1 : Nat) (o1 u1 : Int) (W : World) : Prop where
  c0 : Cb W w.heap.size b0 f0 g0 y0 o0 u0
  c1 : Cb W (w.heap.size + 1) b1 f1 g1 y1 o1 u1
  bel : Below w.heap.size w W
theorem Ms.on {w W W' : World} {b0 f0 g0 : Int} {y0 : Nat} {o0 u0 b1 f1 g1 : Int} {y1 : Nat} {o1 u1 : Int} (h : Ms w b0 f0 g0 y0 o0 u0 b1 f1 g1 y1 o1 u1 W) (hb : Below W.heap.size W W') : Ms w b0 f0 g0 y0 o0 u0 b1 f1 g1 y1 o1 u1 W' := ⟨h.c0.on hb h.c0.lt, h.c1.on hb h.c1.lt, h.bel.next hb (Nat.le_refl _)⟩
theorem Ms.new (w : World) (b0 f0 g0 : Int) (y0 : Nat) (o0 u0 b1 f1 g1 : Int) (y1 : Nat) (o1 u1 : Int) : Ms w b0 f0 g0 y0 o0 u0 b1 f1 g1 y1 o1 u1 ((w.alloc (.cells #[.int .i64 b0, .int .i64 f0, .int .i64 g0, .float .f64 y0, .int .i64 o0, .int .i64 u0] 24)).alloc (.cells #[.int .i64 b1, .int .i64 f1, .int .i64 g1, .float .f64 y1, .int .i64 o1, .int .i64 u1] 24)) := by
  have h1 := Cb.new w b0 f0 g0 y0 o0 u0
  have h2 := Cb.new (w.alloc (.cells #[.int .i64 b0, .int .i64 f0, .int .i64 g0, .float .f64 y0, .int .i64 o0, .int .i64 u0] 24)) b1 f1 g1 y1 o1 u1
  rw [World.size_alloc] at h2
  exact ⟨h1.on (below_new _ _) h1.lt, h2, (below_new _ _).next (below_new _ _) (Nat.le_refl _)⟩

set_option maxHeartbeats 3200000 in
theorem walk_nn (b0 f0 g0 : Int) (y0 : Nat) (o0 u0 b1 f1 g1 : Int) (y1 : Nat) (o1 u1 : Int) (v : Value) (zs : List Int) (w : World) (hf0 : fmC b0 f0 g0 y0 o0 = false) (hf1 : fmC b1 f1 g1 y1 o1 = false) (hv : ∃ a c, v = .slice a zs.length c) :
    Calls Try.prog 7 #[.agg #[.int .i64 b0, .int .i64 f0, .int .i64 g0, .float .f64 y0, .int .i64 o0, .int .i64 u0], .agg #[.int .i64 b1, .int .i64 f1, .int .i64 g1, .float .f64 y1, .int .i64 o1, .int .i64 u1], v] w fun e w' => e = .returned (.bool true) ∧ Below w.heap.size w w' := by
  obtain ⟨av, cv, rfl⟩ := hv
  have HM0 : Hid (∀ W, Calls Try.prog 9 #[.agg #[.int .i64 b0, .int .i64 f0, .int .i64 g0, .float .f64 y0, .int .i64 o0, .int .i64 u0]] W fun e w' => e = .returned (.tuple #[.agg #[.nilFunc, .nilFunc, .nilFunc], .int .i64 1]) ∧ Below W.heap.size W w') := fun W => make_no b0 f0 g0 y0 o0 u0 W hf0
  have HR0 : Hid (∀ W, Calls Try.prog 16 #[.agg #[.int .i64 b0, .int .i64 f0, .int .i64 g0, .float .f64 y0, .int .i64 o0, .int .i64 u0]] W fun e w' => e = .returned (.tuple #[.pointer none, .int .i64 1]) ∧ Below W.heap.size W w') := fun W => rMake_no b0 f0 g0 y0 o0 u0 W hf0
  have HM1 : Hid (∀ W, Calls Try.prog 9 #[.agg #[.int .i64 b1, .int .i64 f1, .int .i64 g1, .float .f64 y1, .int .i64 o1, .int .i64 u1]] W fun e w' => e = .returned (.tuple #[.agg #[.nilFunc, .nilFunc, .nilFunc], .int .i64 1]) ∧ Below W.heap.size W w') := fun W => make_no b1 f1 g1 y1 o1 u1 W hf1
  have HR1 : Hid (∀ W, Calls Try.prog 16 #[.agg #[.int .i64 b1, .int .i64 f1, .int .i64 g1, .float .f64 y1, .int .i64 o1, .int .i64 u1]] W fun e w' => e = .returned (.tuple #[.pointer none, .int .i64 1]) ∧ Below W.heap.size W w') := fun W => rMake_no b1 f1 g1 y1 o1 u1 W hf1
  have hn0 := nil0
  have hn1 := nil1
  have hf0' := fun0
  have hf1' := fun1
  clear hf0 hf1
  go_enter Try.func7, Try.ntmps7
  go_upto_region 1 with fail
  have H1 : Hid (Ms w b0 f0 g0 y0 o0 u0 b1 f1 g1 y1 o1 u1 ((w.alloc (.cells #[.int .i64 b0, .int .i64 f0, .int .i64 g0, .float .f64 y0, .int .i64 o0, .int .i64 u0] 24)).alloc (.cells #[.int .i64 b1, .int .i64 f1, .int .i64 g1, .float .f64 y1, .int .i64 o1, .int .i64 u1] 24))) := Ms.new _ _ _ _ _ _ _ _ _ _ _ _ _
  generalize (w.alloc (.cells #[.int .i64 b0, .int .i64 f0, .int .i64 g0, .float .f64 y0, .int .i64 o0, .int .i64 u0] 24)).alloc (.cells #[.int .i64 b1, .int .i64 f1, .int .i64 g1, .float .f64 y1, .int .i64 o1, .int .i64 u1] 24) = W1 at *
  obtain ⟨k0, k1, k2, k3, k4, k5⟩ := H1.out.c0.cells
  go_upto_region 2 with (go_at_call 9; refine (HM0.out _).mono ?_; rintro e w2 ⟨rfl, bel⟩)
  have H2 : Hid (Ms w b0 f0 g0 y0 o0 u0 b1 f1 g1 y1 o1 u1 (w2.alloc (.cells #[.nilFunc, .nilFunc, .nilFunc] 27))) := (H1.out.on bel).on (below_new _ _)
  have HZ1 : Hid (Rb (w2.alloc (.cells #[.nilFunc, .nilFunc, .nilFunc] 27)) w2.heap.size .nilFunc .nilFunc .nilFunc) := Rb.new _ _ _ _
  have hs2 : (w2.alloc (.cells #[.nilFunc, .nilFunc, .nilFunc] 27)).heap.size = w2.heap.size + 1 := by simp
  clear k0 k1 k2 k3 k4 k5 bel
  generalize w2.alloc (.cells #[.nilFunc, .nilFunc, .nilFunc] 27) = W2 at *
  generalize w2.heap.size = D1 at *
  obtain ⟨k0, k1, k2, k3, k4, k5⟩ := H2.out.c1.cells
  go_upto_region 3 with (go_at_call 9; refine (HM1.out _).mono ?_; rintro e w4 ⟨rfl, bel⟩)
  have H4 : Hid (Ms w b0 f0 g0 y0 o0 u0 b1 f1 g1 y1 o1 u1 (w4.alloc (.cells #[.nilFunc, .nilFunc, .nilFunc] 27))) := (H2.out.on bel).on (below_new _ _)
  have HZ4 : Hid (Rb (w4.alloc (.cells #[.nilFunc, .nilFunc, .nilFunc] 27)) D1 .nilFunc .nilFunc .nilFunc) := (HZ1.out.below bel).below (below_new _ _)
  have hs4 : (w4.alloc (.cells #[.nilFunc, .nilFunc, .nilFunc] 27)).heap.size = w4.heap.size + 1 := by simp
  clear k0 k1 k2 k3 k4 k5 bel HZ1 H1 H2 hs2
  generalize w4.alloc (.cells #[.nilFunc, .nilFunc, .nilFunc] 27) = W4 at *
  generalize w4.heap.size = D2 at *
  obtain ⟨k0, k1, k2, k3, k4, k5⟩ := H4.out.c0.cells
  go_upto_region 4 with (go_at_call 16; refine (HR0.out _).mono ?_; rintro e w5 ⟨rfl, bel⟩)
  have H5 : Hid (Ms w b0 f0 g0 y0 o0 u0 b1 f1 g1 y1 o1 u1 w5) := H4.out.on bel
  have HB5 : Hid (Below W4.heap.size W4 w5) := bel
  clear k0 k1 k2 k3 k4 k5 bel
  obtain ⟨k0, k1, k2, k3, k4, k5⟩ := H5.out.c1.cells
  go_upto_region 5 with (go_at_call 16; refine (HR1.out _).mono ?_; rintro e w6 ⟨rfl, bel⟩)
  have H6 : Hid (Ms w b0 f0 g0 y0 o0 u0 b1 f1 g1 y1 o1 u1 w6) := H5.out.on bel
  have HB6 : Hid (Below W4.heap.size W4 w6) := HB5.out.next bel (Nat.le_refl _)
  clear k0 k1 k2 k3 k4 k5 bel
  obtain ⟨z0, z1, z2⟩ := (HZ4.out.below HB6.out).cells
  go_wp2
  go_ret
  exact ⟨rfl, H6.out.bel⟩

set_option maxHeartbeats 3200000 in
theorem walk_ny (b0 f0 g0 : Int) (y0 : Nat) (o0 u0 b1 f1 g1 : Int) (y1 : Nat) (o1 u1 : Int) (v : Value) (zs : List Int) (w : World) (hf0 : fmC b0 f0 g0 y0 o0 = false) (hf1 : fmC b1 f1 g1 y1 o1 = true) (hv : ∃ a c, v = .slice a zs.length c) :
    Calls Try.prog 7 #[.agg #[.int .i64 b0, .int .i64 f0, .int .i64 g0, .float .f64 y0, .int .i64 o0, .int .i64 u0], .agg #[.int .i64 b1, .int .i64 f1, .int .i64 g1, .float .f64 y1, .int .i64 o1, .int .i64 u1], v] w fun e w' => e = .returned (.bool true) ∧ Below w.heap.size w w' := by
  obtain ⟨av, cv, rfl⟩ := hv
  have HM0 : Hid (∀ W, Calls Try.prog 9 #[.agg #[.int .i64 b0, .int .i64 f0, .int .i64 g0, .float .f64 y0, .int .i64 o0, .int .i64 u0]] W fun e w' => e = .returned (.tuple #[.agg #[.nilFunc, .nilFunc, .nilFunc], .int .i64 1]) ∧ Below W.heap.size W w') := fun W => make_no b0 f0 g0 y0 o0 u0 W hf0
  have HR0 : Hid (∀ W, Calls Try.prog 16 #[.agg #[.int .i64 b0, .int .i64 f0, .int .i64 g0, .float .f64 y0, .int .i64 o0, .int .i64 u0]] W fun e w' => e = .returned (.tuple #[.pointer none, .int .i64 1]) ∧ Below W.heap.size W w') := fun W => rMake_no b0 f0 g0 y0 o0 u0 W hf0
  have HM1 : Hid (∀ W, Calls Try.prog 9 #[.agg #[.int .i64 b1, .int .i64 f1, .int .i64 g1, .float .f64 y1, .int .i64 o1, .int .i64 u1]] W fun e w' => ∃ s, e = .returned (.tuple #[.agg #[.func (.func 22) #[] #[.pointer (some ⟨s, 0, none⟩)], .func (.func 21) #[] #[.pointer (some ⟨s, 0, none⟩), .pointer (some ⟨s + 3, 0, none⟩), .pointer (some ⟨s + 1, 0, none⟩), .pointer (some ⟨s + 2, 0, none⟩)], .func (.func 21) #[] #[.pointer (some ⟨s, 0, none⟩), .pointer (some ⟨s + 6, 0, none⟩), .pointer (some ⟨s + 4, 0, none⟩), .pointer (some ⟨s + 5, 0, none⟩)]], .int .i64 0]) ∧ Pz w' W.heap.size s b1 f1 g1 ps0 ∧ Below W.heap.size W w') := fun W => make_yes b1 f1 g1 y1 o1 u1 W hf1
  have HR1 : Hid (∀ W, Calls Try.prog 16 #[.agg #[.int .i64 b1, .int .i64 f1, .int .i64 g1, .float .f64 y1, .int .i64 o1, .int .i64 u1]] W fun e w' => ∃ r, e = .returned (.tuple #[.pointer (some ⟨r, 0, none⟩), .int .i64 0]) ∧ Rz w' r b1 f1 g1 y1 o1 u1 ps0 ∧ W.heap.size ≤ r ∧ Below W.heap.size W w') := fun W => rMake_yes b1 f1 g1 y1 o1 u1 W hf1
  have hn0 := nil0
  have hn1 := nil1
  have hf0' := fun0
  have hf1' := fun1
  clear hf0 hf1
  go_enter Try.func7, Try.ntmps7
  go_upto_region 1 with fail
  have H1 : Hid (Ms w b0 f0 g0 y0 o0 u0 b1 f1 g1 y1 o1 u1 ((w.alloc (.cells #[.int .i64 b0, .int .i64 f0, .int .i64 g0, .float .f64 y0, .int .i64 o0, .int .i64 u0] 24)).alloc (.cells #[.int .i64 b1, .int .i64 f1, .int .i64 g1, .float .f64 y1, .int .i64 o1, .int .i64 u1] 24))) := Ms.new _ _ _ _ _ _ _ _ _ _ _ _ _
  generalize (w.alloc (.cells #[.int .i64 b0, .int .i64 f0, .int .i64 g0, .float .f64 y0, .int .i64 o0, .int .i64 u0] 24)).alloc (.cells #[.int .i64 b1, .int .i64 f1, .int .i64 g1, .float .f64 y1, .int .i64 o1, .int .i64 u1] 24) = W1 at *
  obtain ⟨k0, k1, k2, k3, k4, k5⟩ := H1.out.c0.cells
  go_upto_region 2 with (go_at_call 9; refine (HM0.out _).mono ?_; rintro e w2 ⟨rfl, bel⟩)
  have H2 : Hid (Ms w b0 f0 g0 y0 o0 u0 b1 f1 g1 y1 o1 u1 (w2.alloc (.cells #[.nilFunc, .nilFunc, .nilFunc] 27))) := (H1.out.on bel).on (below_new _ _)
  have HZ1 : Hid (Rb (w2.alloc (.cells #[.nilFunc, .nilFunc, .nilFunc] 27)) w2.heap.size .nilFunc .nilFunc .nilFunc) := Rb.new _ _ _ _
  have hs2 : (w2.alloc (.cells #[.nilFunc, .nilFunc, .nilFunc] 27)).heap.size = w2.heap.size + 1 := by simp
  clear k0 k1 k2 k3 k4 k5 bel
  generalize w2.alloc (.cells #[.nilFunc, .nilFunc, .nilFunc] 27) = W2 at *
  generalize w2.heap.size = D1 at *
  obtain ⟨k0, k1, k2, k3, k4, k5⟩ := H2.out.c1.cells
  go_upto_region 3 with (go_at_call 9; refine (HM1.out _).mono ?_; rintro e w4 ⟨s2, rfl, hz2, bel⟩)
  have H4 : Hid (Ms w b0 f0 g0 y0 o0 u0 b1 f1 g1 y1 o1 u1 (w4.alloc (.cells #[.func (.func 22) #[] #[.pointer (some ⟨s2, 0, none⟩)], .func (.func 21) #[] #[.pointer (some ⟨s2, 0, none⟩), .pointer (some ⟨s2 + 3, 0, none⟩), .pointer (some ⟨s2 + 1, 0, none⟩), .pointer (some ⟨s2 + 2, 0, none⟩)], .func (.func 21) #[] #[.pointer (some ⟨s2, 0, none⟩), .pointer (some ⟨s2 + 6, 0, none⟩), .pointer (some ⟨s2 + 4, 0, none⟩), .pointer (some ⟨s2 + 5, 0, none⟩)]] 27))) := (H2.out.on bel).on (below_new _ _)
  have HZ4 : Hid (Rb (w4.alloc (.cells #[.func (.func 22) #[] #[.pointer (some ⟨s2, 0, none⟩)], .func (.func 21) #[] #[.pointer (some ⟨s2, 0, none⟩), .pointer (some ⟨s2 + 3, 0, none⟩), .pointer (some ⟨s2 + 1, 0, none⟩), .pointer (some ⟨s2 + 2, 0, none⟩)], .func (.func 21) #[] #[.pointer (some ⟨s2, 0, none⟩), .pointer (some ⟨s2 + 6, 0, none⟩), .pointer (some ⟨s2 + 4, 0, none⟩), .pointer (some ⟨s2 + 5, 0, none⟩)]] 27)) D1 .nilFunc .nilFunc .nilFunc) := (HZ1.out.below bel).below (below_new _ _)
  have hs4 : (w4.alloc (.cells #[.func (.func 22) #[] #[.pointer (some ⟨s2, 0, none⟩)], .func (.func 21) #[] #[.pointer (some ⟨s2, 0, none⟩), .pointer (some ⟨s2 + 3, 0, none⟩), .pointer (some ⟨s2 + 1, 0, none⟩), .pointer (some ⟨s2 + 2, 0, none⟩)], .func (.func 21) #[] #[.pointer (some ⟨s2, 0, none⟩), .pointer (some ⟨s2 + 6, 0, none⟩), .pointer (some ⟨s2 + 4, 0, none⟩), .pointer (some ⟨s2 + 5, 0, none⟩)]] 27)).heap.size = w4.heap.size + 1 := by simp
  clear k0 k1 k2 k3 k4 k5 bel HZ1 H1 H2 hs2
  generalize w4.alloc (.cells #[.func (.func 22) #[] #[.pointer (some ⟨s2, 0, none⟩)], .func (.func 21) #[] #[.pointer (some ⟨s2, 0, none⟩), .pointer (some ⟨s2 + 3, 0, none⟩), .pointer (some ⟨s2 + 1, 0, none⟩), .pointer (some ⟨s2 + 2, 0, none⟩)], .func (.func 21) #[] #[.pointer (some ⟨s2, 0, none⟩), .pointer (some ⟨s2 + 6, 0, none⟩), .pointer (some ⟨s2 + 4, 0, none⟩), .pointer (some ⟨s2 + 5, 0, none⟩)]] 27) = W4 at *
  generalize w4.heap.size = D2 at *
  obtain ⟨k0, k1, k2, k3, k4, k5⟩ := H4.out.c0.cells
  go_upto_region 4 with (go_at_call 16; refine (HR0.out _).mono ?_; rintro e w5 ⟨rfl, bel⟩)
  have H5 : Hid (Ms w b0 f0 g0 y0 o0 u0 b1 f1 g1 y1 o1 u1 w5) := H4.out.on bel
  have HB5 : Hid (Below W4.heap.size W4 w5) := bel
  clear k0 k1 k2 k3 k4 k5 bel
  obtain ⟨k0, k1, k2, k3, k4, k5⟩ := H5.out.c1.cells
  go_upto_region 5 with (go_at_call 16; refine (HR1.out _).mono ?_; rintro e w6 ⟨r2, rfl, hr2, hr2b, bel⟩)
  have H6 : Hid (Ms w b0 f0 g0 y0 o0 u0 b1 f1 g1 y1 o1 u1 w6) := H5.out.on bel
  have HB6 : Hid (Below W4.heap.size W4 w6) := HB5.out.next bel (Nat.le_refl _)
  clear k0 k1 k2 k3 k4 k5 bel
  obtain ⟨z0, z1, z2⟩ := (HZ4.out.below HB6.out).cells
  go_wp2
  go_ret
  exact ⟨rfl, H6.out.bel⟩

set_option maxHeartbeats 3200000 in
theorem walk_yn (b0 f0 g0 : Int) (y0 : Nat) (o0 u0 b1 f1 g1 : Int) (y1 : Nat) (o1 u1 : Int) (v : Value) (zs : List Int) (w : World) (hf0 : fmC b0 f0 g0 y0 o0 = true) (hf1 : fmC b1 f1 g1 y1 o1 = false) (hv : ∃ a c, v = .slice a zs.length c) :
    Calls Try.prog 7 #[.agg #[.int .i64 b0, .int .i64 f0, .int .i64 g0, .float .f64 y0, .int .i64 o0, .int .i64 u0], .agg #[.int .i64 b1, .int .i64 f1, .int .i64 g1, .float .f64 y1, .int .i64 o1, .int .i64 u1], v] w fun e w' => e = .returned (.bool true) ∧ Below w.heap.size w w' := by
  obtain ⟨av, cv, rfl⟩ := hv
  have HM0 : Hid (∀ W, Calls Try.prog 9 #[.agg #[.int .i64 b0, .int .i64 f0, .int .i64 g0, .float .f64 y0, .int .i64 o0, .int .i64 u0]] W fun e w' => ∃ s, e = .returned (.tuple #[.agg #[.func (.func 22) #[] #[.pointer (some ⟨s, 0, none⟩)], .func (.func 21) #[] #[.pointer (some ⟨s, 0, none⟩), .pointer (some ⟨s + 3, 0, none⟩), .pointer (some ⟨s + 1, 0, none⟩), .pointer (some ⟨s + 2, 0, none⟩)], .func (.func 21) #[] #[.pointer (some ⟨s, 0, none⟩), .pointer (some ⟨s + 6, 0, none⟩), .pointer (some ⟨s + 4, 0, none⟩), .pointer (some ⟨s + 5, 0, none⟩)]], .int .i64 0]) ∧ Pz w' W.heap.size s b0 f0 g0 ps0 ∧ Below W.heap.size W w') := fun W => make_yes b0 f0 g0 y0 o0 u0 W hf0
  have HR0 : Hid (∀ W, Calls Try.prog 16 #[.agg #[.int .i64 b0, .int .i64 f0, .int .i64 g0, .float .f64 y0, .int .i64 o0, .int .i64 u0]] W fun e w' => ∃ r, e = .returned (.tuple #[.pointer (some ⟨r, 0, none⟩), .int .i64 0]) ∧ Rz w' r b0 f0 g0 y0 o0 u0 ps0 ∧ W.heap.size ≤ r ∧ Below W.heap.size W w') := fun W => rMake_yes b0 f0 g0 y0 o0 u0 W hf0
  have HM1 : Hid (∀ W, Calls Try.prog 9 #[.agg #[.int .i64 b1, .int .i64 f1, .int .i64 g1, .float .f64 y1, .int .i64 o1, .int .i64 u1]] W fun e w' => e = .returned (.tuple #[.agg #[.nilFunc, .nilFunc, .nilFunc], .int .i64 1]) ∧ Below W.heap.size W w') := fun W => make_no b1 f1 g1 y1 o1 u1 W hf1
  have HR1 : Hid (∀ W, Calls Try.prog 16 #[.agg #[.int .i64 b1, .int .i64 f1, .int .i64 g1, .float .f64 y1, .int .i64 o1, .int .i64 u1]] W fun e w' => e = .returned (.tuple #[.pointer none, .int .i64 1]) ∧ Below W.heap.size W w') := fun W => rMake_no b1 f1 g1 y1 o1 u1 W hf1
  have hn0 := nil0
  have hn1 := nil1
  have hf0' := fun0
  have hf1' := fun1
  clear hf0 hf1
  go_enter Try.func7, Try.ntmps7
  go_upto_region 1 with fail
  have H1 : Hid (Ms w b0 f0 g0 y0 o0 u0 b1 f1 g1 y1 o1 u1 ((w.alloc (.cells #[.int .i64 b0, .int .i64 f0, .int .i64 g0, .float .f64 y0, .int .i64 o0, .int .i64 u0] 24)).alloc (.cells #[.int .i64 b1, .int .i64 f1, .int .i64 g1, .float .f64 y1, .int .i64 o1, .int .i64 u1] 24))) := Ms.new _ _ _ _ _ _ _ _ _ _ _ _ _
  generalize (w.alloc (.cells #[.int .i64 b0, .int .i64 f0, .int .i64 g0, .float .f64 y0, .int .i64 o0, .int .i64 u0] 24)).alloc (.cells #[.int .i64 b1, .int .i64 f1, .int .i64 g1, .float .f64 y1, .int .i64 o1, .int .i64 u1] 24) = W1 at *
  obtain ⟨k0, k1, k2, k3, k4, k5⟩ := H1.out.c0.cells
  go_upto_region 2 with (go_at_call 9; refine (HM0.out _).mono ?_; rintro e w2 ⟨s1, rfl, hz1, bel⟩)
  have H2 : Hid (Ms w b0 f0 g0 y0 o0 u0 b1 f1 g1 y1 o1 u1 (w2.alloc (.cells #[.func (.func 22) #[] #[.pointer (some ⟨s1, 0, none⟩)], .func (.func 21) #[] #[.pointer (some ⟨s1, 0, none⟩), .pointer (some ⟨s1 + 3, 0, none⟩), .pointer (some ⟨s1 + 1, 0, none⟩), .pointer (some ⟨s1 + 2, 0, none⟩)], .func (.func 21) #[] #[.pointer (some ⟨s1, 0, none⟩), .pointer (some ⟨s1 + 6, 0, none⟩), .pointer (some ⟨s1 + 4, 0, none⟩), .pointer (some ⟨s1 + 5, 0, none⟩)]] 27))) := (H1.out.on bel).on (below_new _ _)
  have HZ1 : Hid (Pz (w2.alloc (.cells #[.func (.func 22) #[] #[.pointer (some ⟨s1, 0, none⟩)], .func (.func 21) #[] #[.pointer (some ⟨s1, 0, none⟩), .pointer (some ⟨s1 + 3, 0, none⟩), .pointer (some ⟨s1 + 1, 0, none⟩), .pointer (some ⟨s1 + 2, 0, none⟩)], .func (.func 21) #[] #[.pointer (some ⟨s1, 0, none⟩), .pointer (some ⟨s1 + 6, 0, none⟩), .pointer (some ⟨s1 + 4, 0, none⟩), .pointer (some ⟨s1 + 5, 0, none⟩)]] 27)) W1.heap.size s1 b0 f0 g0 ps0 ∧ Rb (w2.alloc (.cells #[.func (.func 22) #[] #[.pointer (some ⟨s1, 0, none⟩)], .func (.func 21) #[] #[.pointer (some ⟨s1, 0, none⟩), .pointer (some ⟨s1 + 3, 0, none⟩), .pointer (some ⟨s1 + 1, 0, none⟩), .pointer (some ⟨s1 + 2, 0, none⟩)], .func (.func 21) #[] #[.pointer (some ⟨s1, 0, none⟩), .pointer (some ⟨s1 + 6, 0, none⟩), .pointer (some ⟨s1 + 4, 0, none⟩), .pointer (some ⟨s1 + 5, 0, none⟩)]] 27)) w2.heap.size (fConf s1) (fRest s1) (fClr s1) ∧ s1 + 7 ≤ w2.heap.size ∧ w.heap.size ≤ W1.heap.size) := ⟨hz1.below (below_new _ _), Rb.new _ _ _ _, hz1.size, H1.out.bel.size⟩
  clear hz1
  have hs2 : (w2.alloc (.cells #[.func (.func 22) #[] #[.pointer (some ⟨s1, 0, none⟩)], .func (.func 21) #[] #[.pointer (some ⟨s1, 0, none⟩), .pointer (some ⟨s1 + 3, 0, none⟩), .pointer (some ⟨s1 + 1, 0, none⟩), .pointer (some ⟨s1 + 2, 0, none⟩)], .func (.func 21) #[] #[.pointer (some ⟨s1, 0, none⟩), .pointer (some ⟨s1 + 6, 0, none⟩), .pointer (some ⟨s1 + 4, 0, none⟩), .pointer (some ⟨s1 + 5, 0, none⟩)]] 27)).heap.size = w2.heap.size + 1 := by simp
  clear k0 k1 k2 k3 k4 k5 bel
  generalize w2.alloc (.cells #[.func (.func 22) #[] #[.pointer (some ⟨s1, 0, none⟩)], .func (.func 21) #[] #[.pointer (some ⟨s1, 0, none⟩), .pointer (some ⟨s1 + 3, 0, none⟩), .pointer (some ⟨s1 + 1, 0, none⟩), .pointer (some ⟨s1 + 2, 0, none⟩)], .func (.func 21) #[] #[.pointer (some ⟨s1, 0, none⟩), .pointer (some ⟨s1 + 6, 0, none⟩), .pointer (some ⟨s1 + 4, 0, none⟩), .pointer (some ⟨s1 + 5, 0, none⟩)]] 27) = W2 at *
  generalize w2.heap.size = D1 at *
  obtain ⟨k0, k1, k2, k3, k4, k5⟩ := H2.out.c1.cells
  go_upto_region 3 with (go_at_call 9; refine (HM1.out _).mono ?_; rintro e w4 ⟨rfl, bel⟩)
  have H4 : Hid (Ms w b0 f0 g0 y0 o0 u0 b1 f1 g1 y1 o1 u1 (w4.alloc (.cells #[.nilFunc, .nilFunc, .nilFunc] 27))) := (H2.out.on bel).on (below_new _ _)
  have HZ4 : Hid (Rb (w4.alloc (.cells #[.nilFunc, .nilFunc, .nilFunc] 27)) D1 (fConf s1) (fRest s1) (fClr s1)) := (HZ1.out.2.1.below bel).below (below_new _ _)
  have hs4 : (w4.alloc (.cells #[.nilFunc, .nilFunc, .nilFunc] 27)).heap.size = w4.heap.size + 1 := by simp
  clear k0 k1 k2 k3 k4 k5 bel HZ1 H1 H2 hs2
  generalize w4.alloc (.cells #[.nilFunc, .nilFunc, .nilFunc] 27) = W4 at *
  generalize w4.heap.size = D2 at *
  obtain ⟨k0, k1, k2, k3, k4, k5⟩ := H4.out.c0.cells
  go_upto_region 4 with (go_at_call 16; refine (HR0.out _).mono ?_; rintro e w5 ⟨r1, rfl, hr1, hr1b, bel⟩)
  have H5 : Hid (Ms w b0 f0 g0 y0 o0 u0 b1 f1 g1 y1 o1 u1 w5) := H4.out.on bel
  have HB5 : Hid (Below W4.heap.size W4 w5) := bel
  have HR5 : Hid (Rz w5 r1 b0 f0 g0 y0 o0 u0 ps0 ∧ W4.heap.size ≤ r1) := ⟨hr1, hr1b⟩
  clear hr1 hr1b
  clear k0 k1 k2 k3 k4 k5 bel
  obtain ⟨k0, k1, k2, k3, k4, k5⟩ := H5.out.c1.cells
  go_upto_region 5 with (go_at_call 16; refine (HR1.out _).mono ?_; rintro e w6 ⟨rfl, bel⟩)
  have H6 : Hid (Ms w b0 f0 g0 y0 o0 u0 b1 f1 g1 y1 o1 u1 w6) := H5.out.on bel
  have HB6 : Hid (Below W4.heap.size W4 w6) := HB5.out.next bel (Nat.le_refl _)
  clear k0 k1 k2 k3 k4 k5 bel
  obtain ⟨z0, z1, z2⟩ := (HZ4.out.below HB6.out).cells
  have z0 : w6.cell? ⟨D1, 0, none⟩ = some (.func (.func 22) #[] #[.pointer (some ⟨s1, 0, none⟩)]) := z0
  have z1 : w6.cell? ⟨D1, 1, none⟩ = some (.func (.func 21) #[] #[.pointer (some ⟨s1, 0, none⟩), .pointer (some ⟨s1 + 3, 0, none⟩), .pointer (some ⟨s1 + 1, 0, none⟩), .pointer (some ⟨s1 + 2, 0, none⟩)]) := z1
  have z2 : w6.cell? ⟨D1, 2, none⟩ = some (.func (.func 21) #[] #[.pointer (some ⟨s1, 0, none⟩), .pointer (some ⟨s1 + 6, 0, none⟩), .pointer (some ⟨s1 + 4, 0, none⟩), .pointer (some ⟨s1 + 5, 0, none⟩)]) := z2
  go_wp2
  go_ret
  exact ⟨rfl, H6.out.bel⟩

theorem fmC_bnd {b f g : Int} {d : Nat} {p : Int} (hf : fmC b f g d p = true) : (1 ≤ b ∧ b ≤ 1048576) ∧ (1 ≤ f ∧ f ≤ 1048576) ∧ (1 ≤ g ∧ g ≤ 1048576) := by
  unfold fmC at hf
  simp only [Bool.and_eq_true] at hf
  exact ⟨cnB_true.1 hf.1.1.1.1, cnB_true.1 hf.1.1.1.2, cnB_true.1 hf.1.1.2⟩
/-- both pairs, and the boxes of their functions -/
structure Mk (w : World) (C1 s1 D1 C2 s2 D2 r1 r2 : Nat) (b0 f0 g0 : Int) (y0 : Nat) (o0 u0 b1 f1 g1 : Int) (y1 : Nat) (o1 u1 : Int) (x y : Ps) (v : Value) (zs : List Int) (W : World) : Prop where
  t1 : Tw W C1 s1 r1 b0 f0 g0 y0 o0 u0 x
  t2 : Tw W C2 s2 r2 b1 f1 g1 y1 o1 u1 y
  q1 : Rb W D1 (fConf s1) (fRest s1) (fClr s1)
  q2 : Rb W D2 (fConf s2) (fRest s2) (fClr s2)
  ord : w.heap.size ≤ C1 ∧ C1 < s1 ∧ s1 + 7 ≤ D1 ∧ D1 < C2 ∧ C2 < s2 ∧ s2 + 7 ≤ D2 ∧ D2 < r1 ∧ r1 < r2
  rd : Rd W v zs
  vb : ∀ q, v.ownBlock = some q → zs ≠ [] → q < w.heap.size
  bel : Below w.heap.size w W
theorem rd_keep {W W' : World} {v : Value} {zs : List Int} (h : Rd W v zs) (hs : W.heap.size ≤ W'.heap.size) (hk : ∀ q, v.ownBlock = some q → zs ≠ [] → W'.heap[q]? = W.heap[q]?) : Rd W' v zs := by
  obtain ⟨h1, a, c, rfl, hc, hm, hn, h2⟩ := h
  refine ⟨h1, a, c, rfl, hc, hm, hn, fun hne => ?_⟩
  obtain ⟨b, off, rfl, hlt, hcell⟩ := h2 hne
  exact ⟨b, off, rfl, Nat.lt_of_lt_of_le hlt hs, fun j hj => (World.cell?_of_block (a := ⟨b, off + j, none⟩) (hk b rfl hne)).trans (hcell j hj)⟩
variable {w W W' : World} {C1 s1 D1 C2 s2 D2 r1 r2 : Nat} {b0 f0 g0 : Int} {y0 : Nat} {o0 u0 b1 f1 g1 : Int} {y1 : Nat} {o1 u1 : Int} {x y x' : Ps} {v : Value} {zs : List Int} {K : Int}
theorem _root_.Go.Proofs.Ythcbpdnaocpleaa.Rd.keepBel {w W : World} {v : Value} {zs : List Int} (h : Rd w v zs) (hb : Below w.heap.size w W) : Rd W v zs := h.below hb
def MkS1 (w : World) (C1 s1 D1 C2 s2 D2 r1 r2 : Nat) (b0 f0 g0 : Int) (y0 : Nat) (o0 u0 b1 f1 g1 : Int) (y1 : Nat) (o1 u1 : Int) (x y : Ps) (v : Value) (zs : List Int) (W : World) : Prop := ∃ x', x'.k ≤ x.k + 3000 ∧ Mk w C1 s1 D1 C2 s2 D2 r1 r2 b0 f0 g0 y0 o0 u0 b1 f1 g1 y1 o1 u1 x' y v zs W
def MkS2 (w : World) (C1 s1 D1 C2 s2 D2 r1 r2 : Nat) (b0 f0 g0 : Int) (y0 : Nat) (o0 u0 b1 f1 g1 : Int) (y1 : Nat) (o1 u1 : Int) (x y : Ps) (v : Value) (zs : List Int) (W : World) : Prop := ∃ y', y'.k ≤ y.k + 3000 ∧ Mk w C1 s1 D1 C2 s2 D2 r1 r2 b0 f0 g0 y0 o0 u0 b1 f1 g1 y1 o1 u1 x y' v zs W
theorem Mk.below (h : Mk w C1 s1 D1 C2 s2 D2 r1 r2 b0 f0 g0 y0 o0 u0 b1 f1 g1 y1 o1 u1 x y v zs W) (hb : Below W.heap.size W W') : Mk w C1 s1 D1 C2 s2 D2 r1 r2 b0 f0 g0 y0 o0 u0 b1 f1 g1 y1 o1 u1 x y v zs W' :=
  ⟨h.t1.below hb, h.t2.below hb, h.q1.below hb, h.q2.below hb, h.ord, h.rd.below hb, h.vb, h.bel.next hb (Nat.le_refl _)⟩
theorem Mk.one (h : Mk w C1 s1 D1 C2 s2 D2 r1 r2 b0 f0 g0 y0 o0 u0 b1 f1 g1 y1 o1 u1 x y v zs W) (ht : Tw W' C1 s1 r1 b0 f0 g0 y0 o0 u0 x') (hm : Mt s1 r1 W W') : Mk w C1 s1 D1 C2 s2 D2 r1 r2 b0 f0 g0 y0 o0 u0 b1 f1 g1 y1 o1 u1 x' y v zs W' := by
  have ho := h.ord
  exact ⟨ht, h.t2.mt hm (by omega) (by omega) (by omega), (hm.block _ h.q1.lt (by omega) (by omega)).trans h.q1, (hm.block _ h.q2.lt (by omega) (by omega)).trans h.q2, h.ord, rd_keep h.rd hm.size (fun q hq hne => hm.block q (by have := h.vb q hq hne; have := h.bel.size; omega) (by have := h.vb q hq hne; omega) (by have := h.vb q hq hne; omega)), h.vb, hm.low h.bel h.bel.size (by omega) (by omega)⟩
theorem Mk.two (h : Mk w C1 s1 D1 C2 s2 D2 r1 r2 b0 f0 g0 y0 o0 u0 b1 f1 g1 y1 o1 u1 x y v zs W) (ht : Tw W' C2 s2 r2 b1 f1 g1 y1 o1 u1 x') (hm : Mt s2 r2 W W') : Mk w C1 s1 D1 C2 s2 D2 r1 r2 b0 f0 g0 y0 o0 u0 b1 f1 g1 y1 o1 u1 x x' v zs W' := by
  have ho := h.ord
  exact ⟨h.t1.mt hm (by omega) (by omega) (by omega), ht, (hm.block _ h.q1.lt (by omega) (by omega)).trans h.q1, (hm.block _ h.q2.lt (by omega) (by omega)).trans h.q2, h.ord, rd_keep h.rd hm.size (fun q hq hne => hm.block q (by have := h.vb q hq hne; have := h.bel.size; omega) (by have := h.vb q hq hne; omega) (by have := h.vb q hq hne; omega)), h.vb, hm.low h.bel h.bel.size (by omega) (by omega)⟩

set_option maxRecDepth 100000 in
set_option maxHeartbeats 6400000 in
theorem walk_yy (b0 f0 g0 : Int) (y0 : Nat) (o0 u0 b1 f1 g1 : Int) (y1 : Nat) (o1 u1 : Int) (v : Value) (zs : List Int) (w : World) (hf0 : fmC b0 f0 g0 y0 o0 = true) (hf1 : fmC b1 f1 g1 y1 o1 = true) (hrd : Rd w v zs) :
    Calls Try.prog 7 #[.agg #[.int .i64 b0, .int .i64 f0, .int .i64 g0, .float .f64 y0, .int .i64 o0, .int .i64 u0], .agg #[.int .i64 b1, .int .i64 f1, .int .i64 g1, .float .f64 y1, .int .i64 o1, .int .i64 u1], v] w fun e w' => e = .returned (.bool true) ∧ Below w.heap.size w w' := by
  have hln := hrd.len
  have HRd : Hid (Rd w v zs) := hrd
  obtain ⟨h81, av, cv, rfl, hvc, hvm, hvn, hvr⟩ := hrd
  have HVB : Hid (∀ q, (Value.slice av zs.length cv).ownBlock = some q → zs ≠ [] → q < w.heap.size) := fun q hq hne => by
    obtain ⟨bb, off, rfl, hlt, _⟩ := hvr hne
    have : bb = q := by simpa [Value.ownBlock] using hq
    omega
  clear hvr
  obtain ⟨⟨hb1, hb2⟩, ⟨hff1, hff2⟩, hg1, hg2⟩ := fmC_bnd hf0
  obtain ⟨⟨kb1, kb2⟩, ⟨kf1, kf2⟩, kg1, kg2⟩ := fmC_bnd hf1
  have HM0 : Hid (∀ W, Calls Try.prog 9 #[.agg #[.int .i64 b0, .int .i64 f0, .int .i64 g0, .float .f64 y0, .int .i64 o0, .int .i64 u0]] W fun e w' => ∃ s, e = .returned (.tuple #[.agg #[.func (.func 22) #[] #[.pointer (some ⟨s, 0, none⟩)], .func (.func 21) #[] #[.pointer (some ⟨s, 0, none⟩), .pointer (some ⟨s + 3, 0, none⟩), .pointer (some ⟨s + 1, 0, none⟩), .pointer (some ⟨s + 2, 0, none⟩)], .func (.func 21) #[] #[.pointer (some ⟨s, 0, none⟩), .pointer (some ⟨s + 6, 0, none⟩), .pointer (some ⟨s + 4, 0, none⟩), .pointer (some ⟨s + 5, 0, none⟩)]], .int .i64 0]) ∧ Pz w' W.heap.size s b0 f0 g0 ps0 ∧ Below W.heap.size W w') := fun W => make_yes b0 f0 g0 y0 o0 u0 W hf0
  have HR0 : Hid (∀ W, Calls Try.prog 16 #[.agg #[.int .i64 b0, .int .i64 f0, .int .i64 g0, .float .f64 y0, .int .i64 o0, .int .i64 u0]] W fun e w' => ∃ r, e = .returned (.tuple #[.pointer (some ⟨r, 0, none⟩), .int .i64 0]) ∧ Rz w' r b0 f0 g0 y0 o0 u0 ps0 ∧ W.heap.size ≤ r ∧ Below W.heap.size W w') := fun W => rMake_yes b0 f0 g0 y0 o0 u0 W hf0
  have HM1 : Hid (∀ W, Calls Try.prog 9 #[.agg #[.int .i64 b1, .int .i64 f1, .int .i64 g1, .float .f64 y1, .int .i64 o1, .int .i64 u1]] W fun e w' => ∃ s, e = .returned (.tuple #[.agg #[.func (.func 22) #[] #[.pointer (some ⟨s, 0, none⟩)], .func (.func 21) #[] #[.pointer (some ⟨s, 0, none⟩), .pointer (some ⟨s + 3, 0, none⟩), .pointer (some ⟨s + 1, 0, none⟩), .pointer (some ⟨s + 2, 0, none⟩)], .func (.func 21) #[] #[.pointer (some ⟨s, 0, none⟩), .pointer (some ⟨s + 6, 0, none⟩), .pointer (some ⟨s + 4, 0, none⟩), .pointer (some ⟨s + 5, 0, none⟩)]], .int .i64 0]) ∧ Pz w' W.heap.size s b1 f1 g1 ps0 ∧ Below W.heap.size W w') := fun W => make_yes b1 f1 g1 y1 o1 u1 W hf1
  have HR1 : Hid (∀ W, Calls Try.prog 16 #[.agg #[.int .i64 b1, .int .i64 f1, .int .i64 g1, .float .f64 y1, .int .i64 o1, .int .i64 u1]] W fun e w' => ∃ r, e = .returned (.tuple #[.pointer (some ⟨r, 0, none⟩), .int .i64 0]) ∧ Rz w' r b1 f1 g1 y1 o1 u1 ps0 ∧ W.heap.size ≤ r ∧ Below W.heap.size W w') := fun W => rMake_yes b1 f1 g1 y1 o1 u1 W hf1
  have hn0 := nil0
  have hn1 := nil1
  have hf0' := fun0
  have hf1' := fun1
  clear hf0 hf1
  go_enter Try.func7, Try.ntmps7
  go_upto_region 1 with fail
  have H1 : Hid (Ms w b0 f0 g0 y0 o0 u0 b1 f1 g1 y1 o1 u1 ((w.alloc (.cells #[.int .i64 b0, .int .i64 f0, .int .i64 g0, .float .f64 y0, .int .i64 o0, .int .i64 u0] 24)).alloc (.cells #[.int .i64 b1, .int .i64 f1, .int .i64 g1, .float .f64 y1, .int .i64 o1, .int .i64 u1] 24))) := Ms.new _ _ _ _ _ _ _ _ _ _ _ _ _
  generalize (w.alloc (.cells #[.int .i64 b0, .int .i64 f0, .int .i64 g0, .float .f64 y0, .int .i64 o0, .int .i64 u0] 24)).alloc (.cells #[.int .i64 b1, .int .i64 f1, .int .i64 g1, .float .f64 y1, .int .i64 o1, .int .i64 u1] 24) = W1 at *
  obtain ⟨k0, k1, k2, k3, k4, k5⟩ := H1.out.c0.cells
  go_upto_region 2 with (go_at_call 9; refine (HM0.out _).mono ?_; rintro e w2 ⟨s1, rfl, hz1, bel⟩)
  have H2 : Hid (Ms w b0 f0 g0 y0 o0 u0 b1 f1 g1 y1 o1 u1 (w2.alloc (.cells #[.func (.func 22) #[] #[.pointer (some ⟨s1, 0, none⟩)], .func (.func 21) #[] #[.pointer (some ⟨s1, 0, none⟩), .pointer (some ⟨s1 + 3, 0, none⟩), .pointer (some ⟨s1 + 1, 0, none⟩), .pointer (some ⟨s1 + 2, 0, none⟩)], .func (.func 21) #[] #[.pointer (some ⟨s1, 0, none⟩), .pointer (some ⟨s1 + 6, 0, none⟩), .pointer (some ⟨s1 + 4, 0, none⟩), .pointer (some ⟨s1 + 5, 0, none⟩)]] 27))) := (H1.out.on bel).on (below_new _ _)
  have HZ1 : Hid (Pz (w2.alloc (.cells #[.func (.func 22) #[] #[.pointer (some ⟨s1, 0, none⟩)], .func (.func 21) #[] #[.pointer (some ⟨s1, 0, none⟩), .pointer (some ⟨s1 + 3, 0, none⟩), .pointer (some ⟨s1 + 1, 0, none⟩), .pointer (some ⟨s1 + 2, 0, none⟩)], .func (.func 21) #[] #[.pointer (some ⟨s1, 0, none⟩), .pointer (some ⟨s1 + 6, 0, none⟩), .pointer (some ⟨s1 + 4, 0, none⟩), .pointer (some ⟨s1 + 5, 0, none⟩)]] 27)) W1.heap.size s1 b0 f0 g0 ps0 ∧ Rb (w2.alloc (.cells #[.func (.func 22) #[] #[.pointer (some ⟨s1, 0, none⟩)], .func (.func 21) #[] #[.pointer (some ⟨s1, 0, none⟩), .pointer (some ⟨s1 + 3, 0, none⟩), .pointer (some ⟨s1 + 1, 0, none⟩), .pointer (some ⟨s1 + 2, 0, none⟩)], .func (.func 21) #[] #[.pointer (some ⟨s1, 0, none⟩), .pointer (some ⟨s1 + 6, 0, none⟩), .pointer (some ⟨s1 + 4, 0, none⟩), .pointer (some ⟨s1 + 5, 0, none⟩)]] 27)) w2.heap.size (fConf s1) (fRest s1) (fClr s1) ∧ s1 + 7 ≤ w2.heap.size ∧ w.heap.size ≤ W1.heap.size) := ⟨hz1.below (below_new _ _), Rb.new _ _ _ _, hz1.size, H1.out.bel.size⟩
  clear hz1
  have hs2 : (w2.alloc (.cells #[.func (.func 22) #[] #[.pointer (some ⟨s1, 0, none⟩)], .func (.func 21) #[] #[.pointer (some ⟨s1, 0, none⟩), .pointer (some ⟨s1 + 3, 0, none⟩), .pointer (some ⟨s1 + 1, 0, none⟩), .pointer (some ⟨s1 + 2, 0, none⟩)], .func (.func 21) #[] #[.pointer (some ⟨s1, 0, none⟩), .pointer (some ⟨s1 + 6, 0, none⟩), .pointer (some ⟨s1 + 4, 0, none⟩), .pointer (some ⟨s1 + 5, 0, none⟩)]] 27)).heap.size = w2.heap.size + 1 := by simp
  clear k0 k1 k2 k3 k4 k5 bel
  generalize w2.alloc (.cells #[.func (.func 22) #[] #[.pointer (some ⟨s1, 0, none⟩)], .func (.func 21) #[] #[.pointer (some ⟨s1, 0, none⟩), .pointer (some ⟨s1 + 3, 0, none⟩), .pointer (some ⟨s1 + 1, 0, none⟩), .pointer (some ⟨s1 + 2, 0, none⟩)], .func (.func 21) #[] #[.pointer (some ⟨s1, 0, none⟩), .pointer (some ⟨s1 + 6, 0, none⟩), .pointer (some ⟨s1 + 4, 0, none⟩), .pointer (some ⟨s1 + 5, 0, none⟩)]] 27) = W2 at *
  generalize w2.heap.size = D1 at *
  obtain ⟨k0, k1, k2, k3, k4, k5⟩ := H2.out.c1.cells
  go_upto_region 3 with (go_at_call 9; refine (HM1.out _).mono ?_; rintro e w4 ⟨s2, rfl, hz2, bel⟩)
  have H4 : Hid (Ms w b0 f0 g0 y0 o0 u0 b1 f1 g1 y1 o1 u1 (w4.alloc (.cells #[.func (.func 22) #[] #[.pointer (some ⟨s2, 0, none⟩)], .func (.func 21) #[] #[.pointer (some ⟨s2, 0, none⟩), .pointer (some ⟨s2 + 3, 0, none⟩), .pointer (some ⟨s2 + 1, 0, none⟩), .pointer (some ⟨s2 + 2, 0, none⟩)], .func (.func 21) #[] #[.pointer (some ⟨s2, 0, none⟩), .pointer (some ⟨s2 + 6, 0, none⟩), .pointer (some ⟨s2 + 4, 0, none⟩), .pointer (some ⟨s2 + 5, 0, none⟩)]] 27))) := (H2.out.on bel).on (below_new _ _)
  have HZ4 : Hid (Pz (w4.alloc (.cells #[.func (.func 22) #[] #[.pointer (some ⟨s2, 0, none⟩)], .func (.func 21) #[] #[.pointer (some ⟨s2, 0, none⟩), .pointer (some ⟨s2 + 3, 0, none⟩), .pointer (some ⟨s2 + 1, 0, none⟩), .pointer (some ⟨s2 + 2, 0, none⟩)], .func (.func 21) #[] #[.pointer (some ⟨s2, 0, none⟩), .pointer (some ⟨s2 + 6, 0, none⟩), .pointer (some ⟨s2 + 4, 0, none⟩), .pointer (some ⟨s2 + 5, 0, none⟩)]] 27)) W1.heap.size s1 b0 f0 g0 ps0 ∧ Rb (w4.alloc (.cells #[.func (.func 22) #[] #[.pointer (some ⟨s2, 0, none⟩)], .func (.func 21) #[] #[.pointer (some ⟨s2, 0, none⟩), .pointer (some ⟨s2 + 3, 0, none⟩), .pointer (some ⟨s2 + 1, 0, none⟩), .pointer (some ⟨s2 + 2, 0, none⟩)], .func (.func 21) #[] #[.pointer (some ⟨s2, 0, none⟩), .pointer (some ⟨s2 + 6, 0, none⟩), .pointer (some ⟨s2 + 4, 0, none⟩), .pointer (some ⟨s2 + 5, 0, none⟩)]] 27)) D1 (fConf s1) (fRest s1) (fClr s1) ∧ s1 + 7 ≤ D1 ∧ w.heap.size ≤ W1.heap.size ∧ Pz (w4.alloc (.cells #[.func (.func 22) #[] #[.pointer (some ⟨s2, 0, none⟩)], .func (.func 21) #[] #[.pointer (some ⟨s2, 0, none⟩), .pointer (some ⟨s2 + 3, 0, none⟩), .pointer (some ⟨s2 + 1, 0, none⟩), .pointer (some ⟨s2 + 2, 0, none⟩)], .func (.func 21) #[] #[.pointer (some ⟨s2, 0, none⟩), .pointer (some ⟨s2 + 6, 0, none⟩), .pointer (some ⟨s2 + 4, 0, none⟩), .pointer (some ⟨s2 + 5, 0, none⟩)]] 27)) (D1 + 1) s2 b1 f1 g1 ps0 ∧ Rb (w4.alloc (.cells #[.func (.func 22) #[] #[.pointer (some ⟨s2, 0, none⟩)], .func (.func 21) #[] #[.pointer (some ⟨s2, 0, none⟩), .pointer (some ⟨s2 + 3, 0, none⟩), .pointer (some ⟨s2 + 1, 0, none⟩), .pointer (some ⟨s2 + 2, 0, none⟩)], .func (.func 21) #[] #[.pointer (some ⟨s2, 0, none⟩), .pointer (some ⟨s2 + 6, 0, none⟩), .pointer (some ⟨s2 + 4, 0, none⟩), .pointer (some ⟨s2 + 5, 0, none⟩)]] 27)) w4.heap.size (fConf s2) (fRest s2) (fClr s2) ∧ s2 + 7 ≤ w4.heap.size) := by
    have hb := bel.next (below_new w4 (.cells #[.func (.func 22) #[] #[.pointer (some ⟨s2, 0, none⟩)], .func (.func 21) #[] #[.pointer (some ⟨s2, 0, none⟩), .pointer (some ⟨s2 + 3, 0, none⟩), .pointer (some ⟨s2 + 1, 0, none⟩), .pointer (some ⟨s2 + 2, 0, none⟩)], .func (.func 21) #[] #[.pointer (some ⟨s2, 0, none⟩), .pointer (some ⟨s2 + 6, 0, none⟩), .pointer (some ⟨s2 + 4, 0, none⟩), .pointer (some ⟨s2 + 5, 0, none⟩)]] 27)) (Nat.le_refl _)
    have h1 := HZ1.out
    rw [hs2] at hz2
    exact ⟨h1.1.below hb, h1.2.1.below hb, h1.2.2.1, h1.2.2.2, hz2.below (below_new _ _), Rb.new _ _ _ _, hz2.size⟩
  have hs4 : (w4.alloc (.cells #[.func (.func 22) #[] #[.pointer (some ⟨s2, 0, none⟩)], .func (.func 21) #[] #[.pointer (some ⟨s2, 0, none⟩), .pointer (some ⟨s2 + 3, 0, none⟩), .pointer (some ⟨s2 + 1, 0, none⟩), .pointer (some ⟨s2 + 2, 0, none⟩)], .func (.func 21) #[] #[.pointer (some ⟨s2, 0, none⟩), .pointer (some ⟨s2 + 6, 0, none⟩), .pointer (some ⟨s2 + 4, 0, none⟩), .pointer (some ⟨s2 + 5, 0, none⟩)]] 27)).heap.size = w4.heap.size + 1 := by simp
  clear k0 k1 k2 k3 k4 k5 bel HZ1 H1 H2 hs2
  generalize w4.alloc (.cells #[.func (.func 22) #[] #[.pointer (some ⟨s2, 0, none⟩)], .func (.func 21) #[] #[.pointer (some ⟨s2, 0, none⟩), .pointer (some ⟨s2 + 3, 0, none⟩), .pointer (some ⟨s2 + 1, 0, none⟩), .pointer (some ⟨s2 + 2, 0, none⟩)], .func (.func 21) #[] #[.pointer (some ⟨s2, 0, none⟩), .pointer (some ⟨s2 + 6, 0, none⟩), .pointer (some ⟨s2 + 4, 0, none⟩), .pointer (some ⟨s2 + 5, 0, none⟩)]] 27) = W4 at *
  generalize w4.heap.size = D2 at *
  obtain ⟨k0, k1, k2, k3, k4, k5⟩ := H4.out.c0.cells
  go_upto_region 4 with (go_at_call 16; refine (HR0.out _).mono ?_; rintro e w5 ⟨r1, rfl, hr1, hr1b, bel⟩)
  have H5 : Hid (Ms w b0 f0 g0 y0 o0 u0 b1 f1 g1 y1 o1 u1 w5) := H4.out.on bel
  have HB5 : Hid (Below W4.heap.size W4 w5) := bel
  have HR5 : Hid (Rz w5 r1 b0 f0 g0 y0 o0 u0 ps0 ∧ W4.heap.size ≤ r1) := ⟨hr1, hr1b⟩
  clear hr1 hr1b
  clear k0 k1 k2 k3 k4 k5 bel
  obtain ⟨k0, k1, k2, k3, k4, k5⟩ := H5.out.c1.cells
  go_upto_region 5 with (go_at_call 16; refine (HR1.out _).mono ?_; rintro e w6 ⟨r2, rfl, hr2, hr2b, bel⟩)
  have H6 : Hid (Ms w b0 f0 g0 y0 o0 u0 b1 f1 g1 y1 o1 u1 w6) := H5.out.on bel
  have HB6 : Hid (Below W4.heap.size W4 w6) := HB5.out.next bel (Nat.le_refl _)
  have HK0 : Hid (Mk w W1.heap.size s1 D1 (D1 + 1) s2 D2 r1 r2 b0 f0 g0 y0 o0 u0 b1 f1 g1 y1 o1 u1 ps0 ps0 (.slice av zs.length cv) zs w6) := by
    have h4 := HZ4.out
    have h5 := HR5.out
    have hb6 := HB6.out
    have hz1 := h4.1.below hb6
    have hz2' := h4.2.2.2.2.1.below hb6
    have hlt5 := h5.1.lt
    have hq1 := hz1.lt
    have hq2 := hz2'.lt
    exact ⟨⟨hz1, h5.1.below bel, Pn.zero hb1 hb2 hff1 hff2 hg1 hg2, by omega⟩, ⟨hz2', hr2, Pn.zero kb1 kb2 kf1 kf2 kg1 kg2, by omega⟩, h4.2.1.below hb6, h4.2.2.2.2.2.1.below hb6, by have := hz1.lt; have := hz2'.lt; omega, HRd.out.keepBel H6.out.bel, fun q hq hne => HVB.out q hq hne, H6.out.bel⟩
  clear hr2 hr2b bel k0 k1 k2 k3 k4 k5 H4 H5 H6 HB5 HB6 HR5 HZ4 HM0 HM1 HR0 HR1 hn0 hn1 hz2 HRd HVB hb1 hb2 hff1 hff2 hg1 hg2 kb1 kb2 kf1 kf2 kg1 kg2 hs4
  obtain ⟨a0, a1, a2⟩ := HK0.out.q1.cells
  obtain ⟨a3, a4, a5⟩ := HK0.out.q2.cells
  have z0 : w6.cell? ⟨D1, 0, none⟩ = some (.func (.func 22) #[] #[.pointer (some ⟨s1, 0, none⟩)]) := a0
  have z1 : w6.cell? ⟨D1, 1, none⟩ = some (.func (.func 21) #[] #[.pointer (some ⟨s1, 0, none⟩), .pointer (some ⟨s1 + 3, 0, none⟩), .pointer (some ⟨s1 + 1, 0, none⟩), .pointer (some ⟨s1 + 2, 0, none⟩)]) := a1
  have z2 : w6.cell? ⟨D1, 2, none⟩ = some (.func (.func 21) #[] #[.pointer (some ⟨s1, 0, none⟩), .pointer (some ⟨s1 + 6, 0, none⟩), .pointer (some ⟨s1 + 4, 0, none⟩), .pointer (some ⟨s1 + 5, 0, none⟩)]) := a2
  clear a0 a1 a2
  have z3 : w6.cell? ⟨D2, 0, none⟩ = some (.func (.func 22) #[] #[.pointer (some ⟨s2, 0, none⟩)]) := a3
  have z4 : w6.cell? ⟨D2, 1, none⟩ = some (.func (.func 21) #[] #[.pointer (some ⟨s2, 0, none⟩), .pointer (some ⟨s2 + 3, 0, none⟩), .pointer (some ⟨s2 + 1, 0, none⟩), .pointer (some ⟨s2 + 2, 0, none⟩)]) := a4
  have z5 : w6.cell? ⟨D2, 2, none⟩ = some (.func (.func 21) #[] #[.pointer (some ⟨s2, 0, none⟩), .pointer (some ⟨s2 + 6, 0, none⟩), .pointer (some ⟨s2 + 4, 0, none⟩), .pointer (some ⟨s2 + 5, 0, none⟩)]) := a5
  clear a3 a4 a5
  unfold maxLen at hvm
  go_wp2
  clear z0 z1 z2 z3 z4 z5 hf0' hf1'
  generalize W1.heap.size = C1 at *
  generalize D1 + 1 = C2 at *
  go_loopg [15] zs.length (fun gk c wr => ∃ (j : Nat) (x y : Ps), j + gk = zs.length ∧ c = .int .i64 j ∧ x.k ≤ 3000 * (j : Int) ∧ y.k ≤ 3000 * (j : Int) ∧ Hid (Mk w C1 s1 D1 C2 s2 D2 r1 r2 b0 f0 g0 y0 o0 u0 b1 f1 g1 y1 o1 u1 x y (.slice av zs.length cv) zs wr))
  case atStart => exact ⟨0, ps0, ps0, by omega, rfl, by decide, by decide, HK0⟩
  case round =>
    obtain ⟨j, x, y, hj, rfl, hxk, hyk, HK⟩ := hrel
    have HJ : Hid (j + gk = zs.length) := hj
    have hjl' : j ≤ zs.length := by omega
    have HXK : Hid (x.k ≤ 3000 * (j : Int)) := hxk
    have HYK : Hid (y.k ≤ 3000 * (j : Int)) := hyk
    clear hxk hyk hj
    by_cases hjl : j < zs.length
    · obtain ⟨z, hz⟩ : ∃ z, z = zs.getD j 0 := ⟨_, rfl⟩
      have HZC : Hid (∀ W', Rd W' (.slice av zs.length cv) zs → ∃ bb off, av = some ⟨bb, off, none⟩ ∧ W'.cell? ⟨bb, off + j, none⟩ = some (.int .i64 z)) := fun W' h => by
        rcases h.cases with ⟨h0, _⟩ | ⟨bb, off, cc, e1, _, _, _, _, hc⟩
        · rw [h0] at hjl; simp at hjl
        · injection e1 with e1 _ _
          exact ⟨bb, off, e1, by rw [hz]; exact hc j hjl⟩
      obtain ⟨bb, off, hav, zc⟩ := HZC.out wr HK.out.rd
      subst hav
      have HZD : Hid (∀ W', Rd W' (.slice (some ⟨bb, off, none⟩) zs.length cv) zs → W'.cell? ⟨bb, off + j, none⟩ = some (.int .i64 z)) := fun W' h => by
        obtain ⟨bb', off', e, hc⟩ := HZC.out W' h
        injection e with e
        injection e with e1 e2
        subst e1; subst e2
        exact hc
      clear hz HZC
      obtain ⟨a0, a1, a2⟩ := HK.out.q1.cells
      have z0 : wr.cell? ⟨D1, 0, none⟩ = some (.func (.func 22) #[] #[.pointer (some ⟨s1, 0, none⟩)]) := a0
      have z1 : wr.cell? ⟨D1, 1, none⟩ = some (.func (.func 21) #[] #[.pointer (some ⟨s1, 0, none⟩), .pointer (some ⟨s1 + 3, 0, none⟩), .pointer (some ⟨s1 + 1, 0, none⟩), .pointer (some ⟨s1 + 2, 0, none⟩)]) := a1
      have z2 : wr.cell? ⟨D1, 2, none⟩ = some (.func (.func 21) #[] #[.pointer (some ⟨s1, 0, none⟩), .pointer (some ⟨s1 + 6, 0, none⟩), .pointer (some ⟨s1 + 4, 0, none⟩), .pointer (some ⟨s1 + 5, 0, none⟩)]) := a2
      clear a0 a1 a2
      have HS1 : Hid (∀ k, Calls Try.prog 17 #[.agg #[.func (.func 22) #[] #[.pointer (some ⟨s1, 0, none⟩)], .func (.func 21) #[] #[.pointer (some ⟨s1, 0, none⟩), .pointer (some ⟨s1 + 3, 0, none⟩), .pointer (some ⟨s1 + 1, 0, none⟩), .pointer (some ⟨s1 + 2, 0, none⟩)], .func (.func 21) #[] #[.pointer (some ⟨s1, 0, none⟩), .pointer (some ⟨s1 + 6, 0, none⟩), .pointer (some ⟨s1 + 4, 0, none⟩), .pointer (some ⟨s1 + 5, 0, none⟩)]], .pointer (some ⟨r1, 0, none⟩), .int .i64 k] wr.drew fun e w' => e = .returned (.bool true) ∧ Hid (MkS1 w C1 s1 D1 C2 s2 D2 r1 r2 b0 f0 g0 y0 o0 u0 b1 f1 g1 y1 o1 u1 x y (.slice (some ⟨bb, off, none⟩) zs.length cv) zs w')) := fun k => by
        have hd := HK.out.below (below_drew13 wr)
        refine (step_any wr.drew C1 s1 r1 b0 f0 g0 y0 o0 u0 x k hd.t1 (by have := HXK.out; omega)).mono ?_
        rintro e w' ⟨h1, x', h2, h3, h4⟩
        exact ⟨h1, x', h3, hd.one h2 h4⟩
      go_upto_region 16 with fail
      go_cut [16] from 102 to 109 (fun u16 wx => u16 = .bool true ∧ Hid (MkS1 w C1 s1 D1 C2 s2 D2 r1 r2 b0 f0 g0 y0 o0 u0 b1 f1 g1 y1 o1 u1 x y (.slice (some ⟨bb, off, none⟩) zs.length cv) zs wx))
      case first =>
        go_region_with (go_at_call 17; refine (HS1.out _).mono ?_; rintro e w7 ⟨rfl, H7⟩)
        all_goals
          go_wp2_with fail
          go_meet
          exact ⟨rfl, H7⟩
      case rest =>
      obtain ⟨rfl, x', hx', hk'⟩ := hcut
      have HX' : Hid (x'.k ≤ x.k + 3000) := hx'
      have HK' : Hid (Mk w C1 s1 D1 C2 s2 D2 r1 r2 b0 f0 g0 y0 o0 u0 b1 f1 g1 y1 o1 u1 x' y (.slice (some ⟨bb, off, none⟩) zs.length cv) zs wc) := hk'
      clear z0 z1 z2 zc HS1 hx' hk' HK
      have zc := HZD.out wc HK'.out.rd
      by_cases hz0 : 0 ≤ z
      · obtain ⟨a3, a4, a5⟩ := HK'.out.q2.cells
        have z3 : wc.cell? ⟨D2, 0, none⟩ = some (.func (.func 22) #[] #[.pointer (some ⟨s2, 0, none⟩)]) := a3
        have z4 : wc.cell? ⟨D2, 1, none⟩ = some (.func (.func 21) #[] #[.pointer (some ⟨s2, 0, none⟩), .pointer (some ⟨s2 + 3, 0, none⟩), .pointer (some ⟨s2 + 1, 0, none⟩), .pointer (some ⟨s2 + 2, 0, none⟩)]) := a4
        have z5 : wc.cell? ⟨D2, 2, none⟩ = some (.func (.func 21) #[] #[.pointer (some ⟨s2, 0, none⟩), .pointer (some ⟨s2 + 6, 0, none⟩), .pointer (some ⟨s2 + 4, 0, none⟩), .pointer (some ⟨s2 + 5, 0, none⟩)]) := a5
        clear a3 a4 a5
        have HS2 : Hid (∀ k, Calls Try.prog 17 #[.agg #[.func (.func 22) #[] #[.pointer (some ⟨s2, 0, none⟩)], .func (.func 21) #[] #[.pointer (some ⟨s2, 0, none⟩), .pointer (some ⟨s2 + 3, 0, none⟩), .pointer (some ⟨s2 + 1, 0, none⟩), .pointer (some ⟨s2 + 2, 0, none⟩)], .func (.func 21) #[] #[.pointer (some ⟨s2, 0, none⟩), .pointer (some ⟨s2 + 6, 0, none⟩), .pointer (some ⟨s2 + 4, 0, none⟩), .pointer (some ⟨s2 + 5, 0, none⟩)]], .pointer (some ⟨r2, 0, none⟩), .int .i64 k] wc.drew fun e w' => e = .returned (.bool true) ∧ Hid (MkS2 w C1 s1 D1 C2 s2 D2 r1 r2 b0 f0 g0 y0 o0 u0 b1 f1 g1 y1 o1 u1 x' y (.slice (some ⟨bb, off, none⟩) zs.length cv) zs w')) := fun k => by
          have hd := HK'.out.below (below_drew13 wc)
          refine (step_any wc.drew C2 s2 r2 b1 f1 g1 y1 o1 u1 y k hd.t2 (by have := HYK.out; omega)).mono ?_
          rintro e w' ⟨h1, y', h2, h3, h4⟩
          exact ⟨h1, y', h3, hd.two h2 h4⟩
        go_upto_region 18 with fail
        go_region_with (go_at_call 17; refine (HS2.out _).mono ?_; rintro e w8 ⟨rfl, H8⟩)
        all_goals
          go_wp2_with fail
          go_roundg (gk - 1)
          case measure => have := HJ.out; omega
          case rel =>
            obtain ⟨y', hy', hk8⟩ := H8.out
            exact ⟨j + 1, x', y', by have := HJ.out; omega, by go_num, by have := HX'.out; have := HXK.out; omega, by have := HYK.out; omega, hk8⟩
      · go_wp2_with fail
        go_roundg (gk - 1)
        case measure => have := HJ.out; omega
        case rel => exact ⟨j + 1, x', y, by have := HJ.out; omega, by go_num, by have := HX'.out; have := HXK.out; omega, by have := HYK.out; omega, HK'⟩
    · have HS : Hid (∀ W' x', x'.k ≤ 3000 * (zs.length : Int) + 9000 → Mk w C1 s1 D1 C2 s2 D2 r1 r2 b0 f0 g0 y0 o0 u0 b1 f1 g1 y1 o1 u1 x' y (.slice av zs.length cv) zs W' → ∀ k, Calls Try.prog 17 #[.agg #[.func (.func 22) #[] #[.pointer (some ⟨s1, 0, none⟩)], .func (.func 21) #[] #[.pointer (some ⟨s1, 0, none⟩), .pointer (some ⟨s1 + 3, 0, none⟩), .pointer (some ⟨s1 + 1, 0, none⟩), .pointer (some ⟨s1 + 2, 0, none⟩)], .func (.func 21) #[] #[.pointer (some ⟨s1, 0, none⟩), .pointer (some ⟨s1 + 6, 0, none⟩), .pointer (some ⟨s1 + 4, 0, none⟩), .pointer (some ⟨s1 + 5, 0, none⟩)]], .pointer (some ⟨r1, 0, none⟩), .int .i64 k] W' fun e w' => e = .returned (.bool true) ∧ (w'.cell? ⟨D1, 0, none⟩ = some (.func (.func 22) #[] #[.pointer (some ⟨s1, 0, none⟩)]) ∧ w'.cell? ⟨D1, 1, none⟩ = some (.func (.func 21) #[] #[.pointer (some ⟨s1, 0, none⟩), .pointer (some ⟨s1 + 3, 0, none⟩), .pointer (some ⟨s1 + 1, 0, none⟩), .pointer (some ⟨s1 + 2, 0, none⟩)]) ∧ w'.cell? ⟨D1, 2, none⟩ = some (.func (.func 21) #[] #[.pointer (some ⟨s1, 0, none⟩), .pointer (some ⟨s1 + 6, 0, none⟩), .pointer (some ⟨s1 + 4, 0, none⟩), .pointer (some ⟨s1 + 5, 0, none⟩)])) ∧ Hid (MkS1 w C1 s1 D1 C2 s2 D2 r1 r2 b0 f0 g0 y0 o0 u0 b1 f1 g1 y1 o1 u1 x' y (.slice av zs.length cv) zs w')) := fun W' x' hx' hK k => by
        refine (step_any W' C1 s1 r1 b0 f0 g0 y0 o0 u0 x' k hK.t1 (by omega)).mono ?_
        rintro e w' ⟨h1, x'', h2, h3, h4⟩
        have hk2 := hK.one h2 h4
        exact ⟨h1, hk2.q1.cells, x'', h3, hk2⟩
      have HX0 : Hid (x.k ≤ 3000 * (zs.length : Int)) := by have := HXK.out; show _ ≤ _; omega
      obtain ⟨a0, a1, a2⟩ := HK.out.q1.cells
      have z0 : wr.cell? ⟨D1, 0, none⟩ = some (.func (.func 22) #[] #[.pointer (some ⟨s1, 0, none⟩)]) := a0
      have z1 : wr.cell? ⟨D1, 1, none⟩ = some (.func (.func 21) #[] #[.pointer (some ⟨s1, 0, none⟩), .pointer (some ⟨s1 + 3, 0, none⟩), .pointer (some ⟨s1 + 1, 0, none⟩), .pointer (some ⟨s1 + 2, 0, none⟩)]) := a1
      have z2 : wr.cell? ⟨D1, 2, none⟩ = some (.func (.func 21) #[] #[.pointer (some ⟨s1, 0, none⟩), .pointer (some ⟨s1 + 6, 0, none⟩), .pointer (some ⟨s1 + 4, 0, none⟩), .pointer (some ⟨s1 + 5, 0, none⟩)]) := a2
      clear a0 a1 a2
      go_wp2_with (first
        | (go_at_call_has 17 (Value.int IntKind.i64 3000); refine (HS.out _ x (by have := HX0.out; omega) HK.out _).mono ?_; rintro e w7 ⟨rfl, ⟨j0, j1, j2⟩, H7⟩)
        | (go_at_call_has 17 (Value.int IntKind.i64 1); obtain ⟨x7, hx7, hk7⟩ := H7.out; refine (HS.out _ x7 (by have := HX0.out; omega) hk7 _).mono ?_; rintro e w8 ⟨rfl, ⟨l0, l1, l2⟩, H8⟩)
        | (go_at_call_has 17 (Value.int IntKind.i64 2); obtain ⟨x8, hx8, hk8⟩ := H8.out; refine (HS.out _ x8 (by have := HX0.out; omega) hk8 _).mono ?_; rintro e w9 ⟨rfl, ⟨n0, n1, n2⟩, H9⟩))
      go_ret
      obtain ⟨x9, hx9, hk9⟩ := H9.out
      exact ⟨rfl, hk9.bel⟩

theorem walk (b0 f0 g0 : Int) (y0 : Nat) (o0 u0 b1 f1 g1 : Int) (y1 : Nat) (o1 u1 : Int) (v : Value) (zs : List Int) (w : World) (hrd : Rd w v zs) :
    Calls Try.prog 7 #[.agg #[.int .i64 b0, .int .i64 f0, .int .i64 g0, .float .f64 y0, .int .i64 o0, .int .i64 u0], .agg #[.int .i64 b1, .int .i64 f1, .int .i64 g1, .float .f64 y1, .int .i64 o1, .int .i64 u1], v] w fun e w' => e = .returned (.bool true) ∧ Below w.heap.size w w' := by
  have hv : ∃ a c, v = .slice a zs.length c := by
    obtain ⟨_, a, c, h, _⟩ := hrd
    exact ⟨a, c, h⟩
  cases hf0 : fmC b0 f0 g0 y0 o0
  · cases hf1 : fmC b1 f1 g1 y1 o1
    · exact walk_nn b0 f0 g0 y0 o0 u0 b1 f1 g1 y1 o1 u1 v zs w hf0 hf1 hv
    · exact walk_ny b0 f0 g0 y0 o0 u0 b1 f1 g1 y1 o1 u1 v zs w hf0 hf1 hv
  · cases hf1 : fmC b1 f1 g1 y1 o1
    · exact walk_yn b0 f0 g0 y0 o0 u0 b1 f1 g1 y1 o1 u1 v zs w hf0 hf1 hv
    · exact walk_yy b0 f0 g0 y0 o0 u0 b1 f1 g1 y1 o1 u1 v zs w hf0 hf1 hrd
end Go.Proofs.Ythcbpdnaocpleaa.paceMakes

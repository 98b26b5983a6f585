/-
  LearnShrinks, walked.
  KEEP: len below nil form rd mono one more grown lt size cell some none of ofNat add out step row get at mk new made look put del kept drew alloc has same other map rde take lit lev lstB pre ws cells bnd on start app set box bel rz tidy ms reason c f max lv
-/
import Derived.Test.YtkchabdlpeifjaaKLnCt
import Derived.Test.YtkchabdlpeifjaaLnC
set_option linter.unusedSimpArgs false
set_option linter.unusedVariables false
namespace Go.Proofs.Ytkchabdlpeifjaa.learnShrinks
open Go Go.RowKit
theorem lrn8 (t : List Ent) (zs : List Int) (h : zs.length * 8 ≤ 140737488351232) : (if askI t zs = 0 then shrK t zs zs.length else []).length * 8 ≤ 140737488351232 := by
  split
  · have := shrK_len t zs zs.length
    omega
  · simp
set_option maxRecDepth 100000 in
set_option maxHeartbeats 3200000 in
theorem walk (v : Value) (t : List Ent) (vc : Value) (zs : List Int) (w : World) (hr : RdE w v t) (hz : Rd w vc zs) :
    Calls Try.prog 6 #[v, vc] w fun e w' => e = .returned (.bool true) ∧ Below w.heap.size w w' := by
  have hl := hr.len
  have h8 := rde_each hr
  have hlz := hz.len
  have hl8 := lrn8 t zs hlz
  have HC : Hid (Calls Try.prog 11 #[v] w fun e w' => ∃ u, e = .returned u ∧ RdE w' u t ∧ Below w.heap.size w w') := (copyEntries_any v t w hr).mono fun e w' ⟨u, h1, h2, h3⟩ => ⟨u, h1, h2.rde hl h8, h3⟩
  have HI : Hid (∀ W, Below w.heap.size w W → Calls Try.prog 14 #[vc] W fun e w' => ∃ u, e = .returned u ∧ Rd w' u zs ∧ Below W.heap.size W w') := fun W h => (copyInts_any vc zs W (hz.below h)).mono fun e w' ⟨u, h1, h2, h3⟩ => ⟨u, h1, h2.rd hlz, h3⟩
  obtain ⟨K, hK⟩ : ∃ K, (if askI t zs = 0 then shrK t zs zs.length else []) = K := ⟨_, rfl⟩
  obtain ⟨E, hE⟩ : ∃ E, askI t zs = E := ⟨_, rfl⟩
  have HF : Hid (∀ W u uc, RdE W u t → Rd W uc zs → Calls Try.prog 17 #[u, uc] W fun e w' => ∃ x, e = .returned (.tuple #[x, .int .i64 E]) ∧ Rd w' x K ∧ Below W.heap.size W w') := fun W u uc h1 h2 => (shrink_any u uc t zs W h1 h2).mono fun e w' ⟨⟨x, h3, h4⟩, h5⟩ => by
    rw [hE] at h3
    rw [hK] at h4
    exact ⟨x, h3, h4.rd (by rw [← hK]; exact hl8), h5⟩
  have HG : Hid (∀ W, Below w.heap.size w W → Calls Try.prog 18 #[v, vc] W fun e w' => ∃ x, e = .returned (.tuple #[x, .int .i64 E]) ∧ Rd w' x K ∧ Below W.heap.size W w') := fun W h => (rShrink_any v vc t zs W (hr.below h) (hz.below h)).mono fun e w' ⟨⟨x, h3, h4⟩, h5⟩ => by
    rw [hE] at h3
    rw [hK] at h4
    exact ⟨x, h3, h4.rd (by rw [← hK]; exact hl8), h5⟩
  have HS : Hid (∀ W x y, Rd W x K → Rd W y K → Calls Try.prog 16 #[x, y] W fun e w' => e = .returned (.bool true) ∧ Below W.heap.size W w') := fun W x y h1 h2 => by
    have := sameInts_any x y K K W h1 h2
    rw [show (K == K) = true by simp] at this
    exact this
  clear hr hz h8 hK hE hl8
  have h1 : (E == E) = true := by simp
  go_enter Try.func6, Try.ntmps6
  go_wp2_with (first
    | (go_at_call 11; refine HC.out.mono ?_; rintro e w1 ⟨u, rfl, hu, b1⟩; have H1 : Hid (RdE w1 u t ∧ Below w.heap.size w w1) := ⟨hu, b1⟩; clear hu b1)
    | (go_at_call 14; refine (HI.out _ H1.out.2).mono ?_; rintro e w2 ⟨uc, rfl, hu, b1⟩; have H2 : Hid (RdE w2 u t ∧ Rd w2 uc zs ∧ Below w.heap.size w w2) := ⟨H1.out.1.below b1, hu, Below.step H1.out.2 b1⟩; clear hu b1)
    | (go_at_call 17; refine (HF.out _ _ _ H2.out.1 H2.out.2.1).mono ?_; rintro e w3 ⟨x3, rfl, hx, b3⟩; have H3 : Hid (Below w.heap.size w w3 ∧ Rd w3 x3 K) := ⟨Below.step H2.out.2.2 b3, hx⟩; clear b3 hx)
    | (go_at_call 18; refine (HG.out _ H3.out.1).mono ?_; rintro e w4 ⟨x4, rfl, hx, b4⟩; have H4 : Hid (Below w.heap.size w w4 ∧ Rd w4 x3 K ∧ Rd w4 x4 K) := ⟨Below.step H3.out.1 b4, H3.out.2.below b4, hx⟩; clear b4 hx)
    | (go_at_call 16; refine (HS.out _ _ _ H4.out.2.1 H4.out.2.2).mono ?_; rintro e w5 ⟨rfl, b5⟩; have H5 : Hid (Below w.heap.size w w5) := Below.step H4.out.1 b5; clear b5))
  go_ret
  exact ⟨rfl, H5.out⟩
end Go.Proofs.Ytkchabdlpeifjaa.learnShrinks

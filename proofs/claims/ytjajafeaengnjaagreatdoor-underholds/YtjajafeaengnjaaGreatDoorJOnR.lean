/-
  joined: OnR OnD RpA
-/
import Derived.Test.YtjajafeaengnjaaGreatDoorKOnC
import Derived.Test.YtjajafeaengnjaaGreatDoorJUnS
import Derived.Test.YtjajafeaengnjaaGreatDoorJTidy
set_option linter.unusedSimpArgs false
set_option linter.unusedVariables false
namespace Go.Proofs.YtjajafeaengnjaaGreatDoor
open Go Go.RowKit

structure LrN (Q : Exit → Act → World → Prop) (D : List Deferred) (y0 y1 y2 y4 y5 y6 y7 y8 y10 y11 y12 y13 y14 y15 y16 y17 y18 y19 y20 y21 y22 y23 y24 y25 y26 y27 y28 y29 y30 y31 y32 y33 : Value) (pb : Addr) (b g t k Rn cR : Nat) (W0 : World) (L : Nat → Bool) (W : World) (x34 x35 x36 x37 x38 x39 x40 x41 x42 : Value) : Prop where
  f0 : L 0 = true → x34 = .pointer (some ⟨b, 0, none⟩)
  f1 : L 1 = true → x35 = .pointer (some ⟨b, 0, none⟩)
  f2 : L 2 = true → x36 = .pointer (some ⟨b, 0, none⟩)
  f3 : L 3 = true → x37 = .pointer (some ⟨b, 6, none⟩)
  f4 : L 4 = true → x38 = .slice (some ⟨g, 0, none⟩) Rn cR
  f5 : L 5 = true → x39 = .int .i64 (t : Int)
  f6 : L 6 = true → x40 = .pointer (some ⟨g, t, none⟩)
  f7 : L 7 = true → x41 = .int .i32 (k : Int)
  bel : L 8 = false → Below W0.heap.size W0 W
  fin : L 8 = true → Q .normal ({ tmps := #[y0, y1, y2, (.pointer (some pb)), y4, y5, y6, y7, y8, (.int .i64 (t : Int)), y10, y11, y12, y13, y14, y15, y16, y17, y18, y19, y20, y21, y22, y23, y24, y25, y26, y27, y28, y29, y30, y31, y32, y33, x34, x35, x36, x37, x38, x39, x40, x41, x42], defers := D } : Act) W
  c2 : L 2 = true → L 1 = true
  c3 : L 3 = true → L 2 = true
  c4 : L 4 = true → L 3 = true
  c6 : L 6 = true → L 4 = true ∧ L 5 = true
  c7 : L 7 = true → L 6 = true
  c8 : L 8 = true → L 0 = true ∧ L 7 = true
theorem LrN.q8 {Q : Exit → Act → World → Prop} {D : List Deferred} {y0 y1 y2 y4 y5 y6 y7 y8 y10 y11 y12 y13 y14 y15 y16 y17 y18 y19 y20 y21 y22 y23 y24 y25 y26 y27 y28 y29 y30 y31 y32 y33 : Value} {pb : Addr} {b g t k Rn cR : Nat} {W0 : World} {L : Nat → Bool} {W : World} {x34 x35 x36 x37 x38 x39 x40 x41 x42 : Value} (h : LrN Q D y0 y1 y2 y4 y5 y6 y7 y8 y10 y11 y12 y13 y14 y15 y16 y17 y18 y19 y20 y21 y22 y23 y24 y25 y26 y27 y28 y29 y30 y31 y32 y33 pb b g t k Rn cR W0 L W x34 x35 x36 x37 x38 x39 x40 x41 x42) (hn : L 0 = false ∨ L 1 = false ∨ L 2 = false ∨ L 3 = false ∨ L 4 = false ∨ L 5 = false ∨ L 6 = false ∨ L 7 = false) : L 8 = false := by
  cases e : L 8
  · rfl
  · exfalso
    obtain ⟨a0, a7⟩ := h.c8 e
    have a6 := h.c7 a7
    obtain ⟨a4, a5⟩ := h.c6 a6
    have a3 := h.c4 a4
    have a2 := h.c3 a3
    have a1 := h.c2 a2
    simp [a0, a1, a2, a3, a4, a5, a6, a7] at hn
theorem LrN.s0 {Q : Exit → Act → World → Prop} {D : List Deferred} {y0 y1 y2 y4 y5 y6 y7 y8 y10 y11 y12 y13 y14 y15 y16 y17 y18 y19 y20 y21 y22 y23 y24 y25 y26 y27 y28 y29 y30 y31 y32 y33 : Value} {pb : Addr} {b g t k Rn cR : Nat} {W0 : World} {L : Nat → Bool} {W : World} {x34 x35 x36 x37 x38 x39 x40 x41 x42 : Value} (h : LrN Q D y0 y1 y2 y4 y5 y6 y7 y8 y10 y11 y12 y13 y14 y15 y16 y17 y18 y19 y20 y21 y22 y23 y24 y25 y26 y27 y28 y29 y30 y31 y32 y33 pb b g t k Rn cR W0 L W x34 x35 x36 x37 x38 x39 x40 x41 x42) (hq : L 8 = false) : LrN Q D y0 y1 y2 y4 y5 y6 y7 y8 y10 y11 y12 y13 y14 y15 y16 y17 y18 y19 y20 y21 y22 y23 y24 y25 y26 y27 y28 y29 y30 y31 y32 y33 pb b g t k Rn cR W0 (upd L 0) W (.pointer (some ⟨b, 0, none⟩)) x35 x36 x37 x38 x39 x40 x41 x42 :=
  ⟨fun _ => rfl, h.f1, h.f2, h.f3, h.f4, h.f5, h.f6, h.f7, fun _ => h.bel hq, fun hl => absurd (show L 8 = true from hl) (by rw [hq]; decide), fun hl => by have := h.c2 (show L 2 = true from hl); simp [upd, this], fun hl => by have := h.c3 (show L 3 = true from hl); simp [upd, this], fun hl => by have := h.c4 (show L 4 = true from hl); simp [upd, this], fun hl => by have := h.c6 (show L 6 = true from hl); simp [upd, this], fun hl => by have := h.c7 (show L 7 = true from hl); simp [upd, this], fun hl => by have := h.c8 (show L 8 = true from hl); simp [upd, this]⟩
theorem LrN.s1 {Q : Exit → Act → World → Prop} {D : List Deferred} {y0 y1 y2 y4 y5 y6 y7 y8 y10 y11 y12 y13 y14 y15 y16 y17 y18 y19 y20 y21 y22 y23 y24 y25 y26 y27 y28 y29 y30 y31 y32 y33 : Value} {pb : Addr} {b g t k Rn cR : Nat} {W0 : World} {L : Nat → Bool} {W : World} {x34 x35 x36 x37 x38 x39 x40 x41 x42 : Value} (h : LrN Q D y0 y1 y2 y4 y5 y6 y7 y8 y10 y11 y12 y13 y14 y15 y16 y17 y18 y19 y20 y21 y22 y23 y24 y25 y26 y27 y28 y29 y30 y31 y32 y33 pb b g t k Rn cR W0 L W x34 x35 x36 x37 x38 x39 x40 x41 x42) (hq : L 8 = false) : LrN Q D y0 y1 y2 y4 y5 y6 y7 y8 y10 y11 y12 y13 y14 y15 y16 y17 y18 y19 y20 y21 y22 y23 y24 y25 y26 y27 y28 y29 y30 y31 y32 y33 pb b g t k Rn cR W0 (upd L 1) W x34 (.pointer (some ⟨b, 0, none⟩)) x36 x37 x38 x39 x40 x41 x42 :=
  ⟨h.f0, fun _ => rfl, h.f2, h.f3, h.f4, h.f5, h.f6, h.f7, fun _ => h.bel hq, fun hl => absurd (show L 8 = true from hl) (by rw [hq]; decide), fun hl => by have := h.c2 (show L 2 = true from hl); simp [upd, this], fun hl => by have := h.c3 (show L 3 = true from hl); simp [upd, this], fun hl => by have := h.c4 (show L 4 = true from hl); simp [upd, this], fun hl => by have := h.c6 (show L 6 = true from hl); simp [upd, this], fun hl => by have := h.c7 (show L 7 = true from hl); simp [upd, this], fun hl => by have := h.c8 (show L 8 = true from hl); simp [upd, this]⟩
theorem LrN.s2 {Q : Exit → Act → World → Prop} {D : List Deferred} {y0 y1 y2 y4 y5 y6 y7 y8 y10 y11 y12 y13 y14 y15 y16 y17 y18 y19 y20 y21 y22 y23 y24 y25 y26 y27 y28 y29 y30 y31 y32 y33 : Value} {pb : Addr} {b g t k Rn cR : Nat} {W0 : World} {L : Nat → Bool} {W : World} {x34 x35 x36 x37 x38 x39 x40 x41 x42 : Value} (h : LrN Q D y0 y1 y2 y4 y5 y6 y7 y8 y10 y11 y12 y13 y14 y15 y16 y17 y18 y19 y20 y21 y22 y23 y24 y25 y26 y27 y28 y29 y30 y31 y32 y33 pb b g t k Rn cR W0 L W x34 x35 x36 x37 x38 x39 x40 x41 x42) (hq : L 8 = false) (d1 : upd L 2 1 = true) : LrN Q D y0 y1 y2 y4 y5 y6 y7 y8 y10 y11 y12 y13 y14 y15 y16 y17 y18 y19 y20 y21 y22 y23 y24 y25 y26 y27 y28 y29 y30 y31 y32 y33 pb b g t k Rn cR W0 (upd L 2) W x34 x35 (.pointer (some ⟨b, 0, none⟩)) x37 x38 x39 x40 x41 x42 :=
  ⟨h.f0, h.f1, fun _ => rfl, h.f3, h.f4, h.f5, h.f6, h.f7, fun _ => h.bel hq, fun hl => absurd (show L 8 = true from hl) (by rw [hq]; decide), fun _ => d1, fun hl => by have := h.c3 (show L 3 = true from hl); simp [upd, this], fun hl => by have := h.c4 (show L 4 = true from hl); simp [upd, this], fun hl => by have := h.c6 (show L 6 = true from hl); simp [upd, this], fun hl => by have := h.c7 (show L 7 = true from hl); simp [upd, this], fun hl => by have := h.c8 (show L 8 = true from hl); simp [upd, this]⟩
theorem LrN.s3 {Q : Exit → Act → World → Prop} {D : List Deferred} {y0 y1 y2 y4 y5 y6 y7 y8 y10 y11 y12 y13 y14 y15 y16 y17 y18 y19 y20 y21 y22 y23 y24 y25 y26 y27 y28 y29 y30 y31 y32 y33 : Value} {pb : Addr} {b g t k Rn cR : Nat} {W0 : World} {L : Nat → Bool} {W : World} {x34 x35 x36 x37 x38 x39 x40 x41 x42 : Value} (h : LrN Q D y0 y1 y2 y4 y5 y6 y7 y8 y10 y11 y12 y13 y14 y15 y16 y17 y18 y19 y20 y21 y22 y23 y24 y25 y26 y27 y28 y29 y30 y31 y32 y33 pb b g t k Rn cR W0 L W x34 x35 x36 x37 x38 x39 x40 x41 x42) (hq : L 8 = false) (d2 : upd L 3 2 = true) : LrN Q D y0 y1 y2 y4 y5 y6 y7 y8 y10 y11 y12 y13 y14 y15 y16 y17 y18 y19 y20 y21 y22 y23 y24 y25 y26 y27 y28 y29 y30 y31 y32 y33 pb b g t k Rn cR W0 (upd L 3) W x34 x35 x36 (.pointer (some ⟨b, 6, none⟩)) x38 x39 x40 x41 x42 :=
  ⟨h.f0, h.f1, h.f2, fun _ => rfl, h.f4, h.f5, h.f6, h.f7, fun _ => h.bel hq, fun hl => absurd (show L 8 = true from hl) (by rw [hq]; decide), fun hl => by have := h.c2 (show L 2 = true from hl); simp [upd, this], fun _ => d2, fun hl => by have := h.c4 (show L 4 = true from hl); simp [upd, this], fun hl => by have := h.c6 (show L 6 = true from hl); simp [upd, this], fun hl => by have := h.c7 (show L 7 = true from hl); simp [upd, this], fun hl => by have := h.c8 (show L 8 = true from hl); simp [upd, this]⟩
theorem LrN.s4 {Q : Exit → Act → World → Prop} {D : List Deferred} {y0 y1 y2 y4 y5 y6 y7 y8 y10 y11 y12 y13 y14 y15 y16 y17 y18 y19 y20 y21 y22 y23 y24 y25 y26 y27 y28 y29 y30 y31 y32 y33 : Value} {pb : Addr} {b g t k Rn cR : Nat} {W0 : World} {L : Nat → Bool} {W : World} {x34 x35 x36 x37 x38 x39 x40 x41 x42 : Value} (h : LrN Q D y0 y1 y2 y4 y5 y6 y7 y8 y10 y11 y12 y13 y14 y15 y16 y17 y18 y19 y20 y21 y22 y23 y24 y25 y26 y27 y28 y29 y30 y31 y32 y33 pb b g t k Rn cR W0 L W x34 x35 x36 x37 x38 x39 x40 x41 x42) (hq : L 8 = false) (d3 : upd L 4 3 = true) : LrN Q D y0 y1 y2 y4 y5 y6 y7 y8 y10 y11 y12 y13 y14 y15 y16 y17 y18 y19 y20 y21 y22 y23 y24 y25 y26 y27 y28 y29 y30 y31 y32 y33 pb b g t k Rn cR W0 (upd L 4) W x34 x35 x36 x37 (.slice (some ⟨g, 0, none⟩) Rn cR) x39 x40 x41 x42 :=
  ⟨h.f0, h.f1, h.f2, h.f3, fun _ => rfl, h.f5, h.f6, h.f7, fun _ => h.bel hq, fun hl => absurd (show L 8 = true from hl) (by rw [hq]; decide), fun hl => by have := h.c2 (show L 2 = true from hl); simp [upd, this], fun hl => by have := h.c3 (show L 3 = true from hl); simp [upd, this], fun _ => d3, fun hl => by have := h.c6 (show L 6 = true from hl); simp [upd, this], fun hl => by have := h.c7 (show L 7 = true from hl); simp [upd, this], fun hl => by have := h.c8 (show L 8 = true from hl); simp [upd, this]⟩
theorem LrN.s5 {Q : Exit → Act → World → Prop} {D : List Deferred} {y0 y1 y2 y4 y5 y6 y7 y8 y10 y11 y12 y13 y14 y15 y16 y17 y18 y19 y20 y21 y22 y23 y24 y25 y26 y27 y28 y29 y30 y31 y32 y33 : Value} {pb : Addr} {b g t k Rn cR : Nat} {W0 : World} {L : Nat → Bool} {W : World} {x34 x35 x36 x37 x38 x39 x40 x41 x42 : Value} (h : LrN Q D y0 y1 y2 y4 y5 y6 y7 y8 y10 y11 y12 y13 y14 y15 y16 y17 y18 y19 y20 y21 y22 y23 y24 y25 y26 y27 y28 y29 y30 y31 y32 y33 pb b g t k Rn cR W0 L W x34 x35 x36 x37 x38 x39 x40 x41 x42) (hq : L 8 = false) : LrN Q D y0 y1 y2 y4 y5 y6 y7 y8 y10 y11 y12 y13 y14 y15 y16 y17 y18 y19 y20 y21 y22 y23 y24 y25 y26 y27 y28 y29 y30 y31 y32 y33 pb b g t k Rn cR W0 (upd L 5) W x34 x35 x36 x37 x38 (.int .i64 (t : Int)) x40 x41 x42 :=
  ⟨h.f0, h.f1, h.f2, h.f3, h.f4, fun _ => rfl, h.f6, h.f7, fun _ => h.bel hq, fun hl => absurd (show L 8 = true from hl) (by rw [hq]; decide), fun hl => by have := h.c2 (show L 2 = true from hl); simp [upd, this], fun hl => by have := h.c3 (show L 3 = true from hl); simp [upd, this], fun hl => by have := h.c4 (show L 4 = true from hl); simp [upd, this], fun hl => by have := h.c6 (show L 6 = true from hl); simp [upd, this], fun hl => by have := h.c7 (show L 7 = true from hl); simp [upd, this], fun hl => by have := h.c8 (show L 8 = true from hl); simp [upd, this]⟩
theorem LrN.s6 {Q : Exit → Act → World → Prop} {D : List Deferred} {y0 y1 y2 y4 y5 y6 y7 y8 y10 y11 y12 y13 y14 y15 y16 y17 y18 y19 y20 y21 y22 y23 y24 y25 y26 y27 y28 y29 y30 y31 y32 y33 : Value} {pb : Addr} {b g t k Rn cR : Nat} {W0 : World} {L : Nat → Bool} {W : World} {x34 x35 x36 x37 x38 x39 x40 x41 x42 : Value} (h : LrN Q D y0 y1 y2 y4 y5 y6 y7 y8 y10 y11 y12 y13 y14 y15 y16 y17 y18 y19 y20 y21 y22 y23 y24 y25 y26 y27 y28 y29 y30 y31 y32 y33 pb b g t k Rn cR W0 L W x34 x35 x36 x37 x38 x39 x40 x41 x42) (hq : L 8 = false) (d4 : upd L 6 4 = true) (d5 : upd L 6 5 = true) : LrN Q D y0 y1 y2 y4 y5 y6 y7 y8 y10 y11 y12 y13 y14 y15 y16 y17 y18 y19 y20 y21 y22 y23 y24 y25 y26 y27 y28 y29 y30 y31 y32 y33 pb b g t k Rn cR W0 (upd L 6) W x34 x35 x36 x37 x38 x39 (.pointer (some ⟨g, t, none⟩)) x41 x42 :=
  ⟨h.f0, h.f1, h.f2, h.f3, h.f4, h.f5, fun _ => rfl, h.f7, fun _ => h.bel hq, fun hl => absurd (show L 8 = true from hl) (by rw [hq]; decide), fun hl => by have := h.c2 (show L 2 = true from hl); simp [upd, this], fun hl => by have := h.c3 (show L 3 = true from hl); simp [upd, this], fun hl => by have := h.c4 (show L 4 = true from hl); simp [upd, this], fun _ => ⟨d4, d5⟩, fun hl => by have := h.c7 (show L 7 = true from hl); simp [upd, this], fun hl => by have := h.c8 (show L 8 = true from hl); simp [upd, this]⟩
theorem LrN.s7 {Q : Exit → Act → World → Prop} {D : List Deferred} {y0 y1 y2 y4 y5 y6 y7 y8 y10 y11 y12 y13 y14 y15 y16 y17 y18 y19 y20 y21 y22 y23 y24 y25 y26 y27 y28 y29 y30 y31 y32 y33 : Value} {pb : Addr} {b g t k Rn cR : Nat} {W0 : World} {L : Nat → Bool} {W : World} {x34 x35 x36 x37 x38 x39 x40 x41 x42 : Value} (h : LrN Q D y0 y1 y2 y4 y5 y6 y7 y8 y10 y11 y12 y13 y14 y15 y16 y17 y18 y19 y20 y21 y22 y23 y24 y25 y26 y27 y28 y29 y30 y31 y32 y33 pb b g t k Rn cR W0 L W x34 x35 x36 x37 x38 x39 x40 x41 x42) (hq : L 8 = false) (d6 : upd L 7 6 = true) : LrN Q D y0 y1 y2 y4 y5 y6 y7 y8 y10 y11 y12 y13 y14 y15 y16 y17 y18 y19 y20 y21 y22 y23 y24 y25 y26 y27 y28 y29 y30 y31 y32 y33 pb b g t k Rn cR W0 (upd L 7) W x34 x35 x36 x37 x38 x39 x40 (.int .i32 (k : Int)) x42 :=
  ⟨h.f0, h.f1, h.f2, h.f3, h.f4, h.f5, h.f6, fun _ => rfl, fun _ => h.bel hq, fun hl => absurd (show L 8 = true from hl) (by rw [hq]; decide), fun hl => by have := h.c2 (show L 2 = true from hl); simp [upd, this], fun hl => by have := h.c3 (show L 3 = true from hl); simp [upd, this], fun hl => by have := h.c4 (show L 4 = true from hl); simp [upd, this], fun hl => by have := h.c6 (show L 6 = true from hl); simp [upd, this], fun _ => d6, fun hl => by have := h.c8 (show L 8 = true from hl); simp [upd, this]⟩
theorem lnk9 {listed : Array Bool} {L : Nat → Bool} (hs : listed.size = 9) (h : ∀ j, j < 9 → listed.getD j false = L j) {i : Nat} (hi : i < 9) : (listed.setIfInBounds i true).size = 9 ∧ ∀ j, j < 9 → (listed.setIfInBounds i true).getD j false = upd L i j := by
  refine ⟨by simpa using hs, fun j hj => ?_⟩
  rw [set_getD false (by rw [hs]; exact hi), h j hj]
  rfl
theorem getD_ft9 {listed : Array Bool} {i : Nat} (hs : listed.size = 9) (hi : i < 9) (h : listed.getD i true = false) : listed.getD i false = false := by
  have hj : i < listed.size := by omega
  simp [Array.getD, hj] at h ⊢
  exact h
def LrI (Q : Exit → Act → World → Prop) (D : List Deferred) (y0 y1 y2 y4 y5 y6 y7 y8 y10 y11 y12 y13 y14 y15 y16 y17 y18 y19 y20 y21 y22 y23 y24 y25 y26 y27 y28 y29 y30 y31 y32 y33 : Value) (pb : Addr) (b g t k Rn cR : Nat) (W0 : World) (listed : Array Bool) (a : Act) (W : World) : Prop :=
  listed.size = 9 ∧ ∃ L : Nat → Bool, (∀ j, j < 9 → listed.getD j false = L j) ∧ ∃ x34 x35 x36 x37 x38 x39 x40 x41 x42 : Value, a = ({ tmps := #[y0, y1, y2, (.pointer (some pb)), y4, y5, y6, y7, y8, (.int .i64 (t : Int)), y10, y11, y12, y13, y14, y15, y16, y17, y18, y19, y20, y21, y22, y23, y24, y25, y26, y27, y28, y29, y30, y31, y32, y33, x34, x35, x36, x37, x38, x39, x40, x41, x42], defers := D } : Act) ∧ LrN Q D y0 y1 y2 y4 y5 y6 y7 y8 y10 y11 y12 y13 y14 y15 y16 y17 y18 y19 y20 y21 y22 y23 y24 y25 y26 y27 y28 y29 y30 y31 y32 y33 pb b g t k Rn cR W0 L W x34 x35 x36 x37 x38 x39 x40 x41 x42
/-- what look must give, in whatever frame -/
def LkQ (Q : Exit → Act → World → Prop) (D : List Deferred) (y0 y1 y2 y4 y5 y6 y7 y8 y10 y11 y12 y13 y14 y15 y16 y17 y18 y19 y20 y21 y22 y23 y24 y25 y26 y27 y28 y29 y30 y31 y32 y33 : Value) (pb : Addr) (b g t k Rn cR : Nat) (W0 : World) : Prop := ∀ (W : World), Below W0.heap.size W0 W → ∀ x34 x35 x36 x37 x38 x39 x40 x41 x42 : Value, Calls Tryz.prog 122 #[.pointer (some ⟨b, 0, none⟩), .int .i32 (k : Int)] W fun e w' => (∃ v, e = .returned v ∧ Q .normal ({ tmps := #[y0, y1, y2, (.pointer (some pb)), y4, y5, y6, y7, y8, (.int .i64 (t : Int)), y10, y11, y12, y13, y14, y15, y16, y17, y18, y19, y20, y21, y22, y23, y24, y25, y26, y27, y28, y29, y30, y31, y32, y33, x34, x35, x36, x37, x38, x39, x40, x41, v], defers := D } : Act) w') ∨ ∃ c, e = .panicked c ∧ Q (.panic c) ({ tmps := #[y0, y1, y2, (.pointer (some pb)), y4, y5, y6, y7, y8, (.int .i64 (t : Int)), y10, y11, y12, y13, y14, y15, y16, y17, y18, y19, y20, y21, y22, y23, y24, y25, y26, y27, y28, y29, y30, y31, y32, y33, x34, x35, x36, x37, x38, x39, x40, x41, x42], defers := D } : Act) w'
set_option maxRecDepth 100000 in
set_option maxHeartbeats 1600000 in
theorem look_region (Q : Exit → Act → World → Prop) (D : List Deferred) (y0 y1 y2 y4 y5 y6 y7 y8 y10 y11 y12 y13 y14 y15 y16 y17 y18 y19 y20 y21 y22 y23 y24 y25 y26 y27 y28 y29 y30 y31 y32 y33 : Value) (pb : Addr) (b g t k Rn cR : Nat) (W0 : World) (u34 u35 u36 u37 u38 u39 u40 u41 u42 : Value) (c0 : W0.cell? pb = some (.pointer (some ⟨b, 0, none⟩))) (c6 : W0.cell? ⟨b, 6, none⟩ = some (.slice (some ⟨g, 0, none⟩) Rn cR)) (cg : W0.cell? ⟨g, t, none⟩ = some (.int .i32 (k : Int))) (ht : t < Rn) (hR : Rn ≤ 1073741824) (hL : LkQ Q D y0 y1 y2 y4 y5 y6 y7 y8 y10 y11 y12 y13 y14 y15 y16 y17 y18 y19 y20 y21 y22 y23 y24 y25 y26 y27 y28 y29 y30 y31 y32 y33 pb b g t k Rn cR W0) :
    (Code.region 11 #[{ dst := some 34, op := Op.load 126 (Operand.tmp 3), type := 126, pos := "onward.go:113", after := #[], guard := none }, { dst := some 35, op := Op.load 126 (Operand.tmp 3), type := 126, pos := "onward.go:113", after := #[], guard := none }, { dst := some 36, op := Op.nilCheck (Operand.tmp 35), type := 0, pos := "onward.go:113", after := #[{ on := 1, ground := Ground.data }], guard := none }, { dst := some 37, op := Op.fieldAddr 147 (Operand.tmp 36) 6, type := 0, pos := "onward.go:113", after := #[{ on := 2, ground := Ground.data }], guard := none }, { dst := some 38, op := Op.load 58 (Operand.tmp 37), type := 58, pos := "onward.go:113", after := #[{ on := 3, ground := Ground.data }], guard := none }, { dst := some 39, op := Op.move (Operand.tmp 9), type := 3, pos := "onward.go:113", after := #[], guard := none }, { dst := some 40, op := Op.indexAddr 58 (Operand.tmp 38) (Operand.tmp 39), type := 0, pos := "onward.go:113", after := #[{ on := 4, ground := Ground.data }, { on := 5, ground := Ground.data }], guard := none }, { dst := some 41, op := Op.load 21 (Operand.tmp 40), type := 21, pos := "onward.go:113", after := #[{ on := 6, ground := Ground.data }], guard := none }, { dst := some 42, op := Op.call { callee := Callee.value (Operand.func 122), args := #[Operand.tmp 34, Operand.tmp 41], argTypes := #[126, 21] }, type := 0, pos := "onward.go:113", after := #[{ on := 0, ground := Ground.data }, { on := 7, ground := Ground.data }], guard := none }] true).wp Tryz.prog Q ({ tmps := #[y0, y1, y2, (.pointer (some pb)), y4, y5, y6, y7, y8, (.int .i64 (t : Int)), y10, y11, y12, y13, y14, y15, y16, y17, y18, y19, y20, y21, y22, y23, y24, y25, y26, y27, y28, y29, y30, y31, y32, y33, u34, u35, u36, u37, u38, u39, u40, u41, u42], defers := D } : Act) W0 := by
  refine wp_region_any (by kernel_rfl) ?_
  refine any_inv (LrI Q D y0 y1 y2 y4 y5 y6 y7 y8 y10 y11 y12 y13 y14 y15 y16 y17 y18 y19 y20 y21 y22 y23 y24 y25 y26 y27 y28 y29 y30 y31 y32 y33 pb b g t k Rn cR W0) (back_of (by kernel_rfl)) ?_ ?_ _ _ _ _ rfl (by decide) ⟨rfl, fun _ => false, fun j hj => by simp [Array.getD, hj], u34, u35, u36, u37, u38, u39, u40, u41, u42, rfl, ⟨fun h => Bool.noConfusion h, fun h => Bool.noConfusion h, fun h => Bool.noConfusion h, fun h => Bool.noConfusion h, fun h => Bool.noConfusion h, fun h => Bool.noConfusion h, fun h => Bool.noConfusion h, fun h => Bool.noConfusion h, fun _ => (Below.refl _ _).drew, fun h => Bool.noConfusion h, fun h => Bool.noConfusion h, fun h => Bool.noConfusion h, fun h => Bool.noConfusion h, fun h => Bool.noConfusion h, fun h => Bool.noConfusion h, fun h => Bool.noConfusion h⟩⟩
  · intro listed a W i o hI ho hl hdep K hK
    obtain ⟨hsz, L, hlk, x34, x35, x36, x37, x38, x39, x40, x41, x42, rfl, hB⟩ := hI
    have hi : i < 9 := (Array.getElem?_eq_some_iff.1 ho).1
    rcases (show i = 0 ∨ i = 1 ∨ i = 2 ∨ i = 3 ∨ i = 4 ∨ i = 5 ∨ i = 6 ∨ i = 7 ∨ i = 8 by omega) with rfl | rfl | rfl | rfl | rfl | rfl | rfl | rfl | rfl
    · obtain rfl := (Option.some.inj ho)
      have hno : L 0 = false := (hlk 0 (by decide)).symm.trans (getD_ft9 hsz (by decide) hl)
      obtain ⟨hs2, hl2⟩ := lnk9 hsz hlk (i := 0) (by decide)
      have hq := hB.q8 (by simp [hno])
      have hW := hB.bel hq
      have k0 : W.cell? pb = some (.pointer (some ⟨b, 0, none⟩)) := (hW.cell (World.block_lt_of_cell? W0 _ c0)).trans c0
      refine wpOp_step rfl fun K' hK' => ?_
      go_simp
      exact hK' _ _ (hK _ _ ⟨hs2, _, hl2, _, _, _, _, _, _, _, _, _, rfl, hB.s0 hq ⟩)
    · obtain rfl := (Option.some.inj ho)
      have hno : L 1 = false := (hlk 1 (by decide)).symm.trans (getD_ft9 hsz (by decide) hl)
      obtain ⟨hs2, hl2⟩ := lnk9 hsz hlk (i := 1) (by decide)
      have hq := hB.q8 (by simp [hno])
      have hW := hB.bel hq
      have k0 : W.cell? pb = some (.pointer (some ⟨b, 0, none⟩)) := (hW.cell (World.block_lt_of_cell? W0 _ c0)).trans c0
      refine wpOp_step rfl fun K' hK' => ?_
      go_simp
      exact hK' _ _ (hK _ _ ⟨hs2, _, hl2, _, _, _, _, _, _, _, _, _, rfl, hB.s1 hq ⟩)
    · obtain rfl := (Option.some.inj ho)
      have hno : L 2 = false := (hlk 2 (by decide)).symm.trans (getD_ft9 hsz (by decide) hl)
      obtain ⟨hs2, hl2⟩ := lnk9 hsz hlk (i := 2) (by decide)
      have hq := hB.q8 (by simp [hno])
      have hW := hB.bel hq
      have d1 : L 1 = true := (hlk 1 (by decide)).symm.trans (hdep ⟨1, .data⟩ (by simp) rfl)
      have e1 := hB.f1 d1
      subst e1
      refine wpOp_step rfl fun K' hK' => ?_
      go_simp
      exact hK' _ _ (hK _ _ ⟨hs2, _, hl2, _, _, _, _, _, _, _, _, _, rfl, hB.s2 hq (by simp [upd, d1])⟩)
    · obtain rfl := (Option.some.inj ho)
      have hno : L 3 = false := (hlk 3 (by decide)).symm.trans (getD_ft9 hsz (by decide) hl)
      obtain ⟨hs2, hl2⟩ := lnk9 hsz hlk (i := 3) (by decide)
      have hq := hB.q8 (by simp [hno])
      have hW := hB.bel hq
      have d2 : L 2 = true := (hlk 2 (by decide)).symm.trans (hdep ⟨2, .data⟩ (by simp) rfl)
      have e2 := hB.f2 d2
      subst e2
      refine wpOp_step rfl fun K' hK' => ?_
      go_simp
      exact hK' _ _ (hK _ _ ⟨hs2, _, hl2, _, _, _, _, _, _, _, _, _, rfl, hB.s3 hq (by simp [upd, d2])⟩)
    · obtain rfl := (Option.some.inj ho)
      have hno : L 4 = false := (hlk 4 (by decide)).symm.trans (getD_ft9 hsz (by decide) hl)
      obtain ⟨hs2, hl2⟩ := lnk9 hsz hlk (i := 4) (by decide)
      have hq := hB.q8 (by simp [hno])
      have hW := hB.bel hq
      have d3 : L 3 = true := (hlk 3 (by decide)).symm.trans (hdep ⟨3, .data⟩ (by simp) rfl)
      have e3 := hB.f3 d3
      subst e3
      have k0 : W.cell? ⟨b, 6, none⟩ = some (.slice (some ⟨g, 0, none⟩) Rn cR) := (hW.cell (World.block_lt_of_cell? W0 _ c6)).trans c6
      refine wpOp_step rfl fun K' hK' => ?_
      go_simp
      exact hK' _ _ (hK _ _ ⟨hs2, _, hl2, _, _, _, _, _, _, _, _, _, rfl, hB.s4 hq (by simp [upd, d3])⟩)
    · obtain rfl := (Option.some.inj ho)
      have hno : L 5 = false := (hlk 5 (by decide)).symm.trans (getD_ft9 hsz (by decide) hl)
      obtain ⟨hs2, hl2⟩ := lnk9 hsz hlk (i := 5) (by decide)
      have hq := hB.q8 (by simp [hno])
      have hW := hB.bel hq
      refine wpOp_step rfl fun K' hK' => ?_
      go_simp
      exact hK' _ _ (hK _ _ ⟨hs2, _, hl2, _, _, _, _, _, _, _, _, _, rfl, hB.s5 hq ⟩)
    · obtain rfl := (Option.some.inj ho)
      have hno : L 6 = false := (hlk 6 (by decide)).symm.trans (getD_ft9 hsz (by decide) hl)
      obtain ⟨hs2, hl2⟩ := lnk9 hsz hlk (i := 6) (by decide)
      have hq := hB.q8 (by simp [hno])
      have hW := hB.bel hq
      have d4 : L 4 = true := (hlk 4 (by decide)).symm.trans (hdep ⟨4, .data⟩ (by simp) rfl)
      have d5 : L 5 = true := (hlk 5 (by decide)).symm.trans (hdep ⟨5, .data⟩ (by simp) rfl)
      have e4 := hB.f4 d4
      have e5 := hB.f5 d5
      subst e4
      subst e5
      refine wpOp_step rfl fun K' hK' => ?_
      go_simp
      exact hK' _ _ (hK _ _ ⟨hs2, _, hl2, _, _, _, _, _, _, _, _, _, rfl, hB.s6 hq (by simp [upd, d4]) (by simp [upd, d5])⟩)
    · obtain rfl := (Option.some.inj ho)
      have hno : L 7 = false := (hlk 7 (by decide)).symm.trans (getD_ft9 hsz (by decide) hl)
      obtain ⟨hs2, hl2⟩ := lnk9 hsz hlk (i := 7) (by decide)
      have hq := hB.q8 (by simp [hno])
      have hW := hB.bel hq
      have d6 : L 6 = true := (hlk 6 (by decide)).symm.trans (hdep ⟨6, .data⟩ (by simp) rfl)
      have e6 := hB.f6 d6
      subst e6
      have k0 : W.cell? ⟨g, t, none⟩ = some (.int .i32 (k : Int)) := (hW.cell (World.block_lt_of_cell? W0 _ cg)).trans cg
      refine wpOp_step rfl fun K' hK' => ?_
      go_simp
      exact hK' _ _ (hK _ _ ⟨hs2, _, hl2, _, _, _, _, _, _, _, _, _, rfl, hB.s7 hq (by simp [upd, d6])⟩)
    · obtain rfl := (Option.some.inj ho)
      have hno : L 8 = false := (hlk 8 (by decide)).symm.trans (getD_ft9 hsz (by decide) hl)
      obtain ⟨hs2, hl2⟩ := lnk9 hsz hlk (i := 8) (by decide)
      have d0 : L 0 = true := (hlk 0 (by decide)).symm.trans (hdep ⟨0, .data⟩ (by simp) rfl)
      have d7 : L 7 = true := (hlk 7 (by decide)).symm.trans (hdep ⟨7, .data⟩ (by simp) rfl)
      have hW := hB.bel hno
      have e0 := hB.f0 d0
      have e7 := hB.f7 d7
      subst e0
      subst e7
      refine wpOp_step rfl fun K' hK' => ?_
      go_simp
      go_at_call 122
      refine (hL W hW (.pointer (some ⟨b, 0, none⟩)) x35 x36 x37 x38 x39 x40 (.int .i32 (k : Int)) x42).mono ?_
      rintro e w' (⟨v, rfl, hq⟩ | ⟨c, rfl, hq⟩)
      · exact hK' _ _ (hK _ _ ⟨hs2, _, hl2, _, _, _, _, _, _, _, _, _, rfl, ⟨fun _ => rfl, fun hl => hB.f1 hl, fun hl => hB.f2 hl, fun hl => hB.f3 hl, fun hl => hB.f4 hl, fun hl => hB.f5 hl, fun hl => hB.f6 hl, fun _ => rfl, fun hl => absurd (show upd L 8 8 = false from hl) (by simp [upd]), fun _ => hq, fun hl => by have := hB.c2 (show L 2 = true from hl); simp [upd, this], fun hl => by have := hB.c3 (show L 3 = true from hl); simp [upd, this], fun hl => by have := hB.c4 (show L 4 = true from hl); simp [upd, this], fun hl => by have := hB.c6 (show L 6 = true from hl); simp [upd, this], fun hl => by have := hB.c7 (show L 7 = true from hl); simp [upd, this], fun _ => ⟨by simp [upd, d0], by simp [upd, d7]⟩⟩⟩)
      · exact hq
  · intro listed a W hI hall
    obtain ⟨hsz, L, hlk, x34, x35, x36, x37, x38, x39, x40, x41, x42, rfl, hB⟩ := hI
    exact hB.fin ((hlk 8 (by decide)).symm.trans (hall 8 (by decide)))
end Go.Proofs.YtjajafeaengnjaaGreatDoor
set_option linter.unusedSimpArgs false
set_option linter.unusedVariables false
namespace Go.Proofs.YtjajafeaengnjaaGreatDoor
open Go Go.RowKit

/-- what clashes leaves -/
def Cl8 (w0 w w' : World) (b : Nat) (s : Sy) (n : Nat) (css : List (List Int)) (K : List Int) : Prop := ∃ s', Ow w0 w' b s' n css K [] [] ∧ s'.C = s.C ∧ Mo w (s.own b) w' (s'.own b)
theorem Ck.fin {w0 w W : World} {b : Nat} {s0 s : Sy} {n : Nat} {css : List (List Int)} {K : List Int} {y : Bool} (h : Ck w0 w W b s0 s n css K [] [] y) : Cl8 w0 w W b s0 n css K := ⟨s, h.ow, h.C, h.mo⟩
set_option maxRecDepth 100000 in
set_option maxHeartbeats 3200000 in
theorem oClashes_any (w0 : World) (b : Nat) (s : Sy) (n : Nat) (css : List (List Int)) (K : List Int) (vd : Value) (d : List Int) (q : Int) (w : World) (h : Ow w0 w b s n css K [] []) (hr : Rds w0 s.C css) (hd : Rd w0 vd d) (hdc : d ∈ css) (hc : Con K) (hcalm : Calm css K) :
    Calls Tryz.prog 105 #[.pointer (some ⟨b, 0, none⟩), vd, .int .i64 q] w fun e w' => e = .returned (.bool (claB css (K ++ Gs d q))) ∧ Cl8 w0 w w' b s n css K := by
  have hmf : ∀ (fn : Fn) (first cap : Array Value) (w : World), (Instr.makeFunc fn first cap).run Tryz.prog w = .ok (.func fn first cap) w := fun _ _ _ _ => rfl
  have HS : Hid (Cm w0 w ((w.alloc (.cells #[.pointer (some ⟨b, 0, none⟩)] 126)).alloc (.cells #[.bool false] 4)) b s s n css K (Gs d q) [] [] 0) := ⟨Ck.start h, On.start hc hcalm, Led.nil _ _ _, by simp⟩
  have HR : Hid (Rds w0 s.C css ∧ Fit css n) := ⟨hr, h.fit⟩
  have HLt : Hid (∀ l ∈ d, fmd l = true ∧ idx l < n) := h.fit.lit _ hdc
  have hdl := h.fit.len _ hdc
  have hcn := h.fit.num
  obtain ⟨a, cv, rfl, l1, l2, hcell⟩ := hd.form
  have HC : Hid (∀ (W : World) (j : Nat), Below w0.heap.size w0 W → j < d.length → ∃ bb off, a = some ⟨bb, off, none⟩ ∧ W.cell? ⟨bb, off + j, none⟩ = some (.int .i64 (d.getD j 0))) := fun W j hW hj => by
    obtain ⟨bb, off, e, hc⟩ := hcell j hj
    exact ⟨bb, off, e, (hW.cell (p := ⟨bb, off + j, none⟩) (World.block_lt_of_cell? w0 _ hc)).trans hc⟩
  have HG : Hid (∀ x, x ∈ Gs d q ↔ -x ∈ d ∧ -x ≠ q) := fun x => mem_Gs
  clear h hr hd hdc hc hcalm hcell
  go_enter_defers Tryz.func105, Tryz.ntmps105
  go_wp2
  go_loopg [13] d.length (fun g j' wr => ∃ (j : Nat) (sv : Sy) (M : List Int) (R : List Nat), j + g = d.length ∧ j' = .int .i64 j ∧ Cm w0 w wr b s sv n css K (Gs d q) M R 0 ∧ ∀ x ∈ d.take j, x ≠ q → -x ∈ K ++ M)
  case atStart => exact ⟨0, s, [], [], by omega, rfl, HS.out, by simp⟩
  case round =>
    obtain ⟨j, sv, M, R, hj, rfl, hcm, hall⟩ := hrel
    have HJ : Hid (j + gk = d.length) := hj
    have HM : Hid (Cm w0 w wr b s sv n css K (Gs d q) M R 0 ∧ ∀ x ∈ d.take j, x ≠ q → -x ∈ K ++ M) := ⟨hcm, hall⟩
    have p0 := hcm.ck.p0
    clear hj hcm hall
    by_cases hlt : j < d.length
    · obtain ⟨bb, off, rfl, c1⟩ := HC.out wr j HM.out.1.ck.ow.bel hlt
      have hlm : d.getD j 0 ∈ d := getD_mem' (d := 0) hlt
      have hlf := HLt.out _ hlm
      have HTk : Hid (∀ x, x ∈ d.take (j + 1) ↔ x ∈ d.take j ∨ x = d.getD j 0) := fun x => mem_take_more hlt
      have HLT : Hid (j < d.length) := hlt
      generalize d.getD j 0 = l at *
      have hrl := fmd_range hlf.1
      have hwl : IntKind.i64.wrap (-l) = -l := by rw [IntKind.wrap_i64]; omega
      by_cases hq : l = q
      · have hb1 : (l != q) = false := by simp [hq]
        have HF : Hid (∀ x ∈ d.take (j + 1), x ≠ q → -x ∈ K ++ M) := fun x hx hne => ((HTk.out x).1 hx).elim (fun h2 => HM.out.2 x h2 hne) (fun e => absurd (e.trans hq) hne)
        go_wp2
        go_roundg (gk - 1)
        case measure => have := HJ.out; have := HLT.out; omega
        case rel => exact ⟨j + 1, sv, M, R, by have := HJ.out; have := HLT.out; omega, by go_num, HM.out.1, HF.out⟩
      · have hb1 : (l != q) = true := by simp [hq]
        have hlG : -l ∈ Gs d q := (HG.out (-l)).2 (by simpa using ⟨hlm, hq⟩)
        by_cases hbad : -(-l) ∈ K ++ M
        · have HCla : Hid (claB css (K ++ Gs d q) = true) := claB_of (HM.out.1.led.clash hlG hbad)
          have HB : Hid (-(-l) ∈ K ++ M) := hbad
          clear hbad hlG hlm
          go_wp2_with fail
          refine (oPut_bad w0 w wr b s sv n css K (Gs d q) M R 0 (-l) HM.out.1 (fmd_neg hlf.1) (idx_neg_lt hlf.1 HR.out.2.ev hlf.2) HB.out).mono ?_
          rintro e w1 ⟨rfl, hc1⟩
          have HC1 : Hid (Cm w0 w w1 b s sv n css K (Gs d q) M R 0) := hc1
          clear hc1
          go_wp2
          refine leaves_cons (f := 119) (args := #[.pointer (some ⟨w.heap.size, 0, none⟩), .pointer (some ⟨w.heap.size + 1, 0, none⟩)]) (by simp) (by simp [go_sem]) ?_
          refine (oCatch_pan w0 w w1 b s sv n css K M R HC1.out.ck HC1.out.ap).mono ?_
          rintro e u' w2 ⟨rfl, rfl, s', hck⟩
          have HK : Hid (Cl8 w0 w w2 b s n css K) := hck.fin
          have p1 := hck.p1
          clear hck
          simp [Leaves, settle, results, Tryz.results105, go_sem, p1]
          exact ⟨HCla.out, HK.out⟩
        · have HB : Hid (-(-l) ∉ K ++ M ∧ -l ∈ Gs d q) := ⟨hbad, hlG⟩
          clear hbad hlG hlm
          go_wp2_with fail
          refine (oPut_go w0 w wr b s sv n css K (Gs d q) M R (-l) HM.out.1 (fmd_neg hlf.1) (idx_neg_lt hlf.1 HR.out.2.ev hlf.2) HB.out.2 HB.out.1).mono ?_
          rintro e w1 ⟨rfl, s', M', R', hc1, hin, hmm⟩
          have HC1 : Hid (Cm w0 w w1 b s s' n css K (Gs d q) M' R' 0 ∧ ∀ x ∈ d.take (j + 1), x ≠ q → -x ∈ K ++ M') := ⟨hc1, fun x hx hne => ((HTk.out x).1 hx).elim (fun h2 => (List.mem_append.1 (HM.out.2 x h2 hne)).elim (fun h3 => List.mem_append.2 (.inl h3)) (fun h3 => List.mem_append.2 (.inr (hmm _ h3)))) (fun e => by rw [e]; exact hin)⟩
          clear hc1 hin hmm p0 HM
          go_wp2
          go_roundg (gk - 1)
          case measure => have := HJ.out; have := HLT.out; omega
          case rel => exact ⟨j + 1, s', M', R', by have := HJ.out; have := HLT.out; omega, by go_num, HC1.out.1, HC1.out.2⟩
    · have hje : j = d.length := by have := HJ.out; omega
      have HG2 : Hid (∀ x ∈ Gs d q, x ∈ K ++ M) := fun x hx => by
        obtain ⟨h1, h2⟩ := (HG.out x).1 hx
        have h3 := HM.out.2 (-x) (by rw [hje, List.take_length]; exact h1) h2
        simpa using h3
      have HM1 : Hid (Cm w0 w wr b s sv n css K (Gs d q) M R 0) := HM.out.1
      clear HM hje p0
      go_wp2
      generalize wr = w5 at *
      go_loopg [9] (css.length - 0) (fun g j' wx => ∃ (t : Nat) (sx : Sy) (M : List Int) (R : List Nat), g = css.length - t ∧ j' = .int .i64 (t : Int) ∧ Cm w0 w wx b s sx n css K (Gs d q) M R t ∧ t ≤ R.length ∧ ∀ x ∈ Gs d q, x ∈ K ++ M)
      case atStart => exact ⟨0, sv, M, R, rfl, rfl, HM1.out, Nat.zero_le _, HG2.out⟩
      case round =>
        obtain ⟨t, sx, M, R, rfl, rfl, hcm, htR, hG3⟩ := hrel
        have HM2 : Hid (Cm w0 w wr b s sx n css K (Gs d q) M R t ∧ ∀ x ∈ Gs d q, x ∈ K ++ M) := ⟨hcm, hG3⟩
        have p0 := hcm.ck.p0
        have p1 := hcm.ck.p1
        have f1 := hcm.ck.f1
        have hRl := hcm.on.len
        obtain ⟨F, P, hz, -⟩ := hcm.ck.ow.z
        have b6 := hz.c6
        obtain ⟨aR, cR, eR⟩ := row_form' hz.r
        have hRc : ∀ j, j < R.length → ∃ g, aR = some ⟨g, 0, none⟩ ∧ wr.cell? ⟨g, j, none⟩ = some (.int .i32 (R.getD j 0 : Int)) ∧ R.length ≤ cR := fun j hj => by
          have hrr := hz.r
          obtain ⟨g, c, e, k1, k2, k3⟩ := row_some hrr (by omega)
          rw [eR] at e
          injection e with e1 e2 e3
          refine ⟨g, e1, ?_, by omega⟩
          rw [eR, e1] at hrr
          exact row_cell hrr (by unfold i32s nats; rw [List.getElem?_map, List.getElem?_map, List.getElem?_eq_getElem hj, List.getD_eq_getElem?_getD, List.getElem?_eq_getElem hj]; rfl)
        rw [eR] at b6
        by_cases htlt : t < R.length
        · obtain ⟨g, rfl, kR, hcR⟩ := hRc t htlt
          have HTL : Hid (t < R.length) := htlt
          have hkc := (hcm.on.sub (R.getD t 0) (by rw [List.getD_eq_getElem?_getD, List.getElem?_eq_getElem htlt]; exact List.getElem_mem htlt)).1
          have HKe : Hid (R.getD t 0 = R.getD t 0) := rfl
          clear hcm hG3 hz eR hRc
          generalize hk : R.getD t 0 = k at *
          have HK0 : Hid (R.getD t 0 = k) := hk
          clear hk HKe
          generalize hRn : R.length = Rn at *
          have HRn : Hid (R.length = Rn) := hRn
          clear hRn
          by_cases hfl : ∀ m ∈ css.getD k [], -m ∈ K ++ M
          · have HCla : Hid (claB css (K ++ Gs d q) = true) := claB_of (HM2.out.1.led.fls hkc hfl)
            have HLk : Hid (∀ W, Below wr.heap.size wr W → Calls Tryz.prog 122 #[.pointer (some ⟨b, 0, none⟩), .int .i32 (k : Int)] W fun e w' => e = .panicked clashV ∧ Cm w0 w w' b s sx n css K (Gs d q) M R t) := fun W hW => oLook_fls w0 w W b s sx n css K (Gs d q) M R t k (HM2.out.1.below hW) HR.out.1 hkc hfl
            clear hfl
            go_upto_region 11 with fail
            refine look_region _ _ _ _ _ _ _ _ _ _ _ _ _ _ _ _ _ _ _ _ _ _ _ _ _ _ _ _ _ _ _ _ _ _ ⟨w.heap.size, 0, none⟩ b g t k Rn cR wr _ _ _ _ _ _ _ _ _ p0 b6 kR HTL.out (by omega) ?_
            intro W hW x34 x35 x36 x37 x38 x39 x40 x41 x42
            refine (HLk.out W hW).mono ?_
            rintro e w1 ⟨rfl, hh⟩
            have HC1 : Hid (Cm w0 w w1 b s sx n css K (Gs d q) M R t) := hh
            clear hh hW
            refine .inr ⟨_, rfl, ?_⟩
            go_wp2
            refine leaves_cons (f := 119) (args := #[.pointer (some ⟨w.heap.size, 0, none⟩), .pointer (some ⟨w.heap.size + 1, 0, none⟩)]) (by simp) (by simp [go_sem]) ?_
            refine (oCatch_pan w0 w w1 b s sx n css K M R HC1.out.ck HC1.out.ap).mono ?_
            rintro e u' w2 ⟨rfl, rfl, s', hck⟩
            have HK : Hid (Cl8 w0 w w2 b s n css K) := hck.fin
            have q1 := hck.p1
            clear hck p1
            simp [Leaves, settle, results, Tryz.results105, go_sem, q1]
            exact ⟨HCla.out, HK.out⟩
          · have HLk : Hid (∀ W, Below wr.heap.size wr W → Calls Tryz.prog 122 #[.pointer (some ⟨b, 0, none⟩), .int .i32 (k : Int)] W fun e w' => e = .returned (.tuple #[]) ∧ ∃ s' M' R', Cm w0 w w' b s s' n css K (Gs d q) M' R' (t + 1) ∧ t + 1 ≤ R'.length ∧ ∀ x ∈ M, x ∈ M') := fun W hW => oLook_go w0 w W b s sx n css K (Gs d q) M R t k (HM2.out.1.below hW) HR.out.1 (by rw [HRn.out]; exact HTL.out) HK0.out hfl
            clear hfl
            go_upto_region 11 with fail
            have HTc : Hid (t < css.length) := by have := HTL.out; show t < css.length; omega
            refine look_region _ _ _ _ _ _ _ _ _ _ _ _ _ _ _ _ _ _ _ _ _ _ _ _ _ _ _ _ _ _ _ _ _ _ ⟨w.heap.size, 0, none⟩ b g t k Rn cR wr _ _ _ _ _ _ _ _ _ p0 b6 kR HTL.out (by omega) ?_
            intro W hW x34 x35 x36 x37 x38 x39 x40 x41 x42
            refine (HLk.out W hW).mono ?_
            rintro e w1 ⟨rfl, s', M', R', hc1, ht1, hmm⟩
            have HC1 : Hid (Cm w0 w w1 b s s' n css K (Gs d q) M' R' (t + 1) ∧ t + 1 ≤ R'.length ∧ ∀ x ∈ Gs d q, x ∈ K ++ M') := ⟨hc1, ht1, fun x hx => (List.mem_append.1 (HM2.out.2 x hx)).elim (fun h3 => List.mem_append.2 (.inl h3)) (fun h3 => List.mem_append.2 (.inr (hmm _ h3)))⟩
            refine .inl ⟨_, rfl, ?_⟩
            clear hW
            clear hc1 ht1 hmm p0 p1 f1 b6 kR HM2 HLk
            go_wp2
            go_roundg (css.length - (t + 1))
            case measure => have := HTc.out; omega
            case rel => exact ⟨t + 1, s', M', R', rfl, by go_num, HC1.out.1, HC1.out.2.1, HC1.out.2.2⟩
        · have HCla : Hid (claB css (K ++ Gs d q) = false) := claB_not (hcm.on.fin (by omega) hG3)
          have HC2 : Hid (Ck w0 w (wr.setCell ⟨w.heap.size + 1, 0, none⟩ (.bool false)) b s sx n css K M R false ∧ ∀ x ∈ M, x ∉ K) := ⟨hcm.ck.set false, hcm.ap⟩
          clear hcm hG3 hz eR hRc
          generalize R.length = Rn at *
          go_wp2
          refine leaves_cons (f := 119) (args := #[.pointer (some ⟨w.heap.size, 0, none⟩), .pointer (some ⟨w.heap.size + 1, 0, none⟩)]) (by simp) (by simp [go_sem]) ?_
          refine (oCatch_ret w0 w _ b s sx n css K M R HC2.out.1 HC2.out.2).mono ?_
          rintro e u' w2 ⟨rfl, rfl, s', hck⟩
          have HK : Hid (Cl8 w0 w w2 b s n css K) := hck.fin
          have q1 := hck.p1
          clear hck p1
          simp [Leaves, settle, results, Tryz.results105, go_sem, q1]
          exact ⟨HCla.out, HK.out⟩
end Go.Proofs.YtjajafeaengnjaaGreatDoor
set_option linter.unusedSimpArgs false
set_option linter.unusedVariables false
namespace Go.Proofs.YtjajafeaengnjaaGreatDoor
open Go Go.RowKit

/-- the partners' numbers -/
def ptnN (css : List (List Int)) (l : Int) : List Nat := (List.range css.length).filter (fun i => fmd l && (css.getD i []).contains l)
theorem ptnN_eq (n : Int) (css : List (List Int)) (l : Int) (h : frm n css = true) : ptnA n css l = (ptnN css l).map (fun i : Nat => (i : Int)) := by
  unfold ptnA; rw [if_pos h]; rfl
theorem mem_ptnN {css : List (List Int)} {l : Int} {i : Nat} : i ∈ ptnN css l ↔ i < css.length ∧ fmd l = true ∧ l ∈ css.getD i [] := by
  unfold ptnN
  rw [List.mem_filter, List.mem_range, Bool.and_eq_true, List.contains_iff_mem]
theorem Gs_rst (d : List Int) (p : Int) : Gs d (-p) = opp (rst d p) := rfl
theorem parB_yes {css : List (List Int)} {K : List Int} {p : Int} (hf : fmd p = true) (h : ∀ i ∈ ptnN css (-p), claB css (K ++ Gs (css.getD i []) (-p)) = true) : parB css K p css = true := by
  unfold parB
  rw [List.all_eq_true]
  intro d hd
  by_cases hm : -p ∈ d
  · obtain ⟨k, hk, e⟩ := in_getD hd
    have := h k (mem_ptnN.2 ⟨hk, fmd_neg hf, by rw [e]; exact hm⟩)
    rw [e, Gs_rst] at this
    rw [this]; simp
  · rw [decide_eq_false hm]; rfl
theorem parB_no {css : List (List Int)} {K : List Int} {p : Int} {i : Nat} (hi : i ∈ ptnN css (-p)) (h : claB css (K ++ Gs (css.getD i []) (-p)) = false) : parB css K p css = false := by
  obtain ⟨h1, h2, h3⟩ := mem_ptnN.1 hi
  unfold parB
  rw [List.all_eq_false]
  refine ⟨_, getD_in h1, ?_⟩
  rw [Gs_rst] at h
  rw [decide_eq_true h3, h]
  simp
theorem mem_take_moreN {c : List Nat} {j : Nat} (hj : j < c.length) {x : Nat} : x ∈ c.take (j + 1) ↔ x ∈ c.take j ∨ x = c.getD j 0 := by
  rw [List.take_succ_eq_append_getElem hj, List.mem_append, List.mem_singleton, List.getD_eq_getElem?_getD, List.getElem?_eq_getElem hj]; rfl
theorem ptnN_len (css : List (List Int)) (l : Int) : (ptnN css l).length ≤ css.length := by
  unfold ptnN; exact Nat.le_trans (List.length_filter_le _ _) (by simp)

set_option maxRecDepth 100000 in
set_option maxHeartbeats 3200000 in
theorem allFollow_any (v p : Int) (s vk : Value) (css : List (List Int)) (K : List Int) (w : World) (hr : Rds w s css) (hk : Rd w vk K) (hw : Few css) (hfr : frm v css = true) (hKf : ∀ x ∈ K, fmd x = true) (hc : Con K) (hcalm : Calm css K) (hp : fmd p = true) :
    Calls Tryz.prog 87 #[.agg #[.int .i64 v, s], .int .i64 p, vk] w fun e w' => e = .returned (.bool (parB css K p css)) ∧ Below w.heap.size w w' := by
  have HX : Hid (Bx w v s css (w.alloc (.cells #[.int .i64 v, s] 24))) := Bx.new hr _
  have HR : Hid (Rd w vk K ∧ Few css ∧ frm v css = true ∧ (∀ x ∈ K, fmd x = true) ∧ Con K ∧ Calm css K ∧ fmd p = true) := ⟨hk, hw, hfr, hKf, hc, hcalm, hp⟩
  have hN := hw.num
  have hpr := fmd_range hp
  have hwp : IntKind.i64.wrap (-p) = -p := by rw [IntKind.wrap_i64]; omega
  have HNg : Hid (ngw p = -p) := ngw_fmd hp
  obtain ⟨ac, cc, rfl, h1, h2, -⟩ := hr.form
  obtain ⟨akk, ckk, rfl, hk1, hk2, -⟩ := hk.form
  clear hr hk hw hfr hKf hc hcalm hp
  go_enter Tryz.func87, Tryz.ntmps87
  go_wp2_with fail
  refine (partners_any v _ css p _ HX.out.rd).mono ?_
  rintro e w1 ⟨vp, rfl, own1, bel1⟩
  rw [HNg.out, ptnN_eq v css (-p) HR.out.2.2.1] at own1
  have HX1 : Hid (Bx w v (.slice ac css.length cc) css w1) := HX.out.on bel1
  have hlp := ptnN_len css (-p)
  have HP : Hid (Rd w1 vp ((ptnN css (-p)).map (fun i : Nat => (i : Int)))) := own1.rd (by rw [List.length_map]; omega)
  obtain ⟨ap, cp, ep, g1, g2, hcell⟩ := HP.out.form
  rw [List.length_map] at ep
  have HC : Hid (∀ (W : World) (j : Nat), Below w1.heap.size w1 W → j < (ptnN css (-p)).length → ∃ bb off, ap = some ⟨bb, off, none⟩ ∧ W.cell? ⟨bb, off + j, none⟩ = some (.int .i64 ((ptnN css (-p)).getD j 0 : Int))) := fun W j hW hj => by
    obtain ⟨bb, off, e, hc⟩ := hcell j (by rw [List.length_map]; exact hj)
    refine ⟨bb, off, e, ((hW.cell (p := ⟨bb, off + j, none⟩) (World.block_lt_of_cell? w1 _ hc)).trans hc).trans ?_⟩
    rw [List.getD_eq_getElem?_getD, List.getElem?_map, List.getElem?_eq_getElem hj, List.getD_eq_getElem?_getD, List.getElem?_eq_getElem hj]; rfl
  have HPm : Hid (∀ j, j < (ptnN css (-p)).length → (ptnN css (-p)).getD j 0 ∈ ptnN css (-p)) := fun j hj => by
    rw [List.getD_eq_getElem?_getD, List.getElem?_eq_getElem hj]; exact List.getElem_mem hj
  have c0 := HX1.out.c0
  have c1 := HX1.out.c1
  clear own1 bel1 HX hcell
  subst ep
  have HPe : Hid (ptnN css (-p) = ptnN css (-p)) := rfl
  generalize hpl : ptnN css (-p) = pl at *
  have HPl : Hid (ptnN css (-p) = pl) := hpl
  clear hpl HPe
  by_cases hz : pl.length = 0
  · have HF : Hid (parB css K p css = true) := parB_yes HR.out.2.2.2.2.2.2 (by rw [HPl.out, List.length_eq_zero_iff.1 hz]; simp)
    have hz2 : decide ((pl.length : Int) = 0) = true := decide_eq_true (by omega)
    go_wp2
    go_ret
    exact ⟨(congrArg (fun x => Ending.returned (.bool x)) HF.out).symm, HX1.out.bel⟩
  · have hz3 : ¬ ((pl.length : Int) = 0) := by omega
    go_wp2_with fail
    refine (oLead_any v _ _ css K w1 HX1.out.rd (HR.out.1.below HX1.out.bel) HR.out.2.1 (frm_fmd HR.out.2.2.1) HR.out.2.2.2.1).mono ?_
    rintro e w2 ⟨b, sy, rfl, how, hsC⟩
    have HO : Hid (Ow w1 w2 b sy (2 * (grt css).toNat) css K [] [] ∧ sy.C = .slice ac css.length cc) := ⟨how, hsC⟩
    clear how hsC c0 c1
    go_wp2
    go_loopg [22] pl.length (fun g j' wr => ∃ (j : Nat) (sv : Sy), j + g = pl.length ∧ j' = .int .i64 j ∧ Ow w1 wr b sv (2 * (grt css).toNat) css K [] [] ∧ sv.C = .slice ac css.length cc ∧ ∀ i ∈ pl.take j, claB css (K ++ Gs (css.getD i []) (-p)) = true)
    case atStart => exact ⟨0, sy, by omega, rfl, HO.out.1, HO.out.2, by simp⟩
    case round =>
      obtain ⟨j, sv, hj, rfl, how, hsC, hall⟩ := hrel
      have HJ : Hid (j + gk = pl.length) := hj
      have HM : Hid (Ow w1 wr b sv (2 * (grt css).toNat) css K [] [] ∧ sv.C = .slice ac css.length cc ∧ ∀ i ∈ pl.take j, claB css (K ++ Gs (css.getD i []) (-p)) = true) := ⟨how, hsC, hall⟩
      have HXr : Hid (Bx w v (.slice ac css.length cc) css wr) := HX1.out.on how.bel
      have c0 := HXr.out.c0
      have c1 := HXr.out.c1
      clear hj how hsC hall
      by_cases hlt : j < pl.length
      · obtain ⟨bb, off, rfl, k1⟩ := HC.out wr j HM.out.1.bel hlt
        have hmem := HPm.out j hlt
        have HTk : Hid (∀ x, x ∈ pl.take (j + 1) ↔ x ∈ pl.take j ∨ x = pl.getD j 0) := fun x => mem_take_moreN hlt
        have HLT : Hid (j < pl.length) := hlt
        generalize pl.getD j 0 = i at *
        have HMem : Hid (i ∈ ptnN css (-p)) := by rw [HPl.out]; exact hmem
        have hic := (mem_ptnN.1 HMem.out).1
        obtain ⟨b2, o2, u, ea, kc, -⟩ := HXr.out.at hic
        obtain ⟨b3, o3, u3, ea3, kc3, hrd3⟩ := HX1.out.at hic
        subst ea
        injection ea3 with ea3
        injection ea3 with e31 e32
        subst e31; subst e32
        have eu : u = u3 := by
          have h9 := (HM.out.1.bel.cell (p := ⟨b2, o2 + i, none⟩) (World.block_lt_of_cell? w1 _ kc3)).trans kc3
          rw [kc] at h9
          injection h9
        subst eu
        have HCl : Hid (Calls Tryz.prog 105 #[.pointer (some ⟨b, 0, none⟩), u, .int .i64 (-p)] wr fun e w' => e = .returned (.bool (claB css (K ++ Gs (css.getD i []) (-p)))) ∧ Cl8 w1 wr w' b sv (2 * (grt css).toNat) css K) := oClashes_any w1 b sv _ css K u (css.getD i []) (-p) wr HM.out.1 (by rw [HM.out.2.1]; exact HX1.out.rd) hrd3 (getD_in hic) HR.out.2.2.2.2.1 HR.out.2.2.2.2.2.1
        obtain ⟨ua, uc, eu, -⟩ := hrd3.form
        have HNo : Hid (claB css (K ++ Gs (css.getD i []) (-p)) = false → parB css K p css = false) := fun h => parB_no HMem.out h
        clear hrd3 kc3 hmem
        generalize hcb : claB css (K ++ Gs (css.getD i []) (-p)) = cb at *
        have HCb : Hid (claB css (K ++ Gs (css.getD i []) (-p)) = cb) := hcb
        clear hcb
        subst eu
        generalize (css.getD i []).length = cl at *
        go_wp2_with fail
        refine HCl.out.mono ?_
        rintro e w3 ⟨rfl, sv2, how2, hC2, -⟩
        have HO2 : Hid (Ow w1 w3 b sv2 (2 * (grt css).toNat) css K [] [] ∧ sv2.C = .slice (some ⟨b2, o2, none⟩) css.length cc) := ⟨how2, hC2.trans HM.out.2.1⟩
        clear how2 hC2 HCl
        cases cb
        · have HF : Hid (parB css K p css = false) := HNo.out (by first | exact HCb.out | rfl)
          go_wp2
          go_ret
          exact ⟨(congrArg (fun x => Ending.returned (.bool x)) HF.out).symm, Below.step HX1.out.bel HO2.out.1.bel⟩
        · go_wp2
          go_roundg (gk - 1)
          case measure => have := HJ.out; have := HLT.out; omega
          case rel => exact ⟨j + 1, sv2, by have := HJ.out; have := HLT.out; omega, by go_num, HO2.out.1, HO2.out.2, fun x hx => ((HTk.out x).1 hx).elim (HM.out.2.2 x) (fun e => by rw [e]; exact HCb.out)⟩
      · have hje : j = pl.length := by have := HJ.out; omega
        have HF : Hid (parB css K p css = true) := parB_yes HR.out.2.2.2.2.2.2 (by
          have h9 := HM.out.2.2
          rw [hje, List.take_length] at h9
          rw [HPl.out]
          exact h9)
        clear hje
        go_wp2
        go_ret
        exact ⟨(congrArg (fun x => Ending.returned (.bool x)) HF.out).symm, Below.step HX1.out.bel HM.out.1.bel⟩
end Go.Proofs.YtjajafeaengnjaaGreatDoor

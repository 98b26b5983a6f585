/-
  rup: clashes, the region that calls look (written by walks/genlr.py).
  KEEP: set on app at below new trans refl start ap kept rd rds mono lt add none own nil put len pos setF setV putL putR other neV same_any from call fin bel
-/
import Derived.Test.YtajcofhfjjbneaaGreatDoorKOnC
import Derived.Test.YtajcofhfjjbneaaGreatDoorJUnS
set_option linter.unusedSimpArgs false
set_option linter.unusedVariables false
namespace Go.Proofs.YtajcofhfjjbneaaGreatDoor
open Go Go.RowKit

structure LrN (Q : Exit → Act → World → Prop) (D : List Deferred) (y0 y1 y2 y4 y5 y6 y7 y8 y10 y11 y12 y13 y14 y15 y16 y17 y18 y19 y20 y21 y22 y23 y24 y25 y26 y27 y28 y29 y30 y31 y32 y33 : Value) (pb : Addr) (b g t k Rn cR : Nat) (W0 : World) (L : Nat → Bool) (W : World) (x34 x35 x36 x37 x38 x39 x40 x41 x42 : Value) : Prop where
  f0 : L 0 = true → x34 = .pointer (some ⟨b, 0, none⟩)
  f1 : L 1 = true → x35 = .pointer (some ⟨b, 0, none⟩)
  f2 : L 2 = true → x36 = .pointer (some ⟨b, 0, none⟩)
  f3 : L 3 = true → x37 = .pointer (some ⟨b, 6, none⟩)
  f4 : L 4 = true → x38 = .slice (some ⟨g, 0, none⟩) Rn cR
  f5 : L 5 = true → x39 = .int .i64 (t : Int)
  f6 : L 6 = true → x40 = .pointer (some ⟨g, t, none⟩)
  f7 : L 7 = true → x41 = .int .i32 (k : Int)
  bel : L 8 = false → Below W0.heap.size W0 W
  fin : L 8 = true → Q .normal ({ tmps := #[y0, y1, y2, (.pointer (some pb)), y4, y5, y6, y7, y8, (.int .i64 (t : Int)), y10, y11, y12, y13, y14, y15, y16, y17, y18, y19, y20, y21, y22, y23, y24, y25, y26, y27, y28, y29, y30, y31, y32, y33, x34, x35, x36, x37, x38, x39, x40, x41, x42], defers := D } : Act) W
  c2 : L 2 = true → L 1 = true
  c3 : L 3 = true → L 2 = true
  c4 : L 4 = true → L 3 = true
  c6 : L 6 = true → L 4 = true ∧ L 5 = true
  c7 : L 7 = true → L 6 = true
  c8 : L 8 = true → L 0 = true ∧ L 7 = true
theorem LrN.q8 {Q : Exit → Act → World → Prop} {D : List Deferred} {y0 y1 y2 y4 y5 y6 y7 y8 y10 y11 y12 y13 y14 y15 y16 y17 y18 y19 y20 y21 y22 y23 y24 y25 y26 y27 y28 y29 y30 y31 y32 y33 : Value} {pb : Addr} {b g t k Rn cR : Nat} {W0 : World} {L : Nat → Bool} {W : World} {x34 x35 x36 x37 x38 x39 x40 x41 x42 : Value} (h : LrN Q D y0 y1 y2 y4 y5 y6 y7 y8 y10 y11 y12 y13 y14 y15 y16 y17 y18 y19 y20 y21 y22 y23 y24 y25 y26 y27 y28 y29 y30 y31 y32 y33 pb b g t k Rn cR W0 L W x34 x35 x36 x37 x38 x39 x40 x41 x42) (hn : L 0 = false ∨ L 1 = false ∨ L 2 = false ∨ L 3 = false ∨ L 4 = false ∨ L 5 = false ∨ L 6 = false ∨ L 7 = false) : L 8 = false := by
  cases e : L 8
  · rfl
  · exfalso
    obtain ⟨a0, a7⟩ := h.c8 e
    have a6 := h.c7 a7
    obtain ⟨a4, a5⟩ := h.c6 a6
    have a3 := h.c4 a4
    have a2 := h.c3 a3
    have a1 := h.c2 a2
    simp [a0, a1, a2, a3, a4, a5, a6, a7] at hn
theorem LrN.s0 {Q : Exit → Act → World → Prop} {D : List Deferred} {y0 y1 y2 y4 y5 y6 y7 y8 y10 y11 y12 y13 y14 y15 y16 y17 y18 y19 y20 y21 y22 y23 y24 y25 y26 y27 y28 y29 y30 y31 y32 y33 : Value} {pb : Addr} {b g t k Rn cR : Nat} {W0 : World} {L : Nat → Bool} {W : World} {x34 x35 x36 x37 x38 x39 x40 x41 x42 : Value} (h : LrN Q D y0 y1 y2 y4 y5 y6 y7 y8 y10 y11 y12 y13 y14 y15 y16 y17 y18 y19 y20 y21 y22 y23 y24 y25 y26 y27 y28 y29 y30 y31 y32 y33 pb b g t k Rn cR W0 L W x34 x35 x36 x37 x38 x39 x40 x41 x42) (hq : L 8 = false) : LrN Q D y0 y1 y2 y4 y5 y6 y7 y8 y10 y11 y12 y13 y14 y15 y16 y17 y18 y19 y20 y21 y22 y23 y24 y25 y26 y27 y28 y29 y30 y31 y32 y33 pb b g t k Rn cR W0 (upd L 0) W (.pointer (some ⟨b, 0, none⟩)) x35 x36 x37 x38 x39 x40 x41 x42 :=
  ⟨fun _ => rfl, h.f1, h.f2, h.f3, h.f4, h.f5, h.f6, h.f7, fun _ => h.bel hq, fun hl => absurd (show L 8 = true from hl) (by rw [hq]; decide), fun hl => by have := h.c2 (show L 2 = true from hl); simp [upd, this], fun hl => by have := h.c3 (show L 3 = true from hl); simp [upd, this], fun hl => by have := h.c4 (show L 4 = true from hl); simp [upd, this], fun hl => by have := h.c6 (show L 6 = true from hl); simp [upd, this], fun hl => by have := h.c7 (show L 7 = true from hl); simp [upd, this], fun hl => by have := h.c8 (show L 8 = true from hl); simp [upd, this]⟩
theorem LrN.s1 {Q : Exit → Act → World → Prop} {D : List Deferred} {y0 y1 y2 y4 y5 y6 y7 y8 y10 y11 y12 y13 y14 y15 y16 y17 y18 y19 y20 y21 y22 y23 y24 y25 y26 y27 y28 y29 y30 y31 y32 y33 : Value} {pb : Addr} {b g t k Rn cR : Nat} {W0 : World} {L : Nat → Bool} {W : World} {x34 x35 x36 x37 x38 x39 x40 x41 x42 : Value} (h : LrN Q D y0 y1 y2 y4 y5 y6 y7 y8 y10 y11 y12 y13 y14 y15 y16 y17 y18 y19 y20 y21 y22 y23 y24 y25 y26 y27 y28 y29 y30 y31 y32 y33 pb b g t k Rn cR W0 L W x34 x35 x36 x37 x38 x39 x40 x41 x42) (hq : L 8 = false) : LrN Q D y0 y1 y2 y4 y5 y6 y7 y8 y10 y11 y12 y13 y14 y15 y16 y17 y18 y19 y20 y21 y22 y23 y24 y25 y26 y27 y28 y29 y30 y31 y32 y33 pb b g t k Rn cR W0 (upd L 1) W x34 (.pointer (some ⟨b, 0, none⟩)) x36 x37 x38 x39 x40 x41 x42 :=
  ⟨h.f0, fun _ => rfl, h.f2, h.f3, h.f4, h.f5, h.f6, h.f7, fun _ => h.bel hq, fun hl => absurd (show L 8 = true from hl) (by rw [hq]; decide), fun hl => by have := h.c2 (show L 2 = true from hl); simp [upd, this], fun hl => by have := h.c3 (show L 3 = true from hl); simp [upd, this], fun hl => by have := h.c4 (show L 4 = true from hl); simp [upd, this], fun hl => by have := h.c6 (show L 6 = true from hl); simp [upd, this], fun hl => by have := h.c7 (show L 7 = true from hl); simp [upd, this], fun hl => by have := h.c8 (show L 8 = true from hl); simp [upd, this]⟩
theorem LrN.s2 {Q : Exit → Act → World → Prop} {D : List Deferred} {y0 y1 y2 y4 y5 y6 y7 y8 y10 y11 y12 y13 y14 y15 y16 y17 y18 y19 y20 y21 y22 y23 y24 y25 y26 y27 y28 y29 y30 y31 y32 y33 : Value} {pb : Addr} {b g t k Rn cR : Nat} {W0 : World} {L : Nat → Bool} {W : World} {x34 x35 x36 x37 x38 x39 x40 x41 x42 : Value} (h : LrN Q D y0 y1 y2 y4 y5 y6 y7 y8 y10 y11 y12 y13 y14 y15 y16 y17 y18 y19 y20 y21 y22 y23 y24 y25 y26 y27 y28 y29 y30 y31 y32 y33 pb b g t k Rn cR W0 L W x34 x35 x36 x37 x38 x39 x40 x41 x42) (hq : L 8 = false) (d1 : upd L 2 1 = true) : LrN Q D y0 y1 y2 y4 y5 y6 y7 y8 y10 y11 y12 y13 y14 y15 y16 y17 y18 y19 y20 y21 y22 y23 y24 y25 y26 y27 y28 y29 y30 y31 y32 y33 pb b g t k Rn cR W0 (upd L 2) W x34 x35 (.pointer (some ⟨b, 0, none⟩)) x37 x38 x39 x40 x41 x42 :=
  ⟨h.f0, h.f1, fun _ => rfl, h.f3, h.f4, h.f5, h.f6, h.f7, fun _ => h.bel hq, fun hl => absurd (show L 8 = true from hl) (by rw [hq]; decide), fun _ => d1, fun hl => by have := h.c3 (show L 3 = true from hl); simp [upd, this], fun hl => by have := h.c4 (show L 4 = true from hl); simp [upd, this], fun hl => by have := h.c6 (show L 6 = true from hl); simp [upd, this], fun hl => by have := h.c7 (show L 7 = true from hl); simp [upd, this], fun hl => by have := h.c8 (show L 8 = true from hl); simp [upd, this]⟩
theorem LrN.s3 {Q : Exit → Act → World → Prop} {D : List Deferred} {y0 y1 y2 y4 y5 y6 y7 y8 y10 y11 y12 y13 y14 y15 y16 y17 y18 y19 y20 y21 y22 y23 y24 y25 y26 y27 y28 y29 y30 y31 y32 y33 : Value} {pb : Addr} {b g t k Rn cR : Nat} {W0 : World} {L : Nat → Bool} {W : World} {x34 x35 x36 x37 x38 x39 x40 x41 x42 : Value} (h : LrN Q D y0 y1 y2 y4 y5 y6 y7 y8 y10 y11 y12 y13 y14 y15 y16 y17 y18 y19 y20 y21 y22 y23 y24 y25 y26 y27 y28 y29 y30 y31 y32 y33 pb b g t k Rn cR W0 L W x34 x35 x36 x37 x38 x39 x40 x41 x42) (hq : L 8 = false) (d2 : upd L 3 2 = true) : LrN Q D y0 y1 y2 y4 y5 y6 y7 y8 y10 y11 y12 y13 y14 y15 y16 y17 y18 y19 y20 y21 y22 y23 y24 y25 y26 y27 y28 y29 y30 y31 y32 y33 pb b g t k Rn cR W0 (upd L 3) W x34 x35 x36 (.pointer (some ⟨b, 6, none⟩)) x38 x39 x40 x41 x42 :=
  ⟨h.f0, h.f1, h.f2, fun _ => rfl, h.f4, h.f5, h.f6, h.f7, fun _ => h.bel hq, fun hl => absurd (show L 8 = true from hl) (by rw [hq]; decide), fun hl => by have := h.c2 (show L 2 = true from hl); simp [upd, this], fun _ => d2, fun hl => by have := h.c4 (show L 4 = true from hl); simp [upd, this], fun hl => by have := h.c6 (show L 6 = true from hl); simp [upd, this], fun hl => by have := h.c7 (show L 7 = true from hl); simp [upd, this], fun hl => by have := h.c8 (show L 8 = true from hl); simp [upd, this]⟩
theorem LrN.s4 {Q : Exit → Act → World → Prop} {D : List Deferred} {y0 y1 y2 y4 y5 y6 y7 y8 y10 y11 y12 y13 y14 y15 y16 y17 y18 y19 y20 y21 y22 y23 y24 y25 y26 y27 y28 y29 y30 y31 y32 y33 : Value} {pb : Addr} {b g t k Rn cR : Nat} {W0 : World} {L : Nat → Bool} {W : World} {x34 x35 x36 x37 x38 x39 x40 x41 x42 : Value} (h : LrN Q D y0 y1 y2 y4 y5 y6 y7 y8 y10 y11 y12 y13 y14 y15 y16 y17 y18 y19 y20 y21 y22 y23 y24 y25 y26 y27 y28 y29 y30 y31 y32 y33 pb b g t k Rn cR W0 L W x34 x35 x36 x37 x38 x39 x40 x41 x42) (hq : L 8 = false) (d3 : upd L 4 3 = true) : LrN Q D y0 y1 y2 y4 y5 y6 y7 y8 y10 y11 y12 y13 y14 y15 y16 y17 y18 y19 y20 y21 y22 y23 y24 y25 y26 y27 y28 y29 y30 y31 y32 y33 pb b g t k Rn cR W0 (upd L 4) W x34 x35 x36 x37 (.slice (some ⟨g, 0, none⟩) Rn cR) x39 x40 x41 x42 :=
  ⟨h.f0, h.f1, h.f2, h.f3, fun _ => rfl, h.f5, h.f6, h.f7, fun _ => h.bel hq, fun hl => absurd (show L 8 = true from hl) (by rw [hq]; decide), fun hl => by have := h.c2 (show L 2 = true from hl); simp [upd, this], fun hl => by have := h.c3 (show L 3 = true from hl); simp [upd, this], fun _ => d3, fun hl => by have := h.c6 (show L 6 = true from hl); simp [upd, this], fun hl => by have := h.c7 (show L 7 = true from hl); simp [upd, this], fun hl => by have := h.c8 (show L 8 = true from hl); simp [upd, this]⟩
theorem LrN.s5 {Q : Exit → Act → World → Prop} {D : List Deferred} {y0 y1 y2 y4 y5 y6 y7 y8 y10 y11 y12 y13 y14 y15 y16 y17 y18 y19 y20 y21 y22 y23 y24 y25 y26 y27 y28 y29 y30 y31 y32 y33 : Value} {pb : Addr} {b g t k Rn cR : Nat} {W0 : World} {L : Nat → Bool} {W : World} {x34 x35 x36 x37 x38 x39 x40 x41 x42 : Value} (h : LrN Q D y0 y1 y2 y4 y5 y6 y7 y8 y10 y11 y12 y13 y14 y15 y16 y17 y18 y19 y20 y21 y22 y23 y24 y25 y26 y27 y28 y29 y30 y31 y32 y33 pb b g t k Rn cR W0 L W x34 x35 x36 x37 x38 x39 x40 x41 x42) (hq : L 8 = false) : LrN Q D y0 y1 y2 y4 y5 y6 y7 y8 y10 y11 y12 y13 y14 y15 y16 y17 y18 y19 y20 y21 y22 y23 y24 y25 y26 y27 y28 y29 y30 y31 y32 y33 pb b g t k Rn cR W0 (upd L 5) W x34 x35 x36 x37 x38 (.int .i64 (t : Int)) x40 x41 x42 :=
  ⟨h.f0, h.f1, h.f2, h.f3, h.f4, fun _ => rfl, h.f6, h.f7, fun _ => h.bel hq, fun hl => absurd (show L 8 = true from hl) (by rw [hq]; decide), fun hl => by have := h.c2 (show L 2 = true from hl); simp [upd, this], fun hl => by have := h.c3 (show L 3 = true from hl); simp [upd, this], fun hl => by have := h.c4 (show L 4 = true from hl); simp [upd, this], fun hl => by have := h.c6 (show L 6 = true from hl); simp [upd, this], fun hl => by have := h.c7 (show L 7 = true from hl); simp [upd, this], fun hl => by have := h.c8 (show L 8 = true from hl); simp [upd, this]⟩
theorem LrN.s6 {Q : Exit → Act → World → Prop} {D : List Deferred} {y0 y1 y2 y4 y5 y6 y7 y8 y10 y11 y12 y13 y14 y15 y16 y17 y18 y19 y20 y21 y22 y23 y24 y25 y26 y27 y28 y29 y30 y31 y32 y33 : Value} {pb : Addr} {b g t k Rn cR : Nat} {W0 : World} {L : Nat → Bool} {W : World} {x34 x35 x36 x37 x38 x39 x40 x41 x42 : Value} (h : LrN Q D y0 y1 y2 y4 y5 y6 y7 y8 y10 y11 y12 y13 y14 y15 y16 y17 y18 y19 y20 y21 y22 y23 y24 y25 y26 y27 y28 y29 y30 y31 y32 y33 pb b g t k Rn cR W0 L W x34 x35 x36 x37 x38 x39 x40 x41 x42) (hq : L 8 = false) (d4 : upd L 6 4 = true) (d5 : upd L 6 5 = true) : LrN Q D y0 y1 y2 y4 y5 y6 y7 y8 y10 y11 y12 y13 y14 y15 y16 y17 y18 y19 y20 y21 y22 y23 y24 y25 y26 y27 y28 y29 y30 y31 y32 y33 pb b g t k Rn cR W0 (upd L 6) W x34 x35 x36 x37 x38 x39 (.pointer (some ⟨g, t, none⟩)) x41 x42 :=
  ⟨h.f0, h.f1, h.f2, h.f3, h.f4, h.f5, fun _ => rfl, h.f7, fun _ => h.bel hq, fun hl => absurd (show L 8 = true from hl) (by rw [hq]; decide), fun hl => by have := h.c2 (show L 2 = true from hl); simp [upd, this], fun hl => by have := h.c3 (show L 3 = true from hl); simp [upd, this], fun hl => by have := h.c4 (show L 4 = true from hl); simp [upd, this], fun _ => ⟨d4, d5⟩, fun hl => by have := h.c7 (show L 7 = true from hl); simp [upd, this], fun hl => by have := h.c8 (show L 8 = true from hl); simp [upd, this]⟩
theorem LrN.s7 {Q : Exit → Act → World → Prop} {D : List Deferred} {y0 y1 y2 y4 y5 y6 y7 y8 y10 y11 y12 y13 y14 y15 y16 y17 y18 y19 y20 y21 y22 y23 y24 y25 y26 y27 y28 y29 y30 y31 y32 y33 : Value} {pb : Addr} {b g t k Rn cR : Nat} {W0 : World} {L : Nat → Bool} {W : World} {x34 x35 x36 x37 x38 x39 x40 x41 x42 : Value} (h : LrN Q D y0 y1 y2 y4 y5 y6 y7 y8 y10 y11 y12 y13 y14 y15 y16 y17 y18 y19 y20 y21 y22 y23 y24 y25 y26 y27 y28 y29 y30 y31 y32 y33 pb b g t k Rn cR W0 L W x34 x35 x36 x37 x38 x39 x40 x41 x42) (hq : L 8 = false) (d6 : upd L 7 6 = true) : LrN Q D y0 y1 y2 y4 y5 y6 y7 y8 y10 y11 y12 y13 y14 y15 y16 y17 y18 y19 y20 y21 y22 y23 y24 y25 y26 y27 y28 y29 y30 y31 y32 y33 pb b g t k Rn cR W0 (upd L 7) W x34 x35 x36 x37 x38 x39 x40 (.int .i32 (k : Int)) x42 :=
  ⟨h.f0, h.f1, h.f2, h.f3, h.f4, h.f5, h.f6, fun _ => rfl, fun _ => h.bel hq, fun hl => absurd (show L 8 = true from hl) (by rw [hq]; decide), fun hl => by have := h.c2 (show L 2 = true from hl); simp [upd, this], fun hl => by have := h.c3 (show L 3 = true from hl); simp [upd, this], fun hl => by have := h.c4 (show L 4 = true from hl); simp [upd, this], fun hl => by have := h.c6 (show L 6 = true from hl); simp [upd, this], fun _ => d6, fun hl => by have := h.c8 (show L 8 = true from hl); simp [upd, this]⟩
theorem lnk9 {listed : Array Bool} {L : Nat → Bool} (hs : listed.size = 9) (h : ∀ j, j < 9 → listed.getD j false = L j) {i : Nat} (hi : i < 9) : (listed.setIfInBounds i true).size = 9 ∧ ∀ j, j < 9 → (listed.setIfInBounds i true).getD j false = upd L i j := by
  refine ⟨by simpa using hs, fun j hj => ?_⟩
  rw [set_getD false (by rw [hs]; exact hi), h j hj]
  rfl
theorem getD_ft9 {listed : Array Bool} {i : Nat} (hs : listed.size = 9) (hi : i < 9) (h : listed.getD i true = false) : listed.getD i false = false := by
  have hj : i < listed.size := by omega
  simp [Array.getD, hj] at h ⊢
  exact h
def LrI (Q : Exit → Act → World → Prop) (D : List Deferred) (y0 y1 y2 y4 y5 y6 y7 y8 y10 y11 y12 y13 y14 y15 y16 y17 y18 y19 y20 y21 y22 y23 y24 y25 y26 y27 y28 y29 y30 y31 y32 y33 : Value) (pb : Addr) (b g t k Rn cR : Nat) (W0 : World) (listed : Array Bool) (a : Act) (W : World) : Prop :=
  listed.size = 9 ∧ ∃ L : Nat → Bool, (∀ j, j < 9 → listed.getD j false = L j) ∧ ∃ x34 x35 x36 x37 x38 x39 x40 x41 x42 : Value, a = ({ tmps := #[y0, y1, y2, (.pointer (some pb)), y4, y5, y6, y7, y8, (.int .i64 (t : Int)), y10, y11, y12, y13, y14, y15, y16, y17, y18, y19, y20, y21, y22, y23, y24, y25, y26, y27, y28, y29, y30, y31, y32, y33, x34, x35, x36, x37, x38, x39, x40, x41, x42], defers := D } : Act) ∧ LrN Q D y0 y1 y2 y4 y5 y6 y7 y8 y10 y11 y12 y13 y14 y15 y16 y17 y18 y19 y20 y21 y22 y23 y24 y25 y26 y27 y28 y29 y30 y31 y32 y33 pb b g t k Rn cR W0 L W x34 x35 x36 x37 x38 x39 x40 x41 x42
/-- what look must give, in whatever frame -/
def LkQ (Q : Exit → Act → World → Prop) (D : List Deferred) (y0 y1 y2 y4 y5 y6 y7 y8 y10 y11 y12 y13 y14 y15 y16 y17 y18 y19 y20 y21 y22 y23 y24 y25 y26 y27 y28 y29 y30 y31 y32 y33 : Value) (pb : Addr) (b g t k Rn cR : Nat) (W0 : World) : Prop := ∀ (W : World), Below W0.heap.size W0 W → ∀ x34 x35 x36 x37 x38 x39 x40 x41 x42 : Value, Calls Tryz.prog 109 #[.pointer (some ⟨b, 0, none⟩), .int .i32 (k : Int)] W fun e w' => (∃ v, e = .returned v ∧ Q .normal ({ tmps := #[y0, y1, y2, (.pointer (some pb)), y4, y5, y6, y7, y8, (.int .i64 (t : Int)), y10, y11, y12, y13, y14, y15, y16, y17, y18, y19, y20, y21, y22, y23, y24, y25, y26, y27, y28, y29, y30, y31, y32, y33, x34, x35, x36, x37, x38, x39, x40, x41, v], defers := D } : Act) w') ∨ ∃ c, e = .panicked c ∧ Q (.panic c) ({ tmps := #[y0, y1, y2, (.pointer (some pb)), y4, y5, y6, y7, y8, (.int .i64 (t : Int)), y10, y11, y12, y13, y14, y15, y16, y17, y18, y19, y20, y21, y22, y23, y24, y25, y26, y27, y28, y29, y30, y31, y32, y33, x34, x35, x36, x37, x38, x39, x40, x41, x42], defers := D } : Act) w'
set_option maxRecDepth 100000 in
set_option maxHeartbeats 1600000 in
theorem look_region (Q : Exit → Act → World → Prop) (D : List Deferred) (y0 y1 y2 y4 y5 y6 y7 y8 y10 y11 y12 y13 y14 y15 y16 y17 y18 y19 y20 y21 y22 y23 y24 y25 y26 y27 y28 y29 y30 y31 y32 y33 : Value) (pb : Addr) (b g t k Rn cR : Nat) (W0 : World) (u34 u35 u36 u37 u38 u39 u40 u41 u42 : Value) (c0 : W0.cell? pb = some (.pointer (some ⟨b, 0, none⟩))) (c6 : W0.cell? ⟨b, 6, none⟩ = some (.slice (some ⟨g, 0, none⟩) Rn cR)) (cg : W0.cell? ⟨g, t, none⟩ = some (.int .i32 (k : Int))) (ht : t < Rn) (hR : Rn ≤ 1073741824) (hL : LkQ Q D y0 y1 y2 y4 y5 y6 y7 y8 y10 y11 y12 y13 y14 y15 y16 y17 y18 y19 y20 y21 y22 y23 y24 y25 y26 y27 y28 y29 y30 y31 y32 y33 pb b g t k Rn cR W0) :
    (Code.region 11 #[{ dst := some 34, op := Op.load 114 (Operand.tmp 3), type := 114, pos := "onward.go:113", after := #[], guard := none }, { dst := some 35, op := Op.load 114 (Operand.tmp 3), type := 114, pos := "onward.go:113", after := #[], guard := none }, { dst := some 36, op := Op.nilCheck (Operand.tmp 35), type := 0, pos := "onward.go:113", after := #[{ on := 1, ground := Ground.data }], guard := none }, { dst := some 37, op := Op.fieldAddr 141 (Operand.tmp 36) 6, type := 0, pos := "onward.go:113", after := #[{ on := 2, ground := Ground.data }], guard := none }, { dst := some 38, op := Op.load 51 (Operand.tmp 37), type := 51, pos := "onward.go:113", after := #[{ on := 3, ground := Ground.data }], guard := none }, { dst := some 39, op := Op.move (Operand.tmp 9), type := 3, pos := "onward.go:113", after := #[], guard := none }, { dst := some 40, op := Op.indexAddr 51 (Operand.tmp 38) (Operand.tmp 39), type := 0, pos := "onward.go:113", after := #[{ on := 4, ground := Ground.data }, { on := 5, ground := Ground.data }], guard := none }, { dst := some 41, op := Op.load 21 (Operand.tmp 40), type := 21, pos := "onward.go:113", after := #[{ on := 6, ground := Ground.data }], guard := none }, { dst := some 42, op := Op.call { callee := Callee.value (Operand.func 109), args := #[Operand.tmp 34, Operand.tmp 41], argTypes := #[114, 21] }, type := 0, pos := "onward.go:113", after := #[{ on := 0, ground := Ground.data }, { on := 7, ground := Ground.data }], guard := none }] true).wp Tryz.prog Q ({ tmps := #[y0, y1, y2, (.pointer (some pb)), y4, y5, y6, y7, y8, (.int .i64 (t : Int)), y10, y11, y12, y13, y14, y15, y16, y17, y18, y19, y20, y21, y22, y23, y24, y25, y26, y27, y28, y29, y30, y31, y32, y33, u34, u35, u36, u37, u38, u39, u40, u41, u42], defers := D } : Act) W0 := by
  refine wp_region_any (by kernel_rfl) ?_
  refine any_inv (LrI Q D y0 y1 y2 y4 y5 y6 y7 y8 y10 y11 y12 y13 y14 y15 y16 y17 y18 y19 y20 y21 y22 y23 y24 y25 y26 y27 y28 y29 y30 y31 y32 y33 pb b g t k Rn cR W0) (back_of (by kernel_rfl)) ?_ ?_ _ _ _ _ rfl (by decide) ⟨rfl, fun _ => false, fun j hj => by simp [Array.getD, hj], u34, u35, u36, u37, u38, u39, u40, u41, u42, rfl, ⟨fun h => Bool.noConfusion h, fun h => Bool.noConfusion h, fun h => Bool.noConfusion h, fun h => Bool.noConfusion h, fun h => Bool.noConfusion h, fun h => Bool.noConfusion h, fun h => Bool.noConfusion h, fun h => Bool.noConfusion h, fun _ => (Below.refl _ _).drew, fun h => Bool.noConfusion h, fun h => Bool.noConfusion h, fun h => Bool.noConfusion h, fun h => Bool.noConfusion h, fun h => Bool.noConfusion h, fun h => Bool.noConfusion h, fun h => Bool.noConfusion h⟩⟩
  · intro listed a W i o hI ho hl hdep K hK
    obtain ⟨hsz, L, hlk, x34, x35, x36, x37, x38, x39, x40, x41, x42, rfl, hB⟩ := hI
    have hi : i < 9 := (Array.getElem?_eq_some_iff.1 ho).1
    rcases (show i = 0 ∨ i = 1 ∨ i = 2 ∨ i = 3 ∨ i = 4 ∨ i = 5 ∨ i = 6 ∨ i = 7 ∨ i = 8 by omega) with rfl | rfl | rfl | rfl | rfl | rfl | rfl | rfl | rfl
    · obtain rfl := (Option.some.inj ho)
      have hno : L 0 = false := (hlk 0 (by decide)).symm.trans (getD_ft9 hsz (by decide) hl)
      obtain ⟨hs2, hl2⟩ := lnk9 hsz hlk (i := 0) (by decide)
      have hq := hB.q8 (by simp [hno])
      have hW := hB.bel hq
      have k0 : W.cell? pb = some (.pointer (some ⟨b, 0, none⟩)) := (hW.cell (World.block_lt_of_cell? W0 _ c0)).trans c0
      refine wpOp_step rfl fun K' hK' => ?_
      go_simp
      exact hK' _ _ (hK _ _ ⟨hs2, _, hl2, _, _, _, _, _, _, _, _, _, rfl, hB.s0 hq ⟩)
    · obtain rfl := (Option.some.inj ho)
      have hno : L 1 = false := (hlk 1 (by decide)).symm.trans (getD_ft9 hsz (by decide) hl)
      obtain ⟨hs2, hl2⟩ := lnk9 hsz hlk (i := 1) (by decide)
      have hq := hB.q8 (by simp [hno])
      have hW := hB.bel hq
      have k0 : W.cell? pb = some (.pointer (some ⟨b, 0, none⟩)) := (hW.cell (World.block_lt_of_cell? W0 _ c0)).trans c0
      refine wpOp_step rfl fun K' hK' => ?_
      go_simp
      exact hK' _ _ (hK _ _ ⟨hs2, _, hl2, _, _, _, _, _, _, _, _, _, rfl, hB.s1 hq ⟩)
    · obtain rfl := (Option.some.inj ho)
      have hno : L 2 = false := (hlk 2 (by decide)).symm.trans (getD_ft9 hsz (by decide) hl)
      obtain ⟨hs2, hl2⟩ := lnk9 hsz hlk (i := 2) (by decide)
      have hq := hB.q8 (by simp [hno])
      have hW := hB.bel hq
      have d1 : L 1 = true := (hlk 1 (by decide)).symm.trans (hdep ⟨1, .data⟩ (by simp) rfl)
      have e1 := hB.f1 d1
      subst e1
      refine wpOp_step rfl fun K' hK' => ?_
      go_simp
      exact hK' _ _ (hK _ _ ⟨hs2, _, hl2, _, _, _, _, _, _, _, _, _, rfl, hB.s2 hq (by simp [upd, d1])⟩)
    · obtain rfl := (Option.some.inj ho)
      have hno : L 3 = false := (hlk 3 (by decide)).symm.trans (getD_ft9 hsz (by decide) hl)
      obtain ⟨hs2, hl2⟩ := lnk9 hsz hlk (i := 3) (by decide)
      have hq := hB.q8 (by simp [hno])
      have hW := hB.bel hq
      have d2 : L 2 = true := (hlk 2 (by decide)).symm.trans (hdep ⟨2, .data⟩ (by simp) rfl)
      have e2 := hB.f2 d2
      subst e2
      refine wpOp_step rfl fun K' hK' => ?_
      go_simp
      exact hK' _ _ (hK _ _ ⟨hs2, _, hl2, _, _, _, _, _, _, _, _, _, rfl, hB.s3 hq (by simp [upd, d2])⟩)
    · obtain rfl := (Option.some.inj ho)
      have hno : L 4 = false := (hlk 4 (by decide)).symm.trans (getD_ft9 hsz (by decide) hl)
      obtain ⟨hs2, hl2⟩ := lnk9 hsz hlk (i := 4) (by decide)
      have hq := hB.q8 (by simp [hno])
      have hW := hB.bel hq
      have d3 : L 3 = true := (hlk 3 (by decide)).symm.trans (hdep ⟨3, .data⟩ (by simp) rfl)
      have e3 := hB.f3 d3
      subst e3
      have k0 : W.cell? ⟨b, 6, none⟩ = some (.slice (some ⟨g, 0, none⟩) Rn cR) := (hW.cell (World.block_lt_of_cell? W0 _ c6)).trans c6
      refine wpOp_step rfl fun K' hK' => ?_
      go_simp
      exact hK' _ _ (hK _ _ ⟨hs2, _, hl2, _, _, _, _, _, _, _, _, _, rfl, hB.s4 hq (by simp [upd, d3])⟩)
    · obtain rfl := (Option.some.inj ho)
      have hno : L 5 = false := (hlk 5 (by decide)).symm.trans (getD_ft9 hsz (by decide) hl)
      obtain ⟨hs2, hl2⟩ := lnk9 hsz hlk (i := 5) (by decide)
      have hq := hB.q8 (by simp [hno])
      have hW := hB.bel hq
      refine wpOp_step rfl fun K' hK' => ?_
      go_simp
      exact hK' _ _ (hK _ _ ⟨hs2, _, hl2, _, _, _, _, _, _, _, _, _, rfl, hB.s5 hq ⟩)
    · obtain rfl := (Option.some.inj ho)
      have hno : L 6 = false := (hlk 6 (by decide)).symm.trans (getD_ft9 hsz (by decide) hl)
      obtain ⟨hs2, hl2⟩ := lnk9 hsz hlk (i := 6) (by decide)
      have hq := hB.q8 (by simp [hno])
      have hW := hB.bel hq
      have d4 : L 4 = true := (hlk 4 (by decide)).symm.trans (hdep ⟨4, .data⟩ (by simp) rfl)
      have d5 : L 5 = true := (hlk 5 (by decide)).symm.trans (hdep ⟨5, .data⟩ (by simp) rfl)
      have e4 := hB.f4 d4
      have e5 := hB.f5 d5
      subst e4
      subst e5
      refine wpOp_step rfl fun K' hK' => ?_
      go_simp
      exact hK' _ _ (hK _ _ ⟨hs2, _, hl2, _, _, _, _, _, _, _, _, _, rfl, hB.s6 hq (by simp [upd, d4]) (by simp [upd, d5])⟩)
    · obtain rfl := (Option.some.inj ho)
      have hno : L 7 = false := (hlk 7 (by decide)).symm.trans (getD_ft9 hsz (by decide) hl)
      obtain ⟨hs2, hl2⟩ := lnk9 hsz hlk (i := 7) (by decide)
      have hq := hB.q8 (by simp [hno])
      have hW := hB.bel hq
      have d6 : L 6 = true := (hlk 6 (by decide)).symm.trans (hdep ⟨6, .data⟩ (by simp) rfl)
      have e6 := hB.f6 d6
      subst e6
      have k0 : W.cell? ⟨g, t, none⟩ = some (.int .i32 (k : Int)) := (hW.cell (World.block_lt_of_cell? W0 _ cg)).trans cg
      refine wpOp_step rfl fun K' hK' => ?_
      go_simp
      exact hK' _ _ (hK _ _ ⟨hs2, _, hl2, _, _, _, _, _, _, _, _, _, rfl, hB.s7 hq (by simp [upd, d6])⟩)
    · obtain rfl := (Option.some.inj ho)
      have hno : L 8 = false := (hlk 8 (by decide)).symm.trans (getD_ft9 hsz (by decide) hl)
      obtain ⟨hs2, hl2⟩ := lnk9 hsz hlk (i := 8) (by decide)
      have d0 : L 0 = true := (hlk 0 (by decide)).symm.trans (hdep ⟨0, .data⟩ (by simp) rfl)
      have d7 : L 7 = true := (hlk 7 (by decide)).symm.trans (hdep ⟨7, .data⟩ (by simp) rfl)
      have hW := hB.bel hno
      have e0 := hB.f0 d0
      have e7 := hB.f7 d7
      subst e0
      subst e7
      refine wpOp_step rfl fun K' hK' => ?_
      go_simp
      go_at_call 109
      refine (hL W hW (.pointer (some ⟨b, 0, none⟩)) x35 x36 x37 x38 x39 x40 (.int .i32 (k : Int)) x42).mono ?_
      rintro e w' (⟨v, rfl, hq⟩ | ⟨c, rfl, hq⟩)
      · exact hK' _ _ (hK _ _ ⟨hs2, _, hl2, _, _, _, _, _, _, _, _, _, rfl, ⟨fun _ => rfl, fun hl => hB.f1 hl, fun hl => hB.f2 hl, fun hl => hB.f3 hl, fun hl => hB.f4 hl, fun hl => hB.f5 hl, fun hl => hB.f6 hl, fun _ => rfl, fun hl => absurd (show upd L 8 8 = false from hl) (by simp [upd]), fun _ => hq, fun hl => by have := hB.c2 (show L 2 = true from hl); simp [upd, this], fun hl => by have := hB.c3 (show L 3 = true from hl); simp [upd, this], fun hl => by have := hB.c4 (show L 4 = true from hl); simp [upd, this], fun hl => by have := hB.c6 (show L 6 = true from hl); simp [upd, this], fun hl => by have := hB.c7 (show L 7 = true from hl); simp [upd, this], fun _ => ⟨by simp [upd, d0], by simp [upd, d7]⟩⟩⟩)
      · exact hq
  · intro listed a W hI hall
    obtain ⟨hsz, L, hlk, x34, x35, x36, x37, x38, x39, x40, x41, x42, rfl, hB⟩ := hI
    exact hB.fin ((hlk 8 (by decide)).symm.trans (hall 8 (by decide)))
end Go.Proofs.YtajcofhfjjbneaaGreatDoor
